/- The program's list of parts: its measures. The program's reader of forms: lists and forms. The program's reader of forms: a list of parts. The program reads a whole text. The walks of the laws on FormValid, FormSize, FormDepth. The program's types. -/
import Derived.Test.YtjaaalojcdbcpaaGreatDoorlImpl1a
import Derived.Test.YtjaaalojcdbcpaaGreatDoorlS1y
import Derived.Test.YtjaaalojcdbcpaaGreatDoorlB1
set_option maxHeartbeats 20000000
set_option linter.unusedVariables false
set_option linter.unusedSimpArgs false
namespace Go.Proofs.YtjaaalojcdbcpaaGreatDoor
open Go.RowKit Go.Proofs.Tryz
set_option maxRecDepth 8000
theorem newList_c (ts : List Tr) (xs : List Value) (ok : Nat → Prop) (r off cap : Nat) (w : World) (hv : FVs nI w ok ts xs) (hrow : Yv w r off xs) (hok : ∀ k, ok k → k < w.heap.size) (hrl : r < w.heap.size) (hwf : wfs ts) (hb : Zi ts ≤ 1000000000) (hcap : cap ≤ maxLen) (hcl : ts.length ≤ cap) :
 Calls prog 115 #[.slice (some ⟨r, off, none⟩) ts.length cap] w fun e w' => e = .returned (.agg (nI (.list ts) (.slice (some ⟨r, off, none⟩) ts.length cap)).toArray) ∧ Below w.heap.size w w' := by
 have hlen := Xi ts
 go_enter func115, ntmps115
 go_wp2_with fail
 go_loopg [10] ts.length (fun m i wr => ∃ k : Nat, m + k = ts.length ∧ i = .int .i64 k ∧ Below w.heap.size w wr ∧
  wr.heap[w.heap.size]? = some (.cells #[.string ⟨#[]⟩, .slice none 0 0, .int .i64 0, .int .i64 0, .int .i64 0] 65 (0, 0)) ∧
  wr.heap[w.heap.size + 1]? = some (.cells #[.string ⟨#[]⟩, .slice (some ⟨r, off, none⟩) ts.length cap, .int .i64 (1 + Zi (ts.take k) : Nat), .int .i64 (Yd (ts.take k)), .int .i64 (Ys (ts.take k))] 65 (0, 0)))
 case atStart => exact ⟨0, by omega, rfl, Zl _ _ _, by rw [heap_alloc_old (h := by simp)]; exact heap_alloc_new _ _, by simpa [Zi, Yd, Ys] using Za w _ _⟩
 case round =>
  obtain ⟨k, hm, rfl, hbl, hb0, hb1⟩ := hrel
  obtain ⟨l0, l1, l2, l3, l4⟩ := Yo hb1
  obtain ⟨g0, g1, g2, g3, g4⟩ := Q7 hb1
  obtain ⟨m0, m1, m2, m3, m4⟩ := Yo hb0
  obtain ⟨n0, n1, n2, n3, n4⟩ := Q7 hb0
  have hsz := lt_of_block hb1
  have s0 := Z4g _ hwf
  have s1 := Qo ts k
  have s2 := Jt ts k
  have s3 := Z82 ts k
  have s4 := Z5h _ hwf
  by_cases hlt : k < ts.length
  · obtain ⟨cs, q1, q2⟩ := FVs.get Z44 hv hrow k hlt
    obtain ⟨p, pn, pc, rfl⟩ := q1.node
    have e0 : wr.cell? ⟨r, off + k * 5, none⟩ = some (.string (bs (Z1 ts[k]))) := by rw [hbl.cell (by exact hrl)]; exact q2 0 _ rfl
    have e1 : wr.cell? ⟨r, off + k * 5 + 1, none⟩ = some (.slice p pn pc) := by rw [hbl.cell (by exact hrl)]; exact q2 1 _ rfl
    have e2 : wr.cell? ⟨r, off + k * 5 + 2, none⟩ = some (.int .i64 ts[k].bytes) := by rw [hbl.cell (by exact hrl)]; exact q2 2 _ rfl
    have e3 : wr.cell? ⟨r, off + k * 5 + 3, none⟩ = some (.int .i64 ts[k].size) := by rw [hbl.cell (by exact hrl)]; exact q2 3 _ rfl
    have e4 : wr.cell? ⟨r, off + k * 5 + 4, none⟩ = some (.int .i64 ts[k].depth) := by rw [hbl.cell (by exact hrl)]; exact q2 4 _ rfl
    have hw := Ji hwf hlt
    have s5 := (Q9 _ hw).1
    have s6 := Z4z _ hw
    have s7 := Z66 ts k hlt
    have s8 := Jt ts (k + 1)
    have s9 : ts[k].bytes ≤ 1000000000 := by omega
    have T1 := H_ (Km ts k hlt)
    have T2 := H_ s7
    have T3 := H_ (depths_take ts k hlt)
    have A2 : ((1 + Zi (ts.take (k + 1)) : Nat) : Int) = 1 + (Zi (ts.take k) : Int) + (1 + (ts[k].bytes : Int)) := by rw [s7]; omega
    have A3 : (Yd (ts.take (k + 1)) : Int) = (Yd (ts.take k) : Int) + (ts[k].size : Int) := by rw [T1.out]; omega
    have A4 : (Ys (ts.take (k + 1)) : Int) = if (Ys (ts.take k) : Int) < 1 + ts[k].depth then 1 + (ts[k].depth : Int) else (Ys (ts.take k) : Int) := by rw [T3.out]; split <;> omega
    have A2 := H_ A2
    have A3 := H_ A3
    have A4 := H_ A4
    clear s7
    go_wp2_with fail
    all_goals
     go_roundg (gk - 1)
     case measure => omega
     case rel =>
      refine ⟨k + 1, by omega, by go_num, ((((hbl.setCell (by simp) _).setCell (by simp) _).setCell (by simp) _).alloc (by simp; omega) _), ?_, ?_⟩
      · exact Z8 (by rw [Z3 _ (by simp), Z3 _ (by simp), Z3 _ (by simp)]; exact hb0)
      · first | rw [A2.out, A3.out, A4.out, if_pos (by assumption)] | rw [A2.out, A3.out, A4.out, if_neg (by omega)]
        exact Z8 (Yu (Yu (Yu hb1 _) _) _)
  · have : k = ts.length := by omega
    subst this
    go_wp2_with fail
    refine bodyPost_ret (v := .agg (nI (.list ts) (.slice (some ⟨r, off, none⟩) ts.length cap)).toArray) (by simp [results, results115, go_sem, m0, m1, m2, m3, m4, nI, Z1, bs, Tr.bytes, Tr.size, Tr.depth]) rfl ⟨rfl, ?_⟩
    exact ((((hbl.setCell (by simp) _).setCell (by simp) _).setCell (by simp) _).setCell (by simp) _).setCell (by simp) _
theorem Tryz.infoI : (prog.info? 65).map (fun i => (i.zero, i.size, i.bytes)) = some (some (.agg #[.string ⟨#[]⟩, .slice none 0 0, .int .i64 0, .int .i64 0, .int .i64 0]), 5, 64) := by kernel_rfl
def Z0p (rb : Nat) (s : ByteArray) (B : Nat) (res : Option (Tr × List UInt8)) (e : Ending) (w' : World) : Prop :=
 match res with
 | none => e = .returned (.tuple #[.agg #[.string ⟨#[]⟩, .slice none 0 0, .int .i64 0, .int .i64 0, .int .i64 0], .bool false]) ∧ ∃ i, RB w' rb s i
 | some (t, r) => ∃ cs, e = .returned (.tuple #[.agg cs.toArray, .bool true]) ∧ FV nI w' (fun k => B ≤ k ∧ k < w'.heap.size) t cs ∧ RB w' rb s (s.size - r.length)
def FormC (s : ByteArray) (d : Nat) : Prop := ∀ (rb i : Nat) (w : World), RB w rb s i → i ≤ s.size →
 Calls prog 76 #[.pointer (some ⟨rb, 0, none⟩), .int .i64 d] w fun e w' => Z0p rb s w.heap.size (X8 (d + 1) (s.data.toList.drop i)) e w' ∧ w.grownBy w' (some rb)
def ListC (s : ByteArray) (d : Nat) : Prop := ∀ (rb i : Nat) (w : World), RB w rb s i → i ≤ s.size →
 Calls prog 127 #[.pointer (some ⟨rb, 0, none⟩), .int .i64 d] w fun e w' => Z0p rb s w.heap.size ((Xe (X8 d) (s.data.toList.drop i).length.succ (s.data.toList.drop i)).map fun p => (.list p.1, p.2)) e w' ∧ w.grownBy w' (some rb)
theorem Yw {w w' : World} {rb b : Nat} {o : Obj} (h : w.grownBy w' (some rb)) (hb : w.heap[b]? = some o) (hne : b ≠ rb) : w'.heap[b]? = some o := by rw [h.block b (lt_of_block hb) (by simpa using hne)]; exact hb
theorem FV.grownBy {nd : Tr → Value → List Value} {w w' : World} {rb : Nat} {lo hi : Nat} {t : Tr} {cs : List Value} (h : FV nd w (fun k => lo ≤ k ∧ k < hi) t cs) (hg : w.grownBy w' (some rb)) (hrb : rb < lo) (hh : hi ≤ w.heap.size) : FV nd w' (fun k => lo ≤ k ∧ k < hi) t cs :=
 FV.move (fun _ h => h) (fun k hk => hg.block k (by omega) (by simp; omega)) t cs h
theorem list_zero (s : ByteArray) : ListC s 0 := by
 intro rb i w hr hi
 have HN : Hid ((Xe (X8 0) (s.data.toList.drop i).length.succ (s.data.toList.drop i)).map (fun p => (Tr.list p.1, p.2)) = none) := H_ (by simp [Xe, X8])
 go_enter func127, ntmps127
 go_wp2_with fail
 exact bodyPost_ret (v := .tuple #[.agg #[.string ⟨#[]⟩, .slice none 0 0, .int .i64 0, .int .i64 0, .int .i64 0], .bool false]) (by simp [results, results127, go_sem]) rfl (by rw [HN.out]; exact ⟨⟨rfl, i, hr.alloc _⟩, Yx (V5 _ _) _⟩)
theorem Z2p {rb : Nat} {s : ByteArray} {B : Nat} {res : Option (Tr × List UInt8)} {e : Ending} {w' : World} (h : Z0p rb s B res e w') :
 ∃ a p n c x y z okb, e = .returned (.tuple #[.agg #[.string a, .slice p n c, .int .i64 x, .int .i64 y, .int .i64 z], .bool okb]) := by
 match res, h with
 | none, h => exact ⟨_, _, _, _, _, _, _, _, h.1⟩
 | some (t, r), h =>
   obtain ⟨cs, h1, h2, _⟩ := h
   obtain ⟨p, n, c, rfl⟩ := h2.node
   exact ⟨_, _, _, _, _, _, _, _, h1⟩
theorem Z3t {rb : Nat} {s : ByteArray} {B B' N : Nat} {res : Option (Tr × List UInt8)} {e : Ending} {w2 w3 : World} (h : Z0p rb s B res e w2) (hq : ∀ q, q ≠ N → w3.heap[q]? = w2.heap[q]?) (hz : w3.heap.size = w2.heap.size)
 (hB : B' ≤ B) (hN : N < B) (hr : rb ≠ N) : Z0p rb s B' res e w3 := by
 match res, h with
 | none, h =>
   obtain ⟨h1, i, h2⟩ := h
   exact ⟨h1, i, by unfold RB; rw [hq _ hr]; exact h2⟩
 | some (t, r), h =>
   obtain ⟨cs, h1, h2, h3⟩ := h
   exact ⟨cs, h1, FV.move (fun k hk => ⟨by omega, by omega⟩) (fun k hk => hq k (by omega)) t cs h2, by unfold RB; rw [hq _ hr]; exact h3⟩
theorem atom_form {rb : Nat} {s : ByteArray} {i B : Nat} {L : List UInt8} {e : Ending} {w' : World} (h : Z89 rb s i (Xz L) e w') : Z0p rb s B (Xz L) e w' := by
 cases hr : Xz L with
 | none => rw [hr] at h; exact ⟨h.1, i, h.2⟩
 | some tr =>
   obtain ⟨t, r⟩ := tr
   rw [hr] at h
   obtain ⟨rfl, _⟩ := Z3l hr
   exact ⟨_, h.1, by simp only [FV], h.2⟩
theorem form_of (s : ByteArray) (hs : s.size ≤ 12000) (d : Nat) (HL : ListC s d) : FormC s d := by
 intro rb i w hr hi
 have hrl := hr.lt
 by_cases hc : ∃ h : i < s.size, s[i] = 40
 · obtain ⟨hlt, hc⟩ := hc
   have HR := H_ (read_list' s i d hlt hc)
   have HT := H_ (fun w (hr : RB w rb s i) => take_yes s hs rb i 40 w hr hlt hc)
   clear hc
   go_enter func76, ntmps76
   go_wp2_with (first | (go_at_call 126; go_must (refine (HT.out _ (hr.alloc _)).mono ?_; rintro e w1 ⟨rfl, hr1, hg1, hz1⟩; have y0 := Yw hg1 (heap_alloc_new _ _) (by omega))) | (go_at_call 127; go_must (refine (HL rb (i + 1) w1 hr1 hlt).mono ?_; rintro e w2 ⟨hp, hg2⟩; obtain ⟨a, p, n, c, x, y, z, okb, rfl⟩ := Z2p hp; have y1 := Yw hg2 y0 (by omega); obtain ⟨z0, z1, z2, z3, z4⟩ := Yo y1; obtain ⟨f0, f1, f2, f3, f4⟩ := Q7 y1)))
   refine bodyPost_ret (v := .tuple #[.agg #[.string a, .slice p n c, .int .i64 x, .int .i64 y, .int .i64 z], .bool okb]) (by simp [results, results76, go_sem, z0, z1, z2, z3, z4]) rfl ⟨?_, ?_⟩
   · rw [HR.out]
     exact Z3t (N := w.heap.size) hp (by intro q hq; rw [Z3 _ (by simpa using hq), Z3 _ (by simpa using hq), Z3 _ (by simpa using hq), Z3 _ (by simpa using hq), Z3 _ (by simpa using hq)]) (by simp) (by have := hg1.size; simp at this; omega) (by have := hg1.size; simp at this; omega) (by omega)
   · exact Zc (Zc (Zc (Zc (Zc (Zr (Zr (Yx (V5 _ _) _) hg1) hg2) (by simp) _) (by simp) _) (by simp) _) (by simp) _) (by simp) _
 · have hc' : ∀ h : i < s.size, s[i] ≠ 40 := fun h e => hc ⟨h, e⟩
   have HR := H_ (read_other s i d hc')
   have HT := H_ (fun w (hr : RB w rb s i) => take_no s hs rb i 40 w hr hi hc')
   clear hc hc'
   go_enter func76, ntmps76
   go_wp2_with (first | (go_at_call 126; go_must (refine (HT.out _ (hr.alloc _)).mono ?_; rintro e w1 ⟨rfl, nd, hw1⟩; have hr1 : RB w1 rb s i := (by rw [hw1]; exact (hr.alloc _).drewN nd); have hg1 := H_ (show w.grownBy w1 (some rb) from by rw [hw1]; exact Zr (Yx (V5 _ _) _) (Xo _ _ _)); have y0 : w1.heap[w.heap.size]? = some (.cells #[.string ⟨#[]⟩, .slice none 0 0, .int .i64 0, .int .i64 0, .int .i64 0] 65 (0, 0)) := (by rw [hw1]; exact heap_alloc_new _ _); have hz1 : w.heap.size + 1 ≤ w1.heap.size := (by rw [hw1]; simp); clear hw1)) | (go_at_call 128; go_must (refine (atom_c s hs rb i w1 hr1 hi).mono ?_; rintro e w2 ⟨hp0, hg2⟩; have hp := atom_form (B := w1.heap.size) hp0; clear hp0; obtain ⟨a, p, n, c, x, y, z, okb, rfl⟩ := Z2p hp; have y1 := Yw hg2 y0 (by omega); obtain ⟨z0, z1, z2, z3, z4⟩ := Yo y1; obtain ⟨f0, f1, f2, f3, f4⟩ := Q7 y1)))
   refine bodyPost_ret (v := .tuple #[.agg #[.string a, .slice p n c, .int .i64 x, .int .i64 y, .int .i64 z], .bool okb]) (by simp [results, results76, go_sem, z0, z1, z2, z3, z4]) rfl ⟨?_, ?_⟩
   · rw [HR.out]
     exact Z3t (N := w.heap.size) hp (by intro q hq; rw [Z3 _ (by simpa using hq), Z3 _ (by simpa using hq), Z3 _ (by simpa using hq), Z3 _ (by simpa using hq), Z3 _ (by simpa using hq)]) (by simp) (by omega) (by omega) (by omega)
   · exact Zc (Zc (Zc (Zc (Zc (Zr hg1.out hg2) (by simp) _) (by simp) _) (by simp) _) (by simp) _) (by simp) _
def LI (s : ByteArray) (d rb N : Nat) (R : Option (List Tr × List UInt8)) (m : Nat) (v : Value) (w wr : World) : Prop :=
 ∃ (j : Nat) (ts : List Tr) (xs : List Value) (f : Nat), m + j = s.size ∧ RB wr rb s j ∧ w.grownBy wr (some rb) ∧ wr.heap[N]? = some (.cells #[.string ⟨#[]⟩, .slice none 0 0, .int .i64 0, .int .i64 0, .int .i64 0] 65 (0, 0)) ∧
   wr.ownsRow (N + 1) 65 5 v ts.length xs ∧ FVs nI wr (fun q => N + 1 ≤ q ∧ q < wr.heap.size ∧ v.ownBlock ≠ some q) ts xs ∧ (s.data.toList.drop j).length < f ∧ wfs ts ∧ Zi ts ≤ j ∧
   Hid (R = (Xe (X8 d) f (s.data.toList.drop j)).map fun p => (ts ++ p.1, p.2))
theorem LI.start {s : ByteArray} {d rb i : Nat} {w : World} (hr : RB w rb s i) (hi : i ≤ s.size) {R : Option (List Tr × List UInt8)} (HR0 : Hid (R = (Xe (X8 d) (s.data.toList.drop i).length.succ (s.data.toList.drop i)).map fun p => (([] : List Tr) ++ p.1, p.2))) :
 LI s d rb w.heap.size R (s.size - i) (.slice none 0 0) w (w.alloc (.cells #[.string ⟨#[]⟩, .slice none 0 0, .int .i64 0, .int .i64 0, .int .i64 0] 65)) := by
 refine ⟨i, [], [], (s.data.toList.drop i).length.succ, by omega, hr.alloc _, Yx (V5 _ _) _, heap_alloc_new _ _, World.ownsRow_nil _ _ _ _, ?_, Nat.lt_succ_self _, trivial, ?_, HR0⟩
 · simp only [FVs]
 · simp [Zi]
theorem form_none {s : ByteArray} {d rb i : Nat} {w : World} (h : FormC s d) (hr : RB w rb s i) (hi : i ≤ s.size) (hres : X8 (d + 1) (s.data.toList.drop i) = none) :
 Calls prog 76 #[.pointer (some ⟨rb, 0, none⟩), .int .i64 d] w fun e w' => e = .returned (.tuple #[.agg #[.string ⟨#[]⟩, .slice none 0 0, .int .i64 0, .int .i64 0, .int .i64 0], .bool false]) ∧ (∃ i, RB w' rb s i) ∧ w.grownBy w' (some rb) :=
 (h rb i w hr hi).mono fun e w' ⟨h1, h2⟩ => by rw [hres] at h1; exact ⟨h1.1, h1.2, h2⟩
theorem form_some {s : ByteArray} {d rb i j : Nat} {w : World} {t : Tr} {r : List UInt8} (h : FormC s d) (hr : RB w rb s i) (hi : i ≤ s.size) (hres : X8 (d + 1) (s.data.toList.drop i) = some (t, r)) (hj : s.size - r.length = j) :
 Calls prog 76 #[.pointer (some ⟨rb, 0, none⟩), .int .i64 d] w fun e w' => ∃ p n c, e = .returned (.tuple #[.agg #[.string (bs (Z1 t)), .slice p n c, .int .i64 t.bytes, .int .i64 t.size, .int .i64 t.depth], .bool true]) ∧
  FV nI w' (fun k => w.heap.size ≤ k ∧ k < w'.heap.size) t (nI t (.slice p n c)) ∧ RB w' rb s j ∧ w.grownBy w' (some rb) :=
 (h rb i w hr hi).mono fun e w' ⟨h1, h2⟩ => by
   rw [hres] at h1
   obtain ⟨cs, h3, h4, h5⟩ := h1
   obtain ⟨p, n, c, rfl⟩ := h4.node
   exact ⟨p, n, c, h3, h4, by rw [← hj]; exact h5, h2⟩
theorem takeY (s : ByteArray) (hs : s.size ≤ 12000) (rb i : Nat) (b : UInt8) (c : Int) (hc : c = b.toNat) (w : World) (hr : RB w rb s i) (hi : i < s.size) (hb : s[i] = b) :
 Calls prog 126 #[.pointer (some ⟨rb, 0, none⟩), .int .u8 c] w fun e w' => e = .returned (.bool true) ∧ RB w' rb s (i + 1) ∧ w.grownBy w' (some rb) ∧ w'.heap.size = w.heap.size := by
 subst hc; exact take_yes s hs rb i b w hr hi hb
theorem takeN (s : ByteArray) (hs : s.size ≤ 12000) (rb i : Nat) (b : UInt8) (c : Int) (hc : c = b.toNat) (w : World) (hr : RB w rb s i) (hi : i ≤ s.size) (hb : ∀ h : i < s.size, s[i] ≠ b) :
 Calls prog 126 #[.pointer (some ⟨rb, 0, none⟩), .int .u8 c] w fun e w' => e = .returned (.bool false) ∧ RB w' rb s i ∧ w.grownBy w' (some rb) ∧ w'.heap.size = w.heap.size := by
 subst hc
 refine (take_no s hs rb i b w hr hi hb).mono ?_
 rintro e w' ⟨rfl, n, rfl⟩
 exact ⟨rfl, hr.drewN n, Xo _ _ _, rfl⟩
theorem Z2o {a b c : World} {rb : Nat} {row : Option Nat} (h : a.grownBy b (some rb)) (k : b.grownBy c row) (hk : ∀ q, row = some q → a.heap.size ≤ q) : a.grownBy c (some rb) :=
 ⟨k.os.trans h.os, k.tape.trans h.tape, k.output.trans h.output, Nat.le_trans h.size k.size, fun i hi hne => (k.block i (Nat.lt_of_lt_of_le hi h.size) (fun e => by have := hk i e.symm; omega)).trans (h.block i hi hne)⟩
theorem Z2e {wr w1 w2 : World} {N rb : Nat} {pp : Option Addr} {pc n : Nat} {ts : List Tr} {xs : List Value} {t : Tr} {cs : List Value} {g' c' : Nat} {a b : Obj}
 (HV : FVs nI wr (fun q => N + 1 ≤ q ∧ q < wr.heap.size ∧ (Value.slice pp n pc).ownBlock ≠ some q) ts xs) (hv : FV nI w1 (fun q => wr.heap.size ≤ q ∧ q < w1.heap.size) t cs)
 (hg1 : wr.grownBy w1 (some rb)) (hrb : rb < N + 1) (hN : N + 1 ≤ wr.heap.size) (hold : ∀ q, (Value.slice pp n pc).ownBlock = some q → q < wr.heap.size)
 (hgrow : ((w1.alloc a).alloc b).grownBy w2 (Value.slice pp n pc).ownBlock) (hgg : (Value.slice pp n pc).ownBlock = some g' ∨ g' = ((w1.alloc a).alloc b).heap.size) :
 FVs nI w2 (fun q => N + 1 ≤ q ∧ q < w2.heap.size ∧ (Value.slice (some ⟨g', 0, none⟩) (n + 1) c').ownBlock ≠ some q) (ts ++ [t]) (xs ++ cs) := by
 refine FVs.snoc (FV.grown hv hN (Zl _ _ _) hgrow rfl hgg hold) (FVs.grown (w := w1) ?_ (Zl _ _ _) hgrow rfl hgg)
 refine FVs.move ?_ ?_ _ _ HV
 · rintro q ⟨h1, h2, h3⟩; exact ⟨h1, Nat.lt_of_lt_of_le h2 hg1.size, h3⟩
 · rintro q ⟨h1, h2, h3⟩; exact hg1.block q h2 (by simp; omega)
theorem list_done {s : ByteArray} {w2 w5 : World} {N rb e' g' c' n : Nat} {ts : List Tr} {xs : List Value} {r' : List UInt8} (hn : ts.length = n)
 (hown' : w2.ownsRow (N + 1) 65 5 (.slice (some ⟨g', 0, none⟩) n c') n xs)
 (HV : FVs nI w2 (fun q => N + 1 ≤ q ∧ q < w2.heap.size ∧ (Value.slice (some ⟨g', 0, none⟩) n c').ownBlock ≠ some q) ts xs)
 (h5 : ∀ q, N + 1 ≤ q → q < w2.heap.size → w5.heap[q]? = w2.heap[q]?) (h5s : w2.heap.size ≤ w5.heap.size) (hrb : RB w5 rb s (e' + 1)) (he : s.size - r'.length = e' + 1) :
 Z0p rb s N ((some (ts, r')).map fun p => (Tr.list p.1, p.2)) (.returned (.tuple #[.agg (nI (.list ts) (.slice (some ⟨g', 0, none⟩) n c')).toArray, .bool true])) w5 := by
 subst hn
 have hcap := Xx hown'
 have hlt := hown'.lt g' rfl
 refine ⟨_, rfl, ?_, by rw [he]; exact hrb⟩
 simp only [FV]
 refine ⟨g', 0, c', xs, rfl, ⟨by omega, by omega⟩, hcap.1, hcap.2, (X4 hown').move (h5 g' hlt.1 hlt.2), ?_⟩
 exact FVs.move (fun q hq => ⟨by omega, by omega⟩) (fun q hq => h5 q hq.1 hq.2.1) _ _ HV
theorem J0 (n : Nat) (ts : List Tr) (hn : ts.length = n) (xs : List Value) (ok : Nat → Prop) (r cap : Nat) (w : World) (hv : FVs nI w ok ts xs) (hrow : Yv w r 0 xs) (hok : ∀ k, ok k → k < w.heap.size) (hrl : r < w.heap.size) (hwf : wfs ts) (hb : Zi ts ≤ 1000000000) (hcap : cap ≤ maxLen) (hcl : n ≤ cap) :
 Calls prog 115 #[.slice (some ⟨r, 0, none⟩) n cap] w fun e w' => e = .returned (.agg #[.string ⟨#[]⟩, .slice (some ⟨r, 0, none⟩) n cap, .int .i64 (Tr.list ts).bytes, .int .i64 (Tr.list ts).size, .int .i64 (Tr.list ts).depth]) ∧ Below w.heap.size w w' := by
 subst hn; exact newList_c ts xs ok r 0 cap w hv hrow hok hrl hwf hb hcap hcl
theorem list_ready {w2 w3 : World} {N rb g' c' n : Nat} {ts : List Tr} {xs : List Value} (hown' : w2.ownsRow (N + 1) 65 5 (.slice (some ⟨g', 0, none⟩) n c') n xs)
 (HV : FVs nI w2 (fun q => N + 1 ≤ q ∧ q < w2.heap.size ∧ (Value.slice (some ⟨g', 0, none⟩) n c').ownBlock ≠ some q) ts xs) (hg3 : w2.grownBy w3 (some rb)) (hrb : rb < N + 1) :
 FVs nI w3 (fun q => N + 1 ≤ q ∧ q < w2.heap.size ∧ (Value.slice (some ⟨g', 0, none⟩) n c').ownBlock ≠ some q) ts xs ∧ Yv w3 g' 0 xs ∧ g' < w3.heap.size ∧ c' ≤ maxLen ∧ n ≤ c' ∧ ∀ k, (N + 1 ≤ k ∧ k < w2.heap.size ∧ (Value.slice (some ⟨g', 0, none⟩) n c').ownBlock ≠ some k) → k < w3.heap.size := by
 have hcap := Xx hown'
 have hlt := hown'.lt g' rfl
 have hs := hg3.size
 exact ⟨FVs.move (fun q hq => hq) (fun q hq => hg3.block q hq.2.1 (by simp; omega)) _ _ HV, (X4 hown').move (hg3.block g' hlt.2 (by simp; omega)), by omega, hcap.2, hcap.1, fun k hk => by omega⟩
theorem list_succ (s : ByteArray) (hs : s.size ≤ 12000) (d : Nat) (hd : d ≤ 60) (HF : FormC s d) : ListC s (d + 1) := by
 intro rb i w hr hi
 have hrl := hr.lt
 obtain ⟨R, hR0⟩ : ∃ R, R = Xe (X8 (d + 1)) (s.data.toList.drop i).length.succ (s.data.toList.drop i) := ⟨_, rfl⟩
 rw [← hR0, show ((d + 1 : Nat) : Int) = (d : Int) + 1 from rfl]
 have HR0 : Hid (R = (Xe (X8 (d + 1)) (s.data.toList.drop i).length.succ (s.data.toList.drop i)).map fun p => (([] : List Tr) ++ p.1, p.2)) := by unfold Hid; rw [hR0]; simp
 clear hR0
 go_enter func127, ntmps127
 go_wp2_with fail
 go_loopg [6] (s.size - i) (fun m v wr => LI s (d + 1) rb w.heap.size R m v w wr)
 case atStart => exact LI.start hr hi HR0
 case round =>
  clear HR0
  obtain ⟨j, ts, xs, f, hm, hrb, hg, hb0, hown, hfv, hf, hwf, hby, hR⟩ := hrel
  obtain ⟨pp, pc, rfl⟩ := Zn hown
  have hN := lt_of_block hb0
  have hlen := Xi ts
  have HG := H_ hg
  have HV := H_ hfv
  have HW := H_ hwf
  obtain ⟨i0, hi0, hz0, hz1, hz2⟩ := info_parts Tryz.infoI
  clear hg hfv hwf hr hi
  cases hres : X8 (d + 1) (s.data.toList.drop j) with
  | none =>
    have HC := form_none HF hrb (by omega) hres
    have HN := H_ (it_none hres hR)
    clear hres hR hown hf
    go_wp2_with (go_at_call 76; go_must (refine HC.mono ?_; rintro e w1 ⟨rfl, hr1, hg1⟩; have y0 := Yw hg1 hb0 (by omega); obtain ⟨z0, z1, z2, z3, z4⟩ := Yo y0; obtain ⟨g0, g1, g2, g3, g4⟩ := Q7 y0; have hz := hg1.size; have hz9 : w.heap.size < w1.heap.size := by omega))
    refine bodyPost_ret (v := .tuple #[.agg #[.string ⟨#[]⟩, .slice none 0 0, .int .i64 0, .int .i64 0, .int .i64 0], .bool false]) (by simp [results, results127, go_sem, z0, z1, z2, z3, z4, hz9]) rfl ⟨?_, ?_⟩
    · rw [HN.out]
      obtain ⟨i1, hr1⟩ := hr1
      exact ⟨rfl, i1, (((((hr1.setNew (by omega) _ _).setNew (by omega) _ _).setNew (by omega) _ _).setNew (by omega) _ _).setNew (by omega) _ _).alloc _⟩
    · exact Yx (Zc (Zc (Zc (Zc (Zc (Zr HG.out hg1) (by simp) _) (by simp) _) (by simp) _) (by simp) _) (by simp) _) _
  | some tr =>
    obtain ⟨t, r⟩ := tr
    have hgot0 := Vw _ _ _ _ hres
    have hgot := hgot0.drop (by rw [Q2]; omega)
    have htw := H_ hgot0.wf
    clear hgot0
    rw [Q2] at hgot
    obtain ⟨hr0, hr1, hr2⟩ := hgot
    obtain ⟨e', he'⟩ : ∃ e', s.size - r.length = e' := ⟨_, rfl⟩
    rw [he'] at hr0
    have HC := form_some HF hrb (by omega) hres he'
    have hee : e' = j + t.bytes := by omega
    have hes : e' ≤ s.size := by omega
    cases hcc : decide (∃ h : e' < s.size, s[e'] = 41) with
    | true =>
      obtain ⟨hel, h41⟩ := of_decide_eq_true hcc
      have hrr : r = 41 :: s.data.toList.drop (e' + 1) := by rw [hr0, List.drop_eq_getElem_cons (by simpa using hel)]; exact congrArg (· :: _) h41
      rw [hrr] at hres he'
      have HS := H_ (it_end hres rfl hf hR)
      have HT := H_ (fun w (hr : RB w rb s e') => takeY s hs rb e' 41 41 rfl w hr hel h41)
      have hlr : s.size - (s.data.toList.drop (e' + 1)).length = e' + 1 := by simp; omega
      have HLR := H_ hlr
      clear hres hR hf h41 hcc hrr hr0 he' hr1 hr2 hlr
      go_wp2_with (first | (go_at_call 76; go_must (refine HC.mono ?_; rintro e w1 ⟨p, n, c, rfl, hv, hr1, hg1⟩; have y0 := Yw hg1 hb0 (by omega); have hs1 := hg1.size; have ho1 := hown.kept hg1 (.inr (Xq hown (by omega))))) | (at_builtin; go_must (refine Zm _ rfl _ _ 63 rfl (w.heap.size + 1) 65 i0 (.agg #[.string ⟨#[]⟩, .slice none 0 0, .int .i64 0, .int .i64 0, .int .i64 0]) 5 64 underlying63 hi0 hz0 hz1 hz2 rfl (by decide) _ _ _ rfl ((ho1.alloc _).alloc _) ⟨w1.heap.size + 1, 0, none⟩ [.string (bs (Z1 t)), .slice p n c, .int .i64 t.bytes, .int .i64 t.size, .int .i64 t.depth] rfl rfl (Xr (Za _ _ _)) (by intro u hu; simp at hu; rcases hu with rfl | rfl | rfl | rfl | rfl <;> rfl) (by unfold maxLen; omega) (by omega) (by simp; omega) ?_; intro g' c' w2 hown' hgrow hgg; have hr2 : RB w2 rb s e' := Yc hgrow ((hr1.alloc _).alloc _) (Xq hown (by omega)); have x0 := Yc hgrow (Z8 (Z8 y0)) (Xq hown (by omega)); have hs2 := Ku hgrow)) | (go_at_call 126; (with_reducible refine (HT.out _ hr2).mono ?_); rintro e w3 ⟨rfl, hr3, hg3, hs3⟩; have x3 := Yw hg3 x0 (by omega)) | (go_at_call 115; go_must (have HP := Z2e (c' := c') HV.out hv hg1 (by omega) (by omega) (fun q hq => (hown.lt q hq).2) hgrow hgg; have HQ := list_ready hown' HP hg3 (by omega); refine (J0 (ts.length + 1) (ts ++ [t]) (by simp) _ _ g' c' w3 HQ.1 HQ.2.1 HQ.2.2.2.2.2 HQ.2.2.1 (wfs_snoc HW.out htw.out) (by rw [Z2s]; omega) HQ.2.2.2.1 HQ.2.2.2.2.1).mono ?_; clear HP HQ; rintro e w4 ⟨rfl, hb4⟩; have x4 := Z2 hb4 (by omega) x3; obtain ⟨z0, z1, z2, z3, z4⟩ := Yo x4; obtain ⟨f0, f1, f2, f3, f4⟩ := Q7 x4; have hs4 := hb4.size)))
      refine bodyPost_ret (v := .tuple #[.agg #[.string ⟨#[]⟩, .slice (some ⟨g', 0, none⟩) (ts.length + 1) c', .int .i64 (Tr.list (ts ++ [t])).bytes, .int .i64 (Tr.list (ts ++ [t])).size, .int .i64 (Tr.list (ts ++ [t])).depth], .bool true]) (by simp [results, results127, go_sem, z0, z1, z2, z3, z4]) rfl ⟨?_, ?_⟩
      · rw [HS.out]
        refine list_done (n := ts.length + 1) (by simp) hown' (Z2e (c' := c') HV.out hv hg1 (by omega) (by omega) (fun q hq => (hown.lt q hq).2) hgrow hgg) ?_ (by simp; omega) ?_ HLR.out
        · intro q hq hq2
          rw [Z3 _ (by simp; omega), Z3 _ (by simp; omega), Z3 _ (by simp; omega), Z3 _ (by simp; omega), Z3 _ (by simp; omega), hb4.block q (by omega), hg3.block q hq2 (by simp; omega)]
        · exact (((((hr3.below hb4).setNew (by omega) _ _).setNew (by omega) _ _).setNew (by omega) _ _).setNew (by omega) _ _).setNew (by omega) _ _
      · exact Zc (Zc (Zc (Zc (Zc (Zr (Zr (Z2o (Yx (Yx (Zr HG.out hg1) _) _) hgrow (fun q hq => by have := hown.lt q hq; omega)) hg3) (Vs hb4 _)) (by simp) _) (by simp) _) (by simp) _) (by simp) _) (by simp) _
    | false =>
      have hn41 : ∀ h : e' < s.size, s[e'] ≠ 41 := fun h e => of_decide_eq_false hcc ⟨h, e⟩
      have HT := H_ (fun w (hr : RB w rb s e') => takeN s hs rb e' 41 41 rfl w hr hes hn41)
      cases hc2 : decide (∃ h : e' < s.size, s[e'] = 32) with
      | true =>
        obtain ⟨hel, h32⟩ := of_decide_eq_true hc2
        have hrr : r = 32 :: s.data.toList.drop (e' + 1) := by rw [hr0, List.drop_eq_getElem_cons (by simpa using hel)]; exact congrArg (· :: _) h32
        rw [hrr] at hres
        obtain ⟨f', hff, HF'⟩ := it_next hres rfl hf hR
        have hfl : (s.data.toList.drop (e' + 1)).length < f' := by simp at hf ⊢; omega
        have HFL := H_ hfl
        have HU := H_ (fun w (hr : RB w rb s e') => takeY s hs rb e' 32 32 rfl w hr hel h32)
        clear hres hR hf h32 hcc hc2 hrr hr0 he' hr1 hr2 hff hfl hn41
        go_wp2_with (first | (go_at_call 76; go_must (refine HC.mono ?_; rintro e w1 ⟨p, n, c, rfl, hv, hr1, hg1⟩; have y0 := Yw hg1 hb0 (by omega); have hs1 := hg1.size; have ho1 := hown.kept hg1 (.inr (Xq hown (by omega))))) | (at_builtin; go_must (refine Zm _ rfl _ _ 63 rfl (w.heap.size + 1) 65 i0 (.agg #[.string ⟨#[]⟩, .slice none 0 0, .int .i64 0, .int .i64 0, .int .i64 0]) 5 64 underlying63 hi0 hz0 hz1 hz2 rfl (by decide) _ _ _ rfl ((ho1.alloc _).alloc _) ⟨w1.heap.size + 1, 0, none⟩ [.string (bs (Z1 t)), .slice p n c, .int .i64 t.bytes, .int .i64 t.size, .int .i64 t.depth] rfl rfl (Xr (Za _ _ _)) (by intro u hu; simp at hu; rcases hu with rfl | rfl | rfl | rfl | rfl <;> rfl) (by unfold maxLen; omega) (by omega) (by simp; omega) ?_; intro g' c' w2 hown' hgrow hgg; have hr2 : RB w2 rb s e' := Yc hgrow ((hr1.alloc _).alloc _) (Xq hown (by omega)); have x0 := Yc hgrow (Z8 (Z8 y0)) (Xq hown (by omega)); have hs2 := Ku hgrow)) | (go_at_call 126; (with_reducible refine (HT.out _ hr2).mono ?_); rintro e w3 ⟨rfl, hr3, hg3, hs3⟩; have x3 := Yw hg3 x0 (by omega)) | (go_at_call 126; (with_reducible refine (HU.out _ hr3).mono ?_); rintro e w4 ⟨rfl, hr4, hg4, hs4⟩; have x4 := Yw hg4 x3 (by omega)))
        go_roundg (s.size - (e' + 1))
        case measure => omega
        case rel =>
         refine ⟨e' + 1, ts ++ [t], xs ++ [.string (bs (Z1 t)), .slice p n c, .int .i64 t.bytes, .int .i64 t.size, .int .i64 t.depth], f', by omega, hr4, Zr (Zr (Z2o (Yx (Yx (Zr HG.out hg1) _) _) hgrow (fun q hq => by have := hown.lt q hq; omega)) hg3) hg4, x4, ?_, ?_, HFL.out, wfs_snoc HW.out htw.out, by rw [Z2s]; omega, HF'⟩
         · have := (hown'.kept hg3 (.inr (Xq hown' (by omega)))).kept hg4 (.inr (Xq hown' (by omega)))
           simpa using this
         · have HP := Z2e (c' := c') HV.out hv hg1 (by omega) (by omega) (fun q hq => (hown.lt q hq).2) hgrow hgg
           exact FVs.move (fun q hq => ⟨hq.1, by omega, hq.2.2⟩) (fun q hq => (hg4.block q (by omega) (by simp; omega)).trans (hg3.block q (by omega) (by simp; omega))) _ _ HP
      | false =>
        have hn32 : ∀ h : e' < s.size, s[e'] ≠ 32 := fun h e => of_decide_eq_false hc2 ⟨h, e⟩
        have HN := H_ (it_none2 hres (by
         intro c r' hc
         rw [hr0] at hc
         rcases Nat.lt_or_ge e' s.size with h | h
         · rw [List.drop_eq_getElem_cons (by simpa using h)] at hc
           simp only [List.cons.injEq] at hc
           rw [← hc.1]
           exact ⟨hn41 h, hn32 h⟩
         · rw [List.drop_eq_nil_of_le (by simpa using h)] at hc
           cases hc) hR)
        have HU := H_ (fun w (hr : RB w rb s e') => takeN s hs rb e' 32 32 rfl w hr hes hn32)
        clear hres hR hf hcc hc2 hr0 he' hr1 hr2 hn41 hn32
        go_wp2_with (first | (go_at_call 76; go_must (refine HC.mono ?_; rintro e w1 ⟨p, n, c, rfl, hv, hr1, hg1⟩; have y0 := Yw hg1 hb0 (by omega); have hs1 := hg1.size; have ho1 := hown.kept hg1 (.inr (Xq hown (by omega))))) | (at_builtin; go_must (refine Zm _ rfl _ _ 63 rfl (w.heap.size + 1) 65 i0 (.agg #[.string ⟨#[]⟩, .slice none 0 0, .int .i64 0, .int .i64 0, .int .i64 0]) 5 64 underlying63 hi0 hz0 hz1 hz2 rfl (by decide) _ _ _ rfl ((ho1.alloc _).alloc _) ⟨w1.heap.size + 1, 0, none⟩ [.string (bs (Z1 t)), .slice p n c, .int .i64 t.bytes, .int .i64 t.size, .int .i64 t.depth] rfl rfl (Xr (Za _ _ _)) (by intro u hu; simp at hu; rcases hu with rfl | rfl | rfl | rfl | rfl <;> rfl) (by unfold maxLen; omega) (by omega) (by simp; omega) ?_; intro g' c' w2 hown' hgrow hgg; have hr2 : RB w2 rb s e' := Yc hgrow ((hr1.alloc _).alloc _) (Xq hown (by omega)); have x0 := Yc hgrow (Z8 (Z8 y0)) (Xq hown (by omega)); have hs2 := Ku hgrow)) | (go_at_call 126; (with_reducible refine (HT.out _ hr2).mono ?_); rintro e w3 ⟨rfl, hr3, hg3, hs3⟩; have x3 := Yw hg3 x0 (by omega)) | (go_at_call 126; (with_reducible refine (HU.out _ hr3).mono ?_); rintro e w4 ⟨rfl, hr4, hg4, hs4⟩; have x4 := Yw hg4 x3 (by omega); obtain ⟨z0, z1, z2, z3, z4⟩ := Yo x4; obtain ⟨f0, f1, f2, f3, f4⟩ := Q7 x4))
        refine bodyPost_ret (v := .tuple #[.agg #[.string ⟨#[]⟩, .slice none 0 0, .int .i64 0, .int .i64 0, .int .i64 0], .bool false]) (by simp [results, results127, go_sem, z0, z1, z2, z3, z4]) rfl ⟨?_, ?_⟩
        · rw [HN.out]
          exact ⟨rfl, e', ((((hr4.setNew (by omega) _ _).setNew (by omega) _ _).setNew (by omega) _ _).setNew (by omega) _ _).setNew (by omega) _ _⟩
        · exact Zc (Zc (Zc (Zc (Zc (Zr (Zr (Z2o (Yx (Yx (Zr HG.out hg1) _) _) hgrow (fun q hq => by have := hown.lt q hq; omega)) hg3) hg4) (by simp) _) (by simp) _) (by simp) _) (by simp) _) (by simp) _
theorem Z4x (s : ByteArray) (hs : s.size ≤ 12000) : ∀ d, d ≤ 61 → FormC s d
 | 0, _ => form_of s hs 0 (list_zero s)
 | d + 1, h => form_of s hs (d + 1) (list_succ s hs d (by omega) (Z4x s hs d (by omega)))
def ReadPost (B : Nat) (res : Option Tr) (e : Ending) (w' : World) : Prop :=
 match res with
 | none => e = .returned (.tuple #[.agg #[.string ⟨#[]⟩, .slice none 0 0, .int .i64 0, .int .i64 0, .int .i64 0], .bool false])
 | some t => ∃ p n c, e = .returned (.tuple #[.agg (nI t (.slice p n c)).toArray, .bool true]) ∧ FV nI w' (fun k => B ≤ k ∧ k < w'.heap.size) t (nI t (.slice p n c))
theorem Z6h {l : List UInt8} (h : 12000 < l.length) : Zt l = none := by simp [Zt, h]
theorem parse_read {l : List UInt8} (h : ¬ 12000 < l.length) : Zt l = (match X8 61 l with | some (t, []) => some t | _ => none) := by unfold Zt; rw [if_neg h]; rfl
theorem Z5k {a b : World} {B rb : Nat} (h : a.grownBy b (some rb)) (hB : B ≤ a.heap.size) (hrb : B ≤ rb) : Below B a b :=
 ⟨h.os, h.tape, h.output, h.size, fun k hk => h.block k (by omega) (by simp; omega)⟩
theorem Z75 (s : ByteArray) (hs : s.size ≤ 1048576) (w : World) :
 Calls prog 40 #[.string s] w fun e w' => ReadPost w.heap.size (Zt s.data.toList) e w' ∧ Below w.heap.size w w' := by
 by_cases hlong : 12000 < s.size
 · have HP := H_ (Z6h (l := s.data.toList) (by simpa using hlong))
   have hd : decide (12000 < (s.size : Int)) = true := by simp; omega
   go_enter func40, ntmps40
   go_wp2_with fail
   exact bodyPost_ret (v := .tuple #[.agg #[.string ⟨#[]⟩, .slice none 0 0, .int .i64 0, .int .i64 0, .int .i64 0], .bool false]) (by simp [results, results40, go_sem]) rfl ⟨by rw [HP.out]; rfl, Z5 _ _⟩
 · have hp := parse_read (l := s.data.toList) (by simpa using hlong)
   have hs2 : s.size ≤ 12000 := by omega
   have HF := H_ (fun w rb (hr : RB w rb s 0) => Z4x s hs2 60 (by omega) rb 0 w hr (by omega))
   cases hres : X8 61 s.data.toList with
   | none =>
     rw [hres] at hp
     have HP := H_ hp
     have HC : Hid (∀ w rb (hr : RB w rb s 0), Calls prog 76 #[.pointer (some ⟨rb, 0, none⟩), .int .i64 60] w fun e w' => e = .returned (.tuple #[.agg #[.string ⟨#[]⟩, .slice none 0 0, .int .i64 0, .int .i64 0, .int .i64 0], .bool false]) ∧ (∃ i, RB w' rb s i) ∧ w.grownBy w' (some rb)) :=
      H_ (fun w rb hr => form_none (Z4x s hs2 60 (by omega)) hr (by omega) (by simpa using hres))
     clear hp hres HF
     go_enter func40, ntmps40
     go_wp2_with (go_at_call 76; go_must (refine (HC.out _ (w.heap.size + 1) (Za _ _ _)).mono ?_; rintro e w1 ⟨rfl, ⟨i, hr1⟩, hg1⟩; have y0 := Yw hg1 (Z8 (heap_alloc_new _ _)) (by omega); obtain ⟨z0, z1, z2, z3, z4⟩ := Yo y0; obtain ⟨f0, f1, f2, f3, f4⟩ := Q7 y0; have hs1 := hg1.size; have hs3 : w.heap.size + 1 < w1.heap.size := (by simp at hs1; omega); have hs4 : w.heap.size < w1.heap.size := (by omega)))
     refine bodyPost_ret (v := .tuple #[.agg #[.string ⟨#[]⟩, .slice none 0 0, .int .i64 0, .int .i64 0, .int .i64 0], .bool false]) (by simp [results, results40, go_sem, z0, z1, z2, z3, z4, hs4]) rfl ⟨by rw [HP.out]; rfl, ?_⟩
     exact (((((((Zl w _ _).trans (Z5k hg1 (by simp; omega) (by omega))).setCell (by simp) _).setCell (by simp) _).setCell (by simp) _).setCell (by simp) _).setCell (by simp) _).alloc (by simp; omega) _
   | some tr =>
     obtain ⟨t, r⟩ := tr
     rw [hres] at hp
     have hgot := (Vw _ _ _ _ hres).length
     rw [Q2] at hgot
     have hwf := (Vw _ _ _ _ hres).wf
     obtain ⟨e', he'⟩ : ∃ e', s.size - r.length = e' := ⟨_, rfl⟩
     have hee : e' ≤ s.size := by omega
     have HC : Hid (∀ w rb (hr : RB w rb s 0), Calls prog 76 #[.pointer (some ⟨rb, 0, none⟩), .int .i64 60] w fun e w' => ∃ p n c, e = .returned (.tuple #[.agg #[.string (bs (Z1 t)), .slice p n c, .int .i64 t.bytes, .int .i64 t.size, .int .i64 t.depth], .bool true]) ∧
      FV nI w' (fun k => w.heap.size ≤ k ∧ k < w'.heap.size) t (nI t (.slice p n c)) ∧ RB w' rb s e' ∧ w.grownBy w' (some rb)) :=
      H_ (fun w rb hr => form_some (Z4x s hs2 60 (by omega)) hr (by omega) (by simpa using hres) he')
     by_cases hend : e' = s.size
     · have hr0 : r = [] := by have h2 := (Q9 _ hwf).2; have h3 := (Q9 _ hwf).1; exact List.eq_nil_of_length_eq_zero (by omega)
       rw [hr0] at hp
       have HP := H_ hp
       have hd : decide (e' < s.size) = false := by simp; omega
       clear hp hres HF he' hgot hwf hr0
       go_enter func40, ntmps40
       go_wp2_with (go_at_call 76; go_must (refine (HC.out _ (w.heap.size + 1) (Za _ _ _)).mono ?_; rintro e w1 ⟨p, n, c, rfl, hv, hr1, hg1⟩; have y0 := Yw hg1 (Z8 (heap_alloc_new _ _)) (by omega); obtain ⟨z0, z1, z2, z3, z4⟩ := Yo y0; obtain ⟨f0, f1, f2, f3, f4⟩ := Q7 y0; obtain ⟨q0, q1⟩ := Zh hr1; have hs1 := hg1.size; have hs3 : w.heap.size + 1 < w1.heap.size := (by simp at hs1; omega); have hs4 : w.heap.size < w1.heap.size := (by omega)))
       refine bodyPost_ret (v := .tuple #[.agg #[.string (bs (Z1 t)), .slice p n c, .int .i64 t.bytes, .int .i64 t.size, .int .i64 t.depth], .bool true]) (by simp [results, results40, go_sem, z0, z1, z2, z3, z4, hs4]) rfl ⟨?_, ?_⟩
       · rw [HP.out]
         refine ⟨p, n, c, rfl, FV.move (fun k hk => ?_) (fun k hk => ?_) _ _ hv⟩
         · simp at hk ⊢; omega
         · simp only [Jg] at hk
           rw [heap_alloc_old (h := by simp; omega), Z3 _ (by simp; omega), Z3 _ (by simp; omega), Z3 _ (by simp; omega), Z3 _ (by simp; omega), Z3 _ (by simp; omega)]
       · exact (((((((Zl w _ _).trans (Z5k hg1 (by simp; omega) (by omega))).setCell (by simp) _).setCell (by simp) _).setCell (by simp) _).setCell (by simp) _).setCell (by simp) _).alloc (by simp; omega) _
     · have hr0 : ∃ a l, r = a :: l := by
        cases r with
        | nil => simp at he'; omega
        | cons a l => exact ⟨a, l, rfl⟩
       obtain ⟨a0, l0, hr0⟩ := hr0
       rw [hr0] at hp
       have HP := H_ hp
       have hd : decide (e' < s.size) = true := by simp; omega
       clear hp hres HF he' hgot hwf hr0
       go_enter func40, ntmps40
       go_wp2_with (go_at_call 76; go_must (refine (HC.out _ (w.heap.size + 1) (Za _ _ _)).mono ?_; rintro e w1 ⟨p, n, c, rfl, hv, hr1, hg1⟩; have y0 := Yw hg1 (Z8 (heap_alloc_new _ _)) (by omega); obtain ⟨z0, z1, z2, z3, z4⟩ := Yo y0; obtain ⟨f0, f1, f2, f3, f4⟩ := Q7 y0; obtain ⟨q0, q1⟩ := Zh hr1; have hs1 := hg1.size; have hs3 : w.heap.size + 1 < w1.heap.size := (by simp at hs1; omega); have hs4 : w.heap.size < w1.heap.size := (by omega)))
       refine bodyPost_ret (v := .tuple #[.agg #[.string ⟨#[]⟩, .slice none 0 0, .int .i64 0, .int .i64 0, .int .i64 0], .bool false]) (by simp [results, results40, go_sem, z0, z1, z2, z3, z4, hs4]) rfl ⟨by rw [HP.out]; rfl, ?_⟩
       exact (((((((Zl w _ _).trans (Z5k hg1 (by simp; omega) (by omega))).setCell (by simp) _).setCell (by simp) _).setCell (by simp) _).setCell (by simp) _).setCell (by simp) _).alloc (by simp; omega) _
theorem Kh {B : Nat} {res : Option Tr} {e : Ending} {w' : World} (h : Z5n B res e w') :
 ∃ a p n c, e = .returned (.tuple #[.agg #[.string a, .slice p n c], .bool res.isSome]) := by
 match res, h with
 | none, ⟨a, p, n, c, h1, _⟩ => exact ⟨_, _, _, _, h1⟩
 | some t, ⟨p, n, c, h1, _⟩ => exact ⟨_, _, _, _, h1⟩
theorem Z6b (s : ByteArray) (hs : s.size ≤ 1048576) (w : World) :
 Calls prog 78 #[.string s] w fun e w' => e = .returned (.bool (Zt s.data.toList).isSome) ∧ Below w.heap.size w w' := by
 go_enter func78, ntmps78
 go_wp2_with (go_at_call 64; go_must (refine (Z0c s hs _).mono ?_; rintro e w1 ⟨hp, hb1⟩; obtain ⟨a, p, n, c, rfl⟩ := Kh hp; clear hp))
 go_ret
 exact ⟨rfl, hb1.alloc hb1.size _⟩
def Z4w (hd : List UInt8) : Tr → Bool
 | .list [h, a, b] => Z1 h == hd && Q1 a && Q1 b
 | _ => false
theorem Z2k (hd : List UInt8) (h a b : Tr) : Z4w hd (.list [h, a, b]) = (Z1 h == hd && Q1 a && Q1 b) := rfl
theorem Z2l (hd : List UInt8) (ts : List Tr) (h : ts.length ≠ 3) : Z4w hd (.list ts) = false := by
 match ts, h with
 | [], _ => rfl
 | [_], _ => rfl
 | [_, _], _ => rfl
 | [_, _, _], h => exact absurd rfl h
 | _ :: _ :: _ :: _ :: _, _ => rfl
theorem isTy_W (ts : List Tr) : Q1 (.list ts) = (Z4w [62] (.list ts) || Z4w [42] (.list ts)) := by
 by_cases h3 : ts.length = 3
 · obtain ⟨x, a, b, rfl⟩ := Z25 h3
   rw [Z1p, Z2k, Z2k]
   cases Z1 x == [62] <;> cases Z1 x == [42] <;> cases Q1 a <;> cases Q1 b <;> rfl
 · rw [Z47 _ h3, Z2l _ _ h3, Z2l _ _ h3]; rfl
theorem Z48 (s : ByteArray) (p : Option Addr) (c : Nat) (b z d : Int) (w : World) :
 Calls prog 116 #[.agg #[.string s, .slice p 0 c, .int .i64 b, .int .i64 z, .int .i64 d]] w fun e w' => e = .returned (.bool true) ∧ Below w.heap.size w w' := by
 go_enter func116, ntmps116
 go_wp2
 go_ret
 exact ⟨rfl, Z5 _ _⟩
theorem Jy (s : ByteArray) (p : Option Addr) (n c : Nat) (hn : n ≠ 0) (b z d : Int) (w : World) :
 Calls prog 116 #[.agg #[.string s, .slice p n c, .int .i64 b, .int .i64 z, .int .i64 d]] w fun e w' => e = .returned (.bool false) ∧ Below w.heap.size w w' := by
 go_enter func116, ntmps116
 go_wp2
 go_ret
 exact ⟨Zf (by simp; omega), Z5 _ _⟩
def Z53 (n : Nat) : Prop := ∀ (t : Tr) (p : Option Addr) (m c : Nat) (ok : Nat → Prop) (w : World), t.depth < n → t.wf → FV nI w ok t (nI t (.slice p m c)) → (∀ k, ok k → k < w.heap.size) →
    Calls prog 155 #[.agg #[.string (bs (Z1 t)), .slice p m c, .int .i64 t.bytes, .int .i64 t.size, .int .i64 t.depth]] w fun e w' => e = .returned (.bool (Q1 t)) ∧ Below w.heap.size w w'
theorem isTypeWith_c (n : Nat) (ih : Z53 n) (hd : List UInt8) (ts : List Tr) (p : Option Addr) (m c : Nat) (ok : Nat → Prop) (w : World) (hdep : (Tr.list ts).depth < n + 1) (hwf : (Tr.list ts).wf) (hv : FV nI w ok (.list ts) (nI (.list ts) (.slice p m c))) (hok : ∀ k, ok k → k < w.heap.size) :
 Calls prog 157 #[.agg #[.string (bs []), .slice p m c, .int .i64 (Tr.list ts).bytes, .int .i64 (Tr.list ts).size, .int .i64 (Tr.list ts).depth], .string (bs hd)] w fun e w' => e = .returned (.bool (Z4w hd (.list ts))) ∧ Below w.heap.size w w' := by
 simp only [FV] at hv
 obtain ⟨r, off, cap, xs, hh, h2, h3, h4, h5, h6⟩ := hv
 have hh := Z45 _ _ _ hh
 simp only [Value.slice.injEq] at hh
 obtain ⟨rfl, rfl, rfl⟩ := hh
 have h3' := Yl h4
 have hrlt := hok r h2
 by_cases hl : ts.length = 3
 · obtain ⟨x, a, b, rfl⟩ := Z25 hl
   obtain ⟨⟨p0, n0, q0, v0, r0⟩, ⟨p1, n1, q1, v1, r1⟩, ⟨p2, n2, q2, v2, r2⟩⟩ := FVs.three Z44 h6 h5
   have hdd := Z1t x a b
   have e0 : w.cell? ⟨r, off, none⟩ = some (.string (bs (Z1 x))) := r0 0 _ rfl
   have e1 : w.cell? ⟨r, off + 5, none⟩ = some (.string (bs (Z1 a))) := r1 0 _ rfl
   have e2 : w.cell? ⟨r, off + 5 + 1, none⟩ = some (.slice p1 n1 q1) := r1 1 _ rfl
   have e3 : w.cell? ⟨r, off + 5 + 2, none⟩ = some (.int .i64 a.bytes) := r1 2 _ rfl
   have e4 : w.cell? ⟨r, off + 5 + 3, none⟩ = some (.int .i64 a.size) := r1 3 _ rfl
   have e5 : w.cell? ⟨r, off + 5 + 4, none⟩ = some (.int .i64 a.depth) := r1 4 _ rfl
   have k1 : w.cell? ⟨r, off + 10, none⟩ = some (.string (bs (Z1 b))) := r2 0 _ rfl
   have k2 : w.cell? ⟨r, off + 10 + 1, none⟩ = some (.slice p2 n2 q2) := r2 1 _ rfl
   have k3 : w.cell? ⟨r, off + 10 + 2, none⟩ = some (.int .i64 b.bytes) := r2 2 _ rfl
   have k4 : w.cell? ⟨r, off + 10 + 3, none⟩ = some (.int .i64 b.size) := r2 3 _ rfl
   have k5 : w.cell? ⟨r, off + 10 + 4, none⟩ = some (.int .i64 b.depth) := r2 4 _ rfl
   have HT := H_ (Z2k hd x a b)
   have hwa : a.wf := hwf.2.2.1
   have hwb : b.wf := hwf.2.2.2.1
   have C1 : Hid (∀ W, Below w.heap.size w W → Calls prog 155 #[.agg #[.string (bs (Z1 a)), .slice p1 n1 q1, .int .i64 a.bytes, .int .i64 a.size, .int .i64 a.depth]] W fun e w' => e = .returned (.bool (Q1 a)) ∧ Below W.heap.size W w') :=
    H_ (fun W hW => ih a p1 n1 q1 ok W (by omega) hwa (v1.below hW hok) (fun j hj => Nat.lt_of_lt_of_le (hok j hj) hW.size))
   have C2 : Hid (∀ W, Below w.heap.size w W → Calls prog 155 #[.agg #[.string (bs (Z1 b)), .slice p2 n2 q2, .int .i64 b.bytes, .int .i64 b.size, .int .i64 b.depth]] W fun e w' => e = .returned (.bool (Q1 b)) ∧ Below W.heap.size W w') :=
    H_ (fun W hW => ih b p2 n2 q2 ok W (by omega) hwb (v2.below hW hok) (fun j hj => Nat.lt_of_lt_of_le (hok j hj) hW.size))
   clear ih hl
   cases hx : (Z1 x == hd) with
   | false =>
     have hx2 : ((bs (Z1 x)).toList == (bs hd).toList) = false := by rw [Z9, Z9]; exact hx
     go_enter func157, ntmps157
     go_wp2_with fail
     go_ret
     exact ⟨Zf (by rw [HT.out, hx]; rfl), Z5 _ _⟩
   | true =>
     have hx2 : ((bs (Z1 x)).toList == (bs hd).toList) = true := by rw [Z9, Z9]; exact hx
     have hx3 := H_ hx
     clear hx
     cases hta : Q1 a with
     | false =>
       rw [hta] at C1
       go_enter func157, ntmps157
       go_wp2_with (go_at_call 155; go_must (refine (C1.out _ (Z5 _ _)).mono ?_; rintro e w1 ⟨rfl, hb1⟩))
       go_ret
       exact ⟨Zf (by rw [HT.out, hx3.out, hta]; rfl), (Z5 w _).trans (hb1.mono (by simp))⟩
     | true =>
       rw [hta] at C1
       go_enter func157, ntmps157
       go_wp2_with (go_at_call 155; first | ((with_reducible refine (C1.out _ (Z5 _ _)).mono ?_); rintro e w1 ⟨rfl, hb1⟩; have hw1 := (Z5 w _).trans (hb1.mono (by simp)); have c1 := Z2 hb1 (by simp) (heap_alloc_new _ _); have d1 := Z4 (j := 1) c1; have g1 := (hw1.cell (p := ⟨r, off + 10, none⟩) hrlt).trans k1; have g2 := (hw1.cell (p := ⟨r, off + 10 + 1, none⟩) hrlt).trans k2; have g3 := (hw1.cell (p := ⟨r, off + 10 + 2, none⟩) hrlt).trans k3; have g4 := (hw1.cell (p := ⟨r, off + 10 + 3, none⟩) hrlt).trans k4; have g5 := (hw1.cell (p := ⟨r, off + 10 + 4, none⟩) hrlt).trans k5) | (refine (C2.out _ hw1).mono ?_; rintro e w2 ⟨rfl, hb2⟩))
       go_ret
       exact ⟨Zf (by rw [HT.out, hx3.out, hta]; simp), hw1.trans (hb2.mono hw1.size)⟩
 · have HT := H_ (Z2l hd ts hl)
   have hl' : ((ts.length : Int) == 3) = false := by simp; omega
   go_enter func157, ntmps157
   go_wp2_with fail
   go_ret
   exact ⟨Zf HT.out.symm, Z5 _ _⟩
theorem isType_zero : Z53 0 := fun t _ _ _ _ _ h => by omega
theorem isType_succ (n : Nat) (ih : Z53 n) : Z53 (n + 1) := by
 intro t p m c ok w hd hwf hv hok
 match t, hv with
 | .atom a, hv =>
   simp only [FV] at hv
   have hh := Z45 _ _ _ hv
   simp only [Value.slice.injEq] at hh
   obtain ⟨rfl, rfl, rfl⟩ := hh
   clear hv
   have HT := H_ (Z5g a)
   go_enter func155, ntmps155
   simp only [Z1]
   go_wp2_with (go_at_call 116; go_must (refine (Z48 _ _ _ _ _ _ _).mono ?_; rintro e w1 ⟨rfl, hb1⟩; have c1 := Z2 hb1 (by simp) (heap_alloc_new _ _); have d0 := Z4 (j := 0) c1))
   go_ret
   exact ⟨Zf (by rw [HT.out, Z9]), (Z5 w _).trans (hb1.mono (by simp))⟩
 | .list ts, hv =>
   have hne : m ≠ 0 := by
    have hv' := hv
    simp only [FV] at hv'
    obtain ⟨r, off, cap, xs, hh, _⟩ := hv'
    have hh := Z45 _ _ _ hh
    simp only [Value.slice.injEq] at hh
    rw [hh.2.1]
    have := hwf.1
    cases ts with
    | nil => exact absurd rfl this
    | cons _ _ => simp
   have C : Hid (∀ (hd' : List UInt8) W, Below w.heap.size w W → Calls prog 157 #[.agg #[.string (bs []), .slice p m c, .int .i64 (Tr.list ts).bytes, .int .i64 (Tr.list ts).size, .int .i64 (Tr.list ts).depth], .string (bs hd')] W fun e w' => e = .returned (.bool (Z4w hd' (.list ts))) ∧ Below W.heap.size W w') :=
    H_ (fun hd' W hW => isTypeWith_c n ih hd' ts p m c ok W hd hwf (hv.below hW hok) (fun j hj => Nat.lt_of_lt_of_le (hok j hj) hW.size))
   have HT := H_ (isTy_W ts)
   clear hv ih
   have C1 : Hid (∀ W, Below w.heap.size w W → Calls prog 157 #[.agg #[.string ⟨#[]⟩, .slice p m c, .int .i64 (Tr.list ts).bytes, .int .i64 (Tr.list ts).size, .int .i64 (Tr.list ts).depth], .string ⟨#[62]⟩] W fun e w' => e = .returned (.bool (Z4w [62] (.list ts))) ∧ Below W.heap.size W w') := C.out [62]
   have C2 : Hid (∀ W, Below w.heap.size w W → Calls prog 157 #[.agg #[.string ⟨#[]⟩, .slice p m c, .int .i64 (Tr.list ts).bytes, .int .i64 (Tr.list ts).size, .int .i64 (Tr.list ts).depth], .string ⟨#[42]⟩] W fun e w' => e = .returned (.bool (Z4w [42] (.list ts))) ∧ Below W.heap.size W w') := C.out [42]
   clear C
   cases h62 : Z4w [62] (.list ts) with
   | true =>
     rw [h62] at C1
     go_enter func155, ntmps155
     simp only [Z1, bs]
     go_wp2_with (first | (go_at_call 116; go_must (refine (Jy _ _ _ _ hne _ _ _ _).mono ?_; rintro e w1 ⟨rfl, hb1⟩; have c1 := Z2 hb1 (by simp) (heap_alloc_new _ _); obtain ⟨d0, d1, d2, d3, d4⟩ := Yo c1; have hw1 := (Z5 w _).trans (hb1.mono (by simp)))) | (go_at_call 157; go_must (refine (C1.out _ hw1).mono ?_; rintro e w2 ⟨rfl, hb2⟩)))
     go_ret
     exact ⟨Zf (by rw [HT.out, h62]; rfl), hw1.trans (hb2.mono hw1.size)⟩
   | false =>
     rw [h62] at C1
     go_enter func155, ntmps155
     simp only [Z1, bs]
     go_wp2_with (first | (go_at_call 116; go_must (refine (Jy _ _ _ _ hne _ _ _ _).mono ?_; rintro e w1 ⟨rfl, hb1⟩; have c1 := Z2 hb1 (by simp) (heap_alloc_new _ _); obtain ⟨d0, d1, d2, d3, d4⟩ := Yo c1; have hw1 := (Z5 w _).trans (hb1.mono (by simp)))) | (go_at_call 157; first | ((with_reducible refine (C1.out _ hw1).mono ?_); rintro e w2 ⟨rfl, hb2⟩; have c2 := Z2 hb2 (lt_of_block c1) c1; obtain ⟨t0, t1, t2, t3, t4⟩ := Yo c2; have hw2 := hw1.trans (hb2.mono hw1.size)) | (refine (C2.out _ hw2).mono ?_; rintro e w3 ⟨rfl, hb3⟩)))
     go_ret
     exact ⟨Zf (by rw [HT.out, h62]; rfl), hw2.trans (hb3.mono hw2.size)⟩
theorem Z7q : ∀ n, Z53 n
 | 0 => isType_zero
 | n + 1 => isType_succ n (Z7q n)
end Go.Proofs.YtjaaalojcdbcpaaGreatDoor
