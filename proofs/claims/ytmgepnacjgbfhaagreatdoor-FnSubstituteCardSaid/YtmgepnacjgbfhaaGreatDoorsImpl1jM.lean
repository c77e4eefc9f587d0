/- The program's orders. The program reads types; its answers that are numbers and bools. The program writes a form as a text. The program's text of a form. -/
import Derived.Test.YtmgepnacjgbfhaaGreatDoorsI1y
import Derived.Deep.RegionHeld3
import Derived.Test.YtmgepnacjgbfhaaGreatDoorsBuildM
namespace Go.Proofs.YtmgepnacjgbfhaaGreatDoor
open Go.RowKit Go.Proofs.Tryz
set_option maxRecDepth 8000
set_option maxHeartbeats 20000000
set_option linter.unusedVariables false
set_option linter.unusedSimpArgs false
theorem Z2w {s : ByteArray} (hs : s.size ≤ 1048576) (hp : Zt s.data.toList = none) (W : World) : Calls prog 40 #[.string s] W fun e w' => e = .returned (.tuple #[.agg #[.string ⟨#[]⟩, .slice none 0 0, .int .i64 0, .int .i64 0, .int .i64 0], .bool false]) ∧ Below W.heap.size W w' :=
 (Z6k s hs W).mono fun e w' ⟨h1, h2⟩ => ⟨by rw [hp] at h1; exact h1, h2⟩
theorem Z2v {s : ByteArray} (hs : s.size ≤ 1048576) {t : Tr} (hp : Zt s.data.toList = some t) (W : World) : Calls prog 40 #[.string s] W fun e w' => (∃ p n c, e = .returned (.tuple #[.agg #[.string (bs (Z0 t)), .slice p n c, .int .i64 t.bytes, .int .i64 t.size, .int .i64 t.depth], .bool true]) ∧ FV nI w' (fun k => W.heap.size ≤ k ∧ k < w'.heap.size) t (nI t (.slice p n c))) ∧ Below W.heap.size W w' :=
 (Z6k s hs W).mono fun e w' ⟨h1, h2⟩ => ⟨by rw [hp] at h1; exact h1, h2⟩
def TyPost (B : Nat) (res : Option Tr) (e : Ending) (w' : World) : Prop :=
 match res with
 | none => e = .returned (.tuple #[.agg #[.string ⟨#[]⟩, .slice none 0 0, .int .i64 0, .int .i64 0, .int .i64 0], .bool false])
 | some t => ∃ p n c, e = .returned (.tuple #[.agg #[.string (bs (Z0 t)), .slice p n c, .int .i64 t.bytes, .int .i64 t.size, .int .i64 t.depth], .bool true]) ∧ FV nI w' (fun k => B ≤ k ∧ k < w'.heap.size) t (nI t (.slice p n c))
theorem Vd (t : Tr) (p : Option Addr) (n c : Nat) (ok : Nat → Prop) (w : World) (hwf : t.wf) (hsz : t.size ≤ 1000000000) (hv : FV nI w ok t (nI t (.slice p n c))) (hok : ∀ k, ok k → k < w.heap.size) :
 Calls prog 60 #[.agg #[.string (bs (Z0 t)), .slice p n c, .int .i64 t.bytes, .int .i64 t.size, .int .i64 t.depth]] w fun e w' => e = .returned (.bool (X5 t && decide (t.size ≤ 16))) ∧ Below w.heap.size w w' := by
 have T : Hid (Calls prog 98 #[.agg #[.string (bs (Z0 t)), .slice p n c, .int .i64 t.bytes, .int .i64 t.size, .int .i64 t.depth]] (w.alloc (.cells #[.string (bs (Z0 t)), .slice p n c, .int .i64 t.bytes, .int .i64 t.size, .int .i64 t.depth] 49)) fun e w' => e = .returned (.bool (X5 t)) ∧ Below (w.heap.size + 1) (w.alloc (.cells #[.string (bs (Z0 t)), .slice p n c, .int .i64 t.bytes, .int .i64 t.size, .int .i64 t.depth] 49)) w') :=
  H_ ((Z12 (t.depth + 1) t p n c ok _ (by omega) hwf (hv.below (Z4 w _) hok) (fun k hk => by have := hok k hk; simp; omega)).mono fun e w' ⟨h1, h2⟩ => ⟨h1, by simpa using h2⟩)
 by_cases h16 : t.size ≤ 16
 · have hd : decide ((t.size : Int) ≤ 16) = true := by simp; omega
   have HF : Hid ((X5 t && decide (t.size ≤ 16)) = X5 t) := H_ (by simp [h16])
   clear hv
   go_enter func60, ntmps60
   go_wp2_with (go_at_call 98; go_must (refine T.out.mono ?_; rintro e w2 ⟨rfl, hb2⟩))
   go_ret
   exact ⟨by rw [HF.out]; rfl, (Z4 w _).trans (hb2.mono (by omega))⟩
 · have hd : decide ((t.size : Int) ≤ 16) = false := by simp; omega
   have HF : Hid ((X5 t && decide (t.size ≤ 16)) = false) := H_ (by simp; omega)
   clear hv T
   go_enter func60, ntmps60
   go_wp2_with fail
   go_ret
   exact ⟨by rw [HF.out]; rfl, Z4 w _⟩
theorem Z6j (s : ByteArray) (hs : s.size ≤ 1048576) (w : World) :
 Calls prog 27 #[.string s] w fun e w' => TyPost w.heap.size (Y3 s.data.toList) e w' ∧ Below w.heap.size w w' := by
 cases hp : Zt s.data.toList with
 | none =>
   have C := H_ (Z2w hs hp)
   have HR := H_ (Z07 hp)
   clear hp
   go_enter func27, ntmps27
   go_wp2_with (go_at_call 40; go_must (refine (C.out _).mono ?_; rintro e w1 ⟨rfl, hb1⟩; have y0 := Z1 hb1 (by simp) (heap_alloc_new _ _); obtain ⟨z0, z1, z2, z3, z4⟩ := Zb y0; obtain ⟨f0, f1, f2, f3, f4⟩ := Zf y0; have hs1 := hb1.size; have hs4 : w.heap.size < w1.heap.size := (by simp at hs1; omega)))
   refine bodyPost_ret (v := .tuple #[.agg #[.string ⟨#[]⟩, .slice none 0 0, .int .i64 0, .int .i64 0, .int .i64 0], .bool false]) (by simp [results, results27, go_sem, z0, z1, z2, z3, z4, hs4]) rfl ⟨by rw [HR.out]; rfl, ?_⟩
   exact (((((((Z4 w _).trans (hb1.mono (by simp))).setCell (by simp) _).setCell (by simp) _).setCell (by simp) _).setCell (by simp) _).setCell (by simp) _).alloc (by simp; omega) _
 | some t =>
   have C := H_ (Z2v hs hp)
   have hg := Yn hp
   have HR := H_ (K8 hp)
   have hsz := Q2 _ hg.1
   have hsz2 : t.size ≤ 12000 := by omega
   clear hp
   have T : Hid (∀ (W : World) (p : Option Addr) (n c : Nat) (ok : Nat → Prop), FV nI W ok t (nI t (.slice p n c)) → (∀ k, ok k → k < W.heap.size) → Calls prog 60 #[.agg #[.string (bs (Z0 t)), .slice p n c, .int .i64 t.bytes, .int .i64 t.size, .int .i64 t.depth]] W fun e w' => e = .returned (.bool (X5 t && decide (t.size ≤ 16))) ∧ Below W.heap.size W w') :=
    H_ (fun W p n c ok h1 h2 => Vd t p n c ok W hg.1 (by omega) h1 h2)
   cases hty : (X5 t && decide (t.size ≤ 16)) with
   | false =>
     rw [hty] at T HR
     go_enter func27, ntmps27
     go_wp2_with (first | (go_at_call 40; go_must (refine (C.out _).mono ?_; rintro e w1 ⟨⟨p, n, c, rfl, hv⟩, hb1⟩; have y0 := Z1 hb1 (by simp) (heap_alloc_new _ _); obtain ⟨z0, z1, z2, z3, z4⟩ := Zb y0; obtain ⟨f0, f1, f2, f3, f4⟩ := Zf y0; have hs1 := hb1.size; have hs4 : w.heap.size < w1.heap.size := (by simp at hs1; omega))) | (go_at_call 60; go_must (refine (T.out _ p n c (fun k => w.heap.size + 1 ≤ k ∧ k < w1.heap.size) (FV.move (fun k hk => by simp at hk ⊢; omega) (fun k hk => heap_alloc_old _ _ hk.2) _ _ hv) (fun k hk => by simp; omega)).mono ?_; rintro e w2 ⟨rfl, hb2⟩; have x0 := Z1 hb2 (by simp; omega) (Z5 y0); have x1 := Z1 hb2 (by simp) (heap_alloc_new _ _); obtain ⟨r0, r1, r2, r3, r4⟩ := Zb x0; obtain ⟨g0, g1, g2, g3, g4⟩ := Zf x0; obtain ⟨q0, q1, q2, q3, q4⟩ := Zb x1; have hs2 := hb2.size; have hs5 : w.heap.size < w2.heap.size := (by simp at hs2; omega))))
     refine bodyPost_ret (v := .tuple #[.agg #[.string ⟨#[]⟩, .slice none 0 0, .int .i64 0, .int .i64 0, .int .i64 0], .bool false]) (by simp [results, results27, go_sem, r0, r1, r2, r3, r4, hs5]) rfl ⟨by rw [HR.out]; rfl, ?_⟩
     exact (((((((((Z4 w _).trans (hb1.mono (by simp))).alloc (by omega) _).trans (hb2.mono (by simp; omega))).setCell (by simp) _).setCell (by simp) _).setCell (by simp) _).setCell (by simp) _).setCell (by simp) _)
   | true =>
     rw [hty] at T HR
     go_enter func27, ntmps27
     go_wp2_with (first | (go_at_call 40; go_must (refine (C.out _).mono ?_; rintro e w1 ⟨⟨p, n, c, rfl, hv⟩, hb1⟩; have y0 := Z1 hb1 (by simp) (heap_alloc_new _ _); obtain ⟨z0, z1, z2, z3, z4⟩ := Zb y0; obtain ⟨f0, f1, f2, f3, f4⟩ := Zf y0; have hs1 := hb1.size; have hs4 : w.heap.size < w1.heap.size := (by simp at hs1; omega))) | (go_at_call 60; go_must (refine (T.out _ p n c (fun k => w.heap.size + 1 ≤ k ∧ k < w1.heap.size) (FV.move (fun k hk => by simp at hk ⊢; omega) (fun k hk => heap_alloc_old _ _ hk.2) _ _ hv) (fun k hk => by simp; omega)).mono ?_; rintro e w2 ⟨rfl, hb2⟩; have x0 := Z1 hb2 (by simp; omega) (Z5 y0); have x1 := Z1 hb2 (by simp) (heap_alloc_new _ _); obtain ⟨r0, r1, r2, r3, r4⟩ := Zb x0; obtain ⟨g0, g1, g2, g3, g4⟩ := Zf x0; obtain ⟨q0, q1, q2, q3, q4⟩ := Zb x1; have hs2 := hb2.size; have hs5 : w.heap.size < w2.heap.size := (by simp at hs2; omega))))
     refine bodyPost_ret (v := .tuple #[.agg #[.string (bs (Z0 t)), .slice p n c, .int .i64 t.bytes, .int .i64 t.size, .int .i64 t.depth], .bool true]) (by simp [results, results27, go_sem, r0, r1, r2, r3, r4, hs5]) rfl ⟨?_, ?_⟩
     · rw [HR.out, if_pos trivial]
       refine ⟨p, n, c, rfl, FV.move (fun k hk => ?_) (fun k hk => ?_) _ _ hv⟩
       · have := hb2.size; simp at hk this ⊢; omega
       · simp only [Yy] at hk
         rw [Za _ (by simp; omega), Za _ (by simp; omega), Za _ (by simp; omega), Za _ (by simp; omega), Za _ (by simp; omega), hb2.block k (by simp; omega), heap_alloc_old _ _ hk.2]
     · exact (((((((((Z4 w _).trans (hb1.mono (by simp))).alloc (by omega) _).trans (hb2.mono (by simp; omega))).setCell (by simp) _).setCell (by simp) _).setCell (by simp) _).setCell (by simp) _).setCell (by simp) _)
theorem Z69 : ∀ (ts : List Tr) (t : Tr), Xj (ts ++ [t]) = if ts = [] then t.text else Xj ts ++ 32 :: t.text
 | [], t => by simp [Xj]
 | [a], t => by simp [Xj]
 | a :: b :: ts, t => by
   have ih := Z69 (b :: ts) t
   simp only [List.cons_append, Xj] at ih ⊢
   rw [ih]; simp
def pre (ts : List Tr) (k : Nat) : List UInt8 := if k = 0 then [] else 40 :: Xj (ts.take k)
theorem pre_succ (ts : List Tr) (k : Nat) (h : k < ts.length) : pre ts (k + 1) = pre ts k ++ (if k = 0 then 40 else 32) :: ts[k].text := by
 unfold pre
 rw [if_neg (by omega), Jw _ _ h, Z69]
 by_cases hk : k = 0
 · subst hk; simp
 · rw [if_neg hk, if_neg hk, if_neg (by intro e; rcases List.take_eq_nil_iff.1 e with h1 | h1; exact hk h1; subst h1; simp at h)]; simp
theorem pre_end (ts : List Tr) (h : ts ≠ []) : pre ts ts.length ++ [41] = (Tr.list ts).text := by
 unfold pre
 rw [if_neg (by intro e; exact h (List.eq_nil_of_length_eq_zero e)), List.take_length]; simp [Tr.text]
theorem wfs_take {ts : List Tr} (h : wfs ts) (k : Nat) : wfs (ts.take k) := by
 induction ts generalizing k with
 | nil => simp [wfs]
 | cons a ts ih => cases k with
   | zero => simp [wfs]
   | succ k => exact ⟨h.1, ih h.2 k⟩
theorem pre_length (ts : List Tr) (k : Nat) (hw : wfs ts) (hk : k ≤ ts.length) : (pre ts k).length ≤ Zq ts := by
 unfold pre
 by_cases h : k = 0
 · rw [if_pos h]; exact Nat.zero_le _
 · rw [if_neg h]
   have h1 := Vf (ts.take k) (wfs_take hw k) (by intro e; rcases List.take_eq_nil_iff.1 e with h1 | h1; exact h h1; subst h1; simp at hk; exact h hk)
   have h2 := Jj ts k
   simp only [List.length_cons]; omega
theorem others_blk {w w' : World} {b k : Nat} {cs : Array Value} {T : TypeId} (h : Lib.OthersKept 5 (some b) w w') (hk : w.heap[k]? = some (.cells cs T (0, 0))) (hT : T ≠ 5) (hb : k ≠ b) : w'.heap[k]? = some (.cells cs T (0, 0)) :=
 h k _ hk (by simpa using hb) (fun c fz e => by simp only [Obj.cells.injEq] at e; exact hT e.2.1)
theorem Bld.alloc {B b : Nat} {l : List UInt8} {w : World} (h : Bld B b l w) (o : Obj) : Bld B b l (w.alloc o) := by
 obtain ⟨hB, v, hb, hown, hne⟩ := h
 exact ⟨hB, v, Z5 hb, hown.alloc o, hne⟩
theorem Bld.lt {B b : Nat} {l : List UInt8} {w : World} (h : Bld B b l w) : B ≤ b ∧ b < w.heap.size := by
 obtain ⟨hB, v, hb, _⟩ := h
 exact ⟨hB, lt_of_block hb⟩
theorem Bld.below {B b : Nat} {l : List UInt8} {w w' : World} (h : Bld B b l w) (hb : Below w.heap.size w w') : Bld B b l w' := by
 obtain ⟨hB, v, hb', hown, hne⟩ := h
 exact ⟨hB, v, Z1 hb (lt_of_block hb') hb', hown.kept (row := none) ⟨hb.os, hb.tape, hb.output, hb.size, fun k hk _ => hb.block k hk⟩ (by cases Value.ownBlock v <;> simp), hne⟩
theorem Z3x {w w' : World} (hb : Below w.heap.size w w') (e : TypeId) (b : Option Nat) : Lib.OthersKept e b w w' := by
 intro k o hk _ _
 rw [hb.block k (lt_of_block hk)]; exact hk
def WriteC (n : Nat) : Prop := ∀ (t : Tr) (p : Option Addr) (m c : Nat) (ok : Nat → Prop) (l : List UInt8) (B b : Nat) (w : World), t.depth < n → t.wf → FV nI w ok t (nI t (.slice p m c)) → (∀ k, ok k → k < B) → Bld B b l w → l.length + t.bytes ≤ 100000000000 →
    Calls prog 46 #[.agg #[.string (bs (Z0 t)), .slice p m c, .int .i64 t.bytes, .int .i64 t.size, .int .i64 t.depth], .pointer (some ⟨b, 0, none⟩)] w fun e w' => e = .returned (.tuple #[]) ∧ Bld B b (l ++ t.text) w' ∧ Below B w w' ∧ Lib.OthersKept 5 (some b) w w'
theorem write_atom (n : Nat) (a : List UInt8) (p : Option Addr) (m c : Nat) (ok : Nat → Prop) (l : List UInt8) (B b : Nat) (w : World) (hv : FV nI w ok (.atom a) (nI (.atom a) (.slice p m c))) (hB : Bld B b l w) (hl : l.length + (Tr.atom a).bytes ≤ 100000000000) :
 Calls prog 46 #[.agg #[.string (bs a), .slice p m c, .int .i64 (Tr.atom a).bytes, .int .i64 (Tr.atom a).size, .int .i64 (Tr.atom a).depth], .pointer (some ⟨b, 0, none⟩)] w fun e w' => e = .returned (.tuple #[]) ∧ Bld B b (l ++ (Tr.atom a).text) w' ∧ Below B w w' ∧ Lib.OthersKept 5 (some b) w w' := by
 simp only [FV] at hv
 have hh := Ji _ _ _ hv
 simp only [Value.slice.injEq] at hh
 obtain ⟨rfl, rfl, rfl⟩ := hh
 clear hv
 have hlt := hB.lt
 simp only [Tr.bytes] at hl
 have HB := H_ hB
 clear hB
 go_enter func46, ntmps46
 go_wp2_with (first | (go_at_call 76; go_must (refine (Z14 _ _ _ _ _ _ _).mono ?_; rintro e w1 ⟨rfl, hb1⟩; have c1 := Z1 hb1 (by simp) (heap_alloc_new _ _); have d0 := Z2 (j := 0) c1; have hw1 := H_ ((Z4 w _).trans (hb1.mono (by simp))); have hs1 := hb1.size)) | (go_at_call 86; go_must (refine (WriteString_c B b l a w1 (HB.out.below hw1.out) (by omega) (by simp at hs1; omega)).mono ?_; rintro e w2 ⟨rfl, hB2, hb2, ho2⟩)))
 exact bodyPost_ret (v := .tuple #[]) (by simp [results, results46, go_sem]) rfl ⟨rfl, by simpa [Tr.text] using hB2, (hw1.out.mono (by omega)).trans hb2, (Z3x hw1.out _ _).trans ho2⟩
theorem write_list (n : Nat) (ih : WriteC n) (ts : List Tr) (p : Option Addr) (m c : Nat) (ok : Nat → Prop) (l : List UInt8) (B b : Nat) (w : World) (hd : (Tr.list ts).depth < n + 1) (hwf : (Tr.list ts).wf) (hv : FV nI w ok (.list ts) (nI (.list ts) (.slice p m c))) (hok : ∀ k, ok k → k < B) (hB : Bld B b l w) (hl : l.length + (Tr.list ts).bytes ≤ 100000000000) :
 Calls prog 46 #[.agg #[.string (bs []), .slice p m c, .int .i64 (Tr.list ts).bytes, .int .i64 (Tr.list ts).size, .int .i64 (Tr.list ts).depth], .pointer (some ⟨b, 0, none⟩)] w fun e w' => e = .returned (.tuple #[]) ∧ Bld B b (l ++ (Tr.list ts).text) w' ∧ Below B w w' ∧ Lib.OthersKept 5 (some b) w w' := by
 simp only [FV] at hv
 obtain ⟨r, off, cap, xs, hh, h2, h3, h4, h5, h6⟩ := hv
 have hh := Ji _ _ _ hh
 simp only [Value.slice.injEq] at hh
 obtain ⟨rfl, rfl, rfl⟩ := hh
 have h3' := Zx h4
 have hrlt := hok r h2
 have hlt := hB.lt
 have hne : ts.length ≠ 0 := by intro e; exact hwf.1 (List.eq_nil_of_length_eq_zero e)
 have hlen := Xq ts
 have hE := H_ (pre_end ts hwf.1)
 have HB := H_ hB
 have HW := H_ hwf.2
 have HL : Hid (∀ k, k ≤ ts.length → (pre ts k).length ≤ Zq ts) := H_ (fun k hk => pre_length ts k hwf.2 hk)
 have IH := H_ ih
 simp only [Tr.bytes] at hl
 clear hB ih hwf
 go_enter func46, ntmps46
 go_wp2_with (go_at_call 76; go_must (refine (Ja _ _ _ _ hne _ _ _ _).mono ?_; rintro e w1 ⟨rfl, hb1⟩; have c1 := Z1 hb1 (by simp) (heap_alloc_new _ _); have d1 := Z2 (j := 1) c1; have hw1 := H_ ((Z4 w _).trans (hb1.mono (by simp))); have hs1 := hb1.size))
 clear c1 d1 hb1
 go_loopg [4, 16] ts.length (fun q v i wr => ∃ (k : Nat) (a : UInt8), q + k = ts.length ∧ i = .int .i64 k ∧ v = .int .u8 a.toNat ∧ Hid (a = if k = 0 then 40 else 32) ∧ Hid (Bld B b (l ++ pre ts k) wr) ∧ Hid (Below B w wr) ∧ Hid (Lib.OthersKept 5 (some b) w wr) ∧ w.heap.size ≤ wr.heap.size)
 case atStart => exact ⟨0, 40, by omega, rfl, rfl, H_ rfl, H_ (by simpa [pre] using HB.out.below hw1.out), H_ (hw1.out.mono (by omega)), H_ (Z3x hw1.out _ _), by simp at hs1; omega⟩
 case round =>
  obtain ⟨k, a, hq, rfl, rfl, ha, hBr, hbr, hor, hsz⟩ := hrel
  by_cases hk : k < ts.length
  · obtain ⟨cs, q1, q2⟩ := FVs.get Xz h6 h5 k hk
    obtain ⟨pp, pn, pc, rfl⟩ := q1.node
    have e0 : wr.cell? ⟨r, off + k * 5, none⟩ = some (.string (bs (Z0 ts[k]))) := by rw [hbr.out.cell (by exact hrlt)]; exact q2 0 _ rfl
    have e1 : wr.cell? ⟨r, off + k * 5 + 1, none⟩ = some (.slice pp pn pc) := by rw [hbr.out.cell (by exact hrlt)]; exact q2 1 _ rfl
    have e2 : wr.cell? ⟨r, off + k * 5 + 2, none⟩ = some (.int .i64 ts[k].bytes) := by rw [hbr.out.cell (by exact hrlt)]; exact q2 2 _ rfl
    have e3 : wr.cell? ⟨r, off + k * 5 + 3, none⟩ = some (.int .i64 ts[k].size) := by rw [hbr.out.cell (by exact hrlt)]; exact q2 3 _ rfl
    have e4 : wr.cell? ⟨r, off + k * 5 + 4, none⟩ = some (.int .i64 ts[k].depth) := by rw [hbr.out.cell (by exact hrlt)]; exact q2 4 _ rfl
    have hp1 := HL.out k (by omega)
    have hp2 := HL.out (k + 1) (by omega)
    have hPS := H_ (pre_succ ts k hk)
    have hdk : ts[k].depth < n := by have := Xa hk; omega
    have hwk := H_ (Xu HW.out hk)
    have hlk : (l ++ pre ts k).length + 1 ≤ 140737488355328 := by simp; omega
    have hlk2 : (l ++ pre ts k ++ [a]).length + ts[k].bytes ≤ 100000000000 := by
     have h1 := congrArg List.length hPS.out
     simp only [List.length_append, List.length_cons, Zr _ hwk.out] at h1 ⊢
     simp; omega
    have hBB : b ≠ wr.heap.size := by have := hBr.out.lt; omega
    have hBw : B ≤ wr.heap.size := by omega
    clear hp1 hp2
    go_wp2_with (first | (go_at_call 87; go_must (refine (Z5p B b _ a _ rfl _ (hBr.out.alloc _) hlk (by simp; omega)).mono ?_; rintro e w2 ⟨rfl, hB2, hb2, ho2⟩; have y0 := others_blk ho2 (heap_alloc_new _ _) (by decide) (by omega); obtain ⟨z0, z1, z2, z3, z4⟩ := Zb y0; have hs2 := hb2.size)) | (go_at_call 46; go_must (refine (IH.out ts[k] pp pn pc ok (l ++ pre ts k ++ [a]) B b w2 hdk hwk.out (FV.below q1 (hbr.out.trans (((Below.refl B wr).alloc (by omega) _).trans hb2)) hok) hok hB2 hlk2).mono ?_; rintro e w3 ⟨rfl, hB3, hb3, ho3⟩)))
    go_roundg (gk - 1)
    case measure => omega
    case rel =>
     refine ⟨k + 1, 32, by omega, by go_num, rfl, H_ (by rw [if_neg (by omega)]), H_ ?_, H_ (((hbr.out.alloc (by omega) _).trans hb2).trans hb3), H_ (((hor.out.alloc _).trans ho2).trans ho3), ?_⟩
     · rw [hPS.out, ← ha.out]; simpa using hB3
     · have := hb3.size; simp at hs2; omega
  · have : k = ts.length := by omega
    subst this
    have hp1 := HL.out ts.length (by omega)
    have hlk : (l ++ pre ts ts.length).length + 1 ≤ 140737488355328 := by simp; omega
    have hBw : B ≤ wr.heap.size := by omega
    go_wp2_with (go_at_call 87; go_must (refine (Z5p B b _ 41 _ rfl _ hBr.out hlk hBw).mono ?_; rintro e w2 ⟨rfl, hB2, hb2, ho2⟩))
    go_end0
    refine ⟨rfl, ?_, hbr.out.trans hb2, hor.out.trans ho2⟩
    rw [← hE.out, ← List.append_assoc]; exact hB2
theorem write_all : ∀ n, WriteC n
 | 0 => fun t _ _ _ _ _ _ _ _ h => by omega
 | n + 1 => fun t p m c ok l B b w hd hwf hv hok hB hl => by
   match t with
   | .atom a => exact write_atom n a p m c ok l B b w hv hB hl
   | .list ts => exact write_list n (write_all n) ts p m c ok l B b w hd hwf hv hok hB hl
theorem text_c (t : Tr) (p : Option Addr) (m c : Nat) (ok : Nat → Prop) (w : World) (hwf : t.wf) (hb : t.bytes ≤ 100000000000) (hv : FV nI w ok t (nI t (.slice p m c))) (hok : ∀ k, ok k → k < w.heap.size) :
 Calls prog 20 #[.agg #[.string (bs (Z0 t)), .slice p m c, .int .i64 t.bytes, .int .i64 t.size, .int .i64 t.depth]] w fun e w' => e = .returned (.string (bs t.text)) ∧ Below w.heap.size w w' := by
 have HW : Hid (∀ (W : World) (B b : Nat), Below w.heap.size w W → w.heap.size ≤ B → Bld B b [] W → Calls prog 46 #[.agg #[.string (bs (Z0 t)), .slice p m c, .int .i64 t.bytes, .int .i64 t.size, .int .i64 t.depth], .pointer (some ⟨b, 0, none⟩)] W fun e w' => e = .returned (.tuple #[]) ∧ Bld B b t.text w' ∧ Below B W w') :=
  H_ (fun W B b h1 h2 h3 => (write_all (t.depth + 1) t p m c ok [] B b W (by omega) hwf (hv.below h1 hok) (fun k hk => Nat.lt_of_lt_of_le (hok k hk) h2) h3 (by simpa using hb)).mono fun e w' ⟨k1, k2, k3, _⟩ => ⟨k1, by simpa using k2, k3⟩)
 have hs := (Q2 t hwf)
 have hd := Z23 t hwf
 clear hv hwf
 go_enter func20, ntmps20
 go_wp2_with (first | (go_at_call 45; go_must (refine (Tryz.Builder_Grow_fresh (w.heap.size + 1) (w.heap.size + 1) t.bytes _ (Nat.le_refl _) (Z9 _ _ _) (by simp) (by omega)).mono ?_; rintro e w1 ⟨rfl, hB1, hb1⟩; have c1 := Z1 hb1 (by omega) (Z5 (heap_alloc_new _ _)); obtain ⟨z0, z1, z2, z3, z4⟩ := Zb c1; have hw1 := H_ ((Zi w _ _).trans (hb1.mono (by omega))); have hs1 := hb1.size)) | (go_at_call 46; go_must (refine (HW.out w1 (w.heap.size + 1) (w.heap.size + 1) hw1.out (by omega) (Lib.BuilderAtF.of hB1)).mono ?_; rintro e w2 ⟨rfl, hB2, hb2⟩)) | (go_at_call 47; go_must (refine (Tryz.Builder_String_any_f (w.heap.size + 1) (w.heap.size + 1) t.text _ (.inr hB2) (by have := hB2.lt; omega)).mono ?_; rintro e w3 ⟨rfl, _, hb3⟩)))
 go_ret
 exact ⟨rfl, hw1.out.trans ((hb2.mono (by omega)).trans (hb3.mono (by omega)))⟩
end Go.Proofs.YtmgepnacjgbfhaaGreatDoor
