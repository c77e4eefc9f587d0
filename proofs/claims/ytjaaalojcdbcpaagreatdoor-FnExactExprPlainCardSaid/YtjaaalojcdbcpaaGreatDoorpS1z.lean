/- The reference model's orders, and its functions that answer numbers and bools. The reference model's answers on types. The reference model's text of a form. The reference model's parts of a form. The reference model's atoms. -/
import Derived.Test.YtjaaalojcdbcpaaGreatDoorpS1y
import Derived.Test.YtjaaalojcdbcpaaGreatDoorpI1y
import Derived.Test.YtjaaalojcdbcpaaGreatDoorpDraw3M
import Derived.Test.YtjaaalojcdbcpaaGreatDoorpB3
import Derived.Test.YtjaaalojcdbcpaaGreatDoorpB1
import Derived.Deep.LoopGhost
set_option maxHeartbeats 20000000
set_option linter.unusedVariables false
set_option linter.unusedSimpArgs false
namespace Go.Proofs.YtjaaalojcdbcpaaGreatDoor
open Go.RowKit Go.Proofs.Tryz
set_option maxRecDepth 8000
theorem l1Typed_c (t : Tr) (p : Option Addr) (m c : Nat) (ok : Nat → Prop) (w : World) (hwf : t.wf) (hb : t.bytes ≤ 1000000000) (hv : FV nS w ok t (nS t (.slice p m c))) (hok : ∀ k, ok k → k < w.heap.size) :
 Calls prog 109 #[.agg #[.string (bs (Z1 t)), .slice p m c]] w fun e w' => e = .returned (.bool (Xs t && decide (t.size ≤ 16))) ∧ Below w.heap.size w w' := by
 have hs := (Xx t hwf).1
 have C1 : Hid (∀ W, Below w.heap.size w W → Calls prog 149 #[.agg #[.string (bs (Z1 t)), .slice p m c]] W fun e w' => e = .returned (.bool (Xs t)) ∧ Below W.heap.size W w') :=
  H_ (fun W hW => l1Type_c (t.depth + 1) t _ ok W (by omega) hwf (hv.below hW hok) (fun j hj => Nat.lt_of_lt_of_le (hok j hj) hW.size))
 have C2 : Hid (∀ W, Below w.heap.size w W → Calls prog 66 #[.agg #[.string (bs (Z1 t)), .slice p m c]] W fun e w' => e = .returned (.int .i64 t.size) ∧ Below W.heap.size W w') :=
  H_ (fun W hW => l1Size_c (t.depth + 1) t _ ok W (by omega) hwf hb (hv.below hW hok) (fun j hj => Nat.lt_of_lt_of_le (hok j hj) hW.size))
 clear hv
 cases ht : Xs t with
 | false =>
   rw [ht] at C1
   go_enter func109, ntmps109
   go_wp2_with (go_at_call 149; go_must (refine (C1.out _ (Z5 _ _)).mono ?_; rintro e w1 ⟨rfl, hb1⟩))
   go_ret
   exact ⟨rfl, (Z5 w _).trans (hb1.mono (by simp))⟩
 | true =>
   rw [ht] at C1
   go_enter func109, ntmps109
   go_wp2_with (first | (go_at_call 149; go_must (refine (C1.out _ (Z5 _ _)).mono ?_; rintro e w1 ⟨rfl, hb1⟩; have hw1 := (Z5 w _).trans (hb1.mono (by simp)); have c1 := Z3 hb1 (by simp) (heap_alloc_new _ _); obtain ⟨d0, d1⟩ := Zm c1)) | (go_at_call 66; go_must (refine (C2.out _ hw1).mono ?_; rintro e w2 ⟨rfl, hb2⟩)))
   go_ret
   exact ⟨Zg (by rw [Bool.eq_iff_iff]; simp; omega), hw1.trans (hb2.mono hw1.size)⟩
theorem Z1n : ∀ (ts : List Tr) (t : Tr), X8 (ts ++ [t]) = if ts = [] then t.text else X8 ts ++ 32 :: t.text
 | [], t => by simp [X8]
 | [a], t => by simp [X8]
 | a :: b :: ts, t => by
   have ih := Z1n (b :: ts) t
   simp only [List.cons_append, X8] at ih ⊢
   rw [ih]; simp
theorem wfs_takeS {ts : List Tr} (h : wfs ts) (k : Nat) : wfs (ts.take k) := by
 induction ts generalizing k with
 | nil => simp [wfs]
 | cons a ts ih => cases k with
   | zero => simp [wfs]
   | succ k => exact ⟨h.1, ih h.2 k⟩
def Z22 (ts : List Tr) (k : Nat) : List UInt8 := 40 :: X8 (ts.take k)
theorem preS_succ (ts : List Tr) (k : Nat) (h : k < ts.length) : Z22 ts (k + 1) = (if k = 0 then Z22 ts k else Z22 ts k ++ [32]) ++ ts[k].text := by
 unfold Z22
 rw [Jv _ _ h, Z1n]
 by_cases hk : k = 0
 · subst hk; simp [X8]
 · rw [if_neg hk, if_neg (by intro e; rcases List.take_eq_nil_iff.1 e with h1 | h1; exact hk h1; subst h1; simp at h)]; simp
theorem preS_end (ts : List Tr) : Z22 ts ts.length ++ [41] = (Tr.list ts).text := by
 unfold Z22
 rw [List.take_length]; simp [Tr.text]
theorem preS_length (ts : List Tr) (k : Nat) (hw : wfs ts) : (Z22 ts k).length ≤ Zk ts + 1 := by
 unfold Z22
 by_cases h : ts.take k = []
 · rw [h]; simp [X8]
 · have h1 := Js (ts.take k) (wfs_takeS hw k) h
   have h2 := Qi ts k
   simp only [List.length_cons]; omega
theorem l1Text_c (n : Nat) : ∀ (t : Tr) (cs : List Value) (ok : Nat → Prop) (w : World), t.depth < n → t.wf → t.bytes ≤ 100000000000 → FV nS w ok t cs → (∀ k, ok k → k < w.heap.size) →
 Calls prog 31 #[.agg cs.toArray] w fun e w' => e = .returned (.string (bs t.text)) ∧ Below w.heap.size w w' := by
 induction n with
 | zero => intro t _ _ _ h; omega
 | succ n ih =>
   intro t cs ok w hd hwf hsz hv hok
   match t, hv with
   | .atom a, hv =>
     simp only [FV] at hv
     subst hv
     have ha := Z1l hwf.1
     go_enter func31, ntmps31
     simp only [nS, Z1]
     go_wp2_with fail
     go_ret
     exact ⟨rfl, Z5 _ _⟩
   | .list ts, hv =>
     simp only [FV] at hv
     obtain ⟨r, off, cap, xs, rfl, h2, h3, h4, h5, h6⟩ := hv
     have ha := K7
     have h3' : ts.length ≤ 9223372036854775807 := by have := Ym h4; omega
     have hrlt := hok r h2
     have HW := H_ hwf.2
     have HI := H_ ih
     simp only [Tr.bytes] at hsz
     have HL : Hid (∀ k, (Z22 ts k).length ≤ Zk ts + 1) := H_ (fun k => preS_length ts k hwf.2)
     clear ih hwf
     go_enter func31, ntmps31
     simp only [nS, Z1]
     go_wp2_with fail
     go_loopw [3, 4] (fun m i wr => ∃ k : Nat, k ≤ ts.length ∧ i = .int .i64 k ∧ m = .string (bs (Z22 ts k)) ∧ Below (w.heap.size + 1) (w.alloc (.cells #[.string (bs []), .slice (some ⟨r, off, none⟩) ts.length cap] 47)) wr) (fun _ i _ => ts.length - (intOf i).toNat)
     case atStart => exact ⟨0, Nat.zero_le _, rfl, by simp [Z22, X8, bs], Below.refl _ _⟩
     case round =>
      obtain ⟨k, hk, rfl, rfl, hb⟩ := hrel
      have c0 : wr.cell? ⟨w.heap.size, 1, none⟩ = some (.slice (some ⟨r, off, none⟩) ts.length cap) := by
       rw [hb.cell (p := ⟨w.heap.size, 1, none⟩) (by simp)]; simp
      have hbw : Below w.heap.size w wr := (Z5 w _).trans (hb.mono (by omega))
      have hl1 := HL.out k
      have hsz1 := Xj (Z22 ts k)
      by_cases hlt : k < ts.length
      · obtain ⟨cs, g1, g2⟩ := FVs.get Jw h6 h5 k hlt
        obtain ⟨p, pn, pc, rfl⟩ := g1.node
        have e0 : wr.cell? ⟨r, off + k * 2, none⟩ = some (.string (bs (Z1 ts[k]))) := by rw [hbw.cell (by exact hrlt)]; exact g2 0 _ rfl
        have e1 : wr.cell? ⟨r, off + k * 2 + 1, none⟩ = some (.slice p pn pc) := by rw [hbw.cell (by exact hrlt)]; exact g2 1 _ rfl
        have hdk : ts[k].depth < n := by have := Xd hlt; omega
        have hbk := Qc hlt
        have hwk := Qq HW.out hlt
        have htl := Xu _ hwk
        have hsz2 := Xj ts[k].text
        have HS := H_ (preS_succ ts k hlt)
        have g1' := H_ (g1.below hbw hok)
        have hsz' := hbw.size
        simp only [Tr.bytes] at hbk
        have hbk2 : ts[k].text.length ≤ 100000000000 := by omega
        have hwk := H_ hwk
        have C : Hid (Calls prog 31 #[.agg #[.string (bs (Z1 ts[k])), .slice p pn pc]] wr fun e w' => e = .returned (.string (bs ts[k].text)) ∧ Below wr.heap.size wr w') :=
         H_ (HI.out ts[k] (nS ts[k] (.slice p pn pc)) ok _ hdk hwk.out (by omega) g1'.out (fun j hj => Nat.lt_of_lt_of_le (hok j hj) hsz'))
        clear htl hbk
        by_cases hk0 : k = 0
        · subst hk0
          simp only [Nat.zero_mul, Nat.add_zero] at e0 e1
          go_wp2_with (go_at_call 31; go_must (refine C.out.mono ?_; rintro e w' ⟨rfl, hb2⟩))
          go_roundw
          case rel => exact ⟨1, by omega, by go_num, by rw [HS.out, if_pos trivial, Ja], hb.trans (hb2.mono (by have := hb.size; simp at this; omega))⟩
          case measure => simp [intOf]; omega
        · have hkp : (0 : Int) < k := by omega
          go_wp2_with (go_at_call 31; go_must (refine C.out.mono ?_; rintro e w' ⟨rfl, hb2⟩))
          go_roundw
          case rel => exact ⟨k + 1, by omega, by go_num, by rw [HS.out, if_neg hk0, ← Ja, ← Ja]; rfl, hb.trans (hb2.mono (by have := hb.size; simp at this; omega))⟩
          case measure => simp [intOf]; omega
      · have : k = ts.length := by omega
        subst this
        go_wp2_with fail
        go_ret
        exact ⟨by rw [← preS_end, ← Ja]; rfl, hbw⟩
theorem Tryz.infoStr : (prog.info? 9).map (fun i => (i.zero, i.size, i.bytes)) = some (some (.string ⟨#[]⟩), 1, 16) := by kernel_rfl
def partsOf (l : List UInt8) : Option (List (List UInt8)) :=
 match Yt l with
 | some (.list ts) => some (ts.map Tr.text)
 | _ => none
def PartsPost (B : Nat) (r : Option (List (List UInt8))) (e : Ending) (w' : World) : Prop :=
 ∃ v, e = .returned (.tuple #[v, .bool r.isSome]) ∧ w'.ownsRow B 9 1 v (r.getD []).length ((r.getD []).map Y2)
theorem Vq {w : World} {base B : Nat} {e : TypeId} {size : Nat} {v : Value} {n : Nat} {xs : List Value} (h : w.ownsRow base e size v n xs) (hB : B ≤ base) : w.ownsRow B e size v n xs := by
 refine ⟨h.1, ?_⟩
 rcases h.2 with h2 | ⟨g, cap, cur, hv, hb, hr⟩
 · exact .inl h2
 · exact .inr ⟨g, cap, cur, hv, by omega, hr⟩
theorem hasS_c (v : Value) (l : List (List UInt8)) (a : List UInt8) (w : World) (h : Yh w v l) :
 Calls prog 99 #[v, .string (bs a)] w fun e w' => e = .returned (.bool (decide (a ∈ l))) ∧ w' = w := by
 obtain ⟨p, c, rfl, h1, h2⟩ := h
 by_cases hz : l = []
 · subst hz
   clear h2
   go_enter func99, ntmps99
   go_wp2_with fail
   refine wp_loop_rounds 1 ?_
   rw [rounds_succ]
   go_wp2_with fail
   go_ret
   exact ⟨Zg (by simp), rfl⟩
 · obtain ⟨r, off, rfl, h3⟩ := h2 hz
   obtain ⟨F, hF⟩ : ∃ F, F = decide (a ∈ l) := ⟨_, rfl⟩
   rw [← hF]
   have HF := H_ hF
   clear h2 hF
   go_enter func99, ntmps99
   go_wp2_with fail
   go_loop [5] (fun i => ∃ k : Nat, k ≤ l.length ∧ i = .int .i64 k ∧ Hid (a ∉ l.take k)) (fun i => l.length - (intOf i).toNat)
   case atStart => exact ⟨0, Nat.zero_le _, rfl, H_ (by simp)⟩
   case round =>
    obtain ⟨k, hk, rfl, hno⟩ := hrel
    by_cases hlt : k < l.length
    · have c1 : w.cell? ⟨r, off + k, none⟩ = some (.string (bs l[k])) := Yh.cell h3 hlt
      have hk0 : (0 : Int) ≤ (k : Int) := by omega
      by_cases hx : l[k] = a
      · have hx2 : ((bs l[k]).toList == (bs a).toList) = true := by rw [Za, Za]; simpa using hx
        have hx3 : (bs l[k]).toList = (bs a).toList := by rw [Za, Za]; exact hx
        have HX := H_ hx
        obtain ⟨s, hs⟩ : ∃ s, s = bs l[k] := ⟨_, rfl⟩
        rw [← hs] at c1 hx2 hx3
        clear hx hs
        go_wp2_with fail
        go_ret
        exact ⟨Zg (by rw [HF.out]; symm; rw [decide_eq_true_eq, ← HX.out]; exact List.getElem_mem hlt), rfl⟩
      · have hx2 : ((bs l[k]).toList == (bs a).toList) = false := by rw [Za, Za]; simpa using hx
        have hx3 : ¬ (bs l[k]).toList = (bs a).toList := by rw [Za, Za]; exact hx
        have HX := H_ hx
        obtain ⟨s, hs⟩ : ∃ s, s = bs l[k] := ⟨_, rfl⟩
        rw [← hs] at c1 hx2 hx3
        clear hx hs
        go_wp2_with fail
        exact ⟨⟨k + 1, by omega, by go_num, H_ (by rw [List.take_succ_eq_append_getElem hlt]; simp only [List.mem_append, List.mem_singleton, not_or]; exact ⟨hno.out, fun e => HX.out e.symm⟩)⟩, by simp [intOf]; omega⟩
    · have : k = l.length := by omega
      subst this
      have hn := hno.out
      rw [List.take_length] at hn
      have HN := H_ hn
      clear hn
      go_wp2_with fail
      go_ret
      exact ⟨Zg (by rw [HF.out]; simp [HN.out]), rfl⟩
def Z0o (B N : Nat) (v : Value) (l' : List (List UInt8)) (w : World) (e : Ending) (w' : World) : Prop :=
 ∃ v', e = .returned v' ∧ w'.ownsRow B 9 1 v' l'.length (l'.map Y2) ∧ w.grownBy w' v.ownBlock ∧ (v'.ownBlock = v.ownBlock ∨ ∀ q, v'.ownBlock = some q → N ≤ q)
def AtS (n : Nat) : Prop := ∀ (t : Tr) (cs : List Value) (B : Nat) (l : List (List UInt8)) (v : Value) (w : World), t.depth < n → t.wf → l.length + t.size ≤ 1000000 → FV nS w (fun k => k < B) t cs → B ≤ w.heap.size → w.ownsRow B 9 1 v l.length (l.map Y2) →
    Calls prog 124 #[.agg cs.toArray, v] w fun e w' => Z0o B w.heap.size v (Vi t l) w e w'
theorem Yb {w : World} {B : Nat} {v : Value} {l : List (List UInt8)} (h : w.ownsRow B 9 1 v l.length (l.map Y2)) (hl : l.length ≤ 9223372036854775807) : Yh w v l := by
 rcases h.2 with ⟨rfl, h0⟩ | ⟨g, cap, cur, rfl, hb, hg, h1, h2, h3, h4⟩
 · exact ⟨none, 0, by rw [h0], hl, fun hne => absurd (List.eq_nil_of_length_eq_zero h0) hne⟩
 · exact ⟨_, cap, rfl, hl, fun _ => ⟨g, 0, rfl, X0 h⟩⟩
theorem Kk {w : World} (o : Obj) (row : Option Nat) : w.grownBy (w.alloc o) row := World.grownBy_alloc w o row
theorem Z1i {a b c : World} {row : Option Nat} (h : a.grownBy b row) (k : b.grownBy c row) : a.grownBy c row :=
 ⟨k.os.trans h.os, k.tape.trans h.tape, k.output.trans h.output, Nat.le_trans h.size k.size, fun i hi hne => (k.block i (Nat.lt_of_lt_of_le hi h.size) hne).trans (h.block i hi hne)⟩
theorem gB_next {a b c : World} {v v' : Value} (h : a.grownBy b v.ownBlock) (hv : v'.ownBlock = v.ownBlock ∨ ∀ q, v'.ownBlock = some q → a.heap.size ≤ q) (k : b.grownBy c v'.ownBlock) : a.grownBy c v.ownBlock :=
 ⟨k.os.trans h.os, k.tape.trans h.tape, k.output.trans h.output, Nat.le_trans h.size k.size, fun i hi hne => (k.block i (Nat.lt_of_lt_of_le hi h.size) (by
   rcases hv with hv | hv
   · rw [hv]; exact hne
   · intro e; have := hv i e.symm; omega)).trans (h.block i hi hne)⟩
theorem addA_yes {l : List (List UInt8)} {a : List UInt8} (h : a ∈ l) : Jq l a = l := by rw [Jq, if_pos h]
theorem addA_no {l : List (List UInt8)} {a : List UInt8} (h : a ∉ l) : Jq l a = l ++ [a] := by rw [Jq, if_neg h]
end Go.Proofs.YtjaaalojcdbcpaaGreatDoor
