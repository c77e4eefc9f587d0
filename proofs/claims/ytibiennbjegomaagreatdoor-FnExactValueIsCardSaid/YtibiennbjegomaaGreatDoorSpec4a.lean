/- The reference model: values. -/
import Derived.Test.YtibiennbjegomaaGreatDoorViews
import Derived.Test.YtibiennbjegomaaGreatDoorSpec2h
namespace Go.Proofs.YtibiennbjegomaaGreatDoor
open Go.RowKit
set_option maxRecDepth 8000
set_option linter.unusedSimpArgs false
set_option linter.unusedVariables false
def IsS (x : Ex) : Prop := ∀ (cs : List Value) (ok : Nat → Prop) (w : World), (formOf x).wf → (formOf x).bytes ≤ 12000 → good x → FV nS w ok (formOf x) cs → (∀ k, ok k → k < w.heap.size) →
    Calls Tryz.prog 44 #[.agg cs.toArray] w fun e w' => e = .returned (.bool (valB x)) ∧ Below w.heap.size w w'
theorem l4Is_atom (a : List UInt8) (v : Bool) (ha0 : a ≠ []) (hal : a.length ≤ 1048576) (hv : isNm a = !v) (w : World) :
    Calls Tryz.prog 44 #[.agg #[.string (bs a), .slice none 0 0]] w fun e w' => e = .returned (.bool v) ∧ Below w.heap.size w w' := by
  have ha := atomne ha0
  have CN : Hid (∀ W, Calls Tryz.prog 36 #[.string (bs a)] W fun e w' => e = .returned (.bool (!v)) ∧ w' = W) := Lib.hid (fun W => by rw [← hv]; exact l2Name_bs a hal W)
  clear hv
  generalize bs a = A at *
  go_enter Tryz.func44, Tryz.ntmps44
  go_wp2_with (go_at_call 36; go_must (refine (CN.out _).mono ?_; rintro e w1 ⟨rfl, rfl⟩))
  go_ret
  exact ⟨ret_bool (by simp), below1 _ _⟩
/-- A head that is not 'pair': whether it is 'fun' decides. -/
theorem l4Is_head (h : List UInt8) (r off L c : Nat) (w : World) (hrlt : r < w.heap.size) (hL : 1 ≤ L) (hL2 : L ≤ 6) (hc : L ≤ c) (hc2 : c ≤ maxLen) (e0 : w.cell? ⟨r, off, none⟩ = some (.string (bs h))) (hp : h ≠ [112, 97, 105, 114]) :
    Calls Tryz.prog 44 #[.agg #[.string (bs []), .slice (some ⟨r, off, none⟩) L c]] w fun e w' => e = .returned (.bool (decide (h = kFun))) ∧ Below w.heap.size w w' := by
  have hm := maxLen_le hc2
  have hemp := emptyne
  have hx2 : ((bs h).toList == [112, 97, 105, 114]) = false := by rw [bs_toList]; simpa using hp
  have hx3 : ¬ (bs h).toList = [112, 97, 105, 114] := by rw [bs_toList]; exact hp
  by_cases hf : h = kFun
  · have hy2 : ((bs h).toList == [102, 117, 110]) = true := by rw [bs_toList]; simpa [kFun] using hf
    have hy3 : (bs h).toList = [102, 117, 110] := by rw [bs_toList]; exact hf
    have HF := Lib.hid (show decide (h = kFun) = true by simpa using hf)
    clear hf hp
    generalize bs h = H at *
    go_enter Tryz.func44, Tryz.ntmps44
    go_wp2_with fail
    go_ret
    exact ⟨ret_bool (by rw [HF.out]), below1 _ _⟩
  · have hy2 : ((bs h).toList == [102, 117, 110]) = false := by rw [bs_toList]; simpa [kFun] using hf
    have hy3 : ¬ (bs h).toList = [102, 117, 110] := by rw [bs_toList]; exact hf
    have HF := Lib.hid (show decide (h = kFun) = false by simpa using hf)
    clear hf hp
    generalize bs h = H at *
    go_enter Tryz.func44, Tryz.ntmps44
    go_wp2_with fail
    go_ret
    exact ⟨ret_bool (by rw [HF.out]), below1 _ _⟩
set_option maxHeartbeats 1000000 in
theorem l4Is_pair (a b : Ex) (iha : IsS a) (ihb : IsS b) : IsS (.two .pair a b) := by
  intro cs ok w hwf hby hg hv hok
  obtain ⟨r, off, c, pa, ma, ca, pb, mb, cb, rfl, h2, h3, h4, e0, ha, hb⟩ := view_two hv
  have hrlt := hok r h2
  have hm := maxLen_le h4
  have hemp := emptyne
  obtain ⟨ga, gb⟩ := (good_two _ a b).1 hg
  simp only [formOf, Tr.wf, wfs, Tr.bytes, bytess] at hwf hby
  have CA : Hid (∀ W, Below w.heap.size w W → Calls Tryz.prog 44 #[.agg #[.string (bs (atomOf (formOf a))), .slice pa ma ca]] W fun e w' => e = .returned (.bool (valB a)) ∧ Below W.heap.size W w') := Lib.hid (fun W hW => iha (nS (formOf a) (.slice pa ma ca)) ok W hwf.2.2.1 (by omega) ga (ha.2.2.below hW hok) (size_of_hok hok hW))
  have CB : Hid (∀ W, Below w.heap.size w W → Calls Tryz.prog 44 #[.agg #[.string (bs (atomOf (formOf b))), .slice pb mb cb]] W fun e w' => e = .returned (.bool (valB b)) ∧ Below W.heap.size W w') := Lib.hid (fun W hW => ihb (nS (formOf b) (.slice pb mb cb)) ok W hwf.2.2.2.1 (by omega) gb (hb.2.2.below hW hok) (size_of_hok hok hW))
  have a0 := ha.1
  have a1 := ha.2.1
  have b0 := hb.1
  have b1 := hb.2.1
  have hx2 : ((bs (op2N .pair)).toList == [112, 97, 105, 114]) = true := by rw [bs_toList]; rfl
  have hx3 : (bs (op2N .pair)).toList = [112, 97, 105, 114] := by rw [bs_toList]; rfl
  have HSL := Lib.hid (below1 w (.cells #[.string (bs []), .slice (some ⟨r, off, none⟩) 3 c] 34))
  have X0 := heap_alloc_new w (.cells #[.string (bs []), .slice (some ⟨r, off, none⟩) 3 c] 34)
  rw [show valB (.two .pair a b) = (valB a && valB b) from rfl]
  generalize bs (atomOf (formOf a)) = sa at *
  generalize bs (atomOf (formOf b)) = sb at *
  generalize bs (op2N .pair) = sh at *
  clear iha ihb hv ha hb hg ga gb hwf hby
  simp only [List.toArray]
  cases hva : valB a with
  | false =>
    rw [hva] at CA
    go_enter Tryz.func44, Tryz.ntmps44
    go_wp2_with (go_at_call 44; go_must (refine (CA.out _ HSL.out).mono ?_; rintro e w5 ⟨rfl, hb5⟩))
    go_ret
    exact ⟨ret_bool rfl, HSL.out.trans (hb5.mono HSL.out.size)⟩
  | true =>
    rw [hva] at CA
    go_enter Tryz.func44, Tryz.ntmps44
    go_wp2_with (first | (go_at_call_of 44 sa; go_must (refine (CA.out _ HSL.out).mono ?_; rintro e w5 ⟨rfl, hb5⟩; have HB5 := Lib.hid (HSL.out.trans (hb5.mono HSL.out.size)); have x5 := cell_of (j := 1) (below_blk hb5 (lt_of_block X0) X0); have k0 := (HB5.out.cell (p := ⟨r, off + 4, none⟩) hrlt).trans b0; have k1 := (HB5.out.cell (p := ⟨r, off + 4 + 1, none⟩) hrlt).trans b1)) | (go_at_call_of 44 sb; go_must (refine (CB.out _ HB5.out).mono ?_; rintro e w6 ⟨rfl, hb6⟩)))
    go_ret
    exact ⟨ret_bool rfl, HB5.out.trans (hb6.mono HB5.out.size)⟩
theorem l4Is_not {x : Ex} (h : ∀ (cs : List Value) (ok : Nat → Prop) (w : World), (formOf x).wf → FV nS w ok (formOf x) cs → (∀ k, ok k → k < w.heap.size) → ∃ hd r off L c, cs = [.string (bs []), .slice (some ⟨r, off, none⟩) L c] ∧ r < w.heap.size ∧ 1 ≤ L ∧ L ≤ 6 ∧ L ≤ c ∧ c ≤ maxLen ∧ w.cell? ⟨r, off, none⟩ = some (.string (bs hd)) ∧ hd ≠ [112, 97, 105, 114] ∧ decide (hd = kFun) = valB x) : IsS x := by
  intro cs ok w hwf hby hg hv hok
  obtain ⟨hd, r, off, L, c, rfl, h1, h2, h3, h4, h5, h6, h7, h8⟩ := h cs ok w hwf hv hok
  rw [← h8]
  exact l4Is_head hd r off L c w h1 h2 h3 h4 h5 h6 h7
theorem l4Is_two (o : Op2) (a b : Ex) (ho : o ≠ .pair) : IsS (.two o a b) := l4Is_not (fun cs ok w hwf hv hok => by
  obtain ⟨r, off, c, pa, ma, ca, pb, mb, cb, rfl, h2, h3, h4, e0, ha, hb⟩ := view_two hv
  exact ⟨_, r, off, 3, c, rfl, hok r h2, by omega, by omega, h3, h4, e0, by cases o <;> first | decide | exact absurd rfl ho, by cases o <;> first | rfl | exact absurd rfl ho⟩)
theorem l4Is_one (o : Op1) (a : Ex) : IsS (.one o a) := l4Is_not (fun cs ok w hwf hv hok => by
  obtain ⟨r, off, c, pa, ma, ca, rfl, h2, h3, h4, e0, ha⟩ := view_one hv
  exact ⟨_, r, off, 2, c, rfl, hok r h2, by omega, by omega, h3, h4, e0, by cases o <;> decide, by cases o <;> rfl⟩)
theorem l4Is_cond (a b d : Ex) : IsS (.cond a b d) := l4Is_not (fun cs ok w hwf hv hok => by
  obtain ⟨r, off, c, pa, ma, ca, pb, mb, cb, pd, md, cd, rfl, h2, h3, h4, e0, ha, hb, hd⟩ := view_cond hv
  exact ⟨_, r, off, 4, c, rfl, hok r h2, by omega, by omega, h3, h4, e0, by decide, rfl⟩)
theorem l4Is_lete (x : Nm) (a b : Ex) : IsS (.lete x a b) := l4Is_not (fun cs ok w hwf hv hok => by
  obtain ⟨r, off, c, px, mx, cx, pa, ma, ca, pb, mb, cb, rfl, h2, h3, h4, e0, hx, ha, hb⟩ := view_lete hv
  exact ⟨_, r, off, 4, c, rfl, hok r h2, by omega, by omega, h3, h4, e0, by decide, rfl⟩)
theorem l4Is_func (f x : Nm) (A B : Tr) (e : Ex) : IsS (.func f x A B e) := l4Is_not (fun cs ok w hwf hv hok => by
  obtain ⟨r, off, c, pf, mf, cf, px, mx, cx, pA, mA, cA, pB, mB, cB, pe, me, ce, rfl, h2, h3, h4, e0, hf, hx, hA, hB, he⟩ := view_func hv
  exact ⟨_, r, off, 6, c, rfl, hok r h2, by omega, by omega, h3, h4, e0, by decide, rfl⟩)
theorem l4Is_all : ∀ x : Ex, IsS x
  | .name s => fun cs ok w hwf hby hg hv hok => by
    simp only [formOf, FV] at hv
    subst hv
    simp only [formOf, Tr.wf, Tr.bytes] at hwf hby
    exact l4Is_atom s false hwf.1 (by omega) (by rw [good_nm hg]; rfl) w
  | .num n => fun cs ok w hwf hby hg hv hok => by
    simp only [formOf, FV] at hv
    subst hv
    simp only [formOf, Tr.wf, Tr.bytes] at hwf hby
    exact l4Is_atom _ true hwf.1 (by omega) (by rw [(good_num hg).1]; rfl) w
  | .two .pair a b => l4Is_pair a b (l4Is_all a) (l4Is_all b)
  | .two .add a b => l4Is_two _ a b (by decide)
  | .two .sub a b => l4Is_two _ a b (by decide)
  | .two .mul a b => l4Is_two _ a b (by decide)
  | .two .call a b => l4Is_two _ a b (by decide)
  | .one o a => l4Is_one o a
  | .cond a b d => l4Is_cond a b d
  | .lete x a b => l4Is_lete x a b
  | .func f x A B e => l4Is_func f x A B e
/-- A form that was read: its expression, in letters. -/
theorem parsed {l : List UInt8} {t : Tr} (h : parseE l = some t) : ∃ x, readEx l = some x ∧ t = formOf x ∧ good x ∧ t.wf ∧ t.bytes ≤ 12000 := by
  obtain ⟨x, hx1, hx2⟩ := readEx_asEx' h
  have hg := parse_got (parseE_got h).1
  exact ⟨x, hx1, (formOf_eq _ _ hx2).symm, good_of hx2, hg.1, hg.2.1⟩
set_option maxHeartbeats 1000000 in
theorem specValueIs_c (s : ByteArray) (hs : s.size ≤ 1048576) (w : World) :
    Calls Tryz.prog 18 #[.string s] w fun e w' => e = .returned (.bool (valOf s.data.toList)) ∧ Below w.heap.size w w' := by
  have CC := Lib.hid (specExprClosed_c s hs)
  cases hp : parseE s.data.toList with
  | none =>
    have C := Lib.hid (l2Parse_none hs hp)
    have HR := Lib.hid (show valOf s.data.toList = false from valOf_none (by rw [readCl_none (readEx_none2 hp)]))
    rw [HR.out]
    clear hp
    go_enter Tryz.func18, Tryz.ntmps18
    go_wp2_with (go_at_call 30; go_must (refine (C.out _).mono ?_; rintro e w1 ⟨⟨a, p, m, c, rfl, hnl⟩, hb1⟩))
    go_ret
    exact ⟨rfl, hb1.alloc hb1.size _⟩
  | some t =>
    have C := Lib.hid (l2Parse_some hs hp)
    obtain ⟨x, hx1, rfl, hg, hwf, hby⟩ := parsed hp
    by_cases hf : freeP x = []
    · have hc : readCl s.data.toList = some x := readCl_some hx1 hf
      have HR := Lib.hid (valOf_some hc)
      rw [HR.out]
      rw [hc] at CC
      have CI : Hid (∀ (w1 W : World) (B : Nat) p m c, FV nS w1 (fun k => B ≤ k ∧ k < w1.heap.size) (formOf x) (nS (formOf x) (.slice p m c)) → Below w1.heap.size w1 W → Calls Tryz.prog 44 #[.agg #[.string (bs (atomOf (formOf x))), .slice p m c]] W fun e w' => e = .returned (.bool (valB x)) ∧ Below W.heap.size W w') := Lib.hid (fun w1 W B p m c hv hW =>
        l4Is_all x (nS (formOf x) (.slice p m c)) _ W hwf hby hg (hv.below hW (fun k hk => hk.2)) (fun k hk => Nat.lt_of_lt_of_le hk.2 hW.size))
      clear hp hx1 hf hc hg hwf hby
      go_enter Tryz.func18, Tryz.ntmps18
      go_wp2_with (first | (go_at_call 30; go_must (refine (C.out _).mono ?_; rintro e w1 ⟨⟨p, m, c, rfl, hv⟩, hb1⟩; have h1 := below1 w1 (.cells #[.string (bs (atomOf (formOf x))), .slice p m c] 34); have HB1 := Lib.hid (hb1.alloc hb1.size (.cells #[.string (bs (atomOf (formOf x))), .slice p m c] 34)); have X0 := heap_alloc_new w1 (.cells #[.string (bs (atomOf (formOf x))), .slice p m c] 34))) | (go_at_call 37; go_must (refine (CC.out _).mono ?_; rintro e w2 ⟨rfl, hb2⟩; have X2 := below_blk hb2 (lt_of_block X0) X0; have c0 := cell_of (j := 0) X2; have c1 := cell_of (j := 1) X2; have h2 := h1.trans (hb2.mono h1.size))) | (go_at_call 44; go_must (refine (CI.out _ _ _ _ _ _ hv h2).mono ?_; rintro e w3 ⟨rfl, hb3⟩)))
      go_ret
      exact ⟨rfl, (nextB (nextB (firstB HB1.out) hb2) hb3).1⟩
    · have hc : readCl s.data.toList = none := readCl_no hx1 hf
      have HR := Lib.hid (valOf_none hc)
      rw [HR.out]
      rw [hc] at CC
      clear hp hx1 hf hc hg hwf hby
      go_enter Tryz.func18, Tryz.ntmps18
      go_wp2_with (first | (go_at_call 30; go_must (refine (C.out _).mono ?_; rintro e w1 ⟨⟨p, m, c, rfl, hv⟩, hb1⟩; have HB1 := Lib.hid (hb1.alloc hb1.size (.cells #[.string (bs (atomOf (formOf x))), .slice p m c] 34)))) | (go_at_call 37; go_must (refine (CC.out _).mono ?_; rintro e w2 ⟨rfl, hb2⟩)))
      go_ret
      exact ⟨rfl, (nextB (firstB HB1.out) hb2).1⟩
end Go.Proofs.YtibiennbjegomaaGreatDoor
