/- The reference model: bare, simple and normal expressions. -/
import Derived.Test.YtjfjlfhckfoehaaGreatDoorNf1
import Derived.Test.YtjfjlfhckfoehaaGreatDoorPureM
import Derived.Test.YtjfjlfhckfoehaaGreatDoorViews
import Derived.Test.YtjfjlfhckfoehaaGreatDoorSpec2c
import Derived.Test.YtjfjlfhckfoehaaGreatDoorNumS
namespace Go.Proofs.YtjfjlfhckfoehaaGreatDoor
open Go.RowKit
set_option maxRecDepth 8000
set_option linter.unusedSimpArgs false
set_option linter.unusedVariables false
theorem nf_parsed {l : List UInt8} {t : Tr} (h : parseE l = some t) : ∃ x, readEx l = some x ∧ t = formOf x ∧ good x ∧ t.wf ∧ t.bytes ≤ 12000 := by
  obtain ⟨x, hx1, hx2⟩ := readEx_asEx' h
  have hg := parse_got (parseE_got h).1
  exact ⟨x, hx1, (formOf_eq _ _ hx2).symm, good_of hx2, hg.1, hg.2.1⟩
theorem emptyne2 : (bs []).toList.isEmpty = true := by simp [bs_toList]
theorem atomne2 {a : List UInt8} (h : a ≠ []) : (bs a).toList.isEmpty = false := by simp [bs_toList, h]
theorem l4Head_list (h : List UInt8) (r off L c : Nat) (w : World) (hrlt : r < w.heap.size) (hL : 1 ≤ L) (hc : L ≤ c) (hc2 : c ≤ maxLen) (e0 : w.cell? ⟨r, off, none⟩ = some (.string (bs h))) :
    Calls Tryz.prog 81 #[.agg #[.string (bs []), .slice (some ⟨r, off, none⟩) L c]] w fun e w' => e = .returned (.string (bs h)) ∧ Below w.heap.size w w' := by
  have hm := maxLen_le hc2
  have hemp := emptyne
  have hl0 : ((L : Int) == 0) = false := by simp; omega
  have hl1 : ¬ (L : Int) = 0 := by omega
  generalize bs h = H at *
  go_enter Tryz.func81, Tryz.ntmps81
  go_wp2_with fail
  go_ret
  exact ⟨rfl, below1 _ _⟩
theorem l4Head_atom (a : List UInt8) (ha0 : a ≠ []) (p : Value) (w : World) :
    Calls Tryz.prog 81 #[.agg #[.string (bs a), .slice none 0 0]] w fun e w' => e = .returned (.string (bs [])) ∧ Below w.heap.size w w' := by
  have ha := atomne ha0
  generalize bs a = A at *
  go_enter Tryz.func81, Tryz.ntmps81
  go_wp2_with fail
  go_ret
  exact ⟨rfl, below1 _ _⟩
def IsS5 (x : Ex) : Prop := ∀ (cs : List Value) (ok : Nat → Prop) (w : World), (formOf x).wf → (formOf x).bytes ≤ 12000 → good x → FV nS w ok (formOf x) cs → (∀ k, ok k → k < w.heap.size) →
    Calls Tryz.prog 73 #[.agg cs.toArray] w fun e w' => e = .returned (.bool (nrm false x)) ∧ Below w.heap.size w w'
def InS5 (x : Ex) : Prop := ∀ (cs : List Value) (ok : Nat → Prop) (w : World), (formOf x).wf → (formOf x).bytes ≤ 12000 → good x → FV nS w ok (formOf x) cs → (∀ k, ok k → k < w.heap.size) →
    Calls Tryz.prog 75 #[.agg cs.toArray] w fun e w' => e = .returned (.bool (nrm true x)) ∧ Below w.heap.size w w'
theorem bare_atom {x : Ex} (h : bareB x = true) (hw : (formOf x).wf) : atomOf (formOf x) ≠ [] := by
  cases x <;> first | (simp [bareB] at h; done) | (simp only [formOf, Tr.wf, atomOf] at *; exact hw.1)
theorem bare_list {x : Ex} (h : bareB x = false) : atomOf (formOf x) = [] := by
  cases x <;> first | (simp [bareB] at h; done) | rfl
theorem l5Simple_atom (a : List UInt8) (ha0 : a ≠ []) (w : World) :
    Calls Tryz.prog 73 #[.agg #[.string (bs a), .slice none 0 0]] w fun e w' => e = .returned (.bool true) ∧ Below w.heap.size w w' := by
  have ha := atomne ha0
  generalize bs a = A at *
  go_enter Tryz.func73, Tryz.ntmps73
  go_wp2_with fail
  go_ret
  exact ⟨rfl, below1 _ _⟩
set_option maxHeartbeats 1000000 in
theorem l5Simple_plain1 (h : List UInt8) (r off c : Nat) (w : World) (hrlt : r < w.heap.size) (hc : 2 ≤ c) (hc2 : c ≤ maxLen) (e0 : w.cell? ⟨r, off, none⟩ = some (.string (bs h))) (sa : List UInt8) (va : Bool) (hva0 : va = true → sa ≠ []) (hva1 : va = false → sa = []) (e1 : w.cell? ⟨r, off + 2, none⟩ = some (.string (bs sa))) (h_let : h ≠ [108, 101, 116]) (h_fun : h ≠ [102, 117, 110]) (h_if : h ≠ [105, 102]) :
    Calls Tryz.prog 73 #[.agg #[.string (bs []), .slice (some ⟨r, off, none⟩) 2 c]] w fun e w' => e = .returned (.bool (va)) ∧ Below w.heap.size w w' := by
  have hm := maxLen_le hc2
  have hemp := emptyne
  have hemp2 := emptyne2
  have hx_let : ((bs h).toList == [108, 101, 116]) = false := by rw [bs_toList]; simpa using h_let
  have hy_let : ¬ (bs h).toList = [108, 101, 116] := by rw [bs_toList]; exact h_let
  have hx_fun : ((bs h).toList == [102, 117, 110]) = false := by rw [bs_toList]; simpa using h_fun
  have hy_fun : ¬ (bs h).toList = [102, 117, 110] := by rw [bs_toList]; exact h_fun
  have hx_if : ((bs h).toList == [105, 102]) = false := by rw [bs_toList]; simpa using h_if
  have hy_if : ¬ (bs h).toList = [105, 102] := by rw [bs_toList]; exact h_if
  clear h_let h_fun h_if
  generalize bs h = H at *
  cases va with
  | false =>
    obtain rfl := hva1 rfl
    go_enter Tryz.func73, Tryz.ntmps73
    go_wp2_with fail
    refine wp_loop_rounds 2 ?_
    rw [rounds_succ]
    go_wp2_with fail
    go_ret
    exact ⟨ret_bool rfl, below1 _ _⟩
  | true =>
    have hn0 := atomne (hva0 rfl)
    have hq0 := atomne2 (hva0 rfl)
    clear hva0 hva1
    generalize bs sa = A0 at *
    go_enter Tryz.func73, Tryz.ntmps73
    go_wp2_with fail
    refine wp_loop_rounds 2 ?_
    rw [rounds_succ]
    go_wp2_with fail
    rw [rounds_succ]
    go_wp2_with fail
    go_ret
    exact ⟨ret_bool rfl, below1 _ _⟩
set_option maxHeartbeats 1000000 in
theorem l5Simple_plain2 (h : List UInt8) (r off c : Nat) (w : World) (hrlt : r < w.heap.size) (hc : 3 ≤ c) (hc2 : c ≤ maxLen) (e0 : w.cell? ⟨r, off, none⟩ = some (.string (bs h))) (sa : List UInt8) (va : Bool) (hva0 : va = true → sa ≠ []) (hva1 : va = false → sa = []) (e1 : w.cell? ⟨r, off + 2, none⟩ = some (.string (bs sa))) (sc : List UInt8) (vc : Bool) (hvc0 : vc = true → sc ≠ []) (hvc1 : vc = false → sc = []) (e2 : w.cell? ⟨r, off + 4, none⟩ = some (.string (bs sc))) (h_let : h ≠ [108, 101, 116]) (h_fun : h ≠ [102, 117, 110]) (h_if : h ≠ [105, 102]) :
    Calls Tryz.prog 73 #[.agg #[.string (bs []), .slice (some ⟨r, off, none⟩) 3 c]] w fun e w' => e = .returned (.bool (va && vc)) ∧ Below w.heap.size w w' := by
  have hm := maxLen_le hc2
  have hemp := emptyne
  have hemp2 := emptyne2
  have hx_let : ((bs h).toList == [108, 101, 116]) = false := by rw [bs_toList]; simpa using h_let
  have hy_let : ¬ (bs h).toList = [108, 101, 116] := by rw [bs_toList]; exact h_let
  have hx_fun : ((bs h).toList == [102, 117, 110]) = false := by rw [bs_toList]; simpa using h_fun
  have hy_fun : ¬ (bs h).toList = [102, 117, 110] := by rw [bs_toList]; exact h_fun
  have hx_if : ((bs h).toList == [105, 102]) = false := by rw [bs_toList]; simpa using h_if
  have hy_if : ¬ (bs h).toList = [105, 102] := by rw [bs_toList]; exact h_if
  clear h_let h_fun h_if
  generalize bs h = H at *
  cases va with
  | false =>
    obtain rfl := hva1 rfl
    go_enter Tryz.func73, Tryz.ntmps73
    go_wp2_with fail
    refine wp_loop_rounds 3 ?_
    rw [rounds_succ]
    go_wp2_with fail
    go_ret
    exact ⟨ret_bool rfl, below1 _ _⟩
  | true =>
    have hn0 := atomne (hva0 rfl)
    have hq0 := atomne2 (hva0 rfl)
    clear hva0 hva1
    generalize bs sa = A0 at *
    cases vc with
    | false =>
      obtain rfl := hvc1 rfl
      go_enter Tryz.func73, Tryz.ntmps73
      go_wp2_with fail
      refine wp_loop_rounds 3 ?_
      rw [rounds_succ]
      go_wp2_with fail
      rw [rounds_succ]
      go_wp2_with fail
      go_ret
      exact ⟨ret_bool rfl, below1 _ _⟩
    | true =>
      have hn1 := atomne (hvc0 rfl)
      have hq1 := atomne2 (hvc0 rfl)
      clear hvc0 hvc1
      generalize bs sc = A1 at *
      go_enter Tryz.func73, Tryz.ntmps73
      go_wp2_with fail
      refine wp_loop_rounds 3 ?_
      rw [rounds_succ]
      go_wp2_with fail
      rw [rounds_succ]
      go_wp2_with fail
      rw [rounds_succ]
      go_wp2_with fail
      go_ret
      exact ⟨ret_bool rfl, below1 _ _⟩
theorem l5Simple_let (x : Nm) (a b : Ex) : IsS5 (.lete x a b) := by
  intro cs ok w hwf hby hg hv hok
  obtain ⟨r, off, c, px, mx, cx, pa, ma, ca, pb, mb, cb, rfl, h2, h3, h4, e0, hx, ha, hb⟩ := view_lete hv
  have hrlt := hok r h2
  have hm := maxLen_le h4
  have hemp := emptyne
  have hx_let : ((bs kLet).toList == [108, 101, 116]) = true := by rw [bs_toList]; rfl
  have hy_let : (bs kLet).toList = [108, 101, 116] := by rw [bs_toList]; rfl
  clear hx ha hb hv hwf hby hg
  rw [show nrm false (.lete x a b) = false from rfl]
  generalize bs kLet = H at *
  simp only [List.toArray]
  go_enter Tryz.func73, Tryz.ntmps73
  go_wp2_with fail
  go_ret
  exact ⟨ret_bool rfl, below1 _ _⟩
set_option maxHeartbeats 1000000 in
theorem l5Simple_fun (f x : Nm) (A B : Tr) (a : Ex) (ih : InS5 a) : IsS5 (.func f x A B a) := by
  intro cs ok w hwf hby hg hv hok
  obtain ⟨r, off, c, pf, mf, cf, px, mx, cx, pA, mA, cA, pB, mB, cB, pa, ma, ca, rfl, h2, h3, h4, e0, hf, hx, hA, hB, ha⟩ := view_func hv
  have hrlt := hok r h2
  have hm := maxLen_le h4
  have hemp := emptyne
  have ga := ((good_func f x A B a).1 hg).2
  simp only [formOf, Tr.wf, wfs, Tr.bytes, bytess] at hwf hby
  have CA : Hid (∀ W, Below w.heap.size w W → Calls Tryz.prog 75 #[.agg #[.string (bs (atomOf (formOf a))), .slice pa ma ca]] W fun e w' => e = .returned (.bool (nrm true a)) ∧ Below W.heap.size W w') := Lib.hid (fun W hW => ih (nS (formOf a) (.slice pa ma ca)) ok W hwf.2.2.2.2.2.2.1 (by omega) ga (ha.2.2.below hW hok) (size_of_hok hok hW))
  have a0 := ha.1
  have a1 := ha.2.1
  have hx_let : ((bs kFun).toList == [108, 101, 116]) = false := by rw [bs_toList]; rfl
  have hy_let : ¬ (bs kFun).toList = [108, 101, 116] := by rw [bs_toList]; decide
  have hx_fun : ((bs kFun).toList == [102, 117, 110]) = true := by rw [bs_toList]; rfl
  have hy_fun : (bs kFun).toList = [102, 117, 110] := by rw [bs_toList]; rfl
  rw [show nrm false (.func f x A B a) = nrm true a from rfl]
  generalize bs (atomOf (formOf a)) = sa at *
  generalize bs kFun = H at *
  generalize nrm true a = R at *
  clear ih hv hf hx hA hB ha hg ga hwf hby
  simp only [List.toArray]
  go_enter Tryz.func73, Tryz.ntmps73
  go_wp2_with (go_at_call 75; go_must (refine (CA.out _ (below1 _ _)).mono ?_; rintro e w5 ⟨rfl, hb5⟩))
  go_ret
  exact ⟨ret_bool rfl, (below1 _ _).trans (hb5.mono (by simp))⟩
set_option maxHeartbeats 1000000 in
theorem l5Simple_cond (a b d : Ex) (ihb : InS5 b) (ihd : InS5 d) : IsS5 (.cond a b d) := by
  intro cs ok w hwf hby hg hv hok
  obtain ⟨r, off, c, pa, ma, ca, pb, mb, cb, pd, md, cd, rfl, h2, h3, h4, e0, ha, hb, hd⟩ := view_cond hv
  have hrlt := hok r h2
  have hm := maxLen_le h4
  have hemp := emptyne
  obtain ⟨ga, gb, gd⟩ := (good_cond a b d).1 hg
  simp only [formOf, Tr.wf, wfs, Tr.bytes, bytess] at hwf hby
  have CB : Hid (∀ W, Below w.heap.size w W → Calls Tryz.prog 75 #[.agg #[.string (bs (atomOf (formOf b))), .slice pb mb cb]] W fun e w' => e = .returned (.bool (nrm true b)) ∧ Below W.heap.size W w') := Lib.hid (fun W hW => ihb (nS (formOf b) (.slice pb mb cb)) ok W hwf.2.2.2.1 (by omega) gb (hb.2.2.below hW hok) (size_of_hok hok hW))
  have CD : Hid (∀ W, Below w.heap.size w W → Calls Tryz.prog 75 #[.agg #[.string (bs (atomOf (formOf d))), .slice pd md cd]] W fun e w' => e = .returned (.bool (nrm true d)) ∧ Below W.heap.size W w') := Lib.hid (fun W hW => ihd (nS (formOf d) (.slice pd md cd)) ok W hwf.2.2.2.2.1 (by omega) gd (hd.2.2.below hW hok) (size_of_hok hok hW))
  have a0 := ha.1
  have b0 := hb.1
  have b1 := hb.2.1
  have d0 := hd.1
  have d1 := hd.2.1
  have HA0 : Hid (bareB a = true → atomOf (formOf a) ≠ []) := Lib.hid (fun h => bare_atom h hwf.2.2.1)
  have HA1 : Hid (bareB a = false → atomOf (formOf a) = []) := Lib.hid bare_list
  have hx_let : ((bs kIf).toList == [108, 101, 116]) = false := by rw [bs_toList]; rfl
  have hy_let : ¬ (bs kIf).toList = [108, 101, 116] := by rw [bs_toList]; decide
  have hx_fun : ((bs kIf).toList == [102, 117, 110]) = false := by rw [bs_toList]; rfl
  have hy_fun : ¬ (bs kIf).toList = [102, 117, 110] := by rw [bs_toList]; decide
  have hx_if : ((bs kIf).toList == [105, 102]) = true := by rw [bs_toList]; rfl
  have hy_if : (bs kIf).toList = [105, 102] := by rw [bs_toList]; rfl
  have X0 := heap_alloc_new w (.cells #[.string (bs []), .slice (some ⟨r, off, none⟩) 4 c] 52)
  have HSL := Lib.hid (below1 w (.cells #[.string (bs []), .slice (some ⟨r, off, none⟩) 4 c] 52))
  rw [show nrm false (.cond a b d) = (bareB a && nrm true b && nrm true d) from rfl]
  generalize atomOf (formOf a) = la at *
  generalize bs (atomOf (formOf b)) = sb at *
  generalize bs (atomOf (formOf d)) = sd at *
  generalize bs kIf = H at *
  generalize nrm true b = Rb at *
  generalize nrm true d = Rd at *
  clear ihb ihd hv ha hb hd hg ga gb gd hwf hby
  simp only [List.toArray]
  cases hva : bareB a with
  | false =>
    obtain rfl := HA1.out hva
    clear HA0 HA1 hva
    go_enter Tryz.func73, Tryz.ntmps73
    go_wp2_with fail
    go_ret
    exact ⟨ret_bool rfl, below1 _ _⟩
  | true =>
    have ha := atomne (HA0.out hva)
    clear HA0 HA1 hva
    generalize bs la = sa at *
    cases Rb with
    | false =>
      go_enter Tryz.func73, Tryz.ntmps73
      go_wp2_with (go_at_call_of 75 sb; go_must (refine (CB.out _ HSL.out).mono ?_; rintro e w5 ⟨rfl, hb5⟩))
      go_ret
      exact ⟨ret_bool rfl, HSL.out.trans (hb5.mono HSL.out.size)⟩
    | true =>
      go_enter Tryz.func73, Tryz.ntmps73
      go_wp2_with (first | (go_at_call_of 75 sb; go_must (refine (CB.out _ HSL.out).mono ?_; rintro e w5 ⟨rfl, hb5⟩; have HB5 := Lib.hid (HSL.out.trans (hb5.mono HSL.out.size)); have x5 := cell_of (j := 1) (below_blk hb5 (lt_of_block X0) X0); have k0 := (HB5.out.cell (p := ⟨r, off + 6, none⟩) hrlt).trans d0; have k1 := (HB5.out.cell (p := ⟨r, off + 6 + 1, none⟩) hrlt).trans d1)) | (go_at_call_of 75 sd; go_must (refine (CD.out _ HB5.out).mono ?_; rintro e w6 ⟨rfl, hb6⟩)))
      go_ret
      exact ⟨ret_bool rfl, HB5.out.trans (hb6.mono HB5.out.size)⟩
theorem l5Simple_one (o : Op1) (a : Ex) : IsS5 (.one o a) := by
  intro cs ok w hwf hby hg hv hok
  obtain ⟨r, off, c, pa, ma, ca, rfl, h2, h3, h4, e0, ha⟩ := view_one hv
  simp only [formOf, Tr.wf, wfs, Tr.bytes, bytess] at hwf hby
  exact l5Simple_plain1 (op1N o) r off c w (hok r h2) h3 h4 e0 (atomOf (formOf a)) (bareB a) (fun h => bare_atom h hwf.2.2.1) bare_list ha.1 (by cases o <;> decide) (by cases o <;> decide) (by cases o <;> decide)
theorem l5Simple_two (o : Op2) (a b : Ex) : IsS5 (.two o a b) := by
  intro cs ok w hwf hby hg hv hok
  obtain ⟨r, off, c, pa, ma, ca, pb, mb, cb, rfl, h2, h3, h4, e0, ha, hb⟩ := view_two hv
  simp only [formOf, Tr.wf, wfs, Tr.bytes, bytess] at hwf hby
  exact l5Simple_plain2 (op2N o) r off c w (hok r h2) h3 h4 e0 (atomOf (formOf a)) (bareB a) (fun h => bare_atom h hwf.2.2.1) bare_list ha.1 (atomOf (formOf b)) (bareB b) (fun h => bare_atom h hwf.2.2.2.1) bare_list hb.1 (by cases o <;> decide) (by cases o <;> decide) (by cases o <;> decide)
theorem isS5_step (n : Nat) (ih : ∀ y, manyE y < n → InS5 y) : ∀ x, manyE x < n + 1 → IsS5 x
  | .name s, _ => fun cs ok w hwf hby hg hv hok => by
    simp only [formOf, FV] at hv
    subst hv
    simp only [formOf, Tr.wf] at hwf
    exact l5Simple_atom s hwf.1 w
  | .num n, _ => fun cs ok w hwf hby hg hv hok => by
    simp only [formOf, FV] at hv
    subst hv
    simp only [formOf, Tr.wf] at hwf
    exact l5Simple_atom _ hwf.1 w
  | .two o a b, _ => l5Simple_two o a b
  | .one o a, _ => l5Simple_one o a
  | .cond a b d, h => l5Simple_cond a b d (ih b (by simp only [manyE] at h; omega)) (ih d (by simp only [manyE] at h; omega))
  | .lete x a b, _ => l5Simple_let x a b
  | .func f x A B a, h => l5Simple_fun f x A B a (ih a (by simp only [manyE] at h; omega))
theorem l4Head_of (y : Ex) (P : Value) (ok : Nat → Prop) (w : World) (hn : notLet y) (hwf : (formOf y).wf) (hv : FV nS w ok (formOf y) (nS (formOf y) P)) (hok : ∀ k, ok k → k < w.heap.size) :
    ∃ H : ByteArray, (H.toList == [108, 101, 116]) = false ∧ (¬ H.toList = [108, 101, 116]) ∧ ∀ W, Below w.heap.size w W → Calls Tryz.prog 81 #[.agg #[.string (bs (atomOf (formOf y))), P]] W fun e w' => e = .returned (.string H) ∧ Below W.heap.size W w' := by
  cases y with
  | name s =>
    simp only [formOf, FV] at hv
    have hP := nS_inj _ _ _ hv
    subst hP
    simp only [formOf, Tr.wf] at hwf
    exact ⟨bs [], by simp [bs_toList], by simp [bs_toList], fun W _ => l4Head_atom s hwf.1 .nilIface W⟩
  | num m =>
    simp only [formOf, FV] at hv
    have hP := nS_inj _ _ _ hv
    subst hP
    simp only [formOf, Tr.wf] at hwf
    exact ⟨bs [], by simp [bs_toList], by simp [bs_toList], fun W _ => l4Head_atom _ hwf.1 .nilIface W⟩
  | two o a b =>
    obtain ⟨r, off, c, pa, ma, ca, pb, mb, cb, hcs, h2, h3, h4, e0, ha, hb⟩ := view_two hv
    simp only [nS, formOf, atomOf, List.cons.injEq] at hcs
    obtain ⟨-, rfl, -⟩ := hcs
    exact ⟨bs (op2N o), by rw [bs_toList]; cases o <;> rfl, by rw [bs_toList]; cases o <;> decide, fun W hW => l4Head_list _ r off 3 c W (Nat.lt_of_lt_of_le (hok r h2) hW.size) (by omega) h3 h4 ((hW.cell (p := ⟨r, off, none⟩) (hok r h2)).trans e0)⟩
  | one o a =>
    obtain ⟨r, off, c, pa, ma, ca, hcs, h2, h3, h4, e0, ha⟩ := view_one hv
    simp only [nS, formOf, atomOf, List.cons.injEq] at hcs
    obtain ⟨-, rfl, -⟩ := hcs
    exact ⟨bs (op1N o), by rw [bs_toList]; cases o <;> rfl, by rw [bs_toList]; cases o <;> decide, fun W hW => l4Head_list _ r off 2 c W (Nat.lt_of_lt_of_le (hok r h2) hW.size) (by omega) h3 h4 ((hW.cell (p := ⟨r, off, none⟩) (hok r h2)).trans e0)⟩
  | cond a b d =>
    obtain ⟨r, off, c, pa, ma, ca, pb, mb, cb, pd, md, cd, hcs, h2, h3, h4, e0, ha, hb, hd⟩ := view_cond hv
    simp only [nS, formOf, atomOf, List.cons.injEq] at hcs
    obtain ⟨-, rfl, -⟩ := hcs
    exact ⟨bs kIf, by rw [bs_toList]; rfl, by rw [bs_toList]; decide, fun W hW => l4Head_list _ r off 4 c W (Nat.lt_of_lt_of_le (hok r h2) hW.size) (by omega) h3 h4 ((hW.cell (p := ⟨r, off, none⟩) (hok r h2)).trans e0)⟩
  | lete x a b => exact hn.elim
  | func f x A B e =>
    obtain ⟨r, off, c, pf, mf, cf, px, mx, cx, pA, mA, cA, pB, mB, cB, pe, me, ce, hcs, h2, h3, h4, e0, hf, hx, hA, hB, he⟩ := view_func hv
    simp only [nS, formOf, atomOf, List.cons.injEq] at hcs
    obtain ⟨-, rfl, -⟩ := hcs
    exact ⟨bs kFun, by rw [bs_toList]; rfl, by rw [bs_toList]; decide, fun W hW => l4Head_list _ r off 6 c W (Nat.lt_of_lt_of_le (hok r h2) hW.size) (by omega) h3 h4 ((hW.cell (p := ⟨r, off, none⟩) (hok r h2)).trans e0)⟩
structure NlInv (n : Nat) (X : Bool) (ok : Nat → Prop) (w : World) (q : Nat) (y : Ex) (p : Option Addr) (m c : Nat) (wr : World) : Prop where
  many : manyE y ≤ q
  small : manyE y < n
  same : nrm true y = X
  good : good y
  wf : (formOf y).wf
  bytes : (formOf y).bytes ≤ 12000
  fv : FV nS wr ok (formOf y) (nS (formOf y) (.slice p m c))
  below : Below w.heap.size w wr
theorem many_pos (x : Ex) : 1 ≤ manyE x := by cases x <;> simp only [manyE] <;> omega
set_option maxHeartbeats 2000000 in
theorem inS5_step (n : Nat) (ih : ∀ y, manyE y < n → IsS5 y) (x : Ex) (hn : manyE x < n) : InS5 x := by
  intro cs ok w hwf hby hg hv hok
  obtain ⟨p0, m0, k0, rfl⟩ := hv.node
  obtain ⟨X, hX⟩ : ∃ X, X = nrm true x := ⟨_, rfl⟩
  rw [← hX]
  show Calls Tryz.prog 75 #[.agg #[.string (bs (atomOf (formOf x))), .slice p0 m0 k0]] w fun e w' => e = .returned (.bool X) ∧ Below w.heap.size w w'
  have HI : Hid (NlInv n X ok w (manyE x) x p0 m0 k0 (w.alloc (.cells #[.string (bs (atomOf (formOf x))), .slice p0 m0 k0] 52))) := Lib.hid ⟨Nat.le_refl _, hn, hX.symm, hg, hwf, hby, hv.below (below1 w _) hok, below1 w _⟩
  have X0 := heap_alloc_new w (.cells #[.string (bs (atomOf (formOf x))), .slice p0 m0 k0] 52)
  generalize hM : manyE x = M at *
  clear hX hn hwf hby hg hv hM
  go_enter Tryz.func75, Tryz.ntmps75
  go_wp2_with fail
  go_loopg [2] M (fun q v wr => v = .bool false ∧ ∃ (y : Ex) (p : Option Addr) (m c : Nat), Hid (NlInv n X ok w q y p m c wr) ∧ wr.heap[w.heap.size]? = some (.cells #[.string (bs (atomOf (formOf y))), .slice p m c] 52 (0, 0)))
  case atStart => exact ⟨rfl, x, p0, m0, k0, HI, X0⟩
  case round =>
    obtain ⟨rfl, y, p, m, c, hI, hblk⟩ := hrel
    clear HI X0
    have c0 := cell_of (j := 0) hblk
    have c1 := cell_of (j := 1) hblk
    have f0 := free_of (j := 0) hblk
    have f1 := free_of (j := 1) hblk
    have hokr : ∀ k, ok k → k < wr.heap.size := fun k hk => Nat.lt_of_lt_of_le (hok k hk) hI.out.below.size
    have CS := Lib.hid (fun (W : World) (hW : Below wr.heap.size wr W) => ih y hI.out.small (nS (formOf y) (.slice p m c)) ok W hI.out.wf hI.out.bytes hI.out.good (hI.out.fv.below hW hokr) (fun k hk => Nat.lt_of_lt_of_le (hokr k hk) hW.size))
    have hb0 := hI.out.below
    have hw0 := hb0.size
    by_cases hl : notLet y
    · obtain ⟨H, hx, hy, CH⟩ := l4Head_of y (.slice p m c) ok wr hl hI.out.wf hI.out.fv hokr
      have CH := Lib.hid CH
      have hR : nrm false y = X := by rw [← nrm_any hl true]; exact hI.out.same
      unfold Hid at CS
      rw [hR] at CS
      have CS := Lib.hid CS
      simp only [nS, List.toArray] at CS
      generalize bs (atomOf (formOf y)) = S at *
      clear hI hl hR
      go_wp2_with (first | (go_at_call 81; go_must (refine (CH.out _ (Below.refl _ _)).mono ?_; rintro e w2 ⟨rfl, hb2⟩; have y2 := below_blk hb2 (lt_of_block hblk) hblk; have d0 := cell_of (j := 0) y2; have d1 := cell_of (j := 1) y2)) | (go_at_call 73; go_must (refine (CS.out _ hb2).mono ?_; rintro e w3 ⟨rfl, hb3⟩)))
      go_ret
      exact ⟨rfl, (nextB (nextB (firstB hb0) (hb2)) hb3).1⟩
    · obtain ⟨s, a, b, rfl⟩ : ∃ s a b, y = .lete s a b := by cases y <;> first | exact absurd trivial hl | exact ⟨_, _, _, rfl⟩
      clear CS hl
      obtain ⟨r, off, k, px, mx, cx, pa, ma, ca, pb, mb, cb, hcs, h2, h3, h4, e0, hx, ha, hb⟩ := view_lete hI.out.fv
      simp only [nS, formOf, atomOf, List.cons.injEq, Value.slice.injEq] at hcs
      obtain ⟨-, ⟨rfl, rfl, rfl⟩, -⟩ := hcs
      have hrlt := hokr r h2
      have hr0 := hok r h2
      obtain ⟨gs, ga, gb⟩ := (good_lete s a b).1 hI.out.good
      have hwf := hI.out.wf
      have hby := hI.out.bytes
      simp only [formOf, Tr.wf, wfs, Tr.bytes, bytess] at hwf hby
      have hmy := hI.out.many
      have hms := hI.out.small
      simp only [manyE] at hmy hms
      have hsame := hI.out.same
      have CH : Hid (∀ W, Below wr.heap.size wr W → Calls Tryz.prog 81 #[.agg #[.string (bs []), .slice (some ⟨r, off, none⟩) 4 c]] W fun e w' => e = .returned (.string (bs kLet)) ∧ Below W.heap.size W w') := Lib.hid (fun W hW => l4Head_list kLet r off 4 c W (Nat.lt_of_lt_of_le hrlt hW.size) (by omega) h3 h4 ((hW.cell (p := ⟨r, off, none⟩) hrlt).trans e0))
      have CA : Hid (∀ W, Below wr.heap.size wr W → Calls Tryz.prog 73 #[.agg #[.string (bs (atomOf (formOf a))), .slice pa ma ca]] W fun e w' => e = .returned (.bool (nrm false a)) ∧ Below W.heap.size W w') := Lib.hid (fun W hW => ih a (by omega) (nS (formOf a) (.slice pa ma ca)) ok W hwf.2.2.2.1 (by omega) ga (ha.2.2.below hW hokr) (fun k hk => Nat.lt_of_lt_of_le (hokr k hk) hW.size))
      have hemp := emptyne
      have hxl : ((bs kLet).toList == [108, 101, 116]) = true := by rw [bs_toList]; rfl
      have hyl : (bs kLet).toList = [108, 101, 116] := by rw [bs_toList]; rfl
      have a0 := ha.1
      have a1 := ha.2.1
      have b0 := hb.1
      have b1 := hb.2.1
      have hvb := Lib.hid hb.2.2
      have hwb := hwf.2.2.2.2.1
      have hbb : (formOf b).bytes ≤ 12000 := by omega
      have hmb : manyE b ≤ gk - 1 := by omega
      have hmb2 : manyE b < n := by omega
      have hgk : 0 < gk := by omega
      have HB0 := Lib.hid hb0
      have hmc := maxLen_le h4
      clear hI hwf hby hmy hms hx ha hb e0 ga gs
      simp only [formOf, atomOf] at hblk c0 c1
      generalize bs kLet = K at *
      generalize hSa : bs (atomOf (formOf a)) = Sa at *
      obtain ⟨Sb, hSb⟩ : ∃ Sb, Sb = bs (atomOf (formOf b)) := ⟨_, rfl⟩
      rw [← hSb] at b0
      have HSb := Lib.hid hSb
      clear hSb hSa
      cases hva : nrm false a with
      | false =>
        rw [hva] at CA
        have HX : Hid (X = false) := Lib.hid (by rw [← hsame]; simp only [nrm, hva, Bool.true_and, Bool.false_and])
        clear hsame hva
        go_wp2_with (first | (go_at_call 81; go_must (refine (CH.out _ (Below.refl _ _)).mono ?_; rintro e w2 ⟨rfl, hb2⟩; have y2 := below_blk hb2 (lt_of_block hblk) hblk; have d0 := cell_of (j := 0) y2; have d1 := cell_of (j := 1) y2; have x0 := (hb2.cell (p := ⟨r, off + 4, none⟩) hrlt).trans a0; have x1 := (hb2.cell (p := ⟨r, off + 4 + 1, none⟩) hrlt).trans a1)) | (go_at_call 73; go_must (refine (CA.out _ hb2).mono ?_; rintro e w3 ⟨rfl, hb3⟩)))
        go_ret
        exact ⟨ret_bool (by rw [HX.out]), (nextB (nextB (firstB HB0.out) hb2) hb3).1⟩
      | true =>
        rw [hva] at CA
        have HX : Hid (nrm true b = X) := Lib.hid (by rw [← hsame]; simp only [nrm, hva, Bool.true_and])
        clear hsame hva
        go_wp2_with (first | (go_at_call 81; go_must (refine (CH.out _ (Below.refl _ _)).mono ?_; rintro e w2 ⟨rfl, hb2⟩; have y2 := below_blk hb2 (lt_of_block hblk) hblk; have d0 := cell_of (j := 0) y2; have d1 := cell_of (j := 1) y2; have x0 := (hb2.cell (p := ⟨r, off + 4, none⟩) hrlt).trans a0; have x1 := (hb2.cell (p := ⟨r, off + 4 + 1, none⟩) hrlt).trans a1)) | (go_at_call 73; go_must (refine (CA.out _ hb2).mono ?_; rintro e w3 ⟨rfl, hb3⟩; have hb23 := hb2.trans (hb3.mono hb2.size); have y3 := below_blk hb23 (lt_of_block hblk) hblk; have d0 := cell_of (j := 0) y3; have d1 := cell_of (j := 1) y3; have g0 := free_of (j := 0) y3; have g1 := free_of (j := 1) y3; have z0 := (hb23.cell (p := ⟨r, off + 6, none⟩) hrlt).trans b0; have z1 := (hb23.cell (p := ⟨r, off + 6 + 1, none⟩) hrlt).trans b1; have hrw : r ≠ w.heap.size := by omega)))
        go_roundg (gk - 1)
        case measure => omega
        case rel =>
          have hb3' := HB0.out.trans (hb23.mono HB0.out.size)
          refine ⟨rfl, b, pb, mb, cb, Lib.hid ⟨hmb, hmb2, HX.out, gb, hwb, hbb, ?_, ?_⟩, ?_⟩
          · exact FV.move (fun k hk => hk) (fun k hk => by have h := hok k hk; rw [blk_set_other _ (show k ≠ w.heap.size by omega), blk_set_other _ (show k ≠ w.heap.size by omega)]) _ _ (hvb.out.below hb23 hokr)
          · exact (hb3'.setCell (by simp) _).setCell (by simp) _
          · rw [← HSb.out]
            have kk := blk_set (j := 1) (blk_set (j := 0) y3 (.string Sb)) (.slice pb mb cb)
            simpa using kk
theorem in5_all : ∀ n x, manyE x < n → IsS5 x ∧ InS5 x
  | 0, x, h => by omega
  | n + 1, x, h => by
    have i1 : ∀ y, manyE y < n → InS5 y := fun y hy => (in5_all n y hy).2
    have i2 : ∀ y, manyE y < n + 1 → IsS5 y := isS5_step n i1
    exact ⟨i2 x h, inS5_step (n + 1) i2 x h⟩
set_option maxHeartbeats 1000000 in
theorem specSimpleIs_c (s : ByteArray) (hs : s.size ≤ 1048576) (w : World) :
    Calls Tryz.prog 28 #[.string s] w fun e w' => e = .returned (.bool (nrmOf false s.data.toList)) ∧ Below w.heap.size w w' := by
  cases hp : parseE s.data.toList with
  | none =>
    have C := Lib.hid (l2Parse_none hs hp)
    rw [nrmOf_none (readEx_none2 hp)]
    clear hp
    go_enter Tryz.func28, Tryz.ntmps28
    go_wp2_with (go_at_call 60; go_must (refine (C.out _).mono ?_; rintro e w1 ⟨⟨a, p, m, c, rfl, hnl⟩, hb1⟩))
    go_ret
    exact ⟨rfl, hb1.alloc hb1.size _⟩
  | some t =>
    have C := Lib.hid (l2Parse_some hs hp)
    obtain ⟨x, hx1, rfl, hg, hwf, hby⟩ := nf_parsed hp
    rw [nrmOf_some hx1]
    have CC : Hid (∀ (w1 W : World) (B : Nat) p m c, FV nS w1 (fun k => B ≤ k ∧ k < w1.heap.size) (formOf x) (nS (formOf x) (.slice p m c)) → Below w1.heap.size w1 W → Calls Tryz.prog 73 #[.agg #[.string (bs (atomOf (formOf x))), .slice p m c]] W fun e w' => e = .returned (.bool (nrm false x)) ∧ Below W.heap.size W w') := Lib.hid (fun w1 W B p m c hv hW =>
      (in5_all (manyE x + 1) x (by omega)).1 (nS (formOf x) (.slice p m c)) _ W hwf hby hg (hv.below hW (fun k hk => hk.2)) (fun k hk => Nat.lt_of_lt_of_le hk.2 hW.size))
    generalize nrm false x = M at *
    clear hp hg hwf hby hx1
    go_enter Tryz.func28, Tryz.ntmps28
    go_wp2_with (first | (go_at_call 60; go_must (refine (C.out _).mono ?_; rintro e w1 ⟨⟨p, m, c, rfl, hv⟩, hb1⟩)) | (go_at_call 73; go_must (refine (CC.out _ _ _ _ _ _ hv (below1 _ _)).mono ?_; rintro e w3 ⟨rfl, hb3⟩)))
    go_ret
    exact ⟨rfl, (hb1.alloc hb1.size _).trans (hb3.mono (by have := hb1.size; simp; omega))⟩
set_option maxHeartbeats 1000000 in
theorem specNormalIs_b (s : ByteArray) (hs : s.size ≤ 1048576) (w : World) :
    Calls Tryz.prog 30 #[.string s] w fun e w' => e = .returned (.bool (nrmOf true s.data.toList)) ∧ Below w.heap.size w w' := by
  cases hp : parseE s.data.toList with
  | none =>
    have C := Lib.hid (l2Parse_none hs hp)
    rw [nrmOf_none (readEx_none2 hp)]
    clear hp
    go_enter Tryz.func30, Tryz.ntmps30
    go_wp2_with (go_at_call 60; go_must (refine (C.out _).mono ?_; rintro e w1 ⟨⟨a, p, m, c, rfl, hnl⟩, hb1⟩))
    go_ret
    exact ⟨rfl, hb1.alloc hb1.size _⟩
  | some t =>
    have C := Lib.hid (l2Parse_some hs hp)
    obtain ⟨x, hx1, rfl, hg, hwf, hby⟩ := nf_parsed hp
    rw [nrmOf_some hx1]
    have CC : Hid (∀ (w1 W : World) (B : Nat) p m c, FV nS w1 (fun k => B ≤ k ∧ k < w1.heap.size) (formOf x) (nS (formOf x) (.slice p m c)) → Below w1.heap.size w1 W → Calls Tryz.prog 75 #[.agg #[.string (bs (atomOf (formOf x))), .slice p m c]] W fun e w' => e = .returned (.bool (nrm true x)) ∧ Below W.heap.size W w') := Lib.hid (fun w1 W B p m c hv hW =>
      (in5_all (manyE x + 1) x (by omega)).2 (nS (formOf x) (.slice p m c)) _ W hwf hby hg (hv.below hW (fun k hk => hk.2)) (fun k hk => Nat.lt_of_lt_of_le hk.2 hW.size))
    generalize nrm true x = M at *
    clear hp hg hwf hby hx1
    go_enter Tryz.func30, Tryz.ntmps30
    go_wp2_with (first | (go_at_call 60; go_must (refine (C.out _).mono ?_; rintro e w1 ⟨⟨p, m, c, rfl, hv⟩, hb1⟩)) | (go_at_call 75; go_must (refine (CC.out _ _ _ _ _ _ hv (below1 _ _)).mono ?_; rintro e w3 ⟨rfl, hb3⟩)))
    go_ret
    exact ⟨rfl, (hb1.alloc hb1.size _).trans (hb3.mono (by have := hb1.size; simp; omega))⟩
end Go.Proofs.YtjfjlfhckfoehaaGreatDoor
