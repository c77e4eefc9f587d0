/- The program: bare, simple and normal expressions. -/
import Derived.Test.YtjfjlfhckfoehaaGreatDoorNf1
import Derived.Test.YtjfjlfhckfoehaaGreatDoorImpl2i
import Derived.Test.YtjfjlfhckfoehaaGreatDoorAsserts
namespace Go.Proofs.YtjfjlfhckfoehaaGreatDoor
open Go.RowKit
set_option maxRecDepth 8000
set_option linter.unusedSimpArgs false
set_option linter.unusedVariables false
def IbC (x : Ex) : Prop := ∀ (v : Value) (ok : Nat → Prop) (w : World), EV w ok x v → (∀ k, ok k → k < w.heap.size) →
    Calls Tryz.prog 178 #[v] w fun e w' => e = .returned (.bool (bareB x)) ∧ Below w.heap.size w w'
def IsC5 (x : Ex) : Prop := ∀ (v : Value) (ok : Nat → Prop) (w : World), EV w ok x v → (∀ k, ok k → k < w.heap.size) →
    Calls Tryz.prog 123 #[v] w fun e w' => e = .returned (.bool (nrm false x)) ∧ Below w.heap.size w w'
def InC5 (x : Ex) : Prop := ∀ (v : Value) (ok : Nat → Prop) (w : World), EV w ok x v → (∀ k, ok k → k < w.heap.size) →
    Calls Tryz.prog 124 #[v] w fun e w' => e = .returned (.bool (nrm true x)) ∧ Below w.heap.size w w'
theorem ib_name (s : Nm) : IbC (.name s) := by
  intro v ok w hv hok
  simp only [EV] at hv
  subst hv
  go_enter Tryz.func178, Tryz.ntmps178
  go_wp2_with fail
  go_ret
  exact ⟨rfl, by first | exact Below.refl _ _ | exact below1 _ _ | exact below2 _ _ _⟩
theorem ib_num (n : Int) : IbC (.num n) := by
  intro v ok w hv hok
  simp only [EV] at hv
  subst hv
  go_enter Tryz.func178, Tryz.ntmps178
  go_wp2_with fail
  go_ret
  exact ⟨rfl, by first | exact Below.refl _ _ | exact below1 _ _ | exact below2 _ _ _⟩
theorem ib_add (a c : Ex) : IbC (.two .add a c) := by
  intro v ok w hv hok
  simp only [EV] at hv
  obtain ⟨x, y, rfl, hx, hy⟩ := hv
  obtain ⟨Tx, ux, rfl⟩ := hx.iface
  obtain ⟨Ty, uy, rfl⟩ := hy.iface
  try simp only [op2T, op1T]
  clear hx hy
  go_enter Tryz.func178, Tryz.ntmps178
  go_wp2_with fail
  go_ret
  exact ⟨rfl, by first | exact Below.refl _ _ | exact below1 _ _ | exact below2 _ _ _⟩
theorem ib_sub (a c : Ex) : IbC (.two .sub a c) := by
  intro v ok w hv hok
  simp only [EV] at hv
  obtain ⟨x, y, rfl, hx, hy⟩ := hv
  obtain ⟨Tx, ux, rfl⟩ := hx.iface
  obtain ⟨Ty, uy, rfl⟩ := hy.iface
  try simp only [op2T, op1T]
  clear hx hy
  go_enter Tryz.func178, Tryz.ntmps178
  go_wp2_with fail
  go_ret
  exact ⟨rfl, by first | exact Below.refl _ _ | exact below1 _ _ | exact below2 _ _ _⟩
theorem ib_mul (a c : Ex) : IbC (.two .mul a c) := by
  intro v ok w hv hok
  simp only [EV] at hv
  obtain ⟨x, y, rfl, hx, hy⟩ := hv
  obtain ⟨Tx, ux, rfl⟩ := hx.iface
  obtain ⟨Ty, uy, rfl⟩ := hy.iface
  try simp only [op2T, op1T]
  clear hx hy
  go_enter Tryz.func178, Tryz.ntmps178
  go_wp2_with fail
  go_ret
  exact ⟨rfl, by first | exact Below.refl _ _ | exact below1 _ _ | exact below2 _ _ _⟩
theorem ib_call (a c : Ex) : IbC (.two .call a c) := by
  intro v ok w hv hok
  simp only [EV] at hv
  obtain ⟨x, y, rfl, hx, hy⟩ := hv
  obtain ⟨Tx, ux, rfl⟩ := hx.iface
  obtain ⟨Ty, uy, rfl⟩ := hy.iface
  try simp only [op2T, op1T]
  clear hx hy
  go_enter Tryz.func178, Tryz.ntmps178
  go_wp2_with fail
  go_ret
  exact ⟨rfl, by first | exact Below.refl _ _ | exact below1 _ _ | exact below2 _ _ _⟩
theorem ib_pair (a c : Ex) : IbC (.two .pair a c) := by
  intro v ok w hv hok
  simp only [EV] at hv
  obtain ⟨x, y, rfl, hx, hy⟩ := hv
  obtain ⟨Tx, ux, rfl⟩ := hx.iface
  obtain ⟨Ty, uy, rfl⟩ := hy.iface
  try simp only [op2T, op1T]
  clear hx hy
  go_enter Tryz.func178, Tryz.ntmps178
  go_wp2_with fail
  go_ret
  exact ⟨rfl, by first | exact Below.refl _ _ | exact below1 _ _ | exact below2 _ _ _⟩
theorem ib_fst (a : Ex) : IbC (.one .fst a) := by
  intro v ok w hv hok
  simp only [EV] at hv
  obtain ⟨x, rfl, hx⟩ := hv
  obtain ⟨Tx, ux, rfl⟩ := hx.iface
  try simp only [op2T, op1T]
  clear hx
  go_enter Tryz.func178, Tryz.ntmps178
  go_wp2_with fail
  go_ret
  exact ⟨rfl, by first | exact Below.refl _ _ | exact below1 _ _ | exact below2 _ _ _⟩
theorem ib_snd (a : Ex) : IbC (.one .snd a) := by
  intro v ok w hv hok
  simp only [EV] at hv
  obtain ⟨x, rfl, hx⟩ := hv
  obtain ⟨Tx, ux, rfl⟩ := hx.iface
  try simp only [op2T, op1T]
  clear hx
  go_enter Tryz.func178, Tryz.ntmps178
  go_wp2_with fail
  go_ret
  exact ⟨rfl, by first | exact Below.refl _ _ | exact below1 _ _ | exact below2 _ _ _⟩
theorem ib_cond (a c d : Ex) : IbC (.cond a c d) := by
  intro v ok w hv hok
  simp only [EV] at hv
  obtain ⟨x, y, z, rfl, hx, hy, hz⟩ := hv
  obtain ⟨Tx, ux, rfl⟩ := hx.iface
  obtain ⟨Ty, uy, rfl⟩ := hy.iface
  obtain ⟨Tz, uz, rfl⟩ := hz.iface
  try simp only [op2T, op1T]
  clear hx hy hz
  go_enter Tryz.func178, Tryz.ntmps178
  go_wp2_with fail
  go_ret
  exact ⟨rfl, by first | exact Below.refl _ _ | exact below1 _ _ | exact below2 _ _ _⟩
theorem ib_lete (s : Nm) (a c : Ex) : IbC (.lete s a c) := by
  intro v ok w hv hok
  simp only [EV] at hv
  obtain ⟨x, y, rfl, hx, hy⟩ := hv
  obtain ⟨Tx, ux, rfl⟩ := hx.iface
  obtain ⟨Ty, uy, rfl⟩ := hy.iface
  try simp only [op2T, op1T]
  clear hx hy
  go_enter Tryz.func178, Tryz.ntmps178
  go_wp2_with fail
  go_ret
  exact ⟨rfl, by first | exact Below.refl _ _ | exact below1 _ _ | exact below2 _ _ _⟩
theorem ib_func (f s : Nm) (A B : Tr) (a : Ex) : IbC (.func f s A B a) := by
  intro v ok w hv hok
  simp only [EV] at hv
  obtain ⟨pa, na, ca, pb, nb, cb, x, rfl, hA, hB, hx⟩ := hv
  obtain ⟨Tx, ux, rfl⟩ := hx.iface
  obtain ⟨la, lb, lc, ld, -, -, -, -, hnA⟩ := nI_named A
  obtain ⟨ma, mb, mc, md, -, -, -, -, hnB⟩ := nI_named B
  rw [hnA, hnB]
  simp only [List.cons_append, List.nil_append]
  clear hA hB hnA hnB
  try simp only [op2T, op1T]
  clear hx
  go_enter Tryz.func178, Tryz.ntmps178
  go_wp2_with fail
  go_ret
  exact ⟨rfl, by first | exact Below.refl _ _ | exact below1 _ _ | exact below2 _ _ _⟩
theorem ib_all : ∀ x : Ex, IbC x
  | .name s => ib_name s
  | .num n => ib_num n
  | .two .add a c => ib_add a c
  | .two .sub a c => ib_sub a c
  | .two .mul a c => ib_mul a c
  | .two .call a c => ib_call a c
  | .two .pair a c => ib_pair a c
  | .one .fst a => ib_fst a
  | .one .snd a => ib_snd a
  | .cond a c d => ib_cond a c d
  | .lete s a c => ib_lete s a c
  | .func f s A B a => ib_func f s A B a
theorem is_name (s : Nm) : IsC5 (.name s) := by
  intro v ok w hv hok
  simp only [EV] at hv
  subst hv
  go_enter Tryz.func123, Tryz.ntmps123
  go_wp2_with (go_at_call 266; go_must (refine (kids_nameExpr_c _ _).mono ?_; rintro e w1 ⟨rfl, hb1⟩))
  refine wp_loop_rounds 1 ?_
  rw [rounds_succ]
  go_wp2_with fail
  go_ret
  exact ⟨rfl, hb1⟩
theorem is_num (n : Int) : IsC5 (.num n) := by
  intro v ok w hv hok
  simp only [EV] at hv
  subst hv
  go_enter Tryz.func123, Tryz.ntmps123
  go_wp2_with (go_at_call 263; go_must (refine (kids_numberExpr_c _ _).mono ?_; rintro e w1 ⟨rfl, hb1⟩))
  refine wp_loop_rounds 1 ?_
  rw [rounds_succ]
  go_wp2_with fail
  go_ret
  exact ⟨rfl, hb1⟩
set_option maxHeartbeats 1000000 in
theorem is_add (a c : Ex) : IsC5 (.two .add a c) := by
  intro v ok w hv hok
  simp only [EV] at hv
  obtain ⟨x, y, rfl, hx, hy⟩ := hv
  obtain ⟨Tx, ux, rfl⟩ := hx.iface
  obtain ⟨Ty, uy, rfl⟩ := hy.iface
  simp only [op2T, op1T]
  have CBa : Hid (∀ W, Below w.heap.size w W → Calls Tryz.prog 178 #[.iface Tx ux] W fun e w' => e = .returned (.bool (bareB a)) ∧ Below W.heap.size W w') := Lib.hid (fun W hW => ib_all a _ ok W (hx.below hW hok) (size_ofI hok hW))
  have CBc : Hid (∀ W, Below w.heap.size w W → Calls Tryz.prog 178 #[.iface Ty uy] W fun e w' => e = .returned (.bool (bareB c)) ∧ Below W.heap.size W w') := Lib.hid (fun W hW => ib_all c _ ok W (hy.below hW hok) (size_ofI hok hW))
  rw [show nrm false (.two .add a c) = (bareB a && bareB c) from rfl]
  clear hx hy
  cases hva : bareB a with
  | false =>
    rw [hva] at CBa
    go_enter Tryz.func123, Tryz.ntmps123
    go_wp2_with (go_at_call 258; go_must (refine (kids_twoKids_c Tx Ty ux uy _).mono ?_; rintro e w1 ⟨⟨b, rfl, hbB, hbl, hblk⟩, hb1⟩; have HB := Lib.hid hb1; have HK := Lib.hid hblk; clear hblk hb1))
    refine wp_loop_rounds 3 ?_
    have c0 := cell_of (j := 0) HK.out
    rw [rounds_succ]
    go_wp2_with (go_at_call_of 178 (Value.iface Tx ux); go_must (refine (CBa.out _ HB.out).mono ?_; rintro e wn ⟨rfl, hbn⟩; have HB := Lib.hid ((nextB (firstB HB.out) hbn).1); have HK := Lib.hid (below_blk hbn (lt_of_block HK.out) HK.out); clear hbn))
    go_ret
    exact ⟨ret_bool rfl, HB.out⟩
  | true =>
    rw [hva] at CBa
    cases hvc : bareB c with
    | false =>
      rw [hvc] at CBc
      go_enter Tryz.func123, Tryz.ntmps123
      go_wp2_with (go_at_call 258; go_must (refine (kids_twoKids_c Tx Ty ux uy _).mono ?_; rintro e w1 ⟨⟨b, rfl, hbB, hbl, hblk⟩, hb1⟩; have HB := Lib.hid hb1; have HK := Lib.hid hblk; clear hblk hb1))
      refine wp_loop_rounds 3 ?_
      have c0 := cell_of (j := 0) HK.out
      rw [rounds_succ]
      go_wp2_with (go_at_call_of 178 (Value.iface Tx ux); go_must (refine (CBa.out _ HB.out).mono ?_; rintro e wn ⟨rfl, hbn⟩; have HB := Lib.hid ((nextB (firstB HB.out) hbn).1); have HK := Lib.hid (below_blk hbn (lt_of_block HK.out) HK.out); clear hbn))
      have c1 := cell_of (j := 1) HK.out
      rw [rounds_succ]
      go_wp2_with (go_at_call_of 178 (Value.iface Ty uy); go_must (refine (CBc.out _ HB.out).mono ?_; rintro e wn ⟨rfl, hbn⟩; have HB := Lib.hid ((nextB (firstB HB.out) hbn).1); have HK := Lib.hid (below_blk hbn (lt_of_block HK.out) HK.out); clear hbn))
      go_ret
      exact ⟨ret_bool rfl, HB.out⟩
    | true =>
      rw [hvc] at CBc
      go_enter Tryz.func123, Tryz.ntmps123
      go_wp2_with (go_at_call 258; go_must (refine (kids_twoKids_c Tx Ty ux uy _).mono ?_; rintro e w1 ⟨⟨b, rfl, hbB, hbl, hblk⟩, hb1⟩; have HB := Lib.hid hb1; have HK := Lib.hid hblk; clear hblk hb1))
      refine wp_loop_rounds 3 ?_
      have c0 := cell_of (j := 0) HK.out
      rw [rounds_succ]
      go_wp2_with (go_at_call_of 178 (Value.iface Tx ux); go_must (refine (CBa.out _ HB.out).mono ?_; rintro e wn ⟨rfl, hbn⟩; have HB := Lib.hid ((nextB (firstB HB.out) hbn).1); have HK := Lib.hid (below_blk hbn (lt_of_block HK.out) HK.out); clear hbn))
      have c1 := cell_of (j := 1) HK.out
      rw [rounds_succ]
      go_wp2_with (go_at_call_of 178 (Value.iface Ty uy); go_must (refine (CBc.out _ HB.out).mono ?_; rintro e wn ⟨rfl, hbn⟩; have HB := Lib.hid ((nextB (firstB HB.out) hbn).1); have HK := Lib.hid (below_blk hbn (lt_of_block HK.out) HK.out); clear hbn))
      rw [rounds_succ]
      go_wp2_with fail
      go_ret
      exact ⟨ret_bool rfl, HB.out⟩
set_option maxHeartbeats 1000000 in
theorem is_sub (a c : Ex) : IsC5 (.two .sub a c) := by
  intro v ok w hv hok
  simp only [EV] at hv
  obtain ⟨x, y, rfl, hx, hy⟩ := hv
  obtain ⟨Tx, ux, rfl⟩ := hx.iface
  obtain ⟨Ty, uy, rfl⟩ := hy.iface
  simp only [op2T, op1T]
  have CBa : Hid (∀ W, Below w.heap.size w W → Calls Tryz.prog 178 #[.iface Tx ux] W fun e w' => e = .returned (.bool (bareB a)) ∧ Below W.heap.size W w') := Lib.hid (fun W hW => ib_all a _ ok W (hx.below hW hok) (size_ofI hok hW))
  have CBc : Hid (∀ W, Below w.heap.size w W → Calls Tryz.prog 178 #[.iface Ty uy] W fun e w' => e = .returned (.bool (bareB c)) ∧ Below W.heap.size W w') := Lib.hid (fun W hW => ib_all c _ ok W (hy.below hW hok) (size_ofI hok hW))
  rw [show nrm false (.two .sub a c) = (bareB a && bareB c) from rfl]
  clear hx hy
  cases hva : bareB a with
  | false =>
    rw [hva] at CBa
    go_enter Tryz.func123, Tryz.ntmps123
    go_wp2_with (go_at_call 258; go_must (refine (kids_twoKids_c Tx Ty ux uy _).mono ?_; rintro e w1 ⟨⟨b, rfl, hbB, hbl, hblk⟩, hb1⟩; have HB := Lib.hid hb1; have HK := Lib.hid hblk; clear hblk hb1))
    refine wp_loop_rounds 3 ?_
    have c0 := cell_of (j := 0) HK.out
    rw [rounds_succ]
    go_wp2_with (go_at_call_of 178 (Value.iface Tx ux); go_must (refine (CBa.out _ HB.out).mono ?_; rintro e wn ⟨rfl, hbn⟩; have HB := Lib.hid ((nextB (firstB HB.out) hbn).1); have HK := Lib.hid (below_blk hbn (lt_of_block HK.out) HK.out); clear hbn))
    go_ret
    exact ⟨ret_bool rfl, HB.out⟩
  | true =>
    rw [hva] at CBa
    cases hvc : bareB c with
    | false =>
      rw [hvc] at CBc
      go_enter Tryz.func123, Tryz.ntmps123
      go_wp2_with (go_at_call 258; go_must (refine (kids_twoKids_c Tx Ty ux uy _).mono ?_; rintro e w1 ⟨⟨b, rfl, hbB, hbl, hblk⟩, hb1⟩; have HB := Lib.hid hb1; have HK := Lib.hid hblk; clear hblk hb1))
      refine wp_loop_rounds 3 ?_
      have c0 := cell_of (j := 0) HK.out
      rw [rounds_succ]
      go_wp2_with (go_at_call_of 178 (Value.iface Tx ux); go_must (refine (CBa.out _ HB.out).mono ?_; rintro e wn ⟨rfl, hbn⟩; have HB := Lib.hid ((nextB (firstB HB.out) hbn).1); have HK := Lib.hid (below_blk hbn (lt_of_block HK.out) HK.out); clear hbn))
      have c1 := cell_of (j := 1) HK.out
      rw [rounds_succ]
      go_wp2_with (go_at_call_of 178 (Value.iface Ty uy); go_must (refine (CBc.out _ HB.out).mono ?_; rintro e wn ⟨rfl, hbn⟩; have HB := Lib.hid ((nextB (firstB HB.out) hbn).1); have HK := Lib.hid (below_blk hbn (lt_of_block HK.out) HK.out); clear hbn))
      go_ret
      exact ⟨ret_bool rfl, HB.out⟩
    | true =>
      rw [hvc] at CBc
      go_enter Tryz.func123, Tryz.ntmps123
      go_wp2_with (go_at_call 258; go_must (refine (kids_twoKids_c Tx Ty ux uy _).mono ?_; rintro e w1 ⟨⟨b, rfl, hbB, hbl, hblk⟩, hb1⟩; have HB := Lib.hid hb1; have HK := Lib.hid hblk; clear hblk hb1))
      refine wp_loop_rounds 3 ?_
      have c0 := cell_of (j := 0) HK.out
      rw [rounds_succ]
      go_wp2_with (go_at_call_of 178 (Value.iface Tx ux); go_must (refine (CBa.out _ HB.out).mono ?_; rintro e wn ⟨rfl, hbn⟩; have HB := Lib.hid ((nextB (firstB HB.out) hbn).1); have HK := Lib.hid (below_blk hbn (lt_of_block HK.out) HK.out); clear hbn))
      have c1 := cell_of (j := 1) HK.out
      rw [rounds_succ]
      go_wp2_with (go_at_call_of 178 (Value.iface Ty uy); go_must (refine (CBc.out _ HB.out).mono ?_; rintro e wn ⟨rfl, hbn⟩; have HB := Lib.hid ((nextB (firstB HB.out) hbn).1); have HK := Lib.hid (below_blk hbn (lt_of_block HK.out) HK.out); clear hbn))
      rw [rounds_succ]
      go_wp2_with fail
      go_ret
      exact ⟨ret_bool rfl, HB.out⟩
set_option maxHeartbeats 1000000 in
theorem is_mul (a c : Ex) : IsC5 (.two .mul a c) := by
  intro v ok w hv hok
  simp only [EV] at hv
  obtain ⟨x, y, rfl, hx, hy⟩ := hv
  obtain ⟨Tx, ux, rfl⟩ := hx.iface
  obtain ⟨Ty, uy, rfl⟩ := hy.iface
  simp only [op2T, op1T]
  have CBa : Hid (∀ W, Below w.heap.size w W → Calls Tryz.prog 178 #[.iface Tx ux] W fun e w' => e = .returned (.bool (bareB a)) ∧ Below W.heap.size W w') := Lib.hid (fun W hW => ib_all a _ ok W (hx.below hW hok) (size_ofI hok hW))
  have CBc : Hid (∀ W, Below w.heap.size w W → Calls Tryz.prog 178 #[.iface Ty uy] W fun e w' => e = .returned (.bool (bareB c)) ∧ Below W.heap.size W w') := Lib.hid (fun W hW => ib_all c _ ok W (hy.below hW hok) (size_ofI hok hW))
  rw [show nrm false (.two .mul a c) = (bareB a && bareB c) from rfl]
  clear hx hy
  cases hva : bareB a with
  | false =>
    rw [hva] at CBa
    go_enter Tryz.func123, Tryz.ntmps123
    go_wp2_with (go_at_call 258; go_must (refine (kids_twoKids_c Tx Ty ux uy _).mono ?_; rintro e w1 ⟨⟨b, rfl, hbB, hbl, hblk⟩, hb1⟩; have HB := Lib.hid hb1; have HK := Lib.hid hblk; clear hblk hb1))
    refine wp_loop_rounds 3 ?_
    have c0 := cell_of (j := 0) HK.out
    rw [rounds_succ]
    go_wp2_with (go_at_call_of 178 (Value.iface Tx ux); go_must (refine (CBa.out _ HB.out).mono ?_; rintro e wn ⟨rfl, hbn⟩; have HB := Lib.hid ((nextB (firstB HB.out) hbn).1); have HK := Lib.hid (below_blk hbn (lt_of_block HK.out) HK.out); clear hbn))
    go_ret
    exact ⟨ret_bool rfl, HB.out⟩
  | true =>
    rw [hva] at CBa
    cases hvc : bareB c with
    | false =>
      rw [hvc] at CBc
      go_enter Tryz.func123, Tryz.ntmps123
      go_wp2_with (go_at_call 258; go_must (refine (kids_twoKids_c Tx Ty ux uy _).mono ?_; rintro e w1 ⟨⟨b, rfl, hbB, hbl, hblk⟩, hb1⟩; have HB := Lib.hid hb1; have HK := Lib.hid hblk; clear hblk hb1))
      refine wp_loop_rounds 3 ?_
      have c0 := cell_of (j := 0) HK.out
      rw [rounds_succ]
      go_wp2_with (go_at_call_of 178 (Value.iface Tx ux); go_must (refine (CBa.out _ HB.out).mono ?_; rintro e wn ⟨rfl, hbn⟩; have HB := Lib.hid ((nextB (firstB HB.out) hbn).1); have HK := Lib.hid (below_blk hbn (lt_of_block HK.out) HK.out); clear hbn))
      have c1 := cell_of (j := 1) HK.out
      rw [rounds_succ]
      go_wp2_with (go_at_call_of 178 (Value.iface Ty uy); go_must (refine (CBc.out _ HB.out).mono ?_; rintro e wn ⟨rfl, hbn⟩; have HB := Lib.hid ((nextB (firstB HB.out) hbn).1); have HK := Lib.hid (below_blk hbn (lt_of_block HK.out) HK.out); clear hbn))
      go_ret
      exact ⟨ret_bool rfl, HB.out⟩
    | true =>
      rw [hvc] at CBc
      go_enter Tryz.func123, Tryz.ntmps123
      go_wp2_with (go_at_call 258; go_must (refine (kids_twoKids_c Tx Ty ux uy _).mono ?_; rintro e w1 ⟨⟨b, rfl, hbB, hbl, hblk⟩, hb1⟩; have HB := Lib.hid hb1; have HK := Lib.hid hblk; clear hblk hb1))
      refine wp_loop_rounds 3 ?_
      have c0 := cell_of (j := 0) HK.out
      rw [rounds_succ]
      go_wp2_with (go_at_call_of 178 (Value.iface Tx ux); go_must (refine (CBa.out _ HB.out).mono ?_; rintro e wn ⟨rfl, hbn⟩; have HB := Lib.hid ((nextB (firstB HB.out) hbn).1); have HK := Lib.hid (below_blk hbn (lt_of_block HK.out) HK.out); clear hbn))
      have c1 := cell_of (j := 1) HK.out
      rw [rounds_succ]
      go_wp2_with (go_at_call_of 178 (Value.iface Ty uy); go_must (refine (CBc.out _ HB.out).mono ?_; rintro e wn ⟨rfl, hbn⟩; have HB := Lib.hid ((nextB (firstB HB.out) hbn).1); have HK := Lib.hid (below_blk hbn (lt_of_block HK.out) HK.out); clear hbn))
      rw [rounds_succ]
      go_wp2_with fail
      go_ret
      exact ⟨ret_bool rfl, HB.out⟩
set_option maxHeartbeats 1000000 in
theorem is_call (a c : Ex) : IsC5 (.two .call a c) := by
  intro v ok w hv hok
  simp only [EV] at hv
  obtain ⟨x, y, rfl, hx, hy⟩ := hv
  obtain ⟨Tx, ux, rfl⟩ := hx.iface
  obtain ⟨Ty, uy, rfl⟩ := hy.iface
  simp only [op2T, op1T]
  have CBa : Hid (∀ W, Below w.heap.size w W → Calls Tryz.prog 178 #[.iface Tx ux] W fun e w' => e = .returned (.bool (bareB a)) ∧ Below W.heap.size W w') := Lib.hid (fun W hW => ib_all a _ ok W (hx.below hW hok) (size_ofI hok hW))
  have CBc : Hid (∀ W, Below w.heap.size w W → Calls Tryz.prog 178 #[.iface Ty uy] W fun e w' => e = .returned (.bool (bareB c)) ∧ Below W.heap.size W w') := Lib.hid (fun W hW => ib_all c _ ok W (hy.below hW hok) (size_ofI hok hW))
  rw [show nrm false (.two .call a c) = (bareB a && bareB c) from rfl]
  clear hx hy
  cases hva : bareB a with
  | false =>
    rw [hva] at CBa
    go_enter Tryz.func123, Tryz.ntmps123
    go_wp2_with (go_at_call 258; go_must (refine (kids_twoKids_c Tx Ty ux uy _).mono ?_; rintro e w1 ⟨⟨b, rfl, hbB, hbl, hblk⟩, hb1⟩; have HB := Lib.hid hb1; have HK := Lib.hid hblk; clear hblk hb1))
    refine wp_loop_rounds 3 ?_
    have c0 := cell_of (j := 0) HK.out
    rw [rounds_succ]
    go_wp2_with (go_at_call_of 178 (Value.iface Tx ux); go_must (refine (CBa.out _ HB.out).mono ?_; rintro e wn ⟨rfl, hbn⟩; have HB := Lib.hid ((nextB (firstB HB.out) hbn).1); have HK := Lib.hid (below_blk hbn (lt_of_block HK.out) HK.out); clear hbn))
    go_ret
    exact ⟨ret_bool rfl, HB.out⟩
  | true =>
    rw [hva] at CBa
    cases hvc : bareB c with
    | false =>
      rw [hvc] at CBc
      go_enter Tryz.func123, Tryz.ntmps123
      go_wp2_with (go_at_call 258; go_must (refine (kids_twoKids_c Tx Ty ux uy _).mono ?_; rintro e w1 ⟨⟨b, rfl, hbB, hbl, hblk⟩, hb1⟩; have HB := Lib.hid hb1; have HK := Lib.hid hblk; clear hblk hb1))
      refine wp_loop_rounds 3 ?_
      have c0 := cell_of (j := 0) HK.out
      rw [rounds_succ]
      go_wp2_with (go_at_call_of 178 (Value.iface Tx ux); go_must (refine (CBa.out _ HB.out).mono ?_; rintro e wn ⟨rfl, hbn⟩; have HB := Lib.hid ((nextB (firstB HB.out) hbn).1); have HK := Lib.hid (below_blk hbn (lt_of_block HK.out) HK.out); clear hbn))
      have c1 := cell_of (j := 1) HK.out
      rw [rounds_succ]
      go_wp2_with (go_at_call_of 178 (Value.iface Ty uy); go_must (refine (CBc.out _ HB.out).mono ?_; rintro e wn ⟨rfl, hbn⟩; have HB := Lib.hid ((nextB (firstB HB.out) hbn).1); have HK := Lib.hid (below_blk hbn (lt_of_block HK.out) HK.out); clear hbn))
      go_ret
      exact ⟨ret_bool rfl, HB.out⟩
    | true =>
      rw [hvc] at CBc
      go_enter Tryz.func123, Tryz.ntmps123
      go_wp2_with (go_at_call 258; go_must (refine (kids_twoKids_c Tx Ty ux uy _).mono ?_; rintro e w1 ⟨⟨b, rfl, hbB, hbl, hblk⟩, hb1⟩; have HB := Lib.hid hb1; have HK := Lib.hid hblk; clear hblk hb1))
      refine wp_loop_rounds 3 ?_
      have c0 := cell_of (j := 0) HK.out
      rw [rounds_succ]
      go_wp2_with (go_at_call_of 178 (Value.iface Tx ux); go_must (refine (CBa.out _ HB.out).mono ?_; rintro e wn ⟨rfl, hbn⟩; have HB := Lib.hid ((nextB (firstB HB.out) hbn).1); have HK := Lib.hid (below_blk hbn (lt_of_block HK.out) HK.out); clear hbn))
      have c1 := cell_of (j := 1) HK.out
      rw [rounds_succ]
      go_wp2_with (go_at_call_of 178 (Value.iface Ty uy); go_must (refine (CBc.out _ HB.out).mono ?_; rintro e wn ⟨rfl, hbn⟩; have HB := Lib.hid ((nextB (firstB HB.out) hbn).1); have HK := Lib.hid (below_blk hbn (lt_of_block HK.out) HK.out); clear hbn))
      rw [rounds_succ]
      go_wp2_with fail
      go_ret
      exact ⟨ret_bool rfl, HB.out⟩
set_option maxHeartbeats 1000000 in
theorem is_pair (a c : Ex) : IsC5 (.two .pair a c) := by
  intro v ok w hv hok
  simp only [EV] at hv
  obtain ⟨x, y, rfl, hx, hy⟩ := hv
  obtain ⟨Tx, ux, rfl⟩ := hx.iface
  obtain ⟨Ty, uy, rfl⟩ := hy.iface
  simp only [op2T, op1T]
  have CBa : Hid (∀ W, Below w.heap.size w W → Calls Tryz.prog 178 #[.iface Tx ux] W fun e w' => e = .returned (.bool (bareB a)) ∧ Below W.heap.size W w') := Lib.hid (fun W hW => ib_all a _ ok W (hx.below hW hok) (size_ofI hok hW))
  have CBc : Hid (∀ W, Below w.heap.size w W → Calls Tryz.prog 178 #[.iface Ty uy] W fun e w' => e = .returned (.bool (bareB c)) ∧ Below W.heap.size W w') := Lib.hid (fun W hW => ib_all c _ ok W (hy.below hW hok) (size_ofI hok hW))
  rw [show nrm false (.two .pair a c) = (bareB a && bareB c) from rfl]
  clear hx hy
  cases hva : bareB a with
  | false =>
    rw [hva] at CBa
    go_enter Tryz.func123, Tryz.ntmps123
    go_wp2_with (go_at_call 258; go_must (refine (kids_twoKids_c Tx Ty ux uy _).mono ?_; rintro e w1 ⟨⟨b, rfl, hbB, hbl, hblk⟩, hb1⟩; have HB := Lib.hid hb1; have HK := Lib.hid hblk; clear hblk hb1))
    refine wp_loop_rounds 3 ?_
    have c0 := cell_of (j := 0) HK.out
    rw [rounds_succ]
    go_wp2_with (go_at_call_of 178 (Value.iface Tx ux); go_must (refine (CBa.out _ HB.out).mono ?_; rintro e wn ⟨rfl, hbn⟩; have HB := Lib.hid ((nextB (firstB HB.out) hbn).1); have HK := Lib.hid (below_blk hbn (lt_of_block HK.out) HK.out); clear hbn))
    go_ret
    exact ⟨ret_bool rfl, HB.out⟩
  | true =>
    rw [hva] at CBa
    cases hvc : bareB c with
    | false =>
      rw [hvc] at CBc
      go_enter Tryz.func123, Tryz.ntmps123
      go_wp2_with (go_at_call 258; go_must (refine (kids_twoKids_c Tx Ty ux uy _).mono ?_; rintro e w1 ⟨⟨b, rfl, hbB, hbl, hblk⟩, hb1⟩; have HB := Lib.hid hb1; have HK := Lib.hid hblk; clear hblk hb1))
      refine wp_loop_rounds 3 ?_
      have c0 := cell_of (j := 0) HK.out
      rw [rounds_succ]
      go_wp2_with (go_at_call_of 178 (Value.iface Tx ux); go_must (refine (CBa.out _ HB.out).mono ?_; rintro e wn ⟨rfl, hbn⟩; have HB := Lib.hid ((nextB (firstB HB.out) hbn).1); have HK := Lib.hid (below_blk hbn (lt_of_block HK.out) HK.out); clear hbn))
      have c1 := cell_of (j := 1) HK.out
      rw [rounds_succ]
      go_wp2_with (go_at_call_of 178 (Value.iface Ty uy); go_must (refine (CBc.out _ HB.out).mono ?_; rintro e wn ⟨rfl, hbn⟩; have HB := Lib.hid ((nextB (firstB HB.out) hbn).1); have HK := Lib.hid (below_blk hbn (lt_of_block HK.out) HK.out); clear hbn))
      go_ret
      exact ⟨ret_bool rfl, HB.out⟩
    | true =>
      rw [hvc] at CBc
      go_enter Tryz.func123, Tryz.ntmps123
      go_wp2_with (go_at_call 258; go_must (refine (kids_twoKids_c Tx Ty ux uy _).mono ?_; rintro e w1 ⟨⟨b, rfl, hbB, hbl, hblk⟩, hb1⟩; have HB := Lib.hid hb1; have HK := Lib.hid hblk; clear hblk hb1))
      refine wp_loop_rounds 3 ?_
      have c0 := cell_of (j := 0) HK.out
      rw [rounds_succ]
      go_wp2_with (go_at_call_of 178 (Value.iface Tx ux); go_must (refine (CBa.out _ HB.out).mono ?_; rintro e wn ⟨rfl, hbn⟩; have HB := Lib.hid ((nextB (firstB HB.out) hbn).1); have HK := Lib.hid (below_blk hbn (lt_of_block HK.out) HK.out); clear hbn))
      have c1 := cell_of (j := 1) HK.out
      rw [rounds_succ]
      go_wp2_with (go_at_call_of 178 (Value.iface Ty uy); go_must (refine (CBc.out _ HB.out).mono ?_; rintro e wn ⟨rfl, hbn⟩; have HB := Lib.hid ((nextB (firstB HB.out) hbn).1); have HK := Lib.hid (below_blk hbn (lt_of_block HK.out) HK.out); clear hbn))
      rw [rounds_succ]
      go_wp2_with fail
      go_ret
      exact ⟨ret_bool rfl, HB.out⟩
set_option maxHeartbeats 1000000 in
theorem is_fst (a : Ex) : IsC5 (.one .fst a) := by
  intro v ok w hv hok
  simp only [EV] at hv
  obtain ⟨x, rfl, hx⟩ := hv
  obtain ⟨Tx, ux, rfl⟩ := hx.iface
  simp only [op2T, op1T]
  have CBa : Hid (∀ W, Below w.heap.size w W → Calls Tryz.prog 178 #[.iface Tx ux] W fun e w' => e = .returned (.bool (bareB a)) ∧ Below W.heap.size W w') := Lib.hid (fun W hW => ib_all a _ ok W (hx.below hW hok) (size_ofI hok hW))
  rw [show nrm false (.one .fst a) = (bareB a) from rfl]
  clear hx
  cases hva : bareB a with
  | false =>
    rw [hva] at CBa
    go_enter Tryz.func123, Tryz.ntmps123
    go_wp2_with (go_at_call 280; go_must (refine (kids_oneKid_c Tx ux _).mono ?_; rintro e w1 ⟨⟨b, rfl, hbB, hbl, hblk⟩, hb1⟩; have HB := Lib.hid hb1; have HK := Lib.hid hblk; clear hblk hb1))
    refine wp_loop_rounds 3 ?_
    have c0 := cell_of (j := 0) HK.out
    rw [rounds_succ]
    go_wp2_with (go_at_call_of 178 (Value.iface Tx ux); go_must (refine (CBa.out _ HB.out).mono ?_; rintro e wn ⟨rfl, hbn⟩; have HB := Lib.hid ((nextB (firstB HB.out) hbn).1); have HK := Lib.hid (below_blk hbn (lt_of_block HK.out) HK.out); clear hbn))
    go_ret
    exact ⟨ret_bool rfl, HB.out⟩
  | true =>
    rw [hva] at CBa
    go_enter Tryz.func123, Tryz.ntmps123
    go_wp2_with (go_at_call 280; go_must (refine (kids_oneKid_c Tx ux _).mono ?_; rintro e w1 ⟨⟨b, rfl, hbB, hbl, hblk⟩, hb1⟩; have HB := Lib.hid hb1; have HK := Lib.hid hblk; clear hblk hb1))
    refine wp_loop_rounds 3 ?_
    have c0 := cell_of (j := 0) HK.out
    rw [rounds_succ]
    go_wp2_with (go_at_call_of 178 (Value.iface Tx ux); go_must (refine (CBa.out _ HB.out).mono ?_; rintro e wn ⟨rfl, hbn⟩; have HB := Lib.hid ((nextB (firstB HB.out) hbn).1); have HK := Lib.hid (below_blk hbn (lt_of_block HK.out) HK.out); clear hbn))
    rw [rounds_succ]
    go_wp2_with fail
    go_ret
    exact ⟨ret_bool rfl, HB.out⟩
set_option maxHeartbeats 1000000 in
theorem is_snd (a : Ex) : IsC5 (.one .snd a) := by
  intro v ok w hv hok
  simp only [EV] at hv
  obtain ⟨x, rfl, hx⟩ := hv
  obtain ⟨Tx, ux, rfl⟩ := hx.iface
  simp only [op2T, op1T]
  have CBa : Hid (∀ W, Below w.heap.size w W → Calls Tryz.prog 178 #[.iface Tx ux] W fun e w' => e = .returned (.bool (bareB a)) ∧ Below W.heap.size W w') := Lib.hid (fun W hW => ib_all a _ ok W (hx.below hW hok) (size_ofI hok hW))
  rw [show nrm false (.one .snd a) = (bareB a) from rfl]
  clear hx
  cases hva : bareB a with
  | false =>
    rw [hva] at CBa
    go_enter Tryz.func123, Tryz.ntmps123
    go_wp2_with (go_at_call 280; go_must (refine (kids_oneKid_c Tx ux _).mono ?_; rintro e w1 ⟨⟨b, rfl, hbB, hbl, hblk⟩, hb1⟩; have HB := Lib.hid hb1; have HK := Lib.hid hblk; clear hblk hb1))
    refine wp_loop_rounds 3 ?_
    have c0 := cell_of (j := 0) HK.out
    rw [rounds_succ]
    go_wp2_with (go_at_call_of 178 (Value.iface Tx ux); go_must (refine (CBa.out _ HB.out).mono ?_; rintro e wn ⟨rfl, hbn⟩; have HB := Lib.hid ((nextB (firstB HB.out) hbn).1); have HK := Lib.hid (below_blk hbn (lt_of_block HK.out) HK.out); clear hbn))
    go_ret
    exact ⟨ret_bool rfl, HB.out⟩
  | true =>
    rw [hva] at CBa
    go_enter Tryz.func123, Tryz.ntmps123
    go_wp2_with (go_at_call 280; go_must (refine (kids_oneKid_c Tx ux _).mono ?_; rintro e w1 ⟨⟨b, rfl, hbB, hbl, hblk⟩, hb1⟩; have HB := Lib.hid hb1; have HK := Lib.hid hblk; clear hblk hb1))
    refine wp_loop_rounds 3 ?_
    have c0 := cell_of (j := 0) HK.out
    rw [rounds_succ]
    go_wp2_with (go_at_call_of 178 (Value.iface Tx ux); go_must (refine (CBa.out _ HB.out).mono ?_; rintro e wn ⟨rfl, hbn⟩; have HB := Lib.hid ((nextB (firstB HB.out) hbn).1); have HK := Lib.hid (below_blk hbn (lt_of_block HK.out) HK.out); clear hbn))
    rw [rounds_succ]
    go_wp2_with fail
    go_ret
    exact ⟨ret_bool rfl, HB.out⟩
set_option maxHeartbeats 1000000 in
theorem is_cond (a c d : Ex) (ihc : InC5 c) (ihd : InC5 d) : IsC5 (.cond a c d) := by
  intro v ok w hv hok
  simp only [EV] at hv
  obtain ⟨x, y, z, rfl, hx, hy, hz⟩ := hv
  obtain ⟨Tx, ux, rfl⟩ := hx.iface
  obtain ⟨Ty, uy, rfl⟩ := hy.iface
  obtain ⟨Tz, uz, rfl⟩ := hz.iface
  have CBa : Hid (∀ W, Below w.heap.size w W → Calls Tryz.prog 178 #[.iface Tx ux] W fun e w' => e = .returned (.bool (bareB a)) ∧ Below W.heap.size W w') := Lib.hid (fun W hW => ib_all a _ ok W (hx.below hW hok) (size_ofI hok hW))
  have CNc : Hid (∀ W, Below w.heap.size w W → Calls Tryz.prog 124 #[.iface Ty uy] W fun e w' => e = .returned (.bool (nrm true c)) ∧ Below W.heap.size W w') := Lib.hid (fun W hW => ihc _ ok W (hy.below hW hok) (size_ofI hok hW))
  have CNd : Hid (∀ W, Below w.heap.size w W → Calls Tryz.prog 124 #[.iface Tz uz] W fun e w' => e = .returned (.bool (nrm true d)) ∧ Below W.heap.size W w') := Lib.hid (fun W hW => ihd _ ok W (hz.below hW hok) (size_ofI hok hW))
  rw [show nrm false (.cond a c d) = (bareB a && nrm true c && nrm true d) from rfl]
  clear hx hy hz ihc ihd
  cases hva : bareB a with
  | false =>
    rw [hva] at CBa
    go_enter Tryz.func123, Tryz.ntmps123
    go_wp2_with (first | (go_at_call 178; go_must (refine (CBa.out _ (by first | exact Below.refl _ _ | exact below1 _ _ | exact below2 _ _ _)).mono ?_; rintro e wn ⟨rfl, hbn⟩; have HB := Lib.hid (show Below w.heap.size w wn from by first | exact hbn | exact (below1 _ _).trans (hbn.mono (by simp))); have HK := Lib.hid (below_blk hbn (lt_of_block (heap_alloc_new w (.cells #[.iface Tx ux, .iface Ty uy, .iface Tz uz] 165))) (heap_alloc_new w (.cells #[.iface Tx ux, .iface Ty uy, .iface Tz uz] 165))); clear hbn; have y1 := cell_of (j := 1) HK.out; have y2 := cell_of (j := 2) HK.out)))
    go_ret
    exact ⟨ret_bool rfl, HB.out⟩
  | true =>
    rw [hva] at CBa
    cases hvc : nrm true c with
    | false =>
      rw [hvc] at CNc
      go_enter Tryz.func123, Tryz.ntmps123
      go_wp2_with (first | (go_at_call 178; go_must (refine (CBa.out _ (by first | exact Below.refl _ _ | exact below1 _ _ | exact below2 _ _ _)).mono ?_; rintro e wn ⟨rfl, hbn⟩; have HB := Lib.hid (show Below w.heap.size w wn from by first | exact hbn | exact (below1 _ _).trans (hbn.mono (by simp))); have HK := Lib.hid (below_blk hbn (lt_of_block (heap_alloc_new w (.cells #[.iface Tx ux, .iface Ty uy, .iface Tz uz] 165))) (heap_alloc_new w (.cells #[.iface Tx ux, .iface Ty uy, .iface Tz uz] 165))); clear hbn; have y1 := cell_of (j := 1) HK.out; have y2 := cell_of (j := 2) HK.out)) | (go_at_call_of 124 (Value.iface Ty uy); go_must (refine (CNc.out _ HB.out).mono ?_; rintro e wn ⟨rfl, hbn⟩; have HB := Lib.hid ((nextB (firstB HB.out) hbn).1); have HK := Lib.hid (below_blk hbn (lt_of_block HK.out) HK.out); clear hbn; have y1 := cell_of (j := 1) HK.out; have y2 := cell_of (j := 2) HK.out)))
      go_ret
      exact ⟨ret_bool rfl, HB.out⟩
    | true =>
      rw [hvc] at CNc
      go_enter Tryz.func123, Tryz.ntmps123
      go_wp2_with (first | (go_at_call 178; go_must (refine (CBa.out _ (by first | exact Below.refl _ _ | exact below1 _ _ | exact below2 _ _ _)).mono ?_; rintro e wn ⟨rfl, hbn⟩; have HB := Lib.hid (show Below w.heap.size w wn from by first | exact hbn | exact (below1 _ _).trans (hbn.mono (by simp))); have HK := Lib.hid (below_blk hbn (lt_of_block (heap_alloc_new w (.cells #[.iface Tx ux, .iface Ty uy, .iface Tz uz] 165))) (heap_alloc_new w (.cells #[.iface Tx ux, .iface Ty uy, .iface Tz uz] 165))); clear hbn; have y1 := cell_of (j := 1) HK.out; have y2 := cell_of (j := 2) HK.out)) | (go_at_call_of 124 (Value.iface Ty uy); go_must (refine (CNc.out _ HB.out).mono ?_; rintro e wn ⟨rfl, hbn⟩; have HB := Lib.hid ((nextB (firstB HB.out) hbn).1); have HK := Lib.hid (below_blk hbn (lt_of_block HK.out) HK.out); clear hbn; have y1 := cell_of (j := 1) HK.out; have y2 := cell_of (j := 2) HK.out)) | (go_at_call_of 124 (Value.iface Tz uz); go_must (refine (CNd.out _ HB.out).mono ?_; rintro e wn ⟨rfl, hbn⟩; have HB := Lib.hid ((nextB (firstB HB.out) hbn).1); have HK := Lib.hid (below_blk hbn (lt_of_block HK.out) HK.out); clear hbn; have y1 := cell_of (j := 1) HK.out; have y2 := cell_of (j := 2) HK.out)))
      go_ret
      exact ⟨ret_bool rfl, HB.out⟩
theorem is_lete (s : Nm) (a c : Ex) : IsC5 (.lete s a c) := by
  intro v ok w hv hok
  simp only [EV] at hv
  obtain ⟨x, y, rfl, hx, hy⟩ := hv
  obtain ⟨Tx, ux, rfl⟩ := hx.iface
  obtain ⟨Ty, uy, rfl⟩ := hy.iface
  clear hx hy
  go_enter Tryz.func123, Tryz.ntmps123
  go_wp2_with fail
  go_ret
  exact ⟨rfl, by first | exact Below.refl _ _ | exact below1 _ _ | exact below2 _ _ _⟩
theorem is_func (f s : Nm) (A B : Tr) (a : Ex) (iha : InC5 a) : IsC5 (.func f s A B a) := by
  intro v ok w hv hok
  simp only [EV] at hv
  obtain ⟨pa, na, ca, pb, nb, cb, x, rfl, hA, hB, hx⟩ := hv
  obtain ⟨Tx, ux, rfl⟩ := hx.iface
  obtain ⟨la, lb, lc, ld, -, -, -, -, hnA⟩ := nI_named A
  obtain ⟨ma, mb, mc, md, -, -, -, -, hnB⟩ := nI_named B
  rw [hnA, hnB]
  simp only [List.cons_append, List.nil_append]
  clear hA hB hnA hnB
  have CNa : Hid (∀ W, Below w.heap.size w W → Calls Tryz.prog 124 #[.iface Tx ux] W fun e w' => e = .returned (.bool (nrm true a)) ∧ Below W.heap.size W w') := Lib.hid (fun W hW => iha _ ok W (hx.below hW hok) (size_ofI hok hW))
  rw [show nrm false (.func f s A B a) = nrm true a from rfl]
  clear hx iha
  go_enter Tryz.func123, Tryz.ntmps123
  go_wp2_with (go_at_call 124; go_must (refine (CNa.out _ (by first | exact Below.refl _ _ | exact below1 _ _ | exact below2 _ _ _)).mono ?_; rintro e wn ⟨rfl, hbn⟩; have HB := Lib.hid (show Below w.heap.size w wn from by first | exact hbn | exact (below1 _ _).trans (hbn.mono (by simp)))))
  go_ret
  exact ⟨rfl, HB.out⟩
theorem in_name (s : Nm) (h : IsC5 (.name s)) : InC5 (.name s) := by
  intro v ok w hv hok
  have C := Lib.hid (fun W (hW : Below w.heap.size w W) => h v ok W (hv.below hW hok) (size_ofI hok hW))
  rw [nrm_any (x := .name s) trivial true]
  generalize nrm false (.name s) = R at *
  clear h
  simp only [EV] at hv
  subst hv
  go_enter Tryz.func124, Tryz.ntmps124
  go_wp2_with (go_at_call 123; go_must (refine (C.out _ (by first | exact Below.refl _ _ | exact below1 _ _ | exact below2 _ _ _)).mono ?_; rintro e wn ⟨rfl, hbn⟩; have HB := Lib.hid (show Below w.heap.size w wn from by first | exact hbn | exact (below1 _ _).trans (hbn.mono (by simp)))))
  go_ret
  exact ⟨rfl, HB.out⟩
theorem in_num (n : Int) (h : IsC5 (.num n)) : InC5 (.num n) := by
  intro v ok w hv hok
  have C := Lib.hid (fun W (hW : Below w.heap.size w W) => h v ok W (hv.below hW hok) (size_ofI hok hW))
  rw [nrm_any (x := .num n) trivial true]
  generalize nrm false (.num n) = R at *
  clear h
  simp only [EV] at hv
  subst hv
  go_enter Tryz.func124, Tryz.ntmps124
  go_wp2_with (go_at_call 123; go_must (refine (C.out _ (by first | exact Below.refl _ _ | exact below1 _ _ | exact below2 _ _ _)).mono ?_; rintro e wn ⟨rfl, hbn⟩; have HB := Lib.hid (show Below w.heap.size w wn from by first | exact hbn | exact (below1 _ _).trans (hbn.mono (by simp)))))
  go_ret
  exact ⟨rfl, HB.out⟩
theorem in_add (a c : Ex) (h : IsC5 (.two .add a c)) : InC5 (.two .add a c) := by
  intro v ok w hv hok
  have C := Lib.hid (fun W (hW : Below w.heap.size w W) => h v ok W (hv.below hW hok) (size_ofI hok hW))
  rw [nrm_any (x := .two .add a c) trivial true]
  generalize nrm false (.two .add a c) = R at *
  clear h
  simp only [EV] at hv
  obtain ⟨x, y, rfl, hx, hy⟩ := hv
  obtain ⟨Tx, ux, rfl⟩ := hx.iface
  obtain ⟨Ty, uy, rfl⟩ := hy.iface
  try simp only [op2T, op1T] at C ⊢
  clear hx hy
  go_enter Tryz.func124, Tryz.ntmps124
  go_wp2_with (go_at_call 123; go_must (refine (C.out _ (by first | exact Below.refl _ _ | exact below1 _ _ | exact below2 _ _ _)).mono ?_; rintro e wn ⟨rfl, hbn⟩; have HB := Lib.hid (show Below w.heap.size w wn from by first | exact hbn | exact (below1 _ _).trans (hbn.mono (by simp)))))
  go_ret
  exact ⟨rfl, HB.out⟩
theorem in_sub (a c : Ex) (h : IsC5 (.two .sub a c)) : InC5 (.two .sub a c) := by
  intro v ok w hv hok
  have C := Lib.hid (fun W (hW : Below w.heap.size w W) => h v ok W (hv.below hW hok) (size_ofI hok hW))
  rw [nrm_any (x := .two .sub a c) trivial true]
  generalize nrm false (.two .sub a c) = R at *
  clear h
  simp only [EV] at hv
  obtain ⟨x, y, rfl, hx, hy⟩ := hv
  obtain ⟨Tx, ux, rfl⟩ := hx.iface
  obtain ⟨Ty, uy, rfl⟩ := hy.iface
  try simp only [op2T, op1T] at C ⊢
  clear hx hy
  go_enter Tryz.func124, Tryz.ntmps124
  go_wp2_with (go_at_call 123; go_must (refine (C.out _ (by first | exact Below.refl _ _ | exact below1 _ _ | exact below2 _ _ _)).mono ?_; rintro e wn ⟨rfl, hbn⟩; have HB := Lib.hid (show Below w.heap.size w wn from by first | exact hbn | exact (below1 _ _).trans (hbn.mono (by simp)))))
  go_ret
  exact ⟨rfl, HB.out⟩
theorem in_mul (a c : Ex) (h : IsC5 (.two .mul a c)) : InC5 (.two .mul a c) := by
  intro v ok w hv hok
  have C := Lib.hid (fun W (hW : Below w.heap.size w W) => h v ok W (hv.below hW hok) (size_ofI hok hW))
  rw [nrm_any (x := .two .mul a c) trivial true]
  generalize nrm false (.two .mul a c) = R at *
  clear h
  simp only [EV] at hv
  obtain ⟨x, y, rfl, hx, hy⟩ := hv
  obtain ⟨Tx, ux, rfl⟩ := hx.iface
  obtain ⟨Ty, uy, rfl⟩ := hy.iface
  try simp only [op2T, op1T] at C ⊢
  clear hx hy
  go_enter Tryz.func124, Tryz.ntmps124
  go_wp2_with (go_at_call 123; go_must (refine (C.out _ (by first | exact Below.refl _ _ | exact below1 _ _ | exact below2 _ _ _)).mono ?_; rintro e wn ⟨rfl, hbn⟩; have HB := Lib.hid (show Below w.heap.size w wn from by first | exact hbn | exact (below1 _ _).trans (hbn.mono (by simp)))))
  go_ret
  exact ⟨rfl, HB.out⟩
theorem in_call (a c : Ex) (h : IsC5 (.two .call a c)) : InC5 (.two .call a c) := by
  intro v ok w hv hok
  have C := Lib.hid (fun W (hW : Below w.heap.size w W) => h v ok W (hv.below hW hok) (size_ofI hok hW))
  rw [nrm_any (x := .two .call a c) trivial true]
  generalize nrm false (.two .call a c) = R at *
  clear h
  simp only [EV] at hv
  obtain ⟨x, y, rfl, hx, hy⟩ := hv
  obtain ⟨Tx, ux, rfl⟩ := hx.iface
  obtain ⟨Ty, uy, rfl⟩ := hy.iface
  try simp only [op2T, op1T] at C ⊢
  clear hx hy
  go_enter Tryz.func124, Tryz.ntmps124
  go_wp2_with (go_at_call 123; go_must (refine (C.out _ (by first | exact Below.refl _ _ | exact below1 _ _ | exact below2 _ _ _)).mono ?_; rintro e wn ⟨rfl, hbn⟩; have HB := Lib.hid (show Below w.heap.size w wn from by first | exact hbn | exact (below1 _ _).trans (hbn.mono (by simp)))))
  go_ret
  exact ⟨rfl, HB.out⟩
theorem in_pair (a c : Ex) (h : IsC5 (.two .pair a c)) : InC5 (.two .pair a c) := by
  intro v ok w hv hok
  have C := Lib.hid (fun W (hW : Below w.heap.size w W) => h v ok W (hv.below hW hok) (size_ofI hok hW))
  rw [nrm_any (x := .two .pair a c) trivial true]
  generalize nrm false (.two .pair a c) = R at *
  clear h
  simp only [EV] at hv
  obtain ⟨x, y, rfl, hx, hy⟩ := hv
  obtain ⟨Tx, ux, rfl⟩ := hx.iface
  obtain ⟨Ty, uy, rfl⟩ := hy.iface
  try simp only [op2T, op1T] at C ⊢
  clear hx hy
  go_enter Tryz.func124, Tryz.ntmps124
  go_wp2_with (go_at_call 123; go_must (refine (C.out _ (by first | exact Below.refl _ _ | exact below1 _ _ | exact below2 _ _ _)).mono ?_; rintro e wn ⟨rfl, hbn⟩; have HB := Lib.hid (show Below w.heap.size w wn from by first | exact hbn | exact (below1 _ _).trans (hbn.mono (by simp)))))
  go_ret
  exact ⟨rfl, HB.out⟩
theorem in_fst (a : Ex) (h : IsC5 (.one .fst a)) : InC5 (.one .fst a) := by
  intro v ok w hv hok
  have C := Lib.hid (fun W (hW : Below w.heap.size w W) => h v ok W (hv.below hW hok) (size_ofI hok hW))
  rw [nrm_any (x := .one .fst a) trivial true]
  generalize nrm false (.one .fst a) = R at *
  clear h
  simp only [EV] at hv
  obtain ⟨x, rfl, hx⟩ := hv
  obtain ⟨Tx, ux, rfl⟩ := hx.iface
  try simp only [op2T, op1T] at C ⊢
  clear hx
  go_enter Tryz.func124, Tryz.ntmps124
  go_wp2_with (go_at_call 123; go_must (refine (C.out _ (by first | exact Below.refl _ _ | exact below1 _ _ | exact below2 _ _ _)).mono ?_; rintro e wn ⟨rfl, hbn⟩; have HB := Lib.hid (show Below w.heap.size w wn from by first | exact hbn | exact (below1 _ _).trans (hbn.mono (by simp)))))
  go_ret
  exact ⟨rfl, HB.out⟩
theorem in_snd (a : Ex) (h : IsC5 (.one .snd a)) : InC5 (.one .snd a) := by
  intro v ok w hv hok
  have C := Lib.hid (fun W (hW : Below w.heap.size w W) => h v ok W (hv.below hW hok) (size_ofI hok hW))
  rw [nrm_any (x := .one .snd a) trivial true]
  generalize nrm false (.one .snd a) = R at *
  clear h
  simp only [EV] at hv
  obtain ⟨x, rfl, hx⟩ := hv
  obtain ⟨Tx, ux, rfl⟩ := hx.iface
  try simp only [op2T, op1T] at C ⊢
  clear hx
  go_enter Tryz.func124, Tryz.ntmps124
  go_wp2_with (go_at_call 123; go_must (refine (C.out _ (by first | exact Below.refl _ _ | exact below1 _ _ | exact below2 _ _ _)).mono ?_; rintro e wn ⟨rfl, hbn⟩; have HB := Lib.hid (show Below w.heap.size w wn from by first | exact hbn | exact (below1 _ _).trans (hbn.mono (by simp)))))
  go_ret
  exact ⟨rfl, HB.out⟩
theorem in_cond (a c d : Ex) (h : IsC5 (.cond a c d)) : InC5 (.cond a c d) := by
  intro v ok w hv hok
  have C := Lib.hid (fun W (hW : Below w.heap.size w W) => h v ok W (hv.below hW hok) (size_ofI hok hW))
  rw [nrm_any (x := .cond a c d) trivial true]
  generalize nrm false (.cond a c d) = R at *
  clear h
  simp only [EV] at hv
  obtain ⟨x, y, z, rfl, hx, hy, hz⟩ := hv
  obtain ⟨Tx, ux, rfl⟩ := hx.iface
  obtain ⟨Ty, uy, rfl⟩ := hy.iface
  obtain ⟨Tz, uz, rfl⟩ := hz.iface
  try simp only [op2T, op1T] at C ⊢
  clear hx hy hz
  go_enter Tryz.func124, Tryz.ntmps124
  go_wp2_with (go_at_call 123; go_must (refine (C.out _ (by first | exact Below.refl _ _ | exact below1 _ _ | exact below2 _ _ _)).mono ?_; rintro e wn ⟨rfl, hbn⟩; have HB := Lib.hid (show Below w.heap.size w wn from by first | exact hbn | exact (below1 _ _).trans (hbn.mono (by simp)))))
  go_ret
  exact ⟨rfl, HB.out⟩
set_option maxHeartbeats 1000000 in
theorem in_lete (s : Nm) (a c : Ex) (isa : IsC5 a) (ihc : InC5 c) : InC5 (.lete s a c) := by
  intro v ok w hv hok
  simp only [EV] at hv
  obtain ⟨x, y, rfl, hx, hy⟩ := hv
  obtain ⟨Tx, ux, rfl⟩ := hx.iface
  obtain ⟨Ty, uy, rfl⟩ := hy.iface
  have CSa : Hid (∀ W, Below w.heap.size w W → Calls Tryz.prog 123 #[.iface Tx ux] W fun e w' => e = .returned (.bool (nrm false a)) ∧ Below W.heap.size W w') := Lib.hid (fun W hW => isa _ ok W (hx.below hW hok) (size_ofI hok hW))
  have CNc : Hid (∀ W, Below w.heap.size w W → Calls Tryz.prog 124 #[.iface Ty uy] W fun e w' => e = .returned (.bool (nrm true c)) ∧ Below W.heap.size W w') := Lib.hid (fun W hW => ihc _ ok W (hy.below hW hok) (size_ofI hok hW))
  rw [show nrm true (.lete s a c) = (nrm false a && nrm true c) from by simp only [nrm, Bool.true_and]]
  clear hx hy isa ihc
  cases hva : nrm false a with
  | false =>
    rw [hva] at CSa
    go_enter Tryz.func124, Tryz.ntmps124
    go_wp2_with (first | (go_at_call 123; go_must (refine (CSa.out _ (by first | exact Below.refl _ _ | exact below1 _ _ | exact below2 _ _ _)).mono ?_; rintro e wn ⟨rfl, hbn⟩; have HB := Lib.hid (show Below w.heap.size w wn from by first | exact hbn | exact (below1 _ _).trans (hbn.mono (by simp))); have y2 := cell_of (j := 2) (below_blk hbn (lt_of_block (heap_alloc_new w (.cells #[.string (bs s), .iface Tx ux, .iface Ty uy] 76))) (heap_alloc_new w (.cells #[.string (bs s), .iface Tx ux, .iface Ty uy] 76))); clear hbn)))
    go_ret
    exact ⟨ret_bool rfl, HB.out⟩
  | true =>
    rw [hva] at CSa
    go_enter Tryz.func124, Tryz.ntmps124
    go_wp2_with (first | (go_at_call 123; go_must (refine (CSa.out _ (by first | exact Below.refl _ _ | exact below1 _ _ | exact below2 _ _ _)).mono ?_; rintro e wn ⟨rfl, hbn⟩; have HB := Lib.hid (show Below w.heap.size w wn from by first | exact hbn | exact (below1 _ _).trans (hbn.mono (by simp))); have y2 := cell_of (j := 2) (below_blk hbn (lt_of_block (heap_alloc_new w (.cells #[.string (bs s), .iface Tx ux, .iface Ty uy] 76))) (heap_alloc_new w (.cells #[.string (bs s), .iface Tx ux, .iface Ty uy] 76))); clear hbn)) | (go_at_call 124; go_must (refine (CNc.out _ HB.out).mono ?_; rintro e wn ⟨rfl, hbn⟩; have HB := Lib.hid ((nextB (firstB HB.out) hbn).1); clear hbn)))
    go_ret
    exact ⟨ret_bool rfl, HB.out⟩
theorem in_func (f s : Nm) (A B : Tr) (a : Ex) (h : IsC5 (.func f s A B a)) : InC5 (.func f s A B a) := by
  intro v ok w hv hok
  have C := Lib.hid (fun W (hW : Below w.heap.size w W) => h v ok W (hv.below hW hok) (size_ofI hok hW))
  rw [nrm_any (x := .func f s A B a) trivial true]
  generalize nrm false (.func f s A B a) = R at *
  clear h
  simp only [EV] at hv
  obtain ⟨pa, na, ca, pb, nb, cb, x, rfl, hA, hB, hx⟩ := hv
  obtain ⟨Tx, ux, rfl⟩ := hx.iface
  obtain ⟨la, lb, lc, ld, -, -, -, -, hnA⟩ := nI_named A
  obtain ⟨ma, mb, mc, md, -, -, -, -, hnB⟩ := nI_named B
  rw [hnA, hnB] at C ⊢
  simp only [List.cons_append, List.nil_append] at C ⊢
  clear hA hB hnA hnB
  clear hx
  go_enter Tryz.func124, Tryz.ntmps124
  go_wp2_with (go_at_call 123; go_must (refine (C.out _ (by first | exact Below.refl _ _ | exact below1 _ _ | exact below2 _ _ _)).mono ?_; rintro e wn ⟨rfl, hbn⟩; have HB := Lib.hid (show Below w.heap.size w wn from by first | exact hbn | exact (below1 _ _).trans (hbn.mono (by simp)))))
  go_ret
  exact ⟨rfl, HB.out⟩
theorem isn_all : ∀ x : Ex, IsC5 x ∧ InC5 x
  | .name s => ⟨is_name s, in_name s (is_name s)⟩
  | .num n => ⟨is_num n, in_num n (is_num n)⟩
  | .two .add a c => ⟨is_add a c, in_add a c (is_add a c)⟩
  | .two .sub a c => ⟨is_sub a c, in_sub a c (is_sub a c)⟩
  | .two .mul a c => ⟨is_mul a c, in_mul a c (is_mul a c)⟩
  | .two .call a c => ⟨is_call a c, in_call a c (is_call a c)⟩
  | .two .pair a c => ⟨is_pair a c, in_pair a c (is_pair a c)⟩
  | .one .fst a => ⟨is_fst a, in_fst a (is_fst a)⟩
  | .one .snd a => ⟨is_snd a, in_snd a (is_snd a)⟩
  | .cond a c d => ⟨is_cond a c d (isn_all c).2 (isn_all d).2, in_cond a c d (is_cond a c d (isn_all c).2 (isn_all d).2)⟩
  | .lete s a c => ⟨is_lete s a c, in_lete s a c (isn_all a).1 (isn_all c).2⟩
  | .func f s A B a => ⟨is_func f s A B a (isn_all a).2, in_func f s A B a (is_func f s A B a (isn_all a).2)⟩
/-- What a reader hands back. -/
def NfPost (B : Nat) (res : Option Ex) (e : Ending) (w' : World) : Prop := match res with
  | none => ∃ v, e = .returned (.tuple #[v, .bool false])
  | some x => ∃ v, e = .returned (.tuple #[v, .bool true]) ∧ EV w' (fun k => B ≤ k ∧ k < w'.heap.size) x v
def readSi (l : List UInt8) : Option Ex := (readEx l).filter (fun x => nrm false x)
theorem readSi_none {l : List UInt8} (h : readEx l = none) : readSi l = none := by simp [readSi, h]
theorem readSi_no {l : List UInt8} {x : Ex} (h : readEx l = some x) (hn : nrm false x = false) : readSi l = none := by simp [readSi, h, Option.filter, hn]
theorem readSi_some {l : List UInt8} {x : Ex} (h : readEx l = some x) (hn : nrm false x = true) : readSi l = some x := by simp [readSi, h, Option.filter, hn]
theorem nrmOf_si (l : List UInt8) : nrmOf false l = (readSi l).isSome := by
  cases hr : readEx l with
  | none => rw [nrmOf_none hr, readSi_none hr]; rfl
  | some x =>
    rw [nrmOf_some hr]
    cases hn : nrm false x with
    | false => rw [readSi_no hr hn]; rfl
    | true => rw [readSi_some hr hn]; rfl
set_option maxHeartbeats 1000000 in
theorem readSimple_c (s : ByteArray) (hs : s.size ≤ 1048576) (w : World) :
    Calls Tryz.prog 74 #[.string s] w fun e w' => NfPost w.heap.size (readSi s.data.toList) e w' ∧ Below w.heap.size w w' := by
  cases hp : readEx s.data.toList with
  | none =>
    have C := Lib.hid (readExpr_none hs hp)
    rw [readSi_none hp]
    clear hp
    go_enter Tryz.func74, Tryz.ntmps74
    go_wp2_with (go_at_call 55; go_must (refine (C.out _).mono ?_; rintro e w1 ⟨⟨v, rfl⟩, hb1⟩))
    go_ret2
    exact ⟨⟨_, rfl⟩, hb1⟩
  | some x =>
    have C := Lib.hid (readExpr_some hs hp)
    have CF : Hid (∀ (w1 : World) (B : Nat) (v : Value), EV w1 (fun k => B ≤ k ∧ k < w1.heap.size) x v → Calls Tryz.prog 123 #[v] w1 fun e w' => e = .returned (.bool (nrm false x)) ∧ Below w1.heap.size w1 w') := Lib.hid (fun w1 B v hv => (isn_all x).1 v _ w1 hv (fun k hk => hk.2))
    cases hn : nrm false x with
    | false =>
      rw [hn] at CF
      rw [readSi_no hp hn]
      clear hp hn
      go_enter Tryz.func74, Tryz.ntmps74
      go_wp2_with (first | (go_at_call 55; go_must (refine (C.out _).mono ?_; rintro e w1 ⟨⟨v, rfl, hv⟩, hb1⟩; obtain ⟨T, u, rfl⟩ := hv.iface)) | (go_at_call 123; go_must (refine (CF.out _ _ _ hv).mono ?_; rintro e w2 ⟨rfl, hb2⟩)))
      go_ret2
      exact ⟨⟨_, rfl⟩, hb1.trans (hb2.mono hb1.size)⟩
    | true =>
      rw [hn] at CF
      rw [readSi_some hp hn]
      clear hp hn
      go_enter Tryz.func74, Tryz.ntmps74
      go_wp2_with (first | (go_at_call 55; go_must (refine (C.out _).mono ?_; rintro e w1 ⟨⟨v, rfl, hv⟩, hb1⟩; obtain ⟨T, u, rfl⟩ := hv.iface)) | (go_at_call 123; go_must (refine (CF.out _ _ _ hv).mono ?_; rintro e w2 ⟨rfl, hb2⟩)))
      go_ret2
      exact ⟨⟨_, rfl, EV.move (fun k hk => ⟨hk.1, Nat.lt_of_lt_of_le hk.2 hb2.size⟩) (fun k hk => hb2.block k hk.2) _ _ hv⟩, hb1.trans (hb2.mono hb1.size)⟩
set_option maxHeartbeats 1000000 in
theorem readNormal_c (s : ByteArray) (hs : s.size ≤ 1048576) (w : World) :
    Calls Tryz.prog 76 #[.string s] w fun e w' => NfPost w.heap.size (readNf s.data.toList) e w' ∧ Below w.heap.size w w' := by
  cases hp : readEx s.data.toList with
  | none =>
    have C := Lib.hid (readExpr_none hs hp)
    rw [readNf_none hp]
    clear hp
    go_enter Tryz.func76, Tryz.ntmps76
    go_wp2_with (go_at_call 55; go_must (refine (C.out _).mono ?_; rintro e w1 ⟨⟨v, rfl⟩, hb1⟩))
    go_ret2
    exact ⟨⟨_, rfl⟩, hb1⟩
  | some x =>
    have C := Lib.hid (readExpr_some hs hp)
    have CF : Hid (∀ (w1 : World) (B : Nat) (v : Value), EV w1 (fun k => B ≤ k ∧ k < w1.heap.size) x v → Calls Tryz.prog 124 #[v] w1 fun e w' => e = .returned (.bool (nrm true x)) ∧ Below w1.heap.size w1 w') := Lib.hid (fun w1 B v hv => (isn_all x).2 v _ w1 hv (fun k hk => hk.2))
    cases hn : nrm true x with
    | false =>
      rw [hn] at CF
      rw [readNf_no hp hn]
      clear hp hn
      go_enter Tryz.func76, Tryz.ntmps76
      go_wp2_with (first | (go_at_call 55; go_must (refine (C.out _).mono ?_; rintro e w1 ⟨⟨v, rfl, hv⟩, hb1⟩; obtain ⟨T, u, rfl⟩ := hv.iface)) | (go_at_call 124; go_must (refine (CF.out _ _ _ hv).mono ?_; rintro e w2 ⟨rfl, hb2⟩)))
      go_ret2
      exact ⟨⟨_, rfl⟩, hb1.trans (hb2.mono hb1.size)⟩
    | true =>
      rw [hn] at CF
      rw [readNf_some hp hn]
      clear hp hn
      go_enter Tryz.func76, Tryz.ntmps76
      go_wp2_with (first | (go_at_call 55; go_must (refine (C.out _).mono ?_; rintro e w1 ⟨⟨v, rfl, hv⟩, hb1⟩; obtain ⟨T, u, rfl⟩ := hv.iface)) | (go_at_call 124; go_must (refine (CF.out _ _ _ hv).mono ?_; rintro e w2 ⟨rfl, hb2⟩)))
      go_ret2
      exact ⟨⟨_, rfl, EV.move (fun k hk => ⟨hk.1, Nat.lt_of_lt_of_le hk.2 hb2.size⟩) (fun k hk => hb2.block k hk.2) _ _ hv⟩, hb1.trans (hb2.mono hb1.size)⟩
theorem implSimpleIs_c (s : ByteArray) (hs : s.size ≤ 1048576) (w : World) :
    Calls Tryz.prog 29 #[.string s] w fun e w' => e = .returned (.bool (nrmOf false s.data.toList)) ∧ Below w.heap.size w w' := by
  rw [nrmOf_si]
  have C : Hid (∀ W, Calls Tryz.prog 74 #[.string s] W fun e w' => (∃ v, e = .returned (.tuple #[v, .bool (readSi s.data.toList).isSome])) ∧ Below W.heap.size W w') := Lib.hid (fun W => (readSimple_c s hs W).mono fun e w' ⟨h1, h2⟩ => ⟨by
    unfold NfPost at h1
    cases hr : readSi s.data.toList with
    | none => rw [hr] at h1; exact h1
    | some x => rw [hr] at h1; obtain ⟨v, h, _⟩ := h1; exact ⟨v, h⟩, h2⟩)
  generalize (readSi s.data.toList).isSome = R at *
  go_enter Tryz.func29, Tryz.ntmps29
  go_wp2_with (go_at_call 74; go_must (refine (C.out _).mono ?_; rintro e w1 ⟨⟨v, rfl⟩, hb1⟩))
  go_ret
  exact ⟨rfl, hb1⟩
theorem implNormalIs_c (s : ByteArray) (hs : s.size ≤ 1048576) (w : World) :
    Calls Tryz.prog 31 #[.string s] w fun e w' => e = .returned (.bool (nrmOf true s.data.toList)) ∧ Below w.heap.size w w' := by
  rw [nrmOf_nf]
  have C : Hid (∀ W, Calls Tryz.prog 76 #[.string s] W fun e w' => (∃ v, e = .returned (.tuple #[v, .bool (readNf s.data.toList).isSome])) ∧ Below W.heap.size W w') := Lib.hid (fun W => (readNormal_c s hs W).mono fun e w' ⟨h1, h2⟩ => ⟨by
    unfold NfPost at h1
    cases hr : readNf s.data.toList with
    | none => rw [hr] at h1; exact h1
    | some x => rw [hr] at h1; obtain ⟨v, h, _⟩ := h1; exact ⟨v, h⟩, h2⟩)
  generalize (readNf s.data.toList).isSome = R at *
  go_enter Tryz.func31, Tryz.ntmps31
  go_wp2_with (go_at_call 76; go_must (refine (C.out _).mono ?_; rintro e w1 ⟨⟨v, rfl⟩, hb1⟩))
  go_ret
  exact ⟨rfl, hb1⟩
end Go.Proofs.YtjfjlfhckfoehaaGreatDoor
