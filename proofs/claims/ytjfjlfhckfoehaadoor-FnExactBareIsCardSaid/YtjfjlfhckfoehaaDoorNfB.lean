/- The reference and the program: bare texts. -/
import Derived.Test.YtjfjlfhckfoehaaDoorNf1
import Derived.Test.YtjfjlfhckfoehaaDoorNumS
import Derived.Test.YtjfjlfhckfoehaaDoorSpec2a
import Derived.Test.YtjfjlfhckfoehaaDoorI2e
import Derived.Handy
namespace Go.Proofs.YtjfjlfhckfoehaaDoor
open Go.RowKit
set_option maxRecDepth 8000
set_option linter.unusedSimpArgs false
set_option linter.unusedVariables false
@[go_sem] theorem asB_name_name (v : Value) (w : World) : (Instr.typeAssert (.iface 38 v) 26 38 true).run Tryd.prog w = .ok (.tuple #[v, .bool true]) w := by kernel_rfl
@[go_sem] theorem asB_name_number (v : Value) (w : World) : (Instr.typeAssert (.iface 38 v) 26 40 true).run Tryd.prog w = .ok (.tuple #[.agg #[.int .i64 0], .bool false]) w := by kernel_rfl
@[go_sem] theorem asB_number_name (v : Value) (w : World) : (Instr.typeAssert (.iface 40 v) 26 38 true).run Tryd.prog w = .ok (.tuple #[.agg #[.string ⟨#[]⟩], .bool false]) w := by kernel_rfl
@[go_sem] theorem asB_number_number (v : Value) (w : World) : (Instr.typeAssert (.iface 40 v) 26 40 true).run Tryd.prog w = .ok (.tuple #[v, .bool true]) w := by kernel_rfl
@[go_sem] theorem asB_add_name (v : Value) (w : World) : (Instr.typeAssert (.iface 74 v) 26 38 true).run Tryd.prog w = .ok (.tuple #[.agg #[.string ⟨#[]⟩], .bool false]) w := by kernel_rfl
@[go_sem] theorem asB_add_number (v : Value) (w : World) : (Instr.typeAssert (.iface 74 v) 26 40 true).run Tryd.prog w = .ok (.tuple #[.agg #[.int .i64 0], .bool false]) w := by kernel_rfl
@[go_sem] theorem asB_sub_name (v : Value) (w : World) : (Instr.typeAssert (.iface 75 v) 26 38 true).run Tryd.prog w = .ok (.tuple #[.agg #[.string ⟨#[]⟩], .bool false]) w := by kernel_rfl
@[go_sem] theorem asB_sub_number (v : Value) (w : World) : (Instr.typeAssert (.iface 75 v) 26 40 true).run Tryd.prog w = .ok (.tuple #[.agg #[.int .i64 0], .bool false]) w := by kernel_rfl
@[go_sem] theorem asB_mul_name (v : Value) (w : World) : (Instr.typeAssert (.iface 76 v) 26 38 true).run Tryd.prog w = .ok (.tuple #[.agg #[.string ⟨#[]⟩], .bool false]) w := by kernel_rfl
@[go_sem] theorem asB_mul_number (v : Value) (w : World) : (Instr.typeAssert (.iface 76 v) 26 40 true).run Tryd.prog w = .ok (.tuple #[.agg #[.int .i64 0], .bool false]) w := by kernel_rfl
@[go_sem] theorem asB_if_name (v : Value) (w : World) : (Instr.typeAssert (.iface 62 v) 26 38 true).run Tryd.prog w = .ok (.tuple #[.agg #[.string ⟨#[]⟩], .bool false]) w := by kernel_rfl
@[go_sem] theorem asB_if_number (v : Value) (w : World) : (Instr.typeAssert (.iface 62 v) 26 40 true).run Tryd.prog w = .ok (.tuple #[.agg #[.int .i64 0], .bool false]) w := by kernel_rfl
@[go_sem] theorem asB_call_name (v : Value) (w : World) : (Instr.typeAssert (.iface 77 v) 26 38 true).run Tryd.prog w = .ok (.tuple #[.agg #[.string ⟨#[]⟩], .bool false]) w := by kernel_rfl
@[go_sem] theorem asB_call_number (v : Value) (w : World) : (Instr.typeAssert (.iface 77 v) 26 40 true).run Tryd.prog w = .ok (.tuple #[.agg #[.int .i64 0], .bool false]) w := by kernel_rfl
@[go_sem] theorem asB_pair_name (v : Value) (w : World) : (Instr.typeAssert (.iface 78 v) 26 38 true).run Tryd.prog w = .ok (.tuple #[.agg #[.string ⟨#[]⟩], .bool false]) w := by kernel_rfl
@[go_sem] theorem asB_pair_number (v : Value) (w : World) : (Instr.typeAssert (.iface 78 v) 26 40 true).run Tryd.prog w = .ok (.tuple #[.agg #[.int .i64 0], .bool false]) w := by kernel_rfl
@[go_sem] theorem asB_fst_name (v : Value) (w : World) : (Instr.typeAssert (.iface 71 v) 26 38 true).run Tryd.prog w = .ok (.tuple #[.agg #[.string ⟨#[]⟩], .bool false]) w := by kernel_rfl
@[go_sem] theorem asB_fst_number (v : Value) (w : World) : (Instr.typeAssert (.iface 71 v) 26 40 true).run Tryd.prog w = .ok (.tuple #[.agg #[.int .i64 0], .bool false]) w := by kernel_rfl
@[go_sem] theorem asB_snd_name (v : Value) (w : World) : (Instr.typeAssert (.iface 72 v) 26 38 true).run Tryd.prog w = .ok (.tuple #[.agg #[.string ⟨#[]⟩], .bool false]) w := by kernel_rfl
@[go_sem] theorem asB_snd_number (v : Value) (w : World) : (Instr.typeAssert (.iface 72 v) 26 40 true).run Tryd.prog w = .ok (.tuple #[.agg #[.int .i64 0], .bool false]) w := by kernel_rfl
@[go_sem] theorem asB_let_name (v : Value) (w : World) : (Instr.typeAssert (.iface 52 v) 26 38 true).run Tryd.prog w = .ok (.tuple #[.agg #[.string ⟨#[]⟩], .bool false]) w := by kernel_rfl
@[go_sem] theorem asB_let_number (v : Value) (w : World) : (Instr.typeAssert (.iface 52 v) 26 40 true).run Tryd.prog w = .ok (.tuple #[.agg #[.int .i64 0], .bool false]) w := by kernel_rfl
@[go_sem] theorem asB_fun_name (v : Value) (w : World) : (Instr.typeAssert (.iface 54 v) 26 38 true).run Tryd.prog w = .ok (.tuple #[.agg #[.string ⟨#[]⟩], .bool false]) w := by kernel_rfl
@[go_sem] theorem asB_fun_number (v : Value) (w : World) : (Instr.typeAssert (.iface 54 v) 26 40 true).run Tryd.prog w = .ok (.tuple #[.agg #[.int .i64 0], .bool false]) w := by kernel_rfl
theorem readExpr_noneB {s : ByteArray} (hs : s.size ≤ 1048576) (hp : readEx s.data.toList = none) (W : World) : Calls Tryd.prog 8 #[.string s] W fun e w' => (∃ v, e = .returned (.tuple #[v, .bool false])) ∧ Below W.heap.size W w' :=
  (readExpr_c s hs W).mono fun e w' ⟨h1, h2⟩ => ⟨by rw [hp] at h1; exact rdPost_shape h1, h2⟩
theorem readExpr_someB {s : ByteArray} (hs : s.size ≤ 1048576) {x : Ex} (hp : readEx s.data.toList = some x) (W : World) : Calls Tryd.prog 8 #[.string s] W fun e w' => (∃ v, e = .returned (.tuple #[v, .bool true]) ∧ EV w' (fun k => W.heap.size ≤ k ∧ k < w'.heap.size) x v) ∧ Below W.heap.size W w' :=
  (readExpr_c s hs W).mono fun e w' ⟨h1, h2⟩ => ⟨by rw [hp] at h1; exact h1, h2⟩
theorem shape_bB (b : Bool) : ∃ x0, ∀ e : Ending, e = .returned (.bool b) → e = .returned (.bool x0) := ⟨_, fun _ h => h⟩
def IbC (x : Ex) : Prop := ∀ (v : Value) (ok : Nat → Prop) (w : World), EV w ok x v → (∀ k, ok k → k < w.heap.size) →
    Calls Tryd.prog 9 #[v] w fun e w' => e = .returned (.bool (bareB x)) ∧ Below w.heap.size w w'
theorem ib_name (s : Nm) : IbC (.name s) := by
  intro v ok w hv hok
  simp only [EV] at hv
  subst hv
  go_enter Tryd.func9, Tryd.ntmps9
  go_wp2_with fail
  go_ret
  exact ⟨rfl, by first | exact Below.refl _ _ | exact below1 _ _ | exact below2 _ _ _⟩
theorem ib_num (n : Int) : IbC (.num n) := by
  intro v ok w hv hok
  simp only [EV] at hv
  subst hv
  go_enter Tryd.func9, Tryd.ntmps9
  go_wp2_with fail
  go_ret
  exact ⟨rfl, by first | exact Below.refl _ _ | exact below1 _ _ | exact below2 _ _ _⟩
theorem ib_add (a c : Ex) : IbC (.two .add a c) := by
  intro v ok w hv hok
  simp only [EV] at hv
  obtain ⟨x, y, rfl, hx, hy⟩ := hv
  obtain ⟨Tx, ux, rfl⟩ := hx.iface
  obtain ⟨Ty, uy, rfl⟩ := hy.iface
  try simp only [op2T, op1T]
  clear hx hy
  go_enter Tryd.func9, Tryd.ntmps9
  go_wp2_with fail
  go_ret
  exact ⟨rfl, by first | exact Below.refl _ _ | exact below1 _ _ | exact below2 _ _ _⟩
theorem ib_sub (a c : Ex) : IbC (.two .sub a c) := by
  intro v ok w hv hok
  simp only [EV] at hv
  obtain ⟨x, y, rfl, hx, hy⟩ := hv
  obtain ⟨Tx, ux, rfl⟩ := hx.iface
  obtain ⟨Ty, uy, rfl⟩ := hy.iface
  try simp only [op2T, op1T]
  clear hx hy
  go_enter Tryd.func9, Tryd.ntmps9
  go_wp2_with fail
  go_ret
  exact ⟨rfl, by first | exact Below.refl _ _ | exact below1 _ _ | exact below2 _ _ _⟩
theorem ib_mul (a c : Ex) : IbC (.two .mul a c) := by
  intro v ok w hv hok
  simp only [EV] at hv
  obtain ⟨x, y, rfl, hx, hy⟩ := hv
  obtain ⟨Tx, ux, rfl⟩ := hx.iface
  obtain ⟨Ty, uy, rfl⟩ := hy.iface
  try simp only [op2T, op1T]
  clear hx hy
  go_enter Tryd.func9, Tryd.ntmps9
  go_wp2_with fail
  go_ret
  exact ⟨rfl, by first | exact Below.refl _ _ | exact below1 _ _ | exact below2 _ _ _⟩
theorem ib_call (a c : Ex) : IbC (.two .call a c) := by
  intro v ok w hv hok
  simp only [EV] at hv
  obtain ⟨x, y, rfl, hx, hy⟩ := hv
  obtain ⟨Tx, ux, rfl⟩ := hx.iface
  obtain ⟨Ty, uy, rfl⟩ := hy.iface
  try simp only [op2T, op1T]
  clear hx hy
  go_enter Tryd.func9, Tryd.ntmps9
  go_wp2_with fail
  go_ret
  exact ⟨rfl, by first | exact Below.refl _ _ | exact below1 _ _ | exact below2 _ _ _⟩
theorem ib_pair (a c : Ex) : IbC (.two .pair a c) := by
  intro v ok w hv hok
  simp only [EV] at hv
  obtain ⟨x, y, rfl, hx, hy⟩ := hv
  obtain ⟨Tx, ux, rfl⟩ := hx.iface
  obtain ⟨Ty, uy, rfl⟩ := hy.iface
  try simp only [op2T, op1T]
  clear hx hy
  go_enter Tryd.func9, Tryd.ntmps9
  go_wp2_with fail
  go_ret
  exact ⟨rfl, by first | exact Below.refl _ _ | exact below1 _ _ | exact below2 _ _ _⟩
theorem ib_fst (a : Ex) : IbC (.one .fst a) := by
  intro v ok w hv hok
  simp only [EV] at hv
  obtain ⟨x, rfl, hx⟩ := hv
  obtain ⟨Tx, ux, rfl⟩ := hx.iface
  try simp only [op2T, op1T]
  clear hx
  go_enter Tryd.func9, Tryd.ntmps9
  go_wp2_with fail
  go_ret
  exact ⟨rfl, by first | exact Below.refl _ _ | exact below1 _ _ | exact below2 _ _ _⟩
theorem ib_snd (a : Ex) : IbC (.one .snd a) := by
  intro v ok w hv hok
  simp only [EV] at hv
  obtain ⟨x, rfl, hx⟩ := hv
  obtain ⟨Tx, ux, rfl⟩ := hx.iface
  try simp only [op2T, op1T]
  clear hx
  go_enter Tryd.func9, Tryd.ntmps9
  go_wp2_with fail
  go_ret
  exact ⟨rfl, by first | exact Below.refl _ _ | exact below1 _ _ | exact below2 _ _ _⟩
theorem ib_cond (a c d : Ex) : IbC (.cond a c d) := by
  intro v ok w hv hok
  simp only [EV] at hv
  obtain ⟨x, y, z, rfl, hx, hy, hz⟩ := hv
  obtain ⟨Tx, ux, rfl⟩ := hx.iface
  obtain ⟨Ty, uy, rfl⟩ := hy.iface
  obtain ⟨Tz, uz, rfl⟩ := hz.iface
  try simp only [op2T, op1T]
  clear hx hy hz
  go_enter Tryd.func9, Tryd.ntmps9
  go_wp2_with fail
  go_ret
  exact ⟨rfl, by first | exact Below.refl _ _ | exact below1 _ _ | exact below2 _ _ _⟩
theorem ib_lete (s : Nm) (a c : Ex) : IbC (.lete s a c) := by
  intro v ok w hv hok
  simp only [EV] at hv
  obtain ⟨x, y, rfl, hx, hy⟩ := hv
  obtain ⟨Tx, ux, rfl⟩ := hx.iface
  obtain ⟨Ty, uy, rfl⟩ := hy.iface
  try simp only [op2T, op1T]
  clear hx hy
  go_enter Tryd.func9, Tryd.ntmps9
  go_wp2_with fail
  go_ret
  exact ⟨rfl, by first | exact Below.refl _ _ | exact below1 _ _ | exact below2 _ _ _⟩
theorem ib_func (f s : Nm) (A B : Tr) (a : Ex) : IbC (.func f s A B a) := by
  intro v ok w hv hok
  simp only [EV] at hv
  obtain ⟨pa, na, ca, pb, nb, cb, x, rfl, hA, hB, hx⟩ := hv
  obtain ⟨Tx, ux, rfl⟩ := hx.iface
  obtain ⟨la, lb, lc, ld, -, -, -, -, hnA⟩ := nI_named A
  obtain ⟨ma, mb, mc, md, -, -, -, -, hnB⟩ := nI_named B
  rw [hnA, hnB]
  simp only [List.cons_append, List.nil_append]
  clear hA hB hnA hnB
  try simp only [op2T, op1T]
  clear hx
  go_enter Tryd.func9, Tryd.ntmps9
  go_wp2_with fail
  go_ret
  exact ⟨rfl, by first | exact Below.refl _ _ | exact below1 _ _ | exact below2 _ _ _⟩
theorem ib_all : ∀ x : Ex, IbC x
  | .name s => ib_name s
  | .num n => ib_num n
  | .two .add a c => ib_add a c
  | .two .sub a c => ib_sub a c
  | .two .mul a c => ib_mul a c
  | .two .call a c => ib_call a c
  | .two .pair a c => ib_pair a c
  | .one .fst a => ib_fst a
  | .one .snd a => ib_snd a
  | .cond a c d => ib_cond a c d
  | .lete s a c => ib_lete s a c
  | .func f s A B a => ib_func f s A B a
theorem implBareIs_c (s : ByteArray) (hs : s.size ≤ 1048576) (w : World) :
    Calls Tryd.prog 5 #[.string s] w fun e w' => e = .returned (.bool (bareOf s.data.toList)) ∧ Below w.heap.size w w' := by
  cases hp : readEx s.data.toList with
  | none =>
    have C := Lib.hid (readExpr_noneB hs hp)
    rw [show bareOf s.data.toList = false by rw [bareOf_read, hp]]
    clear hp
    go_enter Tryd.func5, Tryd.ntmps5
    go_wp2_with (go_at_call 8; go_must (refine (C.out _).mono ?_; rintro e w1 ⟨⟨v, rfl⟩, hb1⟩))
    go_ret
    exact ⟨rfl, hb1⟩
  | some x =>
    have C := Lib.hid (readExpr_someB hs hp)
    rw [show bareOf s.data.toList = bareB x by rw [bareOf_read, hp]]
    have CF : Hid (∀ (w1 : World) (B : Nat) (v : Value), EV w1 (fun k => B ≤ k ∧ k < w1.heap.size) x v → Calls Tryd.prog 9 #[v] w1 fun e w' => e = .returned (.bool (bareB x)) ∧ Below w1.heap.size w1 w') := Lib.hid (fun w1 B v hv => ib_all x v _ w1 hv (fun k hk => hk.2))
    generalize bareB x = R at *
    clear hp
    go_enter Tryd.func5, Tryd.ntmps5
    go_wp2_with (first | (go_at_call 8; go_must (refine (C.out _).mono ?_; rintro e w1 ⟨⟨v, rfl, hv⟩, hb1⟩; obtain ⟨T, u, rfl⟩ := hv.iface)) | (go_at_call 9; go_must (refine (CF.out _ _ _ hv).mono ?_; rintro e w2 ⟨rfl, hb2⟩)))
    go_ret
    exact ⟨rfl, hb1.trans (hb2.mono hb1.size)⟩
theorem specBareIs_c (s : ByteArray) (hs : s.size ≤ 1048576) (w : World) :
    Calls Tryd.prog 4 #[.string s] w fun e w' => e = .returned (.bool (bareOf s.data.toList)) ∧ Below w.heap.size w w' := by
  obtain ⟨l, hl⟩ : ∃ l, l = s.data.toList := ⟨_, rfl⟩
  have hsz : l.length ≤ 1048576 := by rw [hl]; simpa using hs
  have hb : s = bs l := by rw [hl]; exact bsv s
  rw [← hl, hb]
  have C1 : Hid (∀ W, Calls Tryd.prog 6 #[.string (bs l)] W fun e w' => e = .returned (.tuple #[.int .i64 ((numOf l).getD 0), .bool (numOf l).isSome]) ∧ w' = W) := Lib.hid (fun W => l2Number_c l hsz W)
  have C2 : Hid (∀ W, Calls Tryd.prog 7 #[.string (bs l)] W fun e w' => e = .returned (.bool (isNm l)) ∧ w' = W) := Lib.hid (fun W => l2Name_bs l hsz W)
  unfold bareOf
  generalize (numOf l).getD 0 = N at *
  generalize (numOf l).isSome = Z at *
  generalize isNm l = Y at *
  generalize bs l = S at *
  clear hl hsz hb
  cases Z
  · go_enter Tryd.func4, Tryd.ntmps4
    go_wp2_with (first | (go_at_call 6; go_must (refine (C1.out _).mono ?_; rintro e w1 ⟨rfl, rfl⟩)) | (go_at_call 7; go_must (refine (C2.out _).mono ?_; rintro e w1 ⟨rfl, rfl⟩)))
    go_ret
    exact ⟨ret_bool (by simp), Below.refl _ _⟩
  · go_enter Tryd.func4, Tryd.ntmps4
    go_wp2_with (first | (go_at_call 6; go_must (refine (C1.out _).mono ?_; rintro e w1 ⟨rfl, rfl⟩)) | (go_at_call 7; go_must (refine (C2.out _).mono ?_; rintro e w1 ⟨rfl, rfl⟩)))
    go_ret
    exact ⟨ret_bool (by simp), Below.refl _ _⟩
end Go.Proofs.YtjfjlfhckfoehaaDoor
