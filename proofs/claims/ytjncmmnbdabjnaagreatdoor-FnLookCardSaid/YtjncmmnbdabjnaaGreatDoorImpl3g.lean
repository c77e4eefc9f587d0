/- The program: the type of an expression by the types of its parts. -/
import Derived.Test.YtjncmmnbdabjnaaGreatDoorImpl3f
import Derived.Deep.RegionWith
namespace Go.Proofs.YtjncmmnbdabjnaaGreatDoor
open Go.RowKit
set_option maxRecDepth 8000
set_option linter.unusedSimpArgs false
set_option linter.unusedVariables false
@[go_sem] theorem at_number_add (v : Value) (w : World) : (Instr.typeAssert (.iface 133 v) 56 138 true).run Tryz.prog w = .ok (.tuple #[.agg #[.nilIface, .nilIface], .bool false]) w := by kernel_rfl
@[go_sem] theorem at_number_sub (v : Value) (w : World) : (Instr.typeAssert (.iface 133 v) 56 139 true).run Tryz.prog w = .ok (.tuple #[.agg #[.nilIface, .nilIface], .bool false]) w := by kernel_rfl
@[go_sem] theorem at_number_mul (v : Value) (w : World) : (Instr.typeAssert (.iface 133 v) 56 140 true).run Tryz.prog w = .ok (.tuple #[.agg #[.nilIface, .nilIface], .bool false]) w := by kernel_rfl
@[go_sem] theorem at_number_if (v : Value) (w : World) : (Instr.typeAssert (.iface 133 v) 56 142 true).run Tryz.prog w = .ok (.tuple #[.agg #[.nilIface, .nilIface, .nilIface], .bool false]) w := by kernel_rfl
@[go_sem] theorem at_number_call (v : Value) (w : World) : (Instr.typeAssert (.iface 133 v) 56 143 true).run Tryz.prog w = .ok (.tuple #[.agg #[.nilIface, .nilIface], .bool false]) w := by kernel_rfl
@[go_sem] theorem at_number_pair (v : Value) (w : World) : (Instr.typeAssert (.iface 133 v) 56 146 true).run Tryz.prog w = .ok (.tuple #[.agg #[.nilIface, .nilIface], .bool false]) w := by kernel_rfl
@[go_sem] theorem at_number_fst (v : Value) (w : World) : (Instr.typeAssert (.iface 133 v) 56 150 true).run Tryz.prog w = .ok (.tuple #[.agg #[.nilIface], .bool false]) w := by kernel_rfl
@[go_sem] theorem at_number_snd (v : Value) (w : World) : (Instr.typeAssert (.iface 133 v) 56 151 true).run Tryz.prog w = .ok (.tuple #[.agg #[.nilIface], .bool false]) w := by kernel_rfl
@[go_sem] theorem at_add_add (v : Value) (w : World) : (Instr.typeAssert (.iface 138 v) 56 138 true).run Tryz.prog w = .ok (.tuple #[v, .bool true]) w := by kernel_rfl
@[go_sem] theorem at_add_sub (v : Value) (w : World) : (Instr.typeAssert (.iface 138 v) 56 139 true).run Tryz.prog w = .ok (.tuple #[.agg #[.nilIface, .nilIface], .bool false]) w := by kernel_rfl
@[go_sem] theorem at_add_mul (v : Value) (w : World) : (Instr.typeAssert (.iface 138 v) 56 140 true).run Tryz.prog w = .ok (.tuple #[.agg #[.nilIface, .nilIface], .bool false]) w := by kernel_rfl
@[go_sem] theorem at_add_if (v : Value) (w : World) : (Instr.typeAssert (.iface 138 v) 56 142 true).run Tryz.prog w = .ok (.tuple #[.agg #[.nilIface, .nilIface, .nilIface], .bool false]) w := by kernel_rfl
@[go_sem] theorem at_add_call (v : Value) (w : World) : (Instr.typeAssert (.iface 138 v) 56 143 true).run Tryz.prog w = .ok (.tuple #[.agg #[.nilIface, .nilIface], .bool false]) w := by kernel_rfl
@[go_sem] theorem at_add_pair (v : Value) (w : World) : (Instr.typeAssert (.iface 138 v) 56 146 true).run Tryz.prog w = .ok (.tuple #[.agg #[.nilIface, .nilIface], .bool false]) w := by kernel_rfl
@[go_sem] theorem at_add_fst (v : Value) (w : World) : (Instr.typeAssert (.iface 138 v) 56 150 true).run Tryz.prog w = .ok (.tuple #[.agg #[.nilIface], .bool false]) w := by kernel_rfl
@[go_sem] theorem at_add_snd (v : Value) (w : World) : (Instr.typeAssert (.iface 138 v) 56 151 true).run Tryz.prog w = .ok (.tuple #[.agg #[.nilIface], .bool false]) w := by kernel_rfl
@[go_sem] theorem at_sub_add (v : Value) (w : World) : (Instr.typeAssert (.iface 139 v) 56 138 true).run Tryz.prog w = .ok (.tuple #[.agg #[.nilIface, .nilIface], .bool false]) w := by kernel_rfl
@[go_sem] theorem at_sub_sub (v : Value) (w : World) : (Instr.typeAssert (.iface 139 v) 56 139 true).run Tryz.prog w = .ok (.tuple #[v, .bool true]) w := by kernel_rfl
@[go_sem] theorem at_sub_mul (v : Value) (w : World) : (Instr.typeAssert (.iface 139 v) 56 140 true).run Tryz.prog w = .ok (.tuple #[.agg #[.nilIface, .nilIface], .bool false]) w := by kernel_rfl
@[go_sem] theorem at_sub_if (v : Value) (w : World) : (Instr.typeAssert (.iface 139 v) 56 142 true).run Tryz.prog w = .ok (.tuple #[.agg #[.nilIface, .nilIface, .nilIface], .bool false]) w := by kernel_rfl
@[go_sem] theorem at_sub_call (v : Value) (w : World) : (Instr.typeAssert (.iface 139 v) 56 143 true).run Tryz.prog w = .ok (.tuple #[.agg #[.nilIface, .nilIface], .bool false]) w := by kernel_rfl
@[go_sem] theorem at_sub_pair (v : Value) (w : World) : (Instr.typeAssert (.iface 139 v) 56 146 true).run Tryz.prog w = .ok (.tuple #[.agg #[.nilIface, .nilIface], .bool false]) w := by kernel_rfl
@[go_sem] theorem at_sub_fst (v : Value) (w : World) : (Instr.typeAssert (.iface 139 v) 56 150 true).run Tryz.prog w = .ok (.tuple #[.agg #[.nilIface], .bool false]) w := by kernel_rfl
@[go_sem] theorem at_sub_snd (v : Value) (w : World) : (Instr.typeAssert (.iface 139 v) 56 151 true).run Tryz.prog w = .ok (.tuple #[.agg #[.nilIface], .bool false]) w := by kernel_rfl
@[go_sem] theorem at_mul_add (v : Value) (w : World) : (Instr.typeAssert (.iface 140 v) 56 138 true).run Tryz.prog w = .ok (.tuple #[.agg #[.nilIface, .nilIface], .bool false]) w := by kernel_rfl
@[go_sem] theorem at_mul_sub (v : Value) (w : World) : (Instr.typeAssert (.iface 140 v) 56 139 true).run Tryz.prog w = .ok (.tuple #[.agg #[.nilIface, .nilIface], .bool false]) w := by kernel_rfl
@[go_sem] theorem at_mul_mul (v : Value) (w : World) : (Instr.typeAssert (.iface 140 v) 56 140 true).run Tryz.prog w = .ok (.tuple #[v, .bool true]) w := by kernel_rfl
@[go_sem] theorem at_mul_if (v : Value) (w : World) : (Instr.typeAssert (.iface 140 v) 56 142 true).run Tryz.prog w = .ok (.tuple #[.agg #[.nilIface, .nilIface, .nilIface], .bool false]) w := by kernel_rfl
@[go_sem] theorem at_mul_call (v : Value) (w : World) : (Instr.typeAssert (.iface 140 v) 56 143 true).run Tryz.prog w = .ok (.tuple #[.agg #[.nilIface, .nilIface], .bool false]) w := by kernel_rfl
@[go_sem] theorem at_mul_pair (v : Value) (w : World) : (Instr.typeAssert (.iface 140 v) 56 146 true).run Tryz.prog w = .ok (.tuple #[.agg #[.nilIface, .nilIface], .bool false]) w := by kernel_rfl
@[go_sem] theorem at_mul_fst (v : Value) (w : World) : (Instr.typeAssert (.iface 140 v) 56 150 true).run Tryz.prog w = .ok (.tuple #[.agg #[.nilIface], .bool false]) w := by kernel_rfl
@[go_sem] theorem at_mul_snd (v : Value) (w : World) : (Instr.typeAssert (.iface 140 v) 56 151 true).run Tryz.prog w = .ok (.tuple #[.agg #[.nilIface], .bool false]) w := by kernel_rfl
@[go_sem] theorem at_if_add (v : Value) (w : World) : (Instr.typeAssert (.iface 142 v) 56 138 true).run Tryz.prog w = .ok (.tuple #[.agg #[.nilIface, .nilIface], .bool false]) w := by kernel_rfl
@[go_sem] theorem at_if_sub (v : Value) (w : World) : (Instr.typeAssert (.iface 142 v) 56 139 true).run Tryz.prog w = .ok (.tuple #[.agg #[.nilIface, .nilIface], .bool false]) w := by kernel_rfl
@[go_sem] theorem at_if_mul (v : Value) (w : World) : (Instr.typeAssert (.iface 142 v) 56 140 true).run Tryz.prog w = .ok (.tuple #[.agg #[.nilIface, .nilIface], .bool false]) w := by kernel_rfl
@[go_sem] theorem at_if_if (v : Value) (w : World) : (Instr.typeAssert (.iface 142 v) 56 142 true).run Tryz.prog w = .ok (.tuple #[v, .bool true]) w := by kernel_rfl
@[go_sem] theorem at_if_call (v : Value) (w : World) : (Instr.typeAssert (.iface 142 v) 56 143 true).run Tryz.prog w = .ok (.tuple #[.agg #[.nilIface, .nilIface], .bool false]) w := by kernel_rfl
@[go_sem] theorem at_if_pair (v : Value) (w : World) : (Instr.typeAssert (.iface 142 v) 56 146 true).run Tryz.prog w = .ok (.tuple #[.agg #[.nilIface, .nilIface], .bool false]) w := by kernel_rfl
@[go_sem] theorem at_if_fst (v : Value) (w : World) : (Instr.typeAssert (.iface 142 v) 56 150 true).run Tryz.prog w = .ok (.tuple #[.agg #[.nilIface], .bool false]) w := by kernel_rfl
@[go_sem] theorem at_if_snd (v : Value) (w : World) : (Instr.typeAssert (.iface 142 v) 56 151 true).run Tryz.prog w = .ok (.tuple #[.agg #[.nilIface], .bool false]) w := by kernel_rfl
@[go_sem] theorem at_call_add (v : Value) (w : World) : (Instr.typeAssert (.iface 143 v) 56 138 true).run Tryz.prog w = .ok (.tuple #[.agg #[.nilIface, .nilIface], .bool false]) w := by kernel_rfl
@[go_sem] theorem at_call_sub (v : Value) (w : World) : (Instr.typeAssert (.iface 143 v) 56 139 true).run Tryz.prog w = .ok (.tuple #[.agg #[.nilIface, .nilIface], .bool false]) w := by kernel_rfl
@[go_sem] theorem at_call_mul (v : Value) (w : World) : (Instr.typeAssert (.iface 143 v) 56 140 true).run Tryz.prog w = .ok (.tuple #[.agg #[.nilIface, .nilIface], .bool false]) w := by kernel_rfl
@[go_sem] theorem at_call_if (v : Value) (w : World) : (Instr.typeAssert (.iface 143 v) 56 142 true).run Tryz.prog w = .ok (.tuple #[.agg #[.nilIface, .nilIface, .nilIface], .bool false]) w := by kernel_rfl
@[go_sem] theorem at_call_call (v : Value) (w : World) : (Instr.typeAssert (.iface 143 v) 56 143 true).run Tryz.prog w = .ok (.tuple #[v, .bool true]) w := by kernel_rfl
@[go_sem] theorem at_call_pair (v : Value) (w : World) : (Instr.typeAssert (.iface 143 v) 56 146 true).run Tryz.prog w = .ok (.tuple #[.agg #[.nilIface, .nilIface], .bool false]) w := by kernel_rfl
@[go_sem] theorem at_call_fst (v : Value) (w : World) : (Instr.typeAssert (.iface 143 v) 56 150 true).run Tryz.prog w = .ok (.tuple #[.agg #[.nilIface], .bool false]) w := by kernel_rfl
@[go_sem] theorem at_call_snd (v : Value) (w : World) : (Instr.typeAssert (.iface 143 v) 56 151 true).run Tryz.prog w = .ok (.tuple #[.agg #[.nilIface], .bool false]) w := by kernel_rfl
@[go_sem] theorem at_pair_add (v : Value) (w : World) : (Instr.typeAssert (.iface 146 v) 56 138 true).run Tryz.prog w = .ok (.tuple #[.agg #[.nilIface, .nilIface], .bool false]) w := by kernel_rfl
@[go_sem] theorem at_pair_sub (v : Value) (w : World) : (Instr.typeAssert (.iface 146 v) 56 139 true).run Tryz.prog w = .ok (.tuple #[.agg #[.nilIface, .nilIface], .bool false]) w := by kernel_rfl
@[go_sem] theorem at_pair_mul (v : Value) (w : World) : (Instr.typeAssert (.iface 146 v) 56 140 true).run Tryz.prog w = .ok (.tuple #[.agg #[.nilIface, .nilIface], .bool false]) w := by kernel_rfl
@[go_sem] theorem at_pair_if (v : Value) (w : World) : (Instr.typeAssert (.iface 146 v) 56 142 true).run Tryz.prog w = .ok (.tuple #[.agg #[.nilIface, .nilIface, .nilIface], .bool false]) w := by kernel_rfl
@[go_sem] theorem at_pair_call (v : Value) (w : World) : (Instr.typeAssert (.iface 146 v) 56 143 true).run Tryz.prog w = .ok (.tuple #[.agg #[.nilIface, .nilIface], .bool false]) w := by kernel_rfl
@[go_sem] theorem at_pair_pair (v : Value) (w : World) : (Instr.typeAssert (.iface 146 v) 56 146 true).run Tryz.prog w = .ok (.tuple #[v, .bool true]) w := by kernel_rfl
@[go_sem] theorem at_pair_fst (v : Value) (w : World) : (Instr.typeAssert (.iface 146 v) 56 150 true).run Tryz.prog w = .ok (.tuple #[.agg #[.nilIface], .bool false]) w := by kernel_rfl
@[go_sem] theorem at_pair_snd (v : Value) (w : World) : (Instr.typeAssert (.iface 146 v) 56 151 true).run Tryz.prog w = .ok (.tuple #[.agg #[.nilIface], .bool false]) w := by kernel_rfl
@[go_sem] theorem at_fst_add (v : Value) (w : World) : (Instr.typeAssert (.iface 150 v) 56 138 true).run Tryz.prog w = .ok (.tuple #[.agg #[.nilIface, .nilIface], .bool false]) w := by kernel_rfl
@[go_sem] theorem at_fst_sub (v : Value) (w : World) : (Instr.typeAssert (.iface 150 v) 56 139 true).run Tryz.prog w = .ok (.tuple #[.agg #[.nilIface, .nilIface], .bool false]) w := by kernel_rfl
@[go_sem] theorem at_fst_mul (v : Value) (w : World) : (Instr.typeAssert (.iface 150 v) 56 140 true).run Tryz.prog w = .ok (.tuple #[.agg #[.nilIface, .nilIface], .bool false]) w := by kernel_rfl
@[go_sem] theorem at_fst_if (v : Value) (w : World) : (Instr.typeAssert (.iface 150 v) 56 142 true).run Tryz.prog w = .ok (.tuple #[.agg #[.nilIface, .nilIface, .nilIface], .bool false]) w := by kernel_rfl
@[go_sem] theorem at_fst_call (v : Value) (w : World) : (Instr.typeAssert (.iface 150 v) 56 143 true).run Tryz.prog w = .ok (.tuple #[.agg #[.nilIface, .nilIface], .bool false]) w := by kernel_rfl
@[go_sem] theorem at_fst_pair (v : Value) (w : World) : (Instr.typeAssert (.iface 150 v) 56 146 true).run Tryz.prog w = .ok (.tuple #[.agg #[.nilIface, .nilIface], .bool false]) w := by kernel_rfl
@[go_sem] theorem at_fst_fst (v : Value) (w : World) : (Instr.typeAssert (.iface 150 v) 56 150 true).run Tryz.prog w = .ok (.tuple #[v, .bool true]) w := by kernel_rfl
@[go_sem] theorem at_fst_snd (v : Value) (w : World) : (Instr.typeAssert (.iface 150 v) 56 151 true).run Tryz.prog w = .ok (.tuple #[.agg #[.nilIface], .bool false]) w := by kernel_rfl
@[go_sem] theorem at_snd_add (v : Value) (w : World) : (Instr.typeAssert (.iface 151 v) 56 138 true).run Tryz.prog w = .ok (.tuple #[.agg #[.nilIface, .nilIface], .bool false]) w := by kernel_rfl
@[go_sem] theorem at_snd_sub (v : Value) (w : World) : (Instr.typeAssert (.iface 151 v) 56 139 true).run Tryz.prog w = .ok (.tuple #[.agg #[.nilIface, .nilIface], .bool false]) w := by kernel_rfl
@[go_sem] theorem at_snd_mul (v : Value) (w : World) : (Instr.typeAssert (.iface 151 v) 56 140 true).run Tryz.prog w = .ok (.tuple #[.agg #[.nilIface, .nilIface], .bool false]) w := by kernel_rfl
@[go_sem] theorem at_snd_if (v : Value) (w : World) : (Instr.typeAssert (.iface 151 v) 56 142 true).run Tryz.prog w = .ok (.tuple #[.agg #[.nilIface, .nilIface, .nilIface], .bool false]) w := by kernel_rfl
@[go_sem] theorem at_snd_call (v : Value) (w : World) : (Instr.typeAssert (.iface 151 v) 56 143 true).run Tryz.prog w = .ok (.tuple #[.agg #[.nilIface, .nilIface], .bool false]) w := by kernel_rfl
@[go_sem] theorem at_snd_pair (v : Value) (w : World) : (Instr.typeAssert (.iface 151 v) 56 146 true).run Tryz.prog w = .ok (.tuple #[.agg #[.nilIface, .nilIface], .bool false]) w := by kernel_rfl
@[go_sem] theorem at_snd_fst (v : Value) (w : World) : (Instr.typeAssert (.iface 151 v) 56 150 true).run Tryz.prog w = .ok (.tuple #[.agg #[.nilIface], .bool false]) w := by kernel_rfl
@[go_sem] theorem at_snd_snd (v : Value) (w : World) : (Instr.typeAssert (.iface 151 v) 56 151 true).run Tryz.prog w = .ok (.tuple #[v, .bool true]) w := by kernel_rfl
def TpPost (w : World) (ok : Nat → Prop) (r : Option Tr) (e : Ending) (w' : World) : Prop :=
  match r with
  | none => ∃ u p m c, ∃ i1 i2 i3 : Int, e = .returned (.tuple #[.agg #[.string u, .slice p m c, .int .i64 i1, .int .i64 i2, .int .i64 i3], .bool false])
  | some t => ∃ p m c, e = .returned (.tuple #[.agg #[.string (bs (atomOf t)), .slice p m c, .int .i64 t.bytes, .int .i64 t.size, .int .i64 t.depth], .bool true]) ∧ FV nI w' (okN w w' ok) t (nI t (.slice p m c))
theorem isAtom_t {t : Tr} {w0 : World} {ok : Nat → Prop} {p : Option Addr} {m c : Nat} (hwf : t.wf) (hv : FV nI w0 ok t (nI t (.slice p m c))) (W : World) : Calls Tryz.prog 99 #[.agg #[.string (bs (atomOf t)), .slice p m c, .int .i64 t.bytes, .int .i64 t.size, .int .i64 t.depth]] W fun e w' => e = .returned (.bool (isNumT t)) ∧ Below W.heap.size W w' := by
  match t, hwf, hv with
  | .atom a, _, hv =>
    simp only [FV] at hv
    have hh := nI_inj _ _ _ hv
    simp only [Value.slice.injEq] at hh
    obtain ⟨rfl, rfl, rfl⟩ := hh
    exact isAtom_yes _ _ _ _ _ _ _
  | .list ts, hwf, hv =>
    obtain ⟨r, off, cap, xs, hh, _⟩ := hv.list_cells
    have hh := nI_inj _ _ _ hh
    simp only [Value.slice.injEq] at hh
    obtain ⟨rfl, rfl, rfl⟩ := hh
    exact isAtom_no _ _ _ _ (by have := hwf.1; cases ts with | nil => exact absurd rfl this | cons _ _ => simp) _ _ _ _
theorem tI_cells : nI tI (.slice none 0 0) = [.string ⟨#[105]⟩, .slice none 0 0, .int .i64 1, .int .i64 1, .int .i64 0] := rfl
theorem tp_tI (w : World) (ok : Nat → Prop) (w' : World) : TpPost w ok (some tI) (.returned (.tuple #[.agg #[.string ⟨#[105]⟩, .slice none 0 0, .int .i64 1, .int .i64 1, .int .i64 0], .bool true])) w' := ⟨none, 0, 0, rfl, by simp only [tI, FV]⟩
set_option maxHeartbeats 2000000 in
theorem tp_number (w : World) (ok : Nat → Prop) (u : Value) (v : Value) : Calls Tryz.prog 81 #[.iface 133 u, v] w fun e w' => TpPost w ok (some tI) e w' ∧ Below w.heap.size w w' := by
  have N1 := Lib.hid (fun W => newAtom_c ⟨#[105]⟩ W (show 1 ≤ 12000 by decide))
  have y := heap_alloc_new w (.cells #[.string ⟨#[]⟩, .slice none 0 0, .int .i64 0, .int .i64 0, .int .i64 0] 50)
  go_enter Tryz.func81, Tryz.ntmps81
  go_wp2_with (go_at_call 118; go_must (refine (N1.out _).mono ?_; rintro e w1 ⟨rfl, hb1⟩; have y1 := below_blk hb1 (lt_of_block y) y; have f0 := free_of (j := 0) y1; have f1 := free_of (j := 1) y1; have f2 := free_of (j := 2) y1; have f3 := free_of (j := 3) y1; have f4 := free_of (j := 4) y1; have z0 := cell_of (j := 0) y1; have z1 := cell_of (j := 1) y1; have z2 := cell_of (j := 2) y1; have z3 := cell_of (j := 3) y1; have z4 := cell_of (j := 4) y1))
  have O := set5_same y1 (.string ⟨#[105]⟩) (.slice none 0 0) (.int .i64 1) (.int .i64 1) (.int .i64 0)
  have r0 := cell_of (j := 0) O
  have r1 := cell_of (j := 1) O
  have r2 := cell_of (j := 2) O
  have r3 := cell_of (j := 3) O
  have r4 := cell_of (j := 4) O
  refine bodyPost_ret (v := .tuple #[.agg #[.string ⟨#[105]⟩, .slice none 0 0, .int .i64 1, .int .i64 1, .int .i64 0], .bool true]) (by simp [results, Tryz.results81, go_sem, r0, r1, r2, r3, r4]) rfl ⟨tp_tI w ok _, ?_⟩
  exact set5 ((below1 w _).trans (hb1.mono (by simp))) (Nat.le_refl _) _ _ _ _ _
set_option maxHeartbeats 8000000 in
theorem tp_add (ok : Nat → Prop) (ta tb : Tr) (u v : Value) (w : World) (hok : ∀ k, ok k → k < w.heap.size) (ha : ta.wf) (hb : tb.wf) (hr : RowV w ok [ta, tb] v) :
    Calls Tryz.prog 81 #[.iface 138 u, v] w fun e w' => TpPost w ok (join2 .add ta tb) e w' ∧ Below w.heap.size w w' := by
  obtain ⟨r, off, cap, ys, rfl, h1, h2, h3, h4, h5⟩ : ∃ r off cap ys, v = .slice (some ⟨r, off, none⟩) 2 cap ∧ 2 ≤ cap ∧ cap ≤ maxLen ∧ r < w.heap.size ∧ hasRow w r off ys ∧ FVs nI w ok [ta, tb] ys := by
    rcases hr with ⟨h, _⟩ | h
    · cases h
    · exact h
  have hm := maxLen_le h2
  obtain ⟨cs1, g1, w1⟩ := FVs.get nI_len h5 h4 0 (by simp)
  obtain ⟨p1, n1, c1, rfl⟩ := g1.node
  simp only [List.getElem_cons_zero, List.getElem_cons_succ] at g1 w1
  obtain ⟨ua, a1, a2, a3, hu1, hx1, hy1, hz1, hq1⟩ := nI_named ta
  rw [hq1] at w1
  have x0 : w.cell? ⟨r, off, none⟩ = some (.string ua) := by simpa using w1 0 _ rfl
  have x1 : w.cell? ⟨r, off + 1, none⟩ = some (.slice p1 n1 c1) := by simpa using w1 1 _ rfl
  have x2 : w.cell? ⟨r, off + 2, none⟩ = some (.int .i64 a1) := by simpa using w1 2 _ rfl
  have x3 : w.cell? ⟨r, off + 3, none⟩ = some (.int .i64 a2) := by simpa using w1 3 _ rfl
  have x4 : w.cell? ⟨r, off + 4, none⟩ = some (.int .i64 a3) := by simpa using w1 4 _ rfl
  obtain ⟨cs2, g2, w2⟩ := FVs.get nI_len h5 h4 1 (by simp)
  obtain ⟨p2, n2, c2, rfl⟩ := g2.node
  simp only [List.getElem_cons_zero, List.getElem_cons_succ] at g2 w2
  obtain ⟨ub, b1, b2, b3, hu2, hx2, hy2, hz2, hq2⟩ := nI_named tb
  rw [hq2] at w2
  have y0 : w.cell? ⟨r, off + 5, none⟩ = some (.string ub) := by simpa using w2 0 _ rfl
  have y1 : w.cell? ⟨r, off + 5 + 1, none⟩ = some (.slice p2 n2 c2) := by simpa using w2 1 _ rfl
  have y2 : w.cell? ⟨r, off + 5 + 2, none⟩ = some (.int .i64 b1) := by simpa using w2 2 _ rfl
  have y3 : w.cell? ⟨r, off + 5 + 3, none⟩ = some (.int .i64 b2) := by simpa using w2 3 _ rfl
  have y4 : w.cell? ⟨r, off + 5 + 4, none⟩ = some (.int .i64 b3) := by simpa using w2 4 _ rfl
  have KS : Hid (∀ W, Below w.heap.size w W → W.cell? ⟨r, off, none⟩ = some (.string ua) ∧ W.cell? ⟨r, off + 1, none⟩ = some (.slice p1 n1 c1) ∧ W.cell? ⟨r, off + 2, none⟩ = some (.int .i64 a1) ∧ W.cell? ⟨r, off + 3, none⟩ = some (.int .i64 a2) ∧ W.cell? ⟨r, off + 4, none⟩ = some (.int .i64 a3) ∧ W.cell? ⟨r, off + 5, none⟩ = some (.string ub) ∧ W.cell? ⟨r, off + 5 + 1, none⟩ = some (.slice p2 n2 c2) ∧ W.cell? ⟨r, off + 5 + 2, none⟩ = some (.int .i64 b1) ∧ W.cell? ⟨r, off + 5 + 3, none⟩ = some (.int .i64 b2) ∧ W.cell? ⟨r, off + 5 + 4, none⟩ = some (.int .i64 b3)) := Lib.hid (fun W hW => ⟨(hW.cell (p := ⟨r, off, none⟩) h3).trans (x0), (hW.cell (p := ⟨r, off + 1, none⟩) h3).trans (x1), (hW.cell (p := ⟨r, off + 2, none⟩) h3).trans (x2), (hW.cell (p := ⟨r, off + 3, none⟩) h3).trans (x3), (hW.cell (p := ⟨r, off + 4, none⟩) h3).trans (x4), (hW.cell (p := ⟨r, off + 5, none⟩) h3).trans (y0), (hW.cell (p := ⟨r, off + 5 + 1, none⟩) h3).trans (y1), (hW.cell (p := ⟨r, off + 5 + 2, none⟩) h3).trans (y2), (hW.cell (p := ⟨r, off + 5 + 3, none⟩) h3).trans (y3), (hW.cell (p := ⟨r, off + 5 + 4, none⟩) h3).trans (y4)⟩)
  have N1 := Lib.hid (fun W => newAtom_c ⟨#[105]⟩ W (show 1 ≤ 12000 by decide))
  have CA : Hid (∀ W, Calls Tryz.prog 99 #[.agg #[.string ua, .slice p1 n1 c1, .int .i64 a1, .int .i64 a2, .int .i64 a3]] W fun e w' => e = .returned (.bool (isNumT ta)) ∧ Below W.heap.size W w') := Lib.hid (fun W => by rw [hu1, hx1, hy1, hz1]; exact isAtom_t ha g1 W)
  have CB : Hid (∀ W, Calls Tryz.prog 99 #[.agg #[.string ub, .slice p2 n2 c2, .int .i64 b1, .int .i64 b2, .int .i64 b3]] W fun e w' => e = .returned (.bool (isNumT tb)) ∧ Below W.heap.size W w') := Lib.hid (fun W => by rw [hu2, hx2, hy2, hz2]; exact isAtom_t hb g2 W)
  have HJ := Lib.hid (show join2 .add ta tb = if isNumT ta = true ∧ isNumT tb = true then some tI else none from rfl)
  obtain ⟨wa, hwa⟩ : ∃ wa, wa = w.alloc (.cells #[.string ⟨#[]⟩, .slice none 0 0, .int .i64 0, .int .i64 0, .int .i64 0] 50) := ⟨_, rfl⟩
  have yw : wa.heap[w.heap.size]? = some (.cells #[.string ⟨#[]⟩, .slice none 0 0, .int .i64 0, .int .i64 0, .int .i64 0] 50 (0, 0)) := by rw [hwa]; exact heap_alloc_new _ _
  have hbw := Lib.hid (show Below w.heap.size w wa by rw [hwa]; exact below1 _ _)
  have KA : Hid (∀ W, Below wa.heap.size wa W → (W.cell? ⟨r, off, none⟩ = some (.string ua) ∧ W.cell? ⟨r, off + 1, none⟩ = some (.slice p1 n1 c1) ∧ W.cell? ⟨r, off + 2, none⟩ = some (.int .i64 a1) ∧ W.cell? ⟨r, off + 3, none⟩ = some (.int .i64 a2) ∧ W.cell? ⟨r, off + 4, none⟩ = some (.int .i64 a3) ∧ W.cell? ⟨r, off + 5, none⟩ = some (.string ub) ∧ W.cell? ⟨r, off + 5 + 1, none⟩ = some (.slice p2 n2 c2) ∧ W.cell? ⟨r, off + 5 + 2, none⟩ = some (.int .i64 b1) ∧ W.cell? ⟨r, off + 5 + 3, none⟩ = some (.int .i64 b2) ∧ W.cell? ⟨r, off + 5 + 4, none⟩ = some (.int .i64 b3)) ∧ W.heap[w.heap.size]? = some (.cells #[.string ⟨#[]⟩, .slice none 0 0, .int .i64 0, .int .i64 0, .int .i64 0] 50 (0, 0))) := Lib.hid (fun W hW => ⟨KS.out W (hbw.out.trans (hW.mono hbw.out.size)), below_blk hW (lt_of_block yw) yw⟩)
  have hD : Below wa.heap.size wa wa.drew := (Below.refl _ _).drew
  have hD1 : Below wa.heap.size wa wa := Below.refl _ _
  obtain ⟨⟨ix0, ix1, ix2, ix3, ix4, iy0, iy1, iy2, iy3, iy4⟩, y0⟩ := KA.out _ hD1
  clear y0
  clear g1 w1 hu1 hx1 hy1 hz1 hq1 x0 x1 x2 x3 x4 g2 w2 hu2 hx2 hy2 hz2 hq2 y0 y1 y2 y3 y4 h4 h5 hr h1 ha hb KS
  cases hza : isNumT ta with
  | false =>
    rw [hza] at CA HJ
    have HF := Lib.hid (show join2 .add ta tb = none by rw [HJ.out]; simp)
    rw [HF.out]
    clear HJ hza CB
    go_enter Tryz.func81, Tryz.ntmps81
    go_wp2_with fail
    rw [← hwa]
    clear hwa yw
    first | (go_region_with (first | (go_at_call 118; first | ((with_reducible refine (N1.out _).mono ?_); rintro e w1 ⟨rfl, hbw1⟩; have hBw1 := Below.trans (by assumption : Below wa.heap.size wa _) (hbw1.mono (Below.size (by assumption))); obtain ⟨⟨jx0, jx1, jx2, jx3, jx4, jy0, jy1, jy2, jy3, jy4⟩, yw1⟩ := KA.out _ hBw1; have f0 := free_of (j := 0) yw1; have f1 := free_of (j := 1) yw1; have f2 := free_of (j := 2) yw1; have f3 := free_of (j := 3) yw1; have f4 := free_of (j := 4) yw1; have z0 := cell_of (j := 0) yw1; have z1 := cell_of (j := 1) yw1; have z2 := cell_of (j := 2) yw1; have z3 := cell_of (j := 3) yw1; have z4 := cell_of (j := 4) yw1)) | (go_at_call 99; first | ((with_reducible refine (CA.out _).mono ?_); rintro e w2 ⟨rfl, hbw2⟩; have hBw2 := Below.trans (by assumption : Below wa.heap.size wa _) (hbw2.mono (Below.size (by assumption))); obtain ⟨⟨kx0, kx1, kx2, kx3, kx4, ky0, ky1, ky2, ky3, ky4⟩, yw2⟩ := KA.out _ hBw2; have f0 := free_of (j := 0) yw2; have f1 := free_of (j := 1) yw2; have f2 := free_of (j := 2) yw2; have f3 := free_of (j := 3) yw2; have f4 := free_of (j := 4) yw2; have z0 := cell_of (j := 0) yw2; have z1 := cell_of (j := 1) yw2; have z2 := cell_of (j := 2) yw2; have z3 := cell_of (j := 3) yw2; have z4 := cell_of (j := 4) yw2)))) | fail
    all_goals
      go_wp2_with fail
      have O := set5_same yw2 (.string ⟨#[105]⟩) (.slice none 0 0) (.int .i64 1) (.int .i64 1) (.int .i64 0)
      have r0 := cell_of (j := 0) O
      have r1 := cell_of (j := 1) O
      have r2 := cell_of (j := 2) O
      have r3 := cell_of (j := 3) O
      have r4 := cell_of (j := 4) O
      refine bodyPost_ret (v := .tuple #[.agg #[.string ⟨#[105]⟩, .slice none 0 0, .int .i64 1, .int .i64 1, .int .i64 0], .bool false]) (by simp [results, Tryz.results81, go_sem, r0, r1, r2, r3, r4]) rfl ⟨⟨_, _, _, _, _, _, _, rfl⟩, ?_⟩
      first
        | exact set5 (hbw.out.trans (hBw2.mono hbw.out.size)) (Nat.le_refl _) _ _ _ _ _
        | exact (set5 (hbw.out.trans (hBw2.mono hbw.out.size)) (Nat.le_refl _) _ _ _ _ _).drew
  | true =>
    rw [hza] at CA HJ
    cases hzb : isNumT tb with
    | false =>
      rw [hzb] at CB HJ
      have HF := Lib.hid (show join2 .add ta tb = none by rw [HJ.out]; simp)
      rw [HF.out]
      clear HJ hza hzb
      go_enter Tryz.func81, Tryz.ntmps81
      go_wp2_with fail
      rw [← hwa]
      clear hwa yw
      first | (go_region_with (first | (go_at_call 118; first | ((with_reducible refine (N1.out _).mono ?_); rintro e w1 ⟨rfl, hbw1⟩; have hBw1 := Below.trans (by assumption : Below wa.heap.size wa _) (hbw1.mono (Below.size (by assumption))); obtain ⟨⟨jx0, jx1, jx2, jx3, jx4, jy0, jy1, jy2, jy3, jy4⟩, yw1⟩ := KA.out _ hBw1; have f0 := free_of (j := 0) yw1; have f1 := free_of (j := 1) yw1; have f2 := free_of (j := 2) yw1; have f3 := free_of (j := 3) yw1; have f4 := free_of (j := 4) yw1; have z0 := cell_of (j := 0) yw1; have z1 := cell_of (j := 1) yw1; have z2 := cell_of (j := 2) yw1; have z3 := cell_of (j := 3) yw1; have z4 := cell_of (j := 4) yw1)) | (go_at_call 99; first | ((with_reducible refine (CA.out _).mono ?_); rintro e w2 ⟨rfl, hbw2⟩; have hBw2 := Below.trans (by assumption : Below wa.heap.size wa _) (hbw2.mono (Below.size (by assumption))); obtain ⟨⟨kx0, kx1, kx2, kx3, kx4, ky0, ky1, ky2, ky3, ky4⟩, yw2⟩ := KA.out _ hBw2; have f0 := free_of (j := 0) yw2; have f1 := free_of (j := 1) yw2; have f2 := free_of (j := 2) yw2; have f3 := free_of (j := 3) yw2; have f4 := free_of (j := 4) yw2; have z0 := cell_of (j := 0) yw2; have z1 := cell_of (j := 1) yw2; have z2 := cell_of (j := 2) yw2; have z3 := cell_of (j := 3) yw2; have z4 := cell_of (j := 4) yw2) | ((with_reducible refine (CB.out _).mono ?_); rintro e w3 ⟨rfl, hbw3⟩; have hBw3 := Below.trans (by assumption : Below wa.heap.size wa _) (hbw3.mono (Below.size (by assumption))); obtain ⟨⟨lx0, lx1, lx2, lx3, lx4, ly0, ly1, ly2, ly3, ly4⟩, yw3⟩ := KA.out _ hBw3; have f0 := free_of (j := 0) yw3; have f1 := free_of (j := 1) yw3; have f2 := free_of (j := 2) yw3; have f3 := free_of (j := 3) yw3; have f4 := free_of (j := 4) yw3; have z0 := cell_of (j := 0) yw3; have z1 := cell_of (j := 1) yw3; have z2 := cell_of (j := 2) yw3; have z3 := cell_of (j := 3) yw3; have z4 := cell_of (j := 4) yw3)))) | fail
      all_goals
        go_wp2_with fail
        have O := set5_same yw3 (.string ⟨#[105]⟩) (.slice none 0 0) (.int .i64 1) (.int .i64 1) (.int .i64 0)
        have r0 := cell_of (j := 0) O
        have r1 := cell_of (j := 1) O
        have r2 := cell_of (j := 2) O
        have r3 := cell_of (j := 3) O
        have r4 := cell_of (j := 4) O
        refine bodyPost_ret (v := .tuple #[.agg #[.string ⟨#[105]⟩, .slice none 0 0, .int .i64 1, .int .i64 1, .int .i64 0], .bool false]) (by simp [results, Tryz.results81, go_sem, r0, r1, r2, r3, r4]) rfl ⟨⟨_, _, _, _, _, _, _, rfl⟩, ?_⟩
        first
          | exact set5 (hbw.out.trans (hBw3.mono hbw.out.size)) (Nat.le_refl _) _ _ _ _ _
          | exact (set5 (hbw.out.trans (hBw3.mono hbw.out.size)) (Nat.le_refl _) _ _ _ _ _).drew
    | true =>
      rw [hzb] at CB HJ
      have HF := Lib.hid (show join2 .add ta tb = some tI by rw [HJ.out]; simp)
      rw [HF.out]
      clear HJ hza hzb
      go_enter Tryz.func81, Tryz.ntmps81
      go_wp2_with fail
      rw [← hwa]
      clear hwa yw
      first | (go_region_with (first | (go_at_call 118; first | ((with_reducible refine (N1.out _).mono ?_); rintro e w1 ⟨rfl, hbw1⟩; have hBw1 := Below.trans (by assumption : Below wa.heap.size wa _) (hbw1.mono (Below.size (by assumption))); obtain ⟨⟨jx0, jx1, jx2, jx3, jx4, jy0, jy1, jy2, jy3, jy4⟩, yw1⟩ := KA.out _ hBw1; have f0 := free_of (j := 0) yw1; have f1 := free_of (j := 1) yw1; have f2 := free_of (j := 2) yw1; have f3 := free_of (j := 3) yw1; have f4 := free_of (j := 4) yw1; have z0 := cell_of (j := 0) yw1; have z1 := cell_of (j := 1) yw1; have z2 := cell_of (j := 2) yw1; have z3 := cell_of (j := 3) yw1; have z4 := cell_of (j := 4) yw1)) | (go_at_call 99; first | ((with_reducible refine (CA.out _).mono ?_); rintro e w2 ⟨rfl, hbw2⟩; have hBw2 := Below.trans (by assumption : Below wa.heap.size wa _) (hbw2.mono (Below.size (by assumption))); obtain ⟨⟨kx0, kx1, kx2, kx3, kx4, ky0, ky1, ky2, ky3, ky4⟩, yw2⟩ := KA.out _ hBw2; have f0 := free_of (j := 0) yw2; have f1 := free_of (j := 1) yw2; have f2 := free_of (j := 2) yw2; have f3 := free_of (j := 3) yw2; have f4 := free_of (j := 4) yw2; have z0 := cell_of (j := 0) yw2; have z1 := cell_of (j := 1) yw2; have z2 := cell_of (j := 2) yw2; have z3 := cell_of (j := 3) yw2; have z4 := cell_of (j := 4) yw2) | ((with_reducible refine (CB.out _).mono ?_); rintro e w3 ⟨rfl, hbw3⟩; have hBw3 := Below.trans (by assumption : Below wa.heap.size wa _) (hbw3.mono (Below.size (by assumption))); obtain ⟨⟨lx0, lx1, lx2, lx3, lx4, ly0, ly1, ly2, ly3, ly4⟩, yw3⟩ := KA.out _ hBw3; have f0 := free_of (j := 0) yw3; have f1 := free_of (j := 1) yw3; have f2 := free_of (j := 2) yw3; have f3 := free_of (j := 3) yw3; have f4 := free_of (j := 4) yw3; have z0 := cell_of (j := 0) yw3; have z1 := cell_of (j := 1) yw3; have z2 := cell_of (j := 2) yw3; have z3 := cell_of (j := 3) yw3; have z4 := cell_of (j := 4) yw3)))) | fail
      all_goals
        go_wp2_with fail
        have O := set5_same yw3 (.string ⟨#[105]⟩) (.slice none 0 0) (.int .i64 1) (.int .i64 1) (.int .i64 0)
        have r0 := cell_of (j := 0) O
        have r1 := cell_of (j := 1) O
        have r2 := cell_of (j := 2) O
        have r3 := cell_of (j := 3) O
        have r4 := cell_of (j := 4) O
        refine bodyPost_ret (v := .tuple #[.agg #[.string ⟨#[105]⟩, .slice none 0 0, .int .i64 1, .int .i64 1, .int .i64 0], .bool true]) (by simp [results, Tryz.results81, go_sem, r0, r1, r2, r3, r4]) rfl ⟨tp_tI w ok _, ?_⟩
        first
          | exact set5 (hbw.out.trans (hBw3.mono hbw.out.size)) (Nat.le_refl _) _ _ _ _ _
          | exact (set5 (hbw.out.trans (hBw3.mono hbw.out.size)) (Nat.le_refl _) _ _ _ _ _).drew
set_option maxHeartbeats 8000000 in
theorem tp_sub (ok : Nat → Prop) (ta tb : Tr) (u v : Value) (w : World) (hok : ∀ k, ok k → k < w.heap.size) (ha : ta.wf) (hb : tb.wf) (hr : RowV w ok [ta, tb] v) :
    Calls Tryz.prog 81 #[.iface 139 u, v] w fun e w' => TpPost w ok (join2 .sub ta tb) e w' ∧ Below w.heap.size w w' := by
  obtain ⟨r, off, cap, ys, rfl, h1, h2, h3, h4, h5⟩ : ∃ r off cap ys, v = .slice (some ⟨r, off, none⟩) 2 cap ∧ 2 ≤ cap ∧ cap ≤ maxLen ∧ r < w.heap.size ∧ hasRow w r off ys ∧ FVs nI w ok [ta, tb] ys := by
    rcases hr with ⟨h, _⟩ | h
    · cases h
    · exact h
  have hm := maxLen_le h2
  obtain ⟨cs1, g1, w1⟩ := FVs.get nI_len h5 h4 0 (by simp)
  obtain ⟨p1, n1, c1, rfl⟩ := g1.node
  simp only [List.getElem_cons_zero, List.getElem_cons_succ] at g1 w1
  obtain ⟨ua, a1, a2, a3, hu1, hx1, hy1, hz1, hq1⟩ := nI_named ta
  rw [hq1] at w1
  have x0 : w.cell? ⟨r, off, none⟩ = some (.string ua) := by simpa using w1 0 _ rfl
  have x1 : w.cell? ⟨r, off + 1, none⟩ = some (.slice p1 n1 c1) := by simpa using w1 1 _ rfl
  have x2 : w.cell? ⟨r, off + 2, none⟩ = some (.int .i64 a1) := by simpa using w1 2 _ rfl
  have x3 : w.cell? ⟨r, off + 3, none⟩ = some (.int .i64 a2) := by simpa using w1 3 _ rfl
  have x4 : w.cell? ⟨r, off + 4, none⟩ = some (.int .i64 a3) := by simpa using w1 4 _ rfl
  obtain ⟨cs2, g2, w2⟩ := FVs.get nI_len h5 h4 1 (by simp)
  obtain ⟨p2, n2, c2, rfl⟩ := g2.node
  simp only [List.getElem_cons_zero, List.getElem_cons_succ] at g2 w2
  obtain ⟨ub, b1, b2, b3, hu2, hx2, hy2, hz2, hq2⟩ := nI_named tb
  rw [hq2] at w2
  have y0 : w.cell? ⟨r, off + 5, none⟩ = some (.string ub) := by simpa using w2 0 _ rfl
  have y1 : w.cell? ⟨r, off + 5 + 1, none⟩ = some (.slice p2 n2 c2) := by simpa using w2 1 _ rfl
  have y2 : w.cell? ⟨r, off + 5 + 2, none⟩ = some (.int .i64 b1) := by simpa using w2 2 _ rfl
  have y3 : w.cell? ⟨r, off + 5 + 3, none⟩ = some (.int .i64 b2) := by simpa using w2 3 _ rfl
  have y4 : w.cell? ⟨r, off + 5 + 4, none⟩ = some (.int .i64 b3) := by simpa using w2 4 _ rfl
  have KS : Hid (∀ W, Below w.heap.size w W → W.cell? ⟨r, off, none⟩ = some (.string ua) ∧ W.cell? ⟨r, off + 1, none⟩ = some (.slice p1 n1 c1) ∧ W.cell? ⟨r, off + 2, none⟩ = some (.int .i64 a1) ∧ W.cell? ⟨r, off + 3, none⟩ = some (.int .i64 a2) ∧ W.cell? ⟨r, off + 4, none⟩ = some (.int .i64 a3) ∧ W.cell? ⟨r, off + 5, none⟩ = some (.string ub) ∧ W.cell? ⟨r, off + 5 + 1, none⟩ = some (.slice p2 n2 c2) ∧ W.cell? ⟨r, off + 5 + 2, none⟩ = some (.int .i64 b1) ∧ W.cell? ⟨r, off + 5 + 3, none⟩ = some (.int .i64 b2) ∧ W.cell? ⟨r, off + 5 + 4, none⟩ = some (.int .i64 b3)) := Lib.hid (fun W hW => ⟨(hW.cell (p := ⟨r, off, none⟩) h3).trans (x0), (hW.cell (p := ⟨r, off + 1, none⟩) h3).trans (x1), (hW.cell (p := ⟨r, off + 2, none⟩) h3).trans (x2), (hW.cell (p := ⟨r, off + 3, none⟩) h3).trans (x3), (hW.cell (p := ⟨r, off + 4, none⟩) h3).trans (x4), (hW.cell (p := ⟨r, off + 5, none⟩) h3).trans (y0), (hW.cell (p := ⟨r, off + 5 + 1, none⟩) h3).trans (y1), (hW.cell (p := ⟨r, off + 5 + 2, none⟩) h3).trans (y2), (hW.cell (p := ⟨r, off + 5 + 3, none⟩) h3).trans (y3), (hW.cell (p := ⟨r, off + 5 + 4, none⟩) h3).trans (y4)⟩)
  have N1 := Lib.hid (fun W => newAtom_c ⟨#[105]⟩ W (show 1 ≤ 12000 by decide))
  have CA : Hid (∀ W, Calls Tryz.prog 99 #[.agg #[.string ua, .slice p1 n1 c1, .int .i64 a1, .int .i64 a2, .int .i64 a3]] W fun e w' => e = .returned (.bool (isNumT ta)) ∧ Below W.heap.size W w') := Lib.hid (fun W => by rw [hu1, hx1, hy1, hz1]; exact isAtom_t ha g1 W)
  have CB : Hid (∀ W, Calls Tryz.prog 99 #[.agg #[.string ub, .slice p2 n2 c2, .int .i64 b1, .int .i64 b2, .int .i64 b3]] W fun e w' => e = .returned (.bool (isNumT tb)) ∧ Below W.heap.size W w') := Lib.hid (fun W => by rw [hu2, hx2, hy2, hz2]; exact isAtom_t hb g2 W)
  have HJ := Lib.hid (show join2 .sub ta tb = if isNumT ta = true ∧ isNumT tb = true then some tI else none from rfl)
  obtain ⟨wa, hwa⟩ : ∃ wa, wa = w.alloc (.cells #[.string ⟨#[]⟩, .slice none 0 0, .int .i64 0, .int .i64 0, .int .i64 0] 50) := ⟨_, rfl⟩
  have yw : wa.heap[w.heap.size]? = some (.cells #[.string ⟨#[]⟩, .slice none 0 0, .int .i64 0, .int .i64 0, .int .i64 0] 50 (0, 0)) := by rw [hwa]; exact heap_alloc_new _ _
  have hbw := Lib.hid (show Below w.heap.size w wa by rw [hwa]; exact below1 _ _)
  have KA : Hid (∀ W, Below wa.heap.size wa W → (W.cell? ⟨r, off, none⟩ = some (.string ua) ∧ W.cell? ⟨r, off + 1, none⟩ = some (.slice p1 n1 c1) ∧ W.cell? ⟨r, off + 2, none⟩ = some (.int .i64 a1) ∧ W.cell? ⟨r, off + 3, none⟩ = some (.int .i64 a2) ∧ W.cell? ⟨r, off + 4, none⟩ = some (.int .i64 a3) ∧ W.cell? ⟨r, off + 5, none⟩ = some (.string ub) ∧ W.cell? ⟨r, off + 5 + 1, none⟩ = some (.slice p2 n2 c2) ∧ W.cell? ⟨r, off + 5 + 2, none⟩ = some (.int .i64 b1) ∧ W.cell? ⟨r, off + 5 + 3, none⟩ = some (.int .i64 b2) ∧ W.cell? ⟨r, off + 5 + 4, none⟩ = some (.int .i64 b3)) ∧ W.heap[w.heap.size]? = some (.cells #[.string ⟨#[]⟩, .slice none 0 0, .int .i64 0, .int .i64 0, .int .i64 0] 50 (0, 0))) := Lib.hid (fun W hW => ⟨KS.out W (hbw.out.trans (hW.mono hbw.out.size)), below_blk hW (lt_of_block yw) yw⟩)
  have hD : Below wa.heap.size wa wa.drew := (Below.refl _ _).drew
  have hD1 : Below wa.heap.size wa wa := Below.refl _ _
  obtain ⟨⟨ix0, ix1, ix2, ix3, ix4, iy0, iy1, iy2, iy3, iy4⟩, y0⟩ := KA.out _ hD1
  clear y0
  clear g1 w1 hu1 hx1 hy1 hz1 hq1 x0 x1 x2 x3 x4 g2 w2 hu2 hx2 hy2 hz2 hq2 y0 y1 y2 y3 y4 h4 h5 hr h1 ha hb KS
  cases hza : isNumT ta with
  | false =>
    rw [hza] at CA HJ
    have HF := Lib.hid (show join2 .sub ta tb = none by rw [HJ.out]; simp)
    rw [HF.out]
    clear HJ hza CB
    go_enter Tryz.func81, Tryz.ntmps81
    go_wp2_with fail
    rw [← hwa]
    clear hwa yw
    first | (go_region_with (first | (go_at_call 118; first | ((with_reducible refine (N1.out _).mono ?_); rintro e w1 ⟨rfl, hbw1⟩; have hBw1 := Below.trans (by assumption : Below wa.heap.size wa _) (hbw1.mono (Below.size (by assumption))); obtain ⟨⟨jx0, jx1, jx2, jx3, jx4, jy0, jy1, jy2, jy3, jy4⟩, yw1⟩ := KA.out _ hBw1; have f0 := free_of (j := 0) yw1; have f1 := free_of (j := 1) yw1; have f2 := free_of (j := 2) yw1; have f3 := free_of (j := 3) yw1; have f4 := free_of (j := 4) yw1; have z0 := cell_of (j := 0) yw1; have z1 := cell_of (j := 1) yw1; have z2 := cell_of (j := 2) yw1; have z3 := cell_of (j := 3) yw1; have z4 := cell_of (j := 4) yw1)) | (go_at_call 99; first | ((with_reducible refine (CA.out _).mono ?_); rintro e w2 ⟨rfl, hbw2⟩; have hBw2 := Below.trans (by assumption : Below wa.heap.size wa _) (hbw2.mono (Below.size (by assumption))); obtain ⟨⟨kx0, kx1, kx2, kx3, kx4, ky0, ky1, ky2, ky3, ky4⟩, yw2⟩ := KA.out _ hBw2; have f0 := free_of (j := 0) yw2; have f1 := free_of (j := 1) yw2; have f2 := free_of (j := 2) yw2; have f3 := free_of (j := 3) yw2; have f4 := free_of (j := 4) yw2; have z0 := cell_of (j := 0) yw2; have z1 := cell_of (j := 1) yw2; have z2 := cell_of (j := 2) yw2; have z3 := cell_of (j := 3) yw2; have z4 := cell_of (j := 4) yw2)))) | fail
    all_goals
      go_wp2_with fail
      have O := set5_same yw2 (.string ⟨#[105]⟩) (.slice none 0 0) (.int .i64 1) (.int .i64 1) (.int .i64 0)
      have r0 := cell_of (j := 0) O
      have r1 := cell_of (j := 1) O
      have r2 := cell_of (j := 2) O
      have r3 := cell_of (j := 3) O
      have r4 := cell_of (j := 4) O
      refine bodyPost_ret (v := .tuple #[.agg #[.string ⟨#[105]⟩, .slice none 0 0, .int .i64 1, .int .i64 1, .int .i64 0], .bool false]) (by simp [results, Tryz.results81, go_sem, r0, r1, r2, r3, r4]) rfl ⟨⟨_, _, _, _, _, _, _, rfl⟩, ?_⟩
      first
        | exact set5 (hbw.out.trans (hBw2.mono hbw.out.size)) (Nat.le_refl _) _ _ _ _ _
        | exact (set5 (hbw.out.trans (hBw2.mono hbw.out.size)) (Nat.le_refl _) _ _ _ _ _).drew
  | true =>
    rw [hza] at CA HJ
    cases hzb : isNumT tb with
    | false =>
      rw [hzb] at CB HJ
      have HF := Lib.hid (show join2 .sub ta tb = none by rw [HJ.out]; simp)
      rw [HF.out]
      clear HJ hza hzb
      go_enter Tryz.func81, Tryz.ntmps81
      go_wp2_with fail
      rw [← hwa]
      clear hwa yw
      first | (go_region_with (first | (go_at_call 118; first | ((with_reducible refine (N1.out _).mono ?_); rintro e w1 ⟨rfl, hbw1⟩; have hBw1 := Below.trans (by assumption : Below wa.heap.size wa _) (hbw1.mono (Below.size (by assumption))); obtain ⟨⟨jx0, jx1, jx2, jx3, jx4, jy0, jy1, jy2, jy3, jy4⟩, yw1⟩ := KA.out _ hBw1; have f0 := free_of (j := 0) yw1; have f1 := free_of (j := 1) yw1; have f2 := free_of (j := 2) yw1; have f3 := free_of (j := 3) yw1; have f4 := free_of (j := 4) yw1; have z0 := cell_of (j := 0) yw1; have z1 := cell_of (j := 1) yw1; have z2 := cell_of (j := 2) yw1; have z3 := cell_of (j := 3) yw1; have z4 := cell_of (j := 4) yw1)) | (go_at_call 99; first | ((with_reducible refine (CA.out _).mono ?_); rintro e w2 ⟨rfl, hbw2⟩; have hBw2 := Below.trans (by assumption : Below wa.heap.size wa _) (hbw2.mono (Below.size (by assumption))); obtain ⟨⟨kx0, kx1, kx2, kx3, kx4, ky0, ky1, ky2, ky3, ky4⟩, yw2⟩ := KA.out _ hBw2; have f0 := free_of (j := 0) yw2; have f1 := free_of (j := 1) yw2; have f2 := free_of (j := 2) yw2; have f3 := free_of (j := 3) yw2; have f4 := free_of (j := 4) yw2; have z0 := cell_of (j := 0) yw2; have z1 := cell_of (j := 1) yw2; have z2 := cell_of (j := 2) yw2; have z3 := cell_of (j := 3) yw2; have z4 := cell_of (j := 4) yw2) | ((with_reducible refine (CB.out _).mono ?_); rintro e w3 ⟨rfl, hbw3⟩; have hBw3 := Below.trans (by assumption : Below wa.heap.size wa _) (hbw3.mono (Below.size (by assumption))); obtain ⟨⟨lx0, lx1, lx2, lx3, lx4, ly0, ly1, ly2, ly3, ly4⟩, yw3⟩ := KA.out _ hBw3; have f0 := free_of (j := 0) yw3; have f1 := free_of (j := 1) yw3; have f2 := free_of (j := 2) yw3; have f3 := free_of (j := 3) yw3; have f4 := free_of (j := 4) yw3; have z0 := cell_of (j := 0) yw3; have z1 := cell_of (j := 1) yw3; have z2 := cell_of (j := 2) yw3; have z3 := cell_of (j := 3) yw3; have z4 := cell_of (j := 4) yw3)))) | fail
      all_goals
        go_wp2_with fail
        have O := set5_same yw3 (.string ⟨#[105]⟩) (.slice none 0 0) (.int .i64 1) (.int .i64 1) (.int .i64 0)
        have r0 := cell_of (j := 0) O
        have r1 := cell_of (j := 1) O
        have r2 := cell_of (j := 2) O
        have r3 := cell_of (j := 3) O
        have r4 := cell_of (j := 4) O
        refine bodyPost_ret (v := .tuple #[.agg #[.string ⟨#[105]⟩, .slice none 0 0, .int .i64 1, .int .i64 1, .int .i64 0], .bool false]) (by simp [results, Tryz.results81, go_sem, r0, r1, r2, r3, r4]) rfl ⟨⟨_, _, _, _, _, _, _, rfl⟩, ?_⟩
        first
          | exact set5 (hbw.out.trans (hBw3.mono hbw.out.size)) (Nat.le_refl _) _ _ _ _ _
          | exact (set5 (hbw.out.trans (hBw3.mono hbw.out.size)) (Nat.le_refl _) _ _ _ _ _).drew
    | true =>
      rw [hzb] at CB HJ
      have HF := Lib.hid (show join2 .sub ta tb = some tI by rw [HJ.out]; simp)
      rw [HF.out]
      clear HJ hza hzb
      go_enter Tryz.func81, Tryz.ntmps81
      go_wp2_with fail
      rw [← hwa]
      clear hwa yw
      first | (go_region_with (first | (go_at_call 118; first | ((with_reducible refine (N1.out _).mono ?_); rintro e w1 ⟨rfl, hbw1⟩; have hBw1 := Below.trans (by assumption : Below wa.heap.size wa _) (hbw1.mono (Below.size (by assumption))); obtain ⟨⟨jx0, jx1, jx2, jx3, jx4, jy0, jy1, jy2, jy3, jy4⟩, yw1⟩ := KA.out _ hBw1; have f0 := free_of (j := 0) yw1; have f1 := free_of (j := 1) yw1; have f2 := free_of (j := 2) yw1; have f3 := free_of (j := 3) yw1; have f4 := free_of (j := 4) yw1; have z0 := cell_of (j := 0) yw1; have z1 := cell_of (j := 1) yw1; have z2 := cell_of (j := 2) yw1; have z3 := cell_of (j := 3) yw1; have z4 := cell_of (j := 4) yw1)) | (go_at_call 99; first | ((with_reducible refine (CA.out _).mono ?_); rintro e w2 ⟨rfl, hbw2⟩; have hBw2 := Below.trans (by assumption : Below wa.heap.size wa _) (hbw2.mono (Below.size (by assumption))); obtain ⟨⟨kx0, kx1, kx2, kx3, kx4, ky0, ky1, ky2, ky3, ky4⟩, yw2⟩ := KA.out _ hBw2; have f0 := free_of (j := 0) yw2; have f1 := free_of (j := 1) yw2; have f2 := free_of (j := 2) yw2; have f3 := free_of (j := 3) yw2; have f4 := free_of (j := 4) yw2; have z0 := cell_of (j := 0) yw2; have z1 := cell_of (j := 1) yw2; have z2 := cell_of (j := 2) yw2; have z3 := cell_of (j := 3) yw2; have z4 := cell_of (j := 4) yw2) | ((with_reducible refine (CB.out _).mono ?_); rintro e w3 ⟨rfl, hbw3⟩; have hBw3 := Below.trans (by assumption : Below wa.heap.size wa _) (hbw3.mono (Below.size (by assumption))); obtain ⟨⟨lx0, lx1, lx2, lx3, lx4, ly0, ly1, ly2, ly3, ly4⟩, yw3⟩ := KA.out _ hBw3; have f0 := free_of (j := 0) yw3; have f1 := free_of (j := 1) yw3; have f2 := free_of (j := 2) yw3; have f3 := free_of (j := 3) yw3; have f4 := free_of (j := 4) yw3; have z0 := cell_of (j := 0) yw3; have z1 := cell_of (j := 1) yw3; have z2 := cell_of (j := 2) yw3; have z3 := cell_of (j := 3) yw3; have z4 := cell_of (j := 4) yw3)))) | fail
      all_goals
        go_wp2_with fail
        have O := set5_same yw3 (.string ⟨#[105]⟩) (.slice none 0 0) (.int .i64 1) (.int .i64 1) (.int .i64 0)
        have r0 := cell_of (j := 0) O
        have r1 := cell_of (j := 1) O
        have r2 := cell_of (j := 2) O
        have r3 := cell_of (j := 3) O
        have r4 := cell_of (j := 4) O
        refine bodyPost_ret (v := .tuple #[.agg #[.string ⟨#[105]⟩, .slice none 0 0, .int .i64 1, .int .i64 1, .int .i64 0], .bool true]) (by simp [results, Tryz.results81, go_sem, r0, r1, r2, r3, r4]) rfl ⟨tp_tI w ok _, ?_⟩
        first
          | exact set5 (hbw.out.trans (hBw3.mono hbw.out.size)) (Nat.le_refl _) _ _ _ _ _
          | exact (set5 (hbw.out.trans (hBw3.mono hbw.out.size)) (Nat.le_refl _) _ _ _ _ _).drew
set_option maxHeartbeats 8000000 in
theorem tp_mul (ok : Nat → Prop) (ta tb : Tr) (u v : Value) (w : World) (hok : ∀ k, ok k → k < w.heap.size) (ha : ta.wf) (hb : tb.wf) (hr : RowV w ok [ta, tb] v) :
    Calls Tryz.prog 81 #[.iface 140 u, v] w fun e w' => TpPost w ok (join2 .mul ta tb) e w' ∧ Below w.heap.size w w' := by
  obtain ⟨r, off, cap, ys, rfl, h1, h2, h3, h4, h5⟩ : ∃ r off cap ys, v = .slice (some ⟨r, off, none⟩) 2 cap ∧ 2 ≤ cap ∧ cap ≤ maxLen ∧ r < w.heap.size ∧ hasRow w r off ys ∧ FVs nI w ok [ta, tb] ys := by
    rcases hr with ⟨h, _⟩ | h
    · cases h
    · exact h
  have hm := maxLen_le h2
  obtain ⟨cs1, g1, w1⟩ := FVs.get nI_len h5 h4 0 (by simp)
  obtain ⟨p1, n1, c1, rfl⟩ := g1.node
  simp only [List.getElem_cons_zero, List.getElem_cons_succ] at g1 w1
  obtain ⟨ua, a1, a2, a3, hu1, hx1, hy1, hz1, hq1⟩ := nI_named ta
  rw [hq1] at w1
  have x0 : w.cell? ⟨r, off, none⟩ = some (.string ua) := by simpa using w1 0 _ rfl
  have x1 : w.cell? ⟨r, off + 1, none⟩ = some (.slice p1 n1 c1) := by simpa using w1 1 _ rfl
  have x2 : w.cell? ⟨r, off + 2, none⟩ = some (.int .i64 a1) := by simpa using w1 2 _ rfl
  have x3 : w.cell? ⟨r, off + 3, none⟩ = some (.int .i64 a2) := by simpa using w1 3 _ rfl
  have x4 : w.cell? ⟨r, off + 4, none⟩ = some (.int .i64 a3) := by simpa using w1 4 _ rfl
  obtain ⟨cs2, g2, w2⟩ := FVs.get nI_len h5 h4 1 (by simp)
  obtain ⟨p2, n2, c2, rfl⟩ := g2.node
  simp only [List.getElem_cons_zero, List.getElem_cons_succ] at g2 w2
  obtain ⟨ub, b1, b2, b3, hu2, hx2, hy2, hz2, hq2⟩ := nI_named tb
  rw [hq2] at w2
  have y0 : w.cell? ⟨r, off + 5, none⟩ = some (.string ub) := by simpa using w2 0 _ rfl
  have y1 : w.cell? ⟨r, off + 5 + 1, none⟩ = some (.slice p2 n2 c2) := by simpa using w2 1 _ rfl
  have y2 : w.cell? ⟨r, off + 5 + 2, none⟩ = some (.int .i64 b1) := by simpa using w2 2 _ rfl
  have y3 : w.cell? ⟨r, off + 5 + 3, none⟩ = some (.int .i64 b2) := by simpa using w2 3 _ rfl
  have y4 : w.cell? ⟨r, off + 5 + 4, none⟩ = some (.int .i64 b3) := by simpa using w2 4 _ rfl
  have KS : Hid (∀ W, Below w.heap.size w W → W.cell? ⟨r, off, none⟩ = some (.string ua) ∧ W.cell? ⟨r, off + 1, none⟩ = some (.slice p1 n1 c1) ∧ W.cell? ⟨r, off + 2, none⟩ = some (.int .i64 a1) ∧ W.cell? ⟨r, off + 3, none⟩ = some (.int .i64 a2) ∧ W.cell? ⟨r, off + 4, none⟩ = some (.int .i64 a3) ∧ W.cell? ⟨r, off + 5, none⟩ = some (.string ub) ∧ W.cell? ⟨r, off + 5 + 1, none⟩ = some (.slice p2 n2 c2) ∧ W.cell? ⟨r, off + 5 + 2, none⟩ = some (.int .i64 b1) ∧ W.cell? ⟨r, off + 5 + 3, none⟩ = some (.int .i64 b2) ∧ W.cell? ⟨r, off + 5 + 4, none⟩ = some (.int .i64 b3)) := Lib.hid (fun W hW => ⟨(hW.cell (p := ⟨r, off, none⟩) h3).trans (x0), (hW.cell (p := ⟨r, off + 1, none⟩) h3).trans (x1), (hW.cell (p := ⟨r, off + 2, none⟩) h3).trans (x2), (hW.cell (p := ⟨r, off + 3, none⟩) h3).trans (x3), (hW.cell (p := ⟨r, off + 4, none⟩) h3).trans (x4), (hW.cell (p := ⟨r, off + 5, none⟩) h3).trans (y0), (hW.cell (p := ⟨r, off + 5 + 1, none⟩) h3).trans (y1), (hW.cell (p := ⟨r, off + 5 + 2, none⟩) h3).trans (y2), (hW.cell (p := ⟨r, off + 5 + 3, none⟩) h3).trans (y3), (hW.cell (p := ⟨r, off + 5 + 4, none⟩) h3).trans (y4)⟩)
  have N1 := Lib.hid (fun W => newAtom_c ⟨#[105]⟩ W (show 1 ≤ 12000 by decide))
  have CA : Hid (∀ W, Calls Tryz.prog 99 #[.agg #[.string ua, .slice p1 n1 c1, .int .i64 a1, .int .i64 a2, .int .i64 a3]] W fun e w' => e = .returned (.bool (isNumT ta)) ∧ Below W.heap.size W w') := Lib.hid (fun W => by rw [hu1, hx1, hy1, hz1]; exact isAtom_t ha g1 W)
  have CB : Hid (∀ W, Calls Tryz.prog 99 #[.agg #[.string ub, .slice p2 n2 c2, .int .i64 b1, .int .i64 b2, .int .i64 b3]] W fun e w' => e = .returned (.bool (isNumT tb)) ∧ Below W.heap.size W w') := Lib.hid (fun W => by rw [hu2, hx2, hy2, hz2]; exact isAtom_t hb g2 W)
  have HJ := Lib.hid (show join2 .mul ta tb = if isNumT ta = true ∧ isNumT tb = true then some tI else none from rfl)
  obtain ⟨wa, hwa⟩ : ∃ wa, wa = w.alloc (.cells #[.string ⟨#[]⟩, .slice none 0 0, .int .i64 0, .int .i64 0, .int .i64 0] 50) := ⟨_, rfl⟩
  have yw : wa.heap[w.heap.size]? = some (.cells #[.string ⟨#[]⟩, .slice none 0 0, .int .i64 0, .int .i64 0, .int .i64 0] 50 (0, 0)) := by rw [hwa]; exact heap_alloc_new _ _
  have hbw := Lib.hid (show Below w.heap.size w wa by rw [hwa]; exact below1 _ _)
  have KA : Hid (∀ W, Below wa.heap.size wa W → (W.cell? ⟨r, off, none⟩ = some (.string ua) ∧ W.cell? ⟨r, off + 1, none⟩ = some (.slice p1 n1 c1) ∧ W.cell? ⟨r, off + 2, none⟩ = some (.int .i64 a1) ∧ W.cell? ⟨r, off + 3, none⟩ = some (.int .i64 a2) ∧ W.cell? ⟨r, off + 4, none⟩ = some (.int .i64 a3) ∧ W.cell? ⟨r, off + 5, none⟩ = some (.string ub) ∧ W.cell? ⟨r, off + 5 + 1, none⟩ = some (.slice p2 n2 c2) ∧ W.cell? ⟨r, off + 5 + 2, none⟩ = some (.int .i64 b1) ∧ W.cell? ⟨r, off + 5 + 3, none⟩ = some (.int .i64 b2) ∧ W.cell? ⟨r, off + 5 + 4, none⟩ = some (.int .i64 b3)) ∧ W.heap[w.heap.size]? = some (.cells #[.string ⟨#[]⟩, .slice none 0 0, .int .i64 0, .int .i64 0, .int .i64 0] 50 (0, 0))) := Lib.hid (fun W hW => ⟨KS.out W (hbw.out.trans (hW.mono hbw.out.size)), below_blk hW (lt_of_block yw) yw⟩)
  have hD : Below wa.heap.size wa wa.drew := (Below.refl _ _).drew
  have hD1 : Below wa.heap.size wa wa := Below.refl _ _
  obtain ⟨⟨ix0, ix1, ix2, ix3, ix4, iy0, iy1, iy2, iy3, iy4⟩, y0⟩ := KA.out _ hD1
  clear y0
  clear g1 w1 hu1 hx1 hy1 hz1 hq1 x0 x1 x2 x3 x4 g2 w2 hu2 hx2 hy2 hz2 hq2 y0 y1 y2 y3 y4 h4 h5 hr h1 ha hb KS
  cases hza : isNumT ta with
  | false =>
    rw [hza] at CA HJ
    have HF := Lib.hid (show join2 .mul ta tb = none by rw [HJ.out]; simp)
    rw [HF.out]
    clear HJ hza CB
    go_enter Tryz.func81, Tryz.ntmps81
    go_wp2_with fail
    rw [← hwa]
    clear hwa yw
    first | (go_region_with (first | (go_at_call 118; first | ((with_reducible refine (N1.out _).mono ?_); rintro e w1 ⟨rfl, hbw1⟩; have hBw1 := Below.trans (by assumption : Below wa.heap.size wa _) (hbw1.mono (Below.size (by assumption))); obtain ⟨⟨jx0, jx1, jx2, jx3, jx4, jy0, jy1, jy2, jy3, jy4⟩, yw1⟩ := KA.out _ hBw1; have f0 := free_of (j := 0) yw1; have f1 := free_of (j := 1) yw1; have f2 := free_of (j := 2) yw1; have f3 := free_of (j := 3) yw1; have f4 := free_of (j := 4) yw1; have z0 := cell_of (j := 0) yw1; have z1 := cell_of (j := 1) yw1; have z2 := cell_of (j := 2) yw1; have z3 := cell_of (j := 3) yw1; have z4 := cell_of (j := 4) yw1)) | (go_at_call 99; first | ((with_reducible refine (CA.out _).mono ?_); rintro e w2 ⟨rfl, hbw2⟩; have hBw2 := Below.trans (by assumption : Below wa.heap.size wa _) (hbw2.mono (Below.size (by assumption))); obtain ⟨⟨kx0, kx1, kx2, kx3, kx4, ky0, ky1, ky2, ky3, ky4⟩, yw2⟩ := KA.out _ hBw2; have f0 := free_of (j := 0) yw2; have f1 := free_of (j := 1) yw2; have f2 := free_of (j := 2) yw2; have f3 := free_of (j := 3) yw2; have f4 := free_of (j := 4) yw2; have z0 := cell_of (j := 0) yw2; have z1 := cell_of (j := 1) yw2; have z2 := cell_of (j := 2) yw2; have z3 := cell_of (j := 3) yw2; have z4 := cell_of (j := 4) yw2)))) | fail
    all_goals
      go_wp2_with fail
      have O := set5_same yw2 (.string ⟨#[105]⟩) (.slice none 0 0) (.int .i64 1) (.int .i64 1) (.int .i64 0)
      have r0 := cell_of (j := 0) O
      have r1 := cell_of (j := 1) O
      have r2 := cell_of (j := 2) O
      have r3 := cell_of (j := 3) O
      have r4 := cell_of (j := 4) O
      refine bodyPost_ret (v := .tuple #[.agg #[.string ⟨#[105]⟩, .slice none 0 0, .int .i64 1, .int .i64 1, .int .i64 0], .bool false]) (by simp [results, Tryz.results81, go_sem, r0, r1, r2, r3, r4]) rfl ⟨⟨_, _, _, _, _, _, _, rfl⟩, ?_⟩
      first
        | exact set5 (hbw.out.trans (hBw2.mono hbw.out.size)) (Nat.le_refl _) _ _ _ _ _
        | exact (set5 (hbw.out.trans (hBw2.mono hbw.out.size)) (Nat.le_refl _) _ _ _ _ _).drew
  | true =>
    rw [hza] at CA HJ
    cases hzb : isNumT tb with
    | false =>
      rw [hzb] at CB HJ
      have HF := Lib.hid (show join2 .mul ta tb = none by rw [HJ.out]; simp)
      rw [HF.out]
      clear HJ hza hzb
      go_enter Tryz.func81, Tryz.ntmps81
      go_wp2_with fail
      rw [← hwa]
      clear hwa yw
      first | (go_region_with (first | (go_at_call 118; first | ((with_reducible refine (N1.out _).mono ?_); rintro e w1 ⟨rfl, hbw1⟩; have hBw1 := Below.trans (by assumption : Below wa.heap.size wa _) (hbw1.mono (Below.size (by assumption))); obtain ⟨⟨jx0, jx1, jx2, jx3, jx4, jy0, jy1, jy2, jy3, jy4⟩, yw1⟩ := KA.out _ hBw1; have f0 := free_of (j := 0) yw1; have f1 := free_of (j := 1) yw1; have f2 := free_of (j := 2) yw1; have f3 := free_of (j := 3) yw1; have f4 := free_of (j := 4) yw1; have z0 := cell_of (j := 0) yw1; have z1 := cell_of (j := 1) yw1; have z2 := cell_of (j := 2) yw1; have z3 := cell_of (j := 3) yw1; have z4 := cell_of (j := 4) yw1)) | (go_at_call 99; first | ((with_reducible refine (CA.out _).mono ?_); rintro e w2 ⟨rfl, hbw2⟩; have hBw2 := Below.trans (by assumption : Below wa.heap.size wa _) (hbw2.mono (Below.size (by assumption))); obtain ⟨⟨kx0, kx1, kx2, kx3, kx4, ky0, ky1, ky2, ky3, ky4⟩, yw2⟩ := KA.out _ hBw2; have f0 := free_of (j := 0) yw2; have f1 := free_of (j := 1) yw2; have f2 := free_of (j := 2) yw2; have f3 := free_of (j := 3) yw2; have f4 := free_of (j := 4) yw2; have z0 := cell_of (j := 0) yw2; have z1 := cell_of (j := 1) yw2; have z2 := cell_of (j := 2) yw2; have z3 := cell_of (j := 3) yw2; have z4 := cell_of (j := 4) yw2) | ((with_reducible refine (CB.out _).mono ?_); rintro e w3 ⟨rfl, hbw3⟩; have hBw3 := Below.trans (by assumption : Below wa.heap.size wa _) (hbw3.mono (Below.size (by assumption))); obtain ⟨⟨lx0, lx1, lx2, lx3, lx4, ly0, ly1, ly2, ly3, ly4⟩, yw3⟩ := KA.out _ hBw3; have f0 := free_of (j := 0) yw3; have f1 := free_of (j := 1) yw3; have f2 := free_of (j := 2) yw3; have f3 := free_of (j := 3) yw3; have f4 := free_of (j := 4) yw3; have z0 := cell_of (j := 0) yw3; have z1 := cell_of (j := 1) yw3; have z2 := cell_of (j := 2) yw3; have z3 := cell_of (j := 3) yw3; have z4 := cell_of (j := 4) yw3)))) | fail
      all_goals
        go_wp2_with fail
        have O := set5_same yw3 (.string ⟨#[105]⟩) (.slice none 0 0) (.int .i64 1) (.int .i64 1) (.int .i64 0)
        have r0 := cell_of (j := 0) O
        have r1 := cell_of (j := 1) O
        have r2 := cell_of (j := 2) O
        have r3 := cell_of (j := 3) O
        have r4 := cell_of (j := 4) O
        refine bodyPost_ret (v := .tuple #[.agg #[.string ⟨#[105]⟩, .slice none 0 0, .int .i64 1, .int .i64 1, .int .i64 0], .bool false]) (by simp [results, Tryz.results81, go_sem, r0, r1, r2, r3, r4]) rfl ⟨⟨_, _, _, _, _, _, _, rfl⟩, ?_⟩
        first
          | exact set5 (hbw.out.trans (hBw3.mono hbw.out.size)) (Nat.le_refl _) _ _ _ _ _
          | exact (set5 (hbw.out.trans (hBw3.mono hbw.out.size)) (Nat.le_refl _) _ _ _ _ _).drew
    | true =>
      rw [hzb] at CB HJ
      have HF := Lib.hid (show join2 .mul ta tb = some tI by rw [HJ.out]; simp)
      rw [HF.out]
      clear HJ hza hzb
      go_enter Tryz.func81, Tryz.ntmps81
      go_wp2_with fail
      rw [← hwa]
      clear hwa yw
      first | (go_region_with (first | (go_at_call 118; first | ((with_reducible refine (N1.out _).mono ?_); rintro e w1 ⟨rfl, hbw1⟩; have hBw1 := Below.trans (by assumption : Below wa.heap.size wa _) (hbw1.mono (Below.size (by assumption))); obtain ⟨⟨jx0, jx1, jx2, jx3, jx4, jy0, jy1, jy2, jy3, jy4⟩, yw1⟩ := KA.out _ hBw1; have f0 := free_of (j := 0) yw1; have f1 := free_of (j := 1) yw1; have f2 := free_of (j := 2) yw1; have f3 := free_of (j := 3) yw1; have f4 := free_of (j := 4) yw1; have z0 := cell_of (j := 0) yw1; have z1 := cell_of (j := 1) yw1; have z2 := cell_of (j := 2) yw1; have z3 := cell_of (j := 3) yw1; have z4 := cell_of (j := 4) yw1)) | (go_at_call 99; first | ((with_reducible refine (CA.out _).mono ?_); rintro e w2 ⟨rfl, hbw2⟩; have hBw2 := Below.trans (by assumption : Below wa.heap.size wa _) (hbw2.mono (Below.size (by assumption))); obtain ⟨⟨kx0, kx1, kx2, kx3, kx4, ky0, ky1, ky2, ky3, ky4⟩, yw2⟩ := KA.out _ hBw2; have f0 := free_of (j := 0) yw2; have f1 := free_of (j := 1) yw2; have f2 := free_of (j := 2) yw2; have f3 := free_of (j := 3) yw2; have f4 := free_of (j := 4) yw2; have z0 := cell_of (j := 0) yw2; have z1 := cell_of (j := 1) yw2; have z2 := cell_of (j := 2) yw2; have z3 := cell_of (j := 3) yw2; have z4 := cell_of (j := 4) yw2) | ((with_reducible refine (CB.out _).mono ?_); rintro e w3 ⟨rfl, hbw3⟩; have hBw3 := Below.trans (by assumption : Below wa.heap.size wa _) (hbw3.mono (Below.size (by assumption))); obtain ⟨⟨lx0, lx1, lx2, lx3, lx4, ly0, ly1, ly2, ly3, ly4⟩, yw3⟩ := KA.out _ hBw3; have f0 := free_of (j := 0) yw3; have f1 := free_of (j := 1) yw3; have f2 := free_of (j := 2) yw3; have f3 := free_of (j := 3) yw3; have f4 := free_of (j := 4) yw3; have z0 := cell_of (j := 0) yw3; have z1 := cell_of (j := 1) yw3; have z2 := cell_of (j := 2) yw3; have z3 := cell_of (j := 3) yw3; have z4 := cell_of (j := 4) yw3)))) | fail
      all_goals
        go_wp2_with fail
        have O := set5_same yw3 (.string ⟨#[105]⟩) (.slice none 0 0) (.int .i64 1) (.int .i64 1) (.int .i64 0)
        have r0 := cell_of (j := 0) O
        have r1 := cell_of (j := 1) O
        have r2 := cell_of (j := 2) O
        have r3 := cell_of (j := 3) O
        have r4 := cell_of (j := 4) O
        refine bodyPost_ret (v := .tuple #[.agg #[.string ⟨#[105]⟩, .slice none 0 0, .int .i64 1, .int .i64 1, .int .i64 0], .bool true]) (by simp [results, Tryz.results81, go_sem, r0, r1, r2, r3, r4]) rfl ⟨tp_tI w ok _, ?_⟩
        first
          | exact set5 (hbw.out.trans (hBw3.mono hbw.out.size)) (Nat.le_refl _) _ _ _ _ _
          | exact (set5 (hbw.out.trans (hBw3.mono hbw.out.size)) (Nat.le_refl _) _ _ _ _ _).drew
end Go.Proofs.YtjncmmnbdabjnaaGreatDoor
