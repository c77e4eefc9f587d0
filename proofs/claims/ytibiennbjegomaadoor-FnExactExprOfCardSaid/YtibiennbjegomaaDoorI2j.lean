/- The program's lists of names: whether a name is in one; a list without some names. Which dynamic type an expression's value has. The kids of the program's expressions, by the methods of their types. -/
import Derived.Test.YtibiennbjegomaaDoorS1z
import Derived.Test.YtibiennbjegomaaDoorB2
import Derived.Test.YtibiennbjegomaaDoorB3
import Derived.Test.YtibiennbjegomaaDoorShelf
import Derived.Shelf.SlicesE.DeleteFunc
import Derived.Sort.OwnSorted
import Derived.Test.YtibiennbjegomaaDoorProg
import Derived.WalkKit
import Derived.Test.YtibiennbjegomaaDoorImpl2i
namespace Go.Proofs.YtibiennbjegomaaDoor
open Go.RowKit
set_option maxRecDepth 8000
set_option linter.unusedSimpArgs false
set_option linter.unusedVariables false
theorem owns_cut {w : World} {base g n m cap : Nat} {e : TypeId} {xs : List Value} (h : w.ownsRow base e 1 (.slice (some ⟨g, 0, none⟩) n cap) n xs) (hm : m ≤ n) : w.ownsRow base e 1 (.slice (some ⟨g, 0, none⟩) m cap) m (xs.take m) := by
  refine ⟨by rw [List.length_take, h.1]; omega, ?_⟩
  rcases h.2 with ⟨h0, _⟩ | ⟨g', cap', cur, hv, hb, hg, h1, h2, h3, h4⟩
  · cases h0
  · simp only [Value.slice.injEq, Option.some.injEq, Addr.mk.injEq] at hv
    obtain ⟨⟨rfl, _⟩, _, rfl⟩ := hv
    refine .inr ⟨g, cap, cur, rfl, hb, hg, by omega, h2, h3, ?_⟩
    rw [← h4, List.take_take]
    congr 1; omega
theorem filter_rm (bl l : List Nm) : (l.filter fun x => !decide (x ∈ bl)) = rm bl l := by
  unfold rm
  congr 1
  funext x
  simp
end Go.Proofs.YtibiennbjegomaaDoor
namespace Go.Proofs.YtibiennbjegomaaDoor
open Go.RowKit
set_option linter.unusedSimpArgs false
set_option linter.unusedVariables false
@[go_sem] theorem as_name_name (v : Value) (w : World) : (Instr.typeAssert (.iface 63 v) 39 63 true).run Tryd.prog w = .ok (.tuple #[v, .bool true]) w := by kernel_rfl
@[go_sem] theorem as_name_number (v : Value) (w : World) : (Instr.typeAssert (.iface 63 v) 39 56 true).run Tryd.prog w = .ok (.tuple #[.agg #[.int .i64 0], .bool false]) w := by kernel_rfl
@[go_sem] theorem as_name_let (v : Value) (w : World) : (Instr.typeAssert (.iface 63 v) 39 66 true).run Tryd.prog w = .ok (.tuple #[.agg #[.string ⟨#[]⟩, .nilIface, .nilIface], .bool false]) w := by kernel_rfl
@[go_sem] theorem as_name_fun (v : Value) (w : World) : (Instr.typeAssert (.iface 63 v) 39 50 true).run Tryd.prog w = .ok (.tuple #[.agg #[.string ⟨#[]⟩, .string ⟨#[]⟩, .string ⟨#[]⟩, .slice none 0 0, .int .i64 0, .int .i64 0, .int .i64 0, .string ⟨#[]⟩, .slice none 0 0, .int .i64 0, .int .i64 0, .int .i64 0, .nilIface], .bool false]) w := by kernel_rfl
@[go_sem] theorem as_number_name (v : Value) (w : World) : (Instr.typeAssert (.iface 56 v) 39 63 true).run Tryd.prog w = .ok (.tuple #[.agg #[.string ⟨#[]⟩], .bool false]) w := by kernel_rfl
@[go_sem] theorem as_number_number (v : Value) (w : World) : (Instr.typeAssert (.iface 56 v) 39 56 true).run Tryd.prog w = .ok (.tuple #[v, .bool true]) w := by kernel_rfl
@[go_sem] theorem as_number_let (v : Value) (w : World) : (Instr.typeAssert (.iface 56 v) 39 66 true).run Tryd.prog w = .ok (.tuple #[.agg #[.string ⟨#[]⟩, .nilIface, .nilIface], .bool false]) w := by kernel_rfl
@[go_sem] theorem as_number_fun (v : Value) (w : World) : (Instr.typeAssert (.iface 56 v) 39 50 true).run Tryd.prog w = .ok (.tuple #[.agg #[.string ⟨#[]⟩, .string ⟨#[]⟩, .string ⟨#[]⟩, .slice none 0 0, .int .i64 0, .int .i64 0, .int .i64 0, .string ⟨#[]⟩, .slice none 0 0, .int .i64 0, .int .i64 0, .int .i64 0, .nilIface], .bool false]) w := by kernel_rfl
@[go_sem] theorem as_let_name (v : Value) (w : World) : (Instr.typeAssert (.iface 66 v) 39 63 true).run Tryd.prog w = .ok (.tuple #[.agg #[.string ⟨#[]⟩], .bool false]) w := by kernel_rfl
@[go_sem] theorem as_let_number (v : Value) (w : World) : (Instr.typeAssert (.iface 66 v) 39 56 true).run Tryd.prog w = .ok (.tuple #[.agg #[.int .i64 0], .bool false]) w := by kernel_rfl
@[go_sem] theorem as_let_let (v : Value) (w : World) : (Instr.typeAssert (.iface 66 v) 39 66 true).run Tryd.prog w = .ok (.tuple #[v, .bool true]) w := by kernel_rfl
@[go_sem] theorem as_let_fun (v : Value) (w : World) : (Instr.typeAssert (.iface 66 v) 39 50 true).run Tryd.prog w = .ok (.tuple #[.agg #[.string ⟨#[]⟩, .string ⟨#[]⟩, .string ⟨#[]⟩, .slice none 0 0, .int .i64 0, .int .i64 0, .int .i64 0, .string ⟨#[]⟩, .slice none 0 0, .int .i64 0, .int .i64 0, .int .i64 0, .nilIface], .bool false]) w := by kernel_rfl
@[go_sem] theorem as_fun_name (v : Value) (w : World) : (Instr.typeAssert (.iface 50 v) 39 63 true).run Tryd.prog w = .ok (.tuple #[.agg #[.string ⟨#[]⟩], .bool false]) w := by kernel_rfl
@[go_sem] theorem as_fun_number (v : Value) (w : World) : (Instr.typeAssert (.iface 50 v) 39 56 true).run Tryd.prog w = .ok (.tuple #[.agg #[.int .i64 0], .bool false]) w := by kernel_rfl
@[go_sem] theorem as_fun_let (v : Value) (w : World) : (Instr.typeAssert (.iface 50 v) 39 66 true).run Tryd.prog w = .ok (.tuple #[.agg #[.string ⟨#[]⟩, .nilIface, .nilIface], .bool false]) w := by kernel_rfl
@[go_sem] theorem as_fun_fun (v : Value) (w : World) : (Instr.typeAssert (.iface 50 v) 39 50 true).run Tryd.prog w = .ok (.tuple #[v, .bool true]) w := by kernel_rfl
@[go_sem] theorem as_pair_name (v : Value) (w : World) : (Instr.typeAssert (.iface 54 v) 39 63 true).run Tryd.prog w = .ok (.tuple #[.agg #[.string ⟨#[]⟩], .bool false]) w := by kernel_rfl
@[go_sem] theorem as_pair_number (v : Value) (w : World) : (Instr.typeAssert (.iface 54 v) 39 56 true).run Tryd.prog w = .ok (.tuple #[.agg #[.int .i64 0], .bool false]) w := by kernel_rfl
@[go_sem] theorem as_pair_let (v : Value) (w : World) : (Instr.typeAssert (.iface 54 v) 39 66 true).run Tryd.prog w = .ok (.tuple #[.agg #[.string ⟨#[]⟩, .nilIface, .nilIface], .bool false]) w := by kernel_rfl
@[go_sem] theorem as_pair_fun (v : Value) (w : World) : (Instr.typeAssert (.iface 54 v) 39 50 true).run Tryd.prog w = .ok (.tuple #[.agg #[.string ⟨#[]⟩, .string ⟨#[]⟩, .string ⟨#[]⟩, .slice none 0 0, .int .i64 0, .int .i64 0, .int .i64 0, .string ⟨#[]⟩, .slice none 0 0, .int .i64 0, .int .i64 0, .int .i64 0, .nilIface], .bool false]) w := by kernel_rfl
end Go.Proofs.YtibiennbjegomaaDoor
namespace Go.Proofs.YtibiennbjegomaaDoor
open Go.RowKit
set_option linter.unusedSimpArgs false
set_option linter.unusedVariables false
/-- What a method that tells the kids hands back: a slice of its own of these values. -/
def KidsP (B : Nat) (vs : List Value) (e : Ending) (w' : World) : Prop :=
  ∃ b, e = .returned (.slice (some ⟨b, 0, none⟩) vs.length vs.length) ∧ B ≤ b ∧ b < w'.heap.size ∧ w'.heap[b]? = some (.cells vs.toArray 39 (0, 0))
theorem kidsP_new (w : World) (o : Obj) (vs : List Value) : KidsP w.heap.size vs (.returned (.slice (some ⟨w.heap.size + 1, 0, none⟩) vs.length vs.length)) ((w.alloc o).alloc (.cells vs.toArray 39)) :=
  ⟨_, rfl, by omega, by simp, heap_alloc_new2 _ _ _⟩
theorem kids_nameExpr_c (vs : Array Value) (w : World) : Calls Tryd.prog 89 #[.agg vs] w fun e w' => e = .returned (.slice none 0 0) ∧ Below w.heap.size w w' := by
  go_enter Tryd.func89, Tryd.ntmps89
  go_wp2_with fail
  go_ret
  exact ⟨rfl, below1 _ _⟩
theorem kids_numberExpr_c (vs : Array Value) (w : World) : Calls Tryd.prog 86 #[.agg vs] w fun e w' => e = .returned (.slice none 0 0) ∧ Below w.heap.size w w' := by
  go_enter Tryd.func86, Tryd.ntmps86
  go_wp2_with fail
  go_ret
  exact ⟨rfl, below1 _ _⟩
theorem kids_twoKids_c (T U : TypeId) (x y : Value) (w : World) : Calls Tryd.prog 82 #[.agg #[.iface T x, .iface U y]] w fun e w' => KidsP w.heap.size [.iface T x, .iface U y] e w' ∧ Below w.heap.size w w' := by
  go_enter Tryd.func82, Tryd.ntmps82
  go_wp2_with fail
  go_ret
  exact ⟨kidsP_new _ _ [.iface T x, .iface U y], below2 _ _ _⟩
theorem kids_letExpr_c (T U : TypeId) (s x y : Value) (w : World) : Calls Tryd.prog 92 #[.agg #[s, .iface T x, .iface U y]] w fun e w' => KidsP w.heap.size [.iface T x, .iface U y] e w' ∧ Below w.heap.size w w' := by
  go_enter Tryd.func92, Tryd.ntmps92
  go_wp2_with fail
  go_ret
  exact ⟨kidsP_new _ _ [.iface T x, .iface U y], below2 _ _ _⟩
theorem kids_funExpr_c (T : TypeId) (f x fa fp fx fy fz ga gp gx gy gz y : Value) (w : World) : Calls Tryd.prog 80 #[.agg #[f, x, fa, fp, fx, fy, fz, ga, gp, gx, gy, gz, .iface T y]] w fun e w' => KidsP w.heap.size [.iface T y] e w' ∧ Below w.heap.size w w' := by
  go_enter Tryd.func80, Tryd.ntmps80
  go_wp2_with fail
  go_ret
  exact ⟨kidsP_new _ _ [.iface T y], below2 _ _ _⟩
end Go.Proofs.YtibiennbjegomaaDoor
