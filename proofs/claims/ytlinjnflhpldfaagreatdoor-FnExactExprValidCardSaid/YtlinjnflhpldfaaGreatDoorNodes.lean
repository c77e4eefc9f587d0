/- Nodes by letters; blocks behind allocs and stores; 'Below' step by step. -/
import Derived.Test.YtlinjnflhpldfaaGreatDoorProg
import Derived.Test.YtlinjnflhpldfaaGreatDoorApp
namespace Go.Proofs.YtlinjnflhpldfaaGreatDoor
open Go.RowKit
set_option maxRecDepth 8000
set_option linter.unusedSimpArgs false
set_option linter.unusedVariables false
theorem nI_named (t : Tr) : ∃ u x y z, u = bs (atomOf t) ∧ x = (t.bytes : Int) ∧ y = (t.size : Int) ∧ z = (t.depth : Int) ∧ ∀ v, nI t v = [.string u, v, .int .i64 x, .int .i64 y, .int .i64 z] := ⟨_, _, _, _, rfl, rfl, rfl, rfl, fun _ => rfl⟩
theorem three_blocks (w : World) (a b c : Obj) : (((w.alloc a).alloc b).alloc c).heap[w.heap.size]? = some a ∧ (((w.alloc a).alloc b).alloc c).heap[w.heap.size + 1]? = some b ∧ (((w.alloc a).alloc b).alloc c).heap[w.heap.size + 2]? = some c :=
  ⟨blk_alloc (blk_alloc (heap_alloc_new _ _)), blk_alloc (heap_alloc_new2 _ _ _), by have := heap_alloc_new2 (w.alloc a) b c; simpa using this⟩
theorem three_size (w : World) (a b c : Obj) : (((w.alloc a).alloc b).alloc c).heap.size = w.heap.size + 3 := by simp
theorem three_below' {w w1 : World} {a b c : Obj} (h : Below (((w.alloc a).alloc b).alloc c).heap.size (((w.alloc a).alloc b).alloc c) w1) : Below w.heap.size w w1 ∧ w.heap.size + 3 ≤ w1.heap.size :=
  ⟨(below3 w a b c).trans (h.mono (by simp; omega)), by have := h.size; simpa using this⟩
theorem set5 {B : Nat} {w w' : World} {b : Nat} (h : Below B w w') (hb : B ≤ b) (v0 v1 v2 v3 v4 : Value) : Below B w (((((w'.setCell ⟨b, 0, none⟩ v0).setCell ⟨b, 1, none⟩ v1).setCell ⟨b, 2, none⟩ v2).setCell ⟨b, 3, none⟩ v3).setCell ⟨b, 4, none⟩ v4) :=
  ((((h.setCell hb _).setCell hb _).setCell hb _).setCell hb _).setCell hb _
theorem firstB {w w1 : World} (h : Below w.heap.size w w1) : Below w.heap.size w w1 ∧ w.heap.size ≤ w1.heap.size := ⟨h, h.size⟩
theorem nextB {N : Nat} {a b c : World} (h : Below N a b ∧ N ≤ b.heap.size) (k : Below b.heap.size b c) : Below N a c ∧ N ≤ c.heap.size := ⟨h.1.trans (k.mono h.2), Nat.le_trans h.2 k.size⟩
end Go.Proofs.YtlinjnflhpldfaaGreatDoor
