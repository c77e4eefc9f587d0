/- Worlds in which one block alone may have changed. -/
import Derived.Test.YtldjdefbbabnnaaDoorB1
namespace Go.Proofs.YtldjdefbbabnnaaDoor
open Go.RowKit
set_option maxRecDepth 8000
set_option linter.unusedSimpArgs false
set_option linter.unusedVariables false
/-- But for block b, what was there is as it was. -/
structure Only (b : Nat) (w w' : World) : Prop where
  os : w'.os = w.os
  tape : w'.tape = w.tape
  output : w'.output = w.output
  size : w.heap.size ≤ w'.heap.size
  block : ∀ k, k < w.heap.size → k ≠ b → w'.heap[k]? = w.heap[k]?
theorem Only.refl (b : Nat) (w : World) : Only b w w := ⟨rfl, rfl, rfl, Nat.le_refl _, fun _ _ _ => rfl⟩
theorem Only.trans {b : Nat} {x y z : World} (h : Only b x y) (k : Only b y z) : Only b x z :=
  ⟨k.os.trans h.os, k.tape.trans h.tape, k.output.trans h.output, Nat.le_trans h.size k.size, fun i hi hb => (k.block i (Nat.lt_of_lt_of_le hi h.size) hb).trans (h.block i hi hb)⟩
theorem Only.of {b : Nat} {w w' : World} (h : Below w.heap.size w w') : Only b w w' := ⟨h.os, h.tape, h.output, h.size, fun k hk _ => h.block k hk⟩
theorem Only.drew {b : Nat} {x w : World} (h : Only b x w) : Only b x w.drew := ⟨h.os, h.tape, h.output, h.size, h.block⟩
theorem Only.alloc {b : Nat} {x w : World} (h : Only b x w) (o : Obj) : Only b x (w.alloc o) := h.trans (Only.of (below1 w o))
theorem Only.set {b : Nat} {x w : World} (h : Only b x w) {p : Addr} (hp : p.block = b) (u : Value) : Only b x (w.setCell p u) :=
  ⟨h.os, h.tape, h.output, by simpa [World.setCell] using h.size, fun k hk hb => by rw [blk_set_other _ (by omega)]; exact h.block k hk hb⟩
/-- A store into a block that was not there. -/
theorem Only.setNew {b : Nat} {x w : World} (h : Only b x w) {p : Addr} (hp : x.heap.size ≤ p.block) (u : Value) : Only b x (w.setCell p u) :=
  ⟨h.os, h.tape, h.output, by simpa [World.setCell] using h.size, fun k hk hb => by rw [blk_set_other _ (by omega)]; exact h.block k hk hb⟩
theorem Only.next {b : Nat} {x y z : World} (h : Only b x y) (k : Below y.heap.size y z) : Only b x z := h.trans (Only.of k)
theorem Only.below {b B : Nat} {w w' : World} (h : Only b w w') (hb : B ≤ b) (hB : B ≤ w.heap.size) : Below B w w' := ⟨h.os, h.tape, h.output, h.size, fun k hk => h.block k (by omega) (by omega)⟩
/-- The changed block is new: what was there is as it was. -/
theorem Only.fresh {b B : Nat} {w w' w0 : World} (h0 : Below B w0 w) (h : Only b w w') (hb : B ≤ b) (hB : B ≤ w.heap.size) : Below B w0 w' := h0.trans (h.below hb hB)
theorem Only.blk {b k : Nat} {w w' : World} {o : Obj} (h : Only b w w') (hk : w.heap[k]? = some o) (hne : k ≠ b) : w'.heap[k]? = some o := by rw [h.block k (lt_of_block hk) hne]; exact hk
theorem Only.cell {b : Nat} {w w' : World} (h : Only b w w') {p : Addr} (hp : p.block < w.heap.size) (hne : p.block ≠ b) : w'.cell? p = w.cell? p := World.cell?_of_block (w := w) (h.block p.block hp hne)
theorem Only.grown {b : Nat} {x w w' : World} {row : Option Nat} (h : Only b x w) (hg : w.grownBy w' row) (hr : ∀ k, row = some k → x.heap.size ≤ k) : Only b x w' :=
  ⟨hg.os.trans h.os, hg.tape.trans h.tape, hg.output.trans h.output, Nat.le_trans h.size hg.size, fun k hk hb => (hg.block k (Nat.lt_of_lt_of_le hk h.size) (fun e => by have := hr k e.symm; omega)).trans (h.block k hk hb)⟩
theorem FV.only {nd : Tr → Value → List Value} {b : Nat} {w w' : World} {ok : Nat → Prop} {t : Tr} {cs : List Value} (h : FV nd w ok t cs) (ho : Only b w w') (hok : ∀ k, ok k → k < w.heap.size ∧ k ≠ b) : FV nd w' ok t cs :=
  FV.move (fun _ h => h) (fun k hk => ho.block k (hok k hk).1 (hok k hk).2) _ _ h
theorem FVs.only {nd : Tr → Value → List Value} {b : Nat} {w w' : World} {ok : Nat → Prop} {ts : List Tr} {xs : List Value} (h : FVs nd w ok ts xs) (ho : Only b w w') (hok : ∀ k, ok k → k < w.heap.size ∧ k ≠ b) : FVs nd w' ok ts xs :=
  FVs.move (fun _ h => h) (fun k hk => ho.block k (hok k hk).1 (hok k hk).2) _ _ h
theorem KASo {wx : World} {S : World → Prop} (K : ∀ W, Below wx.heap.size wx W → S W) {W : World} {o : Obj} (h : Below wx.heap.size wx W) : S (W.alloc o) := K _ (h.alloc h.size o)
end Go.Proofs.YtldjdefbbabnnaaDoor
