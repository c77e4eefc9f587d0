/- The reference model's parts of a form. -/
import Derived.Test.YtmiapkoiplgfiaaSpec1g
import Derived.Test.YtmiapkoiplgfiaaStrs
namespace Go.Proofs.Ytmiapkoiplgfiaa
open Go.RowKit
set_option linter.unusedSimpArgs false
set_option linter.unusedVariables false
theorem Try.infoStr : (Try.prog.info? 9).map (fun i => (i.zero, i.size, i.bytes)) = some (some (.string ⟨#[]⟩), 1, 16) := by kernel_rfl
/-- The texts of the parts of a form that is no atom. -/
def partsOf (l : List UInt8) : Option (List (List UInt8)) :=
  match parse l with
  | some (.list ts) => some (ts.map Tr.text)
  | _ => none
/-- A slice of texts of the call's own, and whether there is one. -/
def PartsPost (B : Nat) (r : Option (List (List UInt8))) (e : Ending) (w' : World) : Prop :=
  ∃ v, e = .returned (.tuple #[v, .bool r.isSome]) ∧ w'.ownsRow B 9 1 v (r.getD []).length ((r.getD []).map strV)
theorem parts_take (ts : List Tr) (k : Nat) (h : k < ts.length) : ((ts.take (k + 1)).map (fun t => strV t.text)) = (ts.take k).map (fun t => strV t.text) ++ [.string (bs ts[k].text)] := by
  rw [take_snoc' _ _ h, List.map_append]; rfl
theorem owns_base {w : World} {base B : Nat} {e : TypeId} {size : Nat} {v : Value} {n : Nat} {xs : List Value} (h : w.ownsRow base e size v n xs) (hB : B ≤ base) : w.ownsRow B e size v n xs := by
  refine ⟨h.1, ?_⟩
  rcases h.2 with h2 | ⟨g, cap, cur, hv, hb, hr⟩
  · exact .inl h2
  · exact .inr ⟨g, cap, cur, hv, by omega, hr⟩
theorem made_none {w w1 : World} {o : Obj} (hb1 : Below w.heap.size w w1) : ((w1.alloc o).alloc (.cells #[] 9)).ownsRow w.heap.size 9 1 (.slice (some ⟨w1.heap.size + 1, 0, none⟩) 0 0) 0 [] := by
  have := World.ownsRow_made (w1.alloc o) #[] 0 (base := w.heap.size) (e := 9) (size := 1) (by have := hb1.size; simp; omega) (by decide) rfl
  simpa using this
end Go.Proofs.Ytmiapkoiplgfiaa
