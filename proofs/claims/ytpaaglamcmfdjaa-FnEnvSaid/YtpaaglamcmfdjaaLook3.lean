/- The helpers of the laws on arguments that are slices of strings: their size, their copy. The reference's look-up in an environment. -/
import Derived.Test.YtpaaglamcmfdjaaB2
import Derived.OwnWalk
import Derived.Deep.LoopGhost
import Derived.Test.YtpaaglamcmfdjaaPureT
import Derived.Test.YtpaaglamcmfdjaaSpec2a
import Derived.Test.YtpaaglamcmfdjaaS1z
namespace Go.Proofs.Ytpaaglamcmfdjaa
open Go.RowKit
set_option maxRecDepth 8000
set_option linter.unusedSimpArgs false
set_option linter.unusedVariables false
/-- The sum of the lengths. -/
def lens : List (List UInt8) → Nat
  | [] => 0
  | x :: l => x.length + lens l
theorem lens_take : ∀ (l : List (List UInt8)) (k : Nat) (h : k < l.length), lens (l.take (k + 1)) = lens (l.take k) + l[k].length
  | x :: l, 0, _ => by simp [lens]
  | x :: l, k + 1, h => by
    have := lens_take l k (by simpa using h)
    simp only [List.take_succ_cons, lens, List.getElem_cons_succ] at this ⊢; omega
theorem lens_take_le : ∀ (l : List (List UInt8)) (k : Nat), lens (l.take k) ≤ lens l
  | [], k => by simp [lens]
  | x :: l, 0 => by simp [lens]
  | x :: l, k + 1 => by have := lens_take_le l k; simp only [List.take_succ_cons, lens]; omega
theorem length_le_lens : ∀ (l : List (List UInt8)) (k : Nat) (h : k < l.length), l[k].length ≤ lens l := fun l k h => by
  have := lens_take l k h; have := lens_take_le l (k + 1); omega
/-- What is left behind texts of a list. -/
def leftS (l : List (List UInt8)) (left : Nat) : Int := if l.length + lens l ≤ left then ((left - (l.length + lens l) : Nat) : Int) else -1
/-- The copied cells so far. -/
def cpRow (l : List (List UInt8)) (k : Nat) : List Value := (l.take k).map strV ++ List.replicate (l.length - k) (.string ⟨#[]⟩)
theorem cpRow_zero (l : List (List UInt8)) : cpRow l 0 = List.replicate l.length (.string ⟨#[]⟩) := by simp [cpRow]
theorem cpRow_end (l : List (List UInt8)) : cpRow l l.length = l.map strV := by simp [cpRow]
theorem cpRow_step (l : List (List UInt8)) (k : Nat) (h : k < l.length) : (cpRow l k).set k (strV l[k]) = cpRow l (k + 1) := by
  have e : List.replicate (l.length - k) (Value.string ⟨#[]⟩) = .string ⟨#[]⟩ :: List.replicate (l.length - (k + 1)) (.string ⟨#[]⟩) := by
    rw [show l.length - k = (l.length - (k + 1)) + 1 from by omega, List.replicate_succ]
  unfold cpRow
  rw [e, List.take_succ_eq_append_getElem h, List.map_append]
  have hlen : ((l.take k).map strV).length = k := by simp; omega
  rw [List.set_append_right _ _ (by omega), hlen]
  simp
theorem cpRow_len (l : List (List UInt8)) (k : Nat) (h : k ≤ l.length) : (cpRow l k).length = l.length := by simp [cpRow]; omega
theorem toList_inj {a b : Array Value} (h : a.toList = b.toList) : a = b := by cases a; cases b; simpa using h
theorem madeStr (n : Nat) : (madeCells (Value.string ⟨#[]⟩).cells (n * 1)).toList = List.replicate n (.string ⟨#[]⟩) := by
  simp only [madeCells, Value.cells, Nat.mul_one, Array.toList_map, Array.toList_range]
  refine List.ext_getElem (by simp) fun i h1 h2 => ?_
  simp [Nat.mod_one]
theorem row_ofS {w : World} {b : Nat} {cs : Array Value} {t : TypeId} (h : w.heap[b]? = some (.cells cs t (0, 0))) : hasRow w b 0 cs.toList := by
  intro j v hj
  rw [cell_of h]; simpa using hj
theorem Try.infoStr2 : (Try.prog.info? 9).map (fun i => (i.zero, i.size, i.bytes)) = some (some (.string ⟨#[]⟩), 1, 16) := by kernel_rfl
/-- A copy of texts, in a row of the call's own. -/
def CopyS (B : Nat) (l : List (List UInt8)) (e : Ending) (w' : World) : Prop := ∃ v, e = .returned v ∧ StrS w' v l ∧ (∀ k, v.ownBlock = some k → B ≤ k ∧ k < w'.heap.size)
theorem StrS.below {w w' : World} {v : Value} {l : List (List UInt8)} (h : StrS w v l) (hb : Below w.heap.size w w') : StrS w' v l := by
  obtain ⟨p, c, rfl, h1, h2⟩ := h
  refine ⟨p, c, rfl, h1, fun hne => ?_⟩
  obtain ⟨r, off, rfl, h3⟩ := h2 hne
  refine ⟨r, off, rfl, h3.move (hb.block r ?_)⟩
  have h0 : 0 < l.length := List.length_pos_iff.2 hne
  exact World.block_lt_of_cell? w ⟨r, off + 0, none⟩ (StrS.cell h3 h0)
theorem leftS_neg {l : List (List UInt8)} {left : Nat} (h : ¬ l.length + lens l ≤ left) : leftS l left = -1 := by rw [leftS, if_neg h]
theorem leftS_nonneg {l : List (List UInt8)} {left : Nat} (h : l.length + lens l ≤ left) : ∃ n : Nat, leftS l left = (n : Int) ∧ n ≤ left := ⟨_, by rw [leftS, if_pos h], by omega⟩
end Go.Proofs.Ytpaaglamcmfdjaa
namespace Go.Proofs.Ytpaaglamcmfdjaa
open Go.RowKit
set_option maxRecDepth 8000
set_option linter.unusedSimpArgs false
set_option linter.unusedVariables false
/-- What a look-up hands back. -/
def LkPost (r : Option (List UInt8)) (e : Ending) : Prop := e = .returned (.tuple #[.string (bs (r.getD [])), .bool r.isSome])
end Go.Proofs.Ytpaaglamcmfdjaa
