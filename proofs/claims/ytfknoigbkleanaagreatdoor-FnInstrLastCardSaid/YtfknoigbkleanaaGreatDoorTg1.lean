/- Target types, plain: which forms they are, with v outside of packages or not, with unknown types or not. -/
import Derived.Test.YtfknoigbkleanaaGreatDoorB1
import Derived.Test.YtfknoigbkleanaaGreatDoorB3
namespace Go.Proofs.YtfknoigbkleanaaGreatDoor
open Go.RowKit
set_option maxRecDepth 8000
set_option linter.unusedSimpArgs false
set_option linter.unusedVariables false
mutual
/-- A target type; 'u' tells the unknown types, 'hid' whether v can stand. -/
def tgt (u : List UInt8 → Bool) : Bool → Tr → Bool
  | hid, .atom a => a == [105] || (hid && a == [118]) || u a
  | hid, .list ts => tgtL u hid ts
def tgtL (u : List UInt8 → Bool) : Bool → List Tr → Bool
  | _, [] => false
  | hid, h :: ts => if atomOf h = [101] then tgtE u ts else if atomOf h = [116] ∨ atomOf h = [99] then tgts u hid ts else false
def tgtE (u : List UInt8 → Bool) : List Tr → Bool
  | [] => false
  | [x] => tgt u true x
  | _ :: _ :: _ => false
def tgts (u : List UInt8 → Bool) : Bool → List Tr → Bool
  | _, [] => true
  | hid, t :: ts => tgt u hid t && tgts u hid ts
end
theorem tgt_atom (u : List UInt8 → Bool) (hid : Bool) (a : List UInt8) : tgt u hid (.atom a) = (a == [105] || (hid && a == [118]) || u a) := by rw [tgt]
theorem tgt_list (u : List UInt8 → Bool) (hid : Bool) (h : Tr) (ts : List Tr) : tgt u hid (.list (h :: ts)) = if atomOf h = [101] then tgtE u ts else if atomOf h = [116] ∨ atomOf h = [99] then tgts u hid ts else false := by rw [tgt, tgtL]
theorem tgt_e {u : List UInt8 → Bool} {hid : Bool} {h : Tr} {ts : List Tr} (hh : atomOf h = [101]) : tgt u hid (.list (h :: ts)) = tgtE u ts := by rw [tgt_list, if_pos hh]
theorem tgt_tc {u : List UInt8 → Bool} {hid : Bool} {h : Tr} {ts : List Tr} (hh : atomOf h = [116] ∨ atomOf h = [99]) : tgt u hid (.list (h :: ts)) = tgts u hid ts := by
  have h1 : ¬ atomOf h = [101] := by rcases hh with e | e <;> rw [e] <;> decide
  rw [tgt_list, if_neg h1, if_pos hh]
theorem tgt_bad {u : List UInt8 → Bool} {hid : Bool} {h : Tr} {ts : List Tr} (h1 : ¬ atomOf h = [101]) (h2 : ¬ (atomOf h = [116] ∨ atomOf h = [99])) : tgt u hid (.list (h :: ts)) = false := by
  rw [tgt_list, if_neg h1, if_neg h2]
theorem tgtE_one (u : List UInt8 → Bool) (x : Tr) : tgtE u [x] = tgt u true x := by rw [tgtE]
theorem tgtE_no (u : List UInt8 → Bool) (ts : List Tr) (h : ts.length ≠ 1) : tgtE u ts = false := by
  match ts, h with
  | [], _ => rw [tgtE]
  | [_], h => exact absurd rfl h
  | _ :: _ :: _, _ => rw [tgtE]
theorem tgts_all (u : List UInt8 → Bool) (hid : Bool) : ∀ ts : List Tr, tgts u hid ts = ts.all (tgt u hid)
  | [] => by rw [tgts]; rfl
  | t :: ts => by rw [tgts, tgts_all u hid ts]; rfl
/-- One part that is none, ahead of which all are. -/
theorem tgts_take {u : List UInt8 → Bool} {hid : Bool} {ts : List Tr} {k : Nat} (hk : k < ts.length) (h : tgts u hid (ts.take k) = true) : tgts u hid (ts.take (k + 1)) = tgt u hid ts[k] := by
  rw [tgts_all] at *
  rw [List.take_succ_eq_append_getElem hk, List.all_append, h]; simp
theorem tgts_bad {u : List UInt8 → Bool} {hid : Bool} {ts : List Tr} {k : Nat} (hk : k < ts.length) (h : tgt u hid ts[k] = false) : tgts u hid ts = false := by
  rw [tgts_all, Bool.eq_false_iff]
  intro h2
  rw [List.all_eq_true] at h2
  have := h2 _ (List.getElem_mem hk)
  rw [h] at this; cases this
/-- No unknown types. -/
def noU : List UInt8 → Bool := fun _ => false
end Go.Proofs.YtfknoigbkleanaaGreatDoor
