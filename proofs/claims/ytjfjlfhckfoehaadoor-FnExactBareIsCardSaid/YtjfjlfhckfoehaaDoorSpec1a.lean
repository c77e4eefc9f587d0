/- The reference model's reader of forms. -/
import Derived.Test.YtjfjlfhckfoehaaDoorProg
import Derived.Test.YtjfjlfhckfoehaaDoorB1
namespace Go.Proofs.YtjfjlfhckfoehaaDoor
open Go.RowKit
set_option maxRecDepth 8000
set_option linter.unusedSimpArgs false
set_option linter.unusedVariables false
theorem isAB_iff (b : UInt8) : isAB b = true ↔ ((97 ≤ (b.toNat : Int) ∧ (b.toNat : Int) ≤ 122) ∨ (48 ≤ (b.toNat : Int) ∧ (b.toNat : Int) ≤ 57) ∨ (b.toNat : Int) = 43 ∨ (b.toNat : Int) = 45 ∨ (b.toNat : Int) = 42 ∨ (b.toNat : Int) = 62) := by
  simp [isAB]; omega
/-- What the reader of forms hands back. -/
def RdS (B : Nat) (s : ByteArray) (res : Option (Tr × List UInt8)) (e : Ending) (w' : World) : Prop :=
  match res with
  | none => ∃ a p n c, e = .returned (.tuple #[.agg #[.string a, .slice p n c], .int .i64 (-1)]) ∧ n ≤ maxLen
  | some (t, r) => ∃ cs, e = .returned (.tuple #[.agg cs.toArray, .int .i64 ((s.size - r.length : Nat) : Int)]) ∧ FV nS w' (fun k => B ≤ k ∧ k < w'.heap.size) t cs

theorem u8_ne {a b : UInt8} (h : a ≠ b) : ((a.toNat : Int) == b.toNat) = false := by
  simp only [beq_eq_false_iff_ne, ne_eq]; intro h'; exact h (UInt8.toNat_inj.1 (by omega))
theorem rdS_none (B : Nat) (s a : ByteArray) (p : Option Addr) (n c : Nat) (w : World) (h : n ≤ maxLen) : RdS B s none (.returned (.tuple #[.agg #[.string a, .slice p n c], .int .i64 (-1)])) w := ⟨a, p, n, c, rfl, h⟩
theorem rdS_some {B : Nat} {s : ByteArray} {t : Tr} {r : List UInt8} {cs : List Value} {n : Int} {w : World} (h : FV nS w (fun k => B ≤ k ∧ k < w.heap.size) t cs) (hn : n = ((s.size - r.length : Nat) : Int)) :
    RdS B s (some (t, r)) (.returned (.tuple #[.agg cs.toArray, .int .i64 n])) w := ⟨cs, by rw [hn], h⟩

/-- An atom: from the first byte on. -/
theorem rdS_atom (s : ByteArray) (i k : Nat) (B : Nat) (w : World) (h : Scan s.data.toList i k) (hk0 : k ≠ 0) (hd : ∀ h : i + k < s.size, isAB s[i + k] = false) (m : Nat) (hi : i < s.size) (hc : s[i] ≠ 40) :
    RdS B s (read (m + 1) (s.data.toList.drop i)) (.returned (.tuple #[.agg #[.string (s.extract i (i + k)), .slice none 0 0], .int .i64 ((i : Int) + k)])) w := by
  have e := h.done (fun h => hd (by simpa using h))
  rw [if_neg hk0] at e
  have e2 : read (m + 1) (s.data.toList.drop i) = readAtom (s.data.toList.drop i) := by
    rw [List.drop_eq_getElem_cons (by simpa using hi)]
    exact read_else _ _ _ hc
  rw [e2, e]
  have := h.2.2
  refine ⟨nS (.atom ((s.data.toList.drop i).take k)) (.slice none 0 0), ?_, by simp only [FV]⟩
  simp only [nS, atomOf, extract_bs, List.length_drop, size_data, Nat.add_sub_cancel_left] at *
  rw [show ((s.size - (s.size - (i + k)) : Nat) : Int) = (i : Int) + k from by omega]

theorem read_list (s : ByteArray) (i m : Nat) (hi : i < s.size) (hc : s[i] = 40) : read (m + 1) (s.data.toList.drop i) = (items (read m) (s.data.toList.drop (i + 1)).length.succ (s.data.toList.drop (i + 1))).map fun p => (.list p.1, p.2) := by
  have e : s.data.toList.drop i = 40 :: s.data.toList.drop (i + 1) := by
    rw [List.drop_eq_getElem_cons (by simpa using hi)]
    exact congrArg (· :: _) hc
  rw [e, read_open]
theorem rdS_no (s : ByteArray) (i m : Nat) (h : Scan s.data.toList i 0) (hd : ∀ h : i + 0 < s.size, isAB s[i + 0] = false) (hi : i < s.size) (hc : s[i] ≠ 40) : read (m + 1) (s.data.toList.drop i) = none := by
  have e := h.done (fun h => hd (by simpa using h))
  rw [if_pos rfl] at e
  rw [← e, List.drop_eq_getElem_cons (by simpa using hi)]
  exact read_else _ _ _ hc

end Go.Proofs.YtjfjlfhckfoehaaDoor
