/- A slice of strings that came in, as the walks want it; it reads afterwards as it did. -/
import Derived.Test.YtgljnmbbmjmkjaaGreatDoorStrs2
import Derived.WalkKit
import Derived.ProofKit
import Derived.SliceStrings
import Derived.Carry
namespace Go.Proofs.YtgljnmbbmjmkjaaGreatDoor
open Go.ChangeShapes Go.WideShapes Go.ChangeAt Go.RowKit
set_option linter.unusedVariables false
theorem laidOut : laidOutB Tryz.prog = true := by kernel_rfl
theorem cellsStr : Tryz.prog.cellsOf 9 = 1 := by kernel_rfl
theorem addr_plain (b off i : Nat) : (⟨b, off, none⟩ : Addr).add i = ⟨b, off + i, none⟩ := by unfold Addr.add; split <;> simp_all
theorem open_texts {H : Type} {enc : TypeId × Value → H} {W : World} {v : Value} {d : DataW H} {ps : List MemPlace} (hv : ∃ a len cap, v = .slice a len cap) (h : DataW.Trod enc Tryz.prog W 0 (fun _ => true) true 26 v d ps) :
    ∃ l, StrS W v l ∧ (∀ x ∈ l, x.length ≤ 9223372036854775807) := by
  obtain ⟨a0, len, cap, rfl⟩ := hv
  obtain ⟨fuel, hf⟩ := h
  rcases open_strings Tryz.underlying26 Tryz.underlying9 cellsStr hf with ⟨hcs, hx⟩ | ⟨a, len', cap', ss, hcs, _, hl, hm, hz, hx, hcell, hsz⟩
  · simp [Value.cells] at hcs
    obtain ⟨rfl, rfl, rfl⟩ := hcs
    exact ⟨[], ⟨none, 0, rfl, by simp, fun h => absurd rfl h⟩, by simp⟩
  · simp [Value.cells] at hcs
    obtain ⟨rfl, rfl, rfl⟩ := hcs
    simp only [if_true] at hz
    have hml : maxLen ≤ 9223372036854775807 := by decide
    refine ⟨(ss.take len).map (fun s => s.data.toList), ?_, fun x hx => ?_⟩
    · have hlen : ((ss.take len).map (fun s => s.data.toList)).length = len := by simp; omega
      refine ⟨some a, cap, by rw [hlen], by rw [hlen]; omega, fun hne => ?_⟩
      have hpos : 0 < len := by
        rcases Nat.eq_zero_or_pos len with h0 | h0
        · subst h0; simp at hne
        · exact h0
      obtain ⟨b, off, spot⟩ := a
      have hspot : spot = none := by simpa [Addr.add] using World.cell?_spot (hcell 0 (by omega))
      subst hspot
      refine ⟨b, off, rfl, fun j u hj => ?_⟩
      simp only [List.map_map, List.getElem?_map, Option.map_eq_some_iff, Function.comp_def] at hj
      obtain ⟨s, hs, rfl⟩ := hj
      have hj' : j < len := by
        have := (List.getElem?_eq_some_iff.1 hs).1
        simp at this; omega
      have := hcell j (by omega)
      rw [addr_plain] at this
      rw [this]
      rw [List.getElem?_take_of_lt hj'] at hs
      simp only [List.getD, hs, Option.getD_some, strV]
      exact congrArg (fun x => some (Value.string x)) (bs_ext rfl)
    · simp only [List.mem_map] at hx
      obtain ⟨s, hs, rfl⟩ := hx
      have := hsz s (List.mem_of_mem_take hs)
      simp only [Array.length_toList]
      exact Nat.le_trans this hml
theorem shut_texts {H : Type} {enc : TypeId × Value → H} {W W' : World} {v : Value} {d : DataW H} {ps : List MemPlace} (h : DataW.Trod enc Tryz.prog W 0 (fun _ => true) true 26 v d ps) (hb : Below W.heap.size W W') (hlt : ∀ x ∈ ps, x.block < W.heap.size) :
    DataW.Trod enc Tryz.prog W' 0 (fun b => decide (b < W.heap.size)) true 26 v d ps := Below.trod laidOut (by kernel_rfl) (of_decide_eq_true (by kernel_rfl)) h hb hlt
end Go.Proofs.YtgljnmbbmjmkjaaGreatDoor
