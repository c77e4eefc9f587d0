/- Lists of texts: are two the same, is a text in one? -/
import Derived.Test.YtpaaglamcmfdjaaS1z
import Derived.OwnWalk
namespace Go.Proofs.Ytpaaglamcmfdjaa
open Go.RowKit
set_option maxRecDepth 8000
set_option linter.unusedSimpArgs false
set_option linter.unusedVariables false
set_option maxHeartbeats 1000000 in
theorem hasT_c (v : Value) (l : List (List UInt8)) (a : List UInt8) (w : World) (h : StrS w v l) :
    Calls Try.prog 8 #[v, .string (bs a)] w fun e w' => e = .returned (.bool (decide (a ∈ l))) ∧ w' = w := by
  obtain ⟨p, c, rfl, h1, h2⟩ := h
  by_cases hz : l = []
  · subst hz
    clear h2
    go_enter Try.func8, Try.ntmps8
    go_wp2_with fail
    refine wp_loop_rounds 1 ?_
    rw [rounds_succ]
    go_wp2_with fail
    go_ret
    exact ⟨ret_bool (by simp), rfl⟩
  · obtain ⟨r, off, rfl, h3⟩ := h2 hz
    obtain ⟨F, hF⟩ : ∃ F, F = decide (a ∈ l) := ⟨_, rfl⟩
    rw [← hF]
    have HF := Lib.hid hF
    clear h2 hF
    go_enter Try.func8, Try.ntmps8
    go_wp2_with fail
    go_loop [5] (fun i => ∃ k : Nat, k ≤ l.length ∧ i = .int .i64 k ∧ Hid (a ∉ l.take k)) (fun i => l.length - (intOf i).toNat)
    case atStart => exact ⟨0, Nat.zero_le _, rfl, Lib.hid (by simp)⟩
    case round =>
      obtain ⟨k, hk, rfl, hno⟩ := hrel
      by_cases hlt : k < l.length
      · have c1 : w.cell? ⟨r, off + k, none⟩ = some (.string (bs l[k])) := StrS.cell h3 hlt
        have hk0 : (0 : Int) ≤ (k : Int) := by omega
        by_cases hx : l[k] = a
        · have hx2 : ((bs l[k]).toList == (bs a).toList) = true := by rw [bs_toList, bs_toList]; simpa using hx
          have hx3 : (bs l[k]).toList = (bs a).toList := by rw [bs_toList, bs_toList]; exact hx
          have HX := Lib.hid hx
          obtain ⟨s, hs⟩ : ∃ s, s = bs l[k] := ⟨_, rfl⟩
          rw [← hs] at c1 hx2 hx3
          clear hx hs
          go_wp2_with fail
          go_ret
          exact ⟨ret_bool (by rw [HF.out]; symm; rw [decide_eq_true_eq, ← HX.out]; exact List.getElem_mem hlt), rfl⟩
        · have hx2 : ((bs l[k]).toList == (bs a).toList) = false := by rw [bs_toList, bs_toList]; simpa using hx
          have hx3 : ¬ (bs l[k]).toList = (bs a).toList := by rw [bs_toList, bs_toList]; exact hx
          have HX := Lib.hid hx
          obtain ⟨s, hs⟩ : ∃ s, s = bs l[k] := ⟨_, rfl⟩
          rw [← hs] at c1 hx2 hx3
          clear hx hs
          go_wp2_with fail
          exact ⟨⟨k + 1, by omega, by go_num, Lib.hid (by rw [List.take_succ_eq_append_getElem hlt]; simp only [List.mem_append, List.mem_singleton, not_or]; exact ⟨hno.out, fun e => HX.out e.symm⟩)⟩, by simp [intOf]; omega⟩
      · have : k = l.length := by omega
        subst this
        have hn := hno.out
        rw [List.take_length] at hn
        have HN := Lib.hid hn
        clear hn
        go_wp2_with fail
        go_ret
        exact ⟨ret_bool (by rw [HF.out]; simp [HN.out]), rfl⟩
end Go.Proofs.Ytpaaglamcmfdjaa
