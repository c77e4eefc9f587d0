/- Both sides read the same expression. -/
import Derived.Test.YtlinjnflhpldfaaGreatDoorSpec2d
import Derived.Test.YtlinjnflhpldfaaGreatDoorImpl2i
namespace Go.Proofs.YtlinjnflhpldfaaGreatDoor
open Go.RowKit
set_option maxRecDepth 8000
set_option linter.unusedSimpArgs false
set_option linter.unusedVariables false
theorem readEx_asEx {l : List UInt8} {t : Tr} (h : parseE l = some t) : ∃ x, readEx l = some x ∧ asEx t = some x := by
  obtain ⟨h1, h2, h3⟩ := parseE_got h
  rw [readEx_some h1, if_pos h3]
  unfold isEx at h2
  cases hx : asEx t with
  | none => rw [hx] at h2; cases h2
  | some x => exact ⟨x, rfl, rfl⟩
theorem readEx_none' {l : List UInt8} (h : parseE l = none) : readEx l = none := by
  have := readEx_parseE l
  rw [h] at this
  cases hx : readEx l with
  | none => rfl
  | some x => rw [hx] at this; cases this
theorem headI_headE (l : List UInt8) : headI l = headE l := by
  cases h : parseE l with
  | none => rw [headE_none h, headI_none (readEx_none' h)]
  | some t =>
    obtain ⟨x, h1, h2⟩ := readEx_asEx h
    rw [headE_some h, headI_some h1, asEx_head h2]
theorem implExprHead_e (s : ByteArray) (hs : s.size ≤ 1048576) (w : World) :
    Calls Tryz.prog 30 #[.string s] w fun e w' => e = .returned (.string (bs (headE s.data.toList))) ∧ Below w.heap.size w w' := by
  have h := implExprHead_c s hs w
  rw [headI_headE] at h
  exact h
theorem shape_s (l : ByteArray) : ∃ x0, ∀ e : Ending, e = .returned (.string l) → e = .returned (.string x0) := ⟨_, fun _ h => h⟩
end Go.Proofs.YtlinjnflhpldfaaGreatDoor
