/- The reference's draws: types; what laws ask of lists of texts. -/
import Derived.Test.YtaoicbmepliklaaDraw5
import Derived.Test.YtaoicbmepliklaaS1z
import Derived.Test.YtaoicbmepliklaaSame
import Derived.OwnWalk
namespace Go.Proofs.Ytaoicbmepliklaa
open Go.RowKit
set_option maxRecDepth 8000
set_option linter.unusedSimpArgs false
set_option linter.unusedVariables false
def oddTypes : List (List UInt8) := [[], [120], [40, 62, 32, 105, 41], [40, 42, 32, 105, 32, 105, 32, 105, 41], [40, 43, 32, 105, 32, 105, 41], [40, 105, 32, 105, 32, 105, 41]]
set_option maxHeartbeats 2000000 in
theorem l91Typed_d {q : Nat} {a : Option Addr} {L c p : Nat} {zs : List Int} {w : World} (h : Rd w q a L c p zs) (hp : p ≤ 400000) :
    Calls Try.prog 41 #[.pointer (some ⟨q, 0, none⟩)] w fun e w' => DrPost q a L c p zs 6000 6000 w e w' := by
  have CP := Lib.hid (pick_d (n := 16) h (by omega) (by omega))
  clear h
  go_enter Try.func41, Try.ntmps41
  go_wp2_with fail
  refine (CP.out).mono ?_
  rintro e w2 ⟨⟨k, rfl, hk0, hk1⟩, hR2, ho2⟩
  have HO2 := Lib.hid ho2
  clear ho2
  by_cases h0 : k = 0
  · subst h0
    have C1 := Lib.hid (of_new (l := oddTypes) (N := 9) hR2 (by omega) (by decide) (by decide) (by decide))
    clear hR2
    go_wp2_with fail
    refine (C1.out).mono ?_
    rintro e w3 ⟨s3, p3, rfl, b1, b2, hR3, ho3⟩
    go_wp2_with fail
    go_ret
    exact ⟨_, p3, rfl, by omega, by omega, hR3, HO2.out.trans ho3⟩
  · have e0 : (k == 0) = false := by simpa using h0
    by_cases h1 : k = 1
    · subst h1
      have C1 : Hid (∀ (W : World) p9, Rd W q a L c p9 zs → p9 ≤ 500000 → Calls Try.prog 43 #[.pointer (some ⟨q, 0, none⟩), .int .i64 4] W fun e w' => DrPost q a L c p9 zs 2560 2560 W e w') := Lib.hid (fun W p9 h hp => l91Type_d 4 p9 W h (by decide) (by omega))
      go_wp2_with fail
      refine (C1.out _ _ hR2 (by omega)).mono ?_
      rintro e w3 ⟨s3, p3, rfl, b1, b2, hR3, ho3⟩
      go_wp2_with fail
      refine (C1.out _ _ hR3 (by omega)).mono ?_
      rintro e w4 ⟨s4, p4, rfl, b3, b4, hR4, ho4⟩
      go_wp2_with fail
      go_ret
      exact ⟨_, p4, rfl, by have y1 := sz41; have y2 := sz32; have y3 : (⟨#[40, 42, 32]⟩ : ByteArray).size = 3 := rfl; simp; omega, by omega, hR4, (HO2.out.trans ho3).trans ho4⟩
    · have e1 : (k == 1) = false := by simpa using h1
      have C1 : Hid (Calls Try.prog 43 #[.pointer (some ⟨q, 0, none⟩), .int .i64 3] w2 fun e w' => DrPost q a L c (p + 1) zs 640 640 w2 e w') := Lib.hid (l91Type_d 3 (p + 1) w2 hR2 (by decide) (by omega))
      go_wp2_with fail
      refine (C1.out).mono ?_
      rintro e w3 ⟨s3, p3, rfl, b1, b2, hR3, ho3⟩
      go_wp2_with fail
      go_ret
      exact ⟨_, p3, rfl, by omega, by omega, hR3, HO2.out.trans ho3⟩
/-- What a drawn text's function answers, a longer one. -/
def DTl (w : World) (e : Ending) (w' : World) : Prop := (∃ s : ByteArray, e = .returned (.string s) ∧ s.size ≤ 20000) ∧ Below w.heap.size w w'
theorem dtl_of {q : Nat} {a : Option Addr} {L c p : Nat} {zs : List Int} {N M : Nat} {w w1 w' : World} {e : Ending} (hb : Below w.heap.size w w1) (hq : w.heap.size ≤ q) (h : DrPost q a L c p zs N M w1 e w') (hN : N ≤ 20000) : DTl w e w' := by
  obtain ⟨s, p', rfl, h2, h3, h4, h5⟩ := h
  exact ⟨⟨s, rfl, by omega⟩, Only.fresh hb h5 hq hb.size⟩
end Go.Proofs.Ytaoicbmepliklaa
