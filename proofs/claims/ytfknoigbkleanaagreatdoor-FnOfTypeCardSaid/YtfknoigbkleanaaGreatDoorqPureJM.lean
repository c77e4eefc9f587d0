/- The reference's draws: forms and texts. The reference's draws: a form or another text; a type or another text. Lists of texts: are two the same, is a text in one? The reference's draws: types; what laws ask of lists of texts. The plain mathematics of chapter 4: shorts, values. -/
import Derived.Test.YtfknoigbkleanaaGreatDoorqDraw3
import Derived.Deep.LoopGhost
import Derived.Test.YtfknoigbkleanaaGreatDoorqS1z
import Derived.OwnWalk
import Derived.Test.YtfknoigbkleanaaGreatDoorqLawRtM
import Derived.Test.YtfknoigbkleanaaGreatDoorqPureT
namespace Go.Proofs.YtfknoigbkleanaaGreatDoor
open Go.RowKit Go.Proofs.Tryz
set_option maxRecDepth 8000
set_option maxHeartbeats 20000000
set_option linter.unusedVariables false
set_option linter.unusedSimpArgs false
def oddTails : List (List UInt8) := [[41], [32], [40], [65], []]
def oddTexts : List (List UInt8) := [[], [40, 41], [40, 32, 97, 41], [40, 97, 32, 41], [40, 97, 32, 32, 98, 41], [97, 32, 98], [40, 97]]
def DTx (w : World) (e : Ending) (w' : World) : Prop := (∃ s : ByteArray, e = .returned (.string s) ∧ s.size ≤ 2000) ∧ Below w.heap.size w w'
def oddTypes : List (List UInt8) := [[], [120], [40, 62, 32, 105, 41], [40, 42, 32, 105, 32, 105, 32, 105, 41], [40, 43, 32, 105, 32, 105, 41], [40, 105, 32, 105, 32, 105, 41]]
theorem l91Typed_d {q : Nat} {a : Option Addr} {L c p : Nat} {zs : List Int} {w : World} (h : Rd w q a L c p zs) (hp : p ≤ 400000) :
 Calls prog 62 #[.pointer (some ⟨q, 0, none⟩)] w fun e w' => Qn q a L c p zs 6000 6000 w e w' := by
 have CP := H_ (V5 (n := 16) h (by omega) (by omega))
 clear h
 go_enter func62, ntmps62
 go_wp2_with fail
 refine (CP.out).mono ?_
 rintro e w2 ⟨⟨k, rfl, hk0, hk1⟩, hR2, ho2⟩
 have HO2 := H_ ho2
 clear ho2
 by_cases h0 : k = 0
 · subst h0
   have C1 := H_ (Vj (l := oddTypes) (N := 9) hR2 (by omega) (by decide) (by decide) (by decide))
   clear hR2
   go_wp2_with fail
   refine (C1.out).mono ?_
   rintro e w3 ⟨s3, p3, rfl, b1, b2, hR3, ho3⟩
   go_wp2_with fail
   go_ret
   exact ⟨_, p3, rfl, by omega, by omega, hR3, HO2.out.trans ho3⟩
 · have e0 : (k == 0) = false := by simpa using h0
   by_cases h1 : k = 1
   · subst h1
     have C1 : Hid (∀ (W : World) p9, Rd W q a L c p9 zs → p9 ≤ 500000 → Calls prog 111 #[.pointer (some ⟨q, 0, none⟩), .int .i64 4] W fun e w' => Qn q a L c p9 zs 2560 2560 W e w') := H_ (fun W p9 h hp => Vc 4 p9 W h (by decide) (by omega))
     go_wp2_with fail
     refine (C1.out _ _ hR2 (by omega)).mono ?_
     rintro e w3 ⟨s3, p3, rfl, b1, b2, hR3, ho3⟩
     go_wp2_with fail
     refine (C1.out _ _ hR3 (by omega)).mono ?_
     rintro e w4 ⟨s4, p4, rfl, b3, b4, hR4, ho4⟩
     go_wp2_with fail
     go_ret
     exact ⟨_, p4, rfl, by have y1 := sz41; have y2 := sz32; have y3 : (⟨#[40, 42, 32]⟩ : ByteArray).size = 3 := rfl; simp; omega, by omega, hR4, (HO2.out.trans ho3).trans ho4⟩
   · have e1 : (k == 1) = false := by simpa using h1
     have C1 : Hid (Calls prog 111 #[.pointer (some ⟨q, 0, none⟩), .int .i64 3] w2 fun e w' => Qn q a L c (p + 1) zs 640 640 w2 e w') := H_ (Vc 3 (p + 1) w2 hR2 (by decide) (by omega))
     go_wp2_with fail
     refine (C1.out).mono ?_
     rintro e w3 ⟨s3, p3, rfl, b1, b2, hR3, ho3⟩
     go_wp2_with fail
     go_ret
     exact ⟨_, p3, rfl, by omega, by omega, hR3, HO2.out.trans ho3⟩
def DTl (w : World) (e : Ending) (w' : World) : Prop := (∃ s : ByteArray, e = .returned (.string s) ∧ s.size ≤ 20000) ∧ Below w.heap.size w w'
theorem dtl_of {q : Nat} {a : Option Addr} {L c p : Nat} {zs : List Int} {N M : Nat} {w w1 w' : World} {e : Ending} (hb : Below w.heap.size w w1) (hq : w.heap.size ≤ q) (h : Qn q a L c p zs N M w1 e w') (hN : N ≤ 20000) : DTl w e w' := by
 obtain ⟨s, p', rfl, h2, h3, h4, h5⟩ := h
 exact ⟨⟨s, rfl, by omega⟩, Only.fresh hb h5 hq hb.size⟩
def shortZ (n : Int) : Int := (n + 500) % 1000 - 500
def Z83 : Ex → Bool
 | .num _ => true
 | .func _ _ _ _ _ => true
 | .two .pair a b => Z83 a && Z83 b
 | _ => false
def valOf (l : List UInt8) : Bool := match X4 l with | none => false | some x => Z83 x
theorem valOf_none {l : List UInt8} (h : X4 l = none) : valOf l = false := by simp [valOf, h]
theorem Z81 {l : List UInt8} {x : Ex} (h : X4 l = some x) : valOf l = Z83 x := by simp [valOf, h]
end Go.Proofs.YtfknoigbkleanaaGreatDoor
