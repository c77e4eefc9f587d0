/- The law FnOfType: its walk. Each type has an expression. -/
import Derived.Test.YtfknoigbkleanaaGreatDoorqPureJM
import Derived.Test.YtfknoigbkleanaaGreatDoorqImpl3o
import Derived.Test.YtfknoigbkleanaaGreatDoorqSpec3o
import Derived.Test.YtfknoigbkleanaaGreatDoorqLawRtM
import Derived.Test.YtfknoigbkleanaaGreatDoorqImpl4a
import Derived.OwnWalk
namespace Go.Proofs.YtfknoigbkleanaaGreatDoor
open Go.RowKit Go.Proofs.Tryz
set_option maxRecDepth 8000
set_option maxHeartbeats 20000000
set_option linter.unusedVariables false
set_option linter.unusedSimpArgs false
theorem drawExprOf_c (a : Option Addr) (L c : Nat) (zs : List Int) (w : World) (hr : Z1z w a L c zs) : Calls prog 26 #[.slice a L c] w fun e w' => DTl w e w' := by
 have CO := H_ (Z8v a L c zs w hr)
 clear hr
 go_enter func26, ntmps26
 go_wp2_with fail
 refine (CO.out).mono ?_
 rintro e w1 ⟨rfl, ⟨L', c', hR1⟩, hb1⟩
 have HB1 := H_ hb1
 have C := H_ (l91Typed_d hR1 (by omega))
 clear hb1 hR1
 go_wp2_with fail
 refine (C.out).mono ?_
 rintro e w2 ⟨s, p', rfl, h2, h3, h4, h5⟩
 have HF := H_ (dtl_of HB1.out (Nat.le_refl _) ⟨s, p', rfl, h2, h3, h4, h5⟩ (by decide))
 go_wp2_with fail
 go_ret
 exact HF.out
theorem Z7x : ∀ (n : Nat) (t : Tr), t.depth ≤ n → Zp t = true → (∀ env, tyR env (Xd t) = .ok t) ∧ Z83 (Xd t) = true ∧ Ze (Xd t) = []
 | _, .atom a, _, h => by
   have h1 := (Zy h).1
   rw [Z4c] at h1
   simp only [beq_iff_eq] at h1
   subst h1
   rw [Vf]
   exact ⟨fun env => rfl, rfl, rfl⟩
 | 0, .list ts, hd, h => by
   obtain ⟨x, a, b, rfl, -⟩ := Q4 (Zy h).1
   have := Ku x a b
   omega
 | n + 1, .list ts, hd, h => by
   obtain ⟨x, a, b, rfl, hx, -⟩ := Q4 (Zy h).1
   have hdd := Ku x a b
   have hsz := (Zy h).2
   have hsz2 : (Tr.list [x, a, b]).size = x.size + (a.size + (b.size + 0)) := by simp only [Tr.size, Yo]
   rcases hx with e2 | e
   · have hab := Xv (c := 62) h (show Ya 62 (.list [x, a, b]) = some (a, b) by simp [Ya, e2])
     have he : Xd (.list [x, a, b]) = .func [102] [120] a b (Xd b) := by rw [Jq, if_neg (by rw [e2]; decide)]
     have hxa : x = .atom [62] := by rw [Z07 (t := x) (by rw [e2]; simp), e2]
     obtain ⟨k1, k2, k3⟩ := Z7x n b (by omega) hab.2
     have hm : mkT 62 a b = some (.list [x, a, b]) := by
      subst hxa
      unfold mkT
      rw [if_pos (by have h1 : (Tr.atom [62]).size = 1 := rfl; have h2 : (Tr.atom [42]).size = 1 := rfl; omega)]
     rw [he]
     exact ⟨fun env => by simp [tyR, hm, k1, Jw], rfl, by simp [Ze, k3, rm]⟩
   · have hab := Xv (c := 42) h (show Ya 42 (.list [x, a, b]) = some (a, b) by simp [Ya, e])
     have he : Xd (.list [x, a, b]) = .two .pair (Xd a) (Xd b) := by rw [Jq, if_pos e]
     have hxa : x = .atom [42] := by rw [Z07 (t := x) (by rw [e]; simp), e]
     obtain ⟨k1, k2, k3⟩ := Z7x n b (by omega) hab.2
     obtain ⟨g1, g2, g3⟩ := Z7x n a (by omega) hab.1
     have hm : mkT 42 a b = some (.list [x, a, b]) := by
      subst hxa
      unfold mkT
      rw [if_pos (by have h1 : (Tr.atom [62]).size = 1 := rfl; have h2 : (Tr.atom [42]).size = 1 := rfl; omega)]
     rw [he]
     exact ⟨fun env => by simp [tyR, X9, hm, k1, g1, Jw], by simp [Z83, k2, g2], by simp [Ze, k3, g3]⟩
theorem ofType_law {l X : List UInt8} (h : Z8n l = some X) : Z3b [] [] X = some l ∧ Qv X = true ∧ valOf X = true ∧ X.length ≤ 12000 := by
 cases hr : Yi l with
 | none => rw [Z29 hr] at h; cases h
 | some t =>
   rw [Z49 hr] at h
   unfold Z5c at h
   split at h
   · rename_i hb
     simp only [Option.some.injEq] at h
     have hL := Z8h hr
     obtain ⟨k1, k2, k3⟩ := Z7x t.depth t (Nat.le_refl _) hL
     have ok := Z0s t.depth t (Nat.le_refl _) hL
     have hrd : Yb X = some (Xd t) := by
      rw [← h, Jh (V6 ok.wf hb.2.1 hb.2.2), if_pos hb.1]
      exact ok.good
     have hty : Z3b [] [] X = some l := by rw [Z21 (env := []) rfl hrd (k1 []), (J5 hr).2.2.2.1]
     refine ⟨hty, by rw [Qv, hty]; rfl, by rw [Z81 (Z0b hrd k3), k2], ?_⟩
     rw [← h, Zw _ ok.wf]; omega
   · cases h
theorem walk_FnOfType (a : Option Addr) (L c : Nat) (zs : List Int) (w : World) (hr : Z1z w a L c zs) (hT : Tab w) :
 Calls prog 6 #[.slice a L c] w fun e w' => e = .returned (.bool true) ∧ Below w.heap.size w w' := by
 by_cases h0 : L ≤ 1048576
 · have hd0 : decide (1048576 < (L : Int)) = false := by simp; omega
   have C := H_ (drawExprOf_c a L c zs w hr)
   have HT := H_ hT
   clear hr hT
   go_enter func6, ntmps6
   go_wp2_with fail
   refine (C.out).mono ?_
   rintro e w1 ⟨⟨s, rfl, hs⟩, hb1⟩
   have HB := H_ hb1
   clear hb1 C
   obtain ⟨R, hR⟩ : ∃ R, R = Z8n s.data.toList := ⟨_, rfl⟩
   have CI : Hid (∀ W, Below w.heap.size w W → Calls prog 27 #[.string s] W fun e w' => e = .returned (.tuple #[.string (bs (R.getD [])), .bool R.isSome]) ∧ Below W.heap.size W w') := H_ (fun W hW => by rw [hR]; exact implExprOf_c s (by omega) W (HT.out.below hW))
   have CS : Hid (∀ W, Calls prog 28 #[.string s] W fun e w' => e = .returned (.tuple #[.string (bs (R.getD [])), .bool R.isSome]) ∧ Below W.heap.size W w') := H_ (fun W => by rw [hR]; exact Z5q s (by omega) W)
   cases R with
   | none =>
     simp only [Option.getD_none, Option.isSome_none] at CI CS
     clear hR
     generalize bs ([] : List UInt8) = O at *
     have hx1 : (O.toList == O.toList) = true := by simp
     go_wp2_with (first | (go_at_call 27; go_must (refine (CI.out _ HB.out).mono ?_; rintro e wn ⟨rfl, hbn⟩; have HB := H_ ((Y0 (Yk HB.out) hbn).1); clear hbn)) | (go_at_call 28; go_must (refine (CS.out _).mono ?_; rintro e wn ⟨rfl, hbn⟩; have HB := H_ ((Y0 (Yk HB.out) hbn).1); clear hbn)))
     go_ret
     exact ⟨Zh (by simp), HB.out⟩
   | some X =>
     simp only [Option.getD_some, Option.isSome_some] at CI CS
     obtain ⟨q1, q2, q3, q4⟩ := ofType_law hR.symm
     have hXs : (bs X).size ≤ 1048576 := by rw [Yf]; omega
     have hsb : bs s.data.toList = s := by simp [bs]
     have CX : Hid (∀ W : World, Calls prog 11 #[.slice (some ⟨W.heap.size, 0, none⟩) 0 0, .slice (some ⟨W.heap.size + 1, 0, none⟩) 0 0, .string (bs X)] ((W.alloc (.cells #[] 9)).alloc (.cells #[] 9)) fun e w' => e = .returned (.tuple #[.string s, .bool true]) ∧ Below W.heap.size W w') := H_ (fun W => by
      have hb : Below W.heap.size W ((W.alloc (.cells #[] 9)).alloc (.cells #[] 9)) := (Z4 W _).alloc (by simp) _
      exact (Z1b _ _ [] [] (bs X) _ (Z7s _) (Z7s _) (fun k h => by simp at h) (fun k h => by simp at h) hXs).mono fun e w' ⟨h1, h2⟩ => ⟨by rw [Xy, q1] at h1; unfold Z5j at h1; rw [Option.getD_some, hsb] at h1; exact h1, hb.trans (h2.mono hb.size)⟩)
     have CT : Hid (∀ W, Calls prog 18 #[.string (bs X)] W fun e w' => e = .returned (.bool true) ∧ Below W.heap.size W w') := H_ (fun W => (Js (bs X) hXs W).mono fun e w' ⟨h1, h2⟩ => ⟨by rw [Xy, q2] at h1; exact h1, h2⟩)
     have CV : Hid (∀ W, Calls prog 29 #[.string (bs X)] W fun e w' => e = .returned (.bool true) ∧ Below W.heap.size W w') := H_ (fun W => (implValueIs_c (bs X) hXs W).mono fun e w' ⟨h1, h2⟩ => ⟨by rw [Xy, q3] at h1; exact h1, h2⟩)
     clear hR q1 q2 q3 q4 hXs hsb
     generalize bs X = O at *
     have hx1 : (O.toList == O.toList) = true := by simp
     have hx2 : (s.toList == s.toList) = true := by simp
     go_wp2_with (first | (go_at_call 27; go_must (refine (CI.out _ HB.out).mono ?_; rintro e wn ⟨rfl, hbn⟩; have HB := H_ ((Y0 (Yk HB.out) hbn).1); clear hbn)) | (go_at_call 28; go_must (refine (CS.out _).mono ?_; rintro e wn ⟨rfl, hbn⟩; have HB := H_ ((Y0 (Yk HB.out) hbn).1); clear hbn)) | (go_at_call 11; go_must (refine (CX.out _).mono ?_; rintro e wx ⟨rfl, hbn⟩; have HB := H_ ((Y0 (Yk HB.out) hbn).1); clear hbn)) | (go_at_call 18; go_must (refine (CT.out _).mono ?_; rintro e wn ⟨rfl, hbn⟩; have HB := H_ ((Y0 (Yk HB.out) hbn).1); clear hbn)) | (go_at_call 29; go_must (refine (CV.out _).mono ?_; rintro e wn ⟨rfl, hbn⟩; have HB := H_ ((Y0 (Yk HB.out) hbn).1); clear hbn)))
     go_ret
     exact ⟨Zh (by simp), HB.out⟩
 · have hd0 : decide (1048576 < (L : Int)) = true := by simp; omega
   have hm0 : L ≤ 9223372036854775807 := hr.bound
   go_enter func6, ntmps6
   go_wp2_with fail
   go_ret
   exact ⟨rfl, Below.refl _ _⟩
end Go.Proofs.YtfknoigbkleanaaGreatDoor
