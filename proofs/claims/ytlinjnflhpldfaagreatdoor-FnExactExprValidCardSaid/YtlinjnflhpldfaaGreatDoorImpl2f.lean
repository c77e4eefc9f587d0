/- The program reads an expression: the parts with names, and the atoms. -/
import Derived.Test.YtlinjnflhpldfaaGreatDoorImpl2e
namespace Go.Proofs.YtlinjnflhpldfaaGreatDoor
open Go.RowKit
set_option maxRecDepth 8000
set_option linter.unusedSimpArgs false
set_option linter.unusedVariables false
theorem asLetE_other {ps : List Tr} (h : ps.length ≠ 3) : asLetE ps = none := by
  match ps, h with
  | [], _ => rfl
  | [_], _ => rfl
  | [_, _], _ => rfl
  | [_, _, _], h => exact absurd rfl h
  | _ :: _ :: _ :: _ :: _, _ => rfl
theorem asFunE_other {ps : List Tr} (h : ps.length ≠ 5) : asFunE ps = none := by
  match ps, h with
  | [], _ => rfl
  | [_], _ => rfl
  | [_, _], _ => rfl
  | [_, _, _], _ => rfl
  | [_, _, _, _], _ => rfl
  | [_, _, _, _, _], h => exact absurd rfl h
  | _ :: _ :: _ :: _ :: _ :: _ :: _, _ => rfl
theorem exPost_shape {ok : Nat → Prop} {res : Option Ex} {e : Ending} {w' : World} (hq : ExPost ok res e w') : ∃ x z, e = .returned (.tuple #[x, .bool z]) := by
  unfold ExPost at hq
  split at hq
  · rcases hq with hq | ⟨T, u, hq⟩ <;> exact ⟨_, _, hq⟩
  · obtain ⟨v, hq, _⟩ := hq; exact ⟨_, _, hq⟩
theorem asLet_any (n : Nat) (ih : AsExC n) (ps : List Tr) (c : Nat) (ok : Nat → Prop) (w : World) (r off : Nat) (xs : List Value) (hd : ∀ t ∈ ps, t.depth < n) (hw : ∀ t ∈ ps, t.wf) (hb : ∀ t ∈ ps, t.bytes ≤ 12000)
    (h5 : hasRow w r off xs) (h6 : FVs nI w ok ps xs) (hrlt : r < w.heap.size) (hok : ∀ k, ok k → k < w.heap.size) (hc : ps.length ≤ c) (hc2 : c ≤ maxLen) (hl : ps.length ≤ 1000000000) :
    Calls Tryz.prog 81 #[.slice (some ⟨r, off, none⟩) ps.length c] w fun e w' => ExPost ok (asLetE ps) e w' ∧ Below w.heap.size w w' := by
  by_cases h3 : ps.length = 3
  · obtain ⟨x, a, b, rfl⟩ := three_of h3
    exact asLet_c n ih x a b c ok w r off xs (hd a (by simp)) (hd b (by simp)) (hw a (by simp)) (hw b (by simp)) (hb x (by simp)) (hb a (by simp)) (hb b (by simp)) h5 h6 hrlt hok (by simpa using hc) hc2
  · exact (asLet_bad _ _ _ h3 hl w).mono fun e w' ⟨h1, h2⟩ => ⟨by rw [h1]; exact ExPost.nil (asLetE_other h3), h2⟩
theorem five_ofI {ps : List Tr} (h : ps.length = 5) : ∃ a b c d e, ps = [a, b, c, d, e] := by
  match ps, h with
  | [a, b, c, d, e], _ => exact ⟨a, b, c, d, e, rfl⟩
theorem asFun_any (n : Nat) (ih : AsExC n) (ps : List Tr) (c : Nat) (ok : Nat → Prop) (w : World) (r off : Nat) (xs : List Value) (hd : ∀ t ∈ ps, t.depth < n) (hw : ∀ t ∈ ps, t.wf) (hb : ∀ t ∈ ps, t.bytes ≤ 12000)
    (h5 : hasRow w r off xs) (h6 : FVs nI w ok ps xs) (hrlt : r < w.heap.size) (hok : ∀ k, ok k → k < w.heap.size) (hc : ps.length ≤ c) (hc2 : c ≤ maxLen) (hl : ps.length ≤ 1000000000) :
    Calls Tryz.prog 82 #[.slice (some ⟨r, off, none⟩) ps.length c] w fun e w' => ExPost ok (asFunE ps) e w' ∧ Below w.heap.size w w' := by
  by_cases h3 : ps.length = 5
  · obtain ⟨f, x, A, B, b, rfl⟩ := five_ofI h3
    exact asFun_c n ih f x A B b c ok w r off xs (hd b (by simp)) (hw A (by simp)) (hw B (by simp)) (hw b (by simp)) (hb f (by simp)) (hb x (by simp)) (hb A (by simp)) (hb B (by simp)) (hb b (by simp)) h5 h6 hrlt hok (by simpa using hc) hc2
  · exact (asFun_bad _ _ _ h3 hl w).mono fun e w' ⟨h1, h2⟩ => ⟨by rw [h1]; exact ExPost.nil (asFunE_other h3), h2⟩
set_option maxHeartbeats 1000000 in
theorem asExpr_atom (a : List UInt8) (hl : a.length ≤ 1048576) (ok : Nat → Prop) (b z d : Int) (w : World) :
    Calls Tryz.prog 58 #[.agg #[.string (bs a), .slice none 0 0, .int .i64 b, .int .i64 z, .int .i64 d]] w fun e w' => ExPost ok (atomEx a) e w' ∧ Below w.heap.size w w' := by
  have CA : Hid (∀ W, Calls Tryz.prog 80 #[.string (bs a)] W fun e w' => ExPost ok (atomEx a) e w' ∧ Below W.heap.size W w') := Lib.hid (fun W => atomExpr_c a hl ok W)
  have hcx : Hid (∀ e w', ExPost ok (atomEx a) e w' → (∃ x z, e = .returned (.tuple #[x, .bool z]))) := Lib.hid (fun e w' hq => exPost_shape hq)
  generalize atomEx a = R at *
  go_enter Tryz.func58, Tryz.ntmps58
  go_wp2_with (first | (go_at_call 79; go_must (refine (isAtom_yes _ _ _ _ _ _ _).mono ?_; rintro e w1 ⟨rfl, hb1⟩; have c1 := below_blk hb1 (by simp) (heap_alloc_new _ _); have d0 := cell_of (j := 0) c1)) | (go_at_call 80; go_must (refine (CA.out _).mono ?_; rintro e w2 ⟨hp, hb2⟩; obtain ⟨x, z2, rfl⟩ := hcx.out _ _ hp)))
  go_ret2
  exact ⟨hp, (below1 w _).trans ((hb1.trans (hb2.mono hb1.size)).mono (by simp))⟩
end Go.Proofs.YtlinjnflhpldfaaGreatDoor
