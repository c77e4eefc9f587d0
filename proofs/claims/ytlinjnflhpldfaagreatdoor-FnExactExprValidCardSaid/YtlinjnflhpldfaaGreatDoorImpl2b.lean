/- The program's expressions with a head: their making. -/
import Derived.Test.YtlinjnflhpldfaaGreatDoorImpl2a
import Derived.Test.YtlinjnflhpldfaaGreatDoorEV
namespace Go.Proofs.YtlinjnflhpldfaaGreatDoor
open Go.RowKit
set_option maxRecDepth 8000
set_option linter.unusedSimpArgs false
set_option linter.unusedVariables false
set_option maxHeartbeats 1000000 in
theorem atomExpr_c (l : List UInt8) (hl : l.length ≤ 1048576) (ok : Nat → Prop) (w : World) :
    Calls Tryz.prog 80 #[.string (bs l)] w fun e w' => ExPost ok (atomEx l) e w' ∧ Below w.heap.size w w' := by
  have CN : Hid (∀ W, Calls Tryz.prog 46 #[.string (bs l)] W fun e w' => e = .returned (.bool (isNm l)) ∧ w' = W) := Lib.hid (fun W => isName_bs l hl W)
  cases hn : numOf l with
  | some n =>
    have C : Hid (∀ W, Calls Tryz.prog 103 #[.string (bs l)] W fun e w' => e = .returned (.tuple #[.int .i64 n, .bool true]) ∧ Below W.heap.size W w') := Lib.hid (fun W => (readNumeral_c l hl W).mono fun e w' h => by rw [hn] at h; exact h)
    have HA := Lib.hid (show atomEx l = some (.num n) by simp [atomEx, hn])
    go_enter Tryz.func80, Tryz.ntmps80
    go_wp2_with (go_at_call 103; go_must (refine (C.out _).mono ?_; rintro e w1 ⟨rfl, hb1⟩))
    go_ret2
    exact ⟨ExPost.some HA.out rfl, hb1⟩
  | none =>
    have C : Hid (∀ W, Calls Tryz.prog 103 #[.string (bs l)] W fun e w' => e = .returned (.tuple #[.int .i64 0, .bool false]) ∧ Below W.heap.size W w') := Lib.hid (fun W => (readNumeral_c l hl W).mono fun e w' h => by rw [hn] at h; exact h)
    cases hm : isNm l with
    | true =>
      have HA := Lib.hid (show atomEx l = some (.name l) by simp [atomEx, hn, hm])
      rw [hm] at CN
      go_enter Tryz.func80, Tryz.ntmps80
      go_wp2_with (first | (go_at_call 103; go_must (refine (C.out _).mono ?_; rintro e w1 ⟨rfl, hb1⟩)) | (go_at_call 46; go_must (refine (CN.out _).mono ?_; rintro e w2 ⟨rfl, rfl⟩)))
      go_ret2
      exact ⟨ExPost.some HA.out rfl, hb1⟩
    | false =>
      have HA := Lib.hid (show atomEx l = none by simp [atomEx, hn, hm])
      rw [hm] at CN
      go_enter Tryz.func80, Tryz.ntmps80
      go_wp2_with (first | (go_at_call 103; go_must (refine (C.out _).mono ?_; rintro e w1 ⟨rfl, hb1⟩)) | (go_at_call 46; go_must (refine (CN.out _).mono ?_; rintro e w2 ⟨rfl, rfl⟩)))
      go_ret2
      exact ⟨ExPost.none HA.out _ _, hb1⟩
set_option maxHeartbeats 1000000 in
theorem oneExpr_c (h : List UInt8) (a : Ex) (x : Value) (ok : Nat → Prop) (w : World) (hx : ∀ w' : World, Below w.heap.size w w' → EV w' ok a x) :
    Calls Tryz.prog 105 #[.string (bs h), .agg #[x]] w fun e w' => ExPost ok ((op1Of h).map (fun o => Ex.one o a)) e w' ∧ Below w.heap.size w w' := by
  by_cases h0 : h = [102, 115, 116]
  · subst h0
    have HN := Lib.hid (show (op1Of [102, 115, 116]).map (fun o => Ex.one o a) = some (.one .fst a) from rfl)
    rw [show bs [102, 115, 116] = ⟨#[102, 115, 116]⟩ from rfl]
    go_enter Tryz.func105, Tryz.ntmps105
    go_wp2_with fail
    go_ret2
    exact ⟨ExPost.some HN.out ⟨x, rfl, hx _ (below1 _ _)⟩, below1 _ _⟩
  have e0 : ((bs h).toList == [102, 115, 116]) = false := by rw [bs_toList]; simpa using h0
  by_cases h1 : h = [115, 110, 100]
  · subst h1
    have HN := Lib.hid (show (op1Of [115, 110, 100]).map (fun o => Ex.one o a) = some (.one .snd a) from rfl)
    clear e0 h0
    rw [show bs [115, 110, 100] = ⟨#[115, 110, 100]⟩ from rfl]
    go_enter Tryz.func105, Tryz.ntmps105
    go_wp2_with fail
    go_ret2
    exact ⟨ExPost.some HN.out ⟨x, rfl, hx _ (below1 _ _)⟩, below1 _ _⟩
  have e1 : ((bs h).toList == [115, 110, 100]) = false := by rw [bs_toList]; simpa using h1
  have HN := Lib.hid (show (op1Of h).map (fun o => Ex.one o a) = none by simp [op1Of, h0, h1])
  clear h0 h1
  go_enter Tryz.func105, Tryz.ntmps105
  go_wp2_with fail
  go_ret2
  exact ⟨ExPost.nil HN.out, below1 _ _⟩
set_option maxHeartbeats 1000000 in
theorem twoExpr_c (h : List UInt8) (a b : Ex) (x y : Value) (ok : Nat → Prop) (w : World) (hx : ∀ w' : World, Below w.heap.size w w' → EV w' ok a x) (hy : ∀ w' : World, Below w.heap.size w w' → EV w' ok b y) :
    Calls Tryz.prog 106 #[.string (bs h), .agg #[x, y]] w fun e w' => ExPost ok ((op2Of h).map (fun o => Ex.two o a b)) e w' ∧ Below w.heap.size w w' := by
  by_cases h0 : h = [43]
  · subst h0
    have HN := Lib.hid (show (op2Of [43]).map (fun o => Ex.two o a b) = some (.two .add a b) from rfl)
    rw [show bs [43] = ⟨#[43]⟩ from rfl]
    go_enter Tryz.func106, Tryz.ntmps106
    go_wp2_with fail
    go_ret2
    exact ⟨ExPost.some HN.out ⟨x, y, rfl, hx _ (below1 _ _), hy _ (below1 _ _)⟩, below1 _ _⟩
  have e0 : ((bs h).toList == [43]) = false := by rw [bs_toList]; simpa using h0
  by_cases h1 : h = [45]
  · subst h1
    have HN := Lib.hid (show (op2Of [45]).map (fun o => Ex.two o a b) = some (.two .sub a b) from rfl)
    clear e0 h0
    rw [show bs [45] = ⟨#[45]⟩ from rfl]
    go_enter Tryz.func106, Tryz.ntmps106
    go_wp2_with fail
    go_ret2
    exact ⟨ExPost.some HN.out ⟨x, y, rfl, hx _ (below1 _ _), hy _ (below1 _ _)⟩, below1 _ _⟩
  have e1 : ((bs h).toList == [45]) = false := by rw [bs_toList]; simpa using h1
  by_cases h2 : h = [42]
  · subst h2
    have HN := Lib.hid (show (op2Of [42]).map (fun o => Ex.two o a b) = some (.two .mul a b) from rfl)
    clear e0 h0 e1 h1
    rw [show bs [42] = ⟨#[42]⟩ from rfl]
    go_enter Tryz.func106, Tryz.ntmps106
    go_wp2_with fail
    go_ret2
    exact ⟨ExPost.some HN.out ⟨x, y, rfl, hx _ (below1 _ _), hy _ (below1 _ _)⟩, below1 _ _⟩
  have e2 : ((bs h).toList == [42]) = false := by rw [bs_toList]; simpa using h2
  by_cases h3 : h = [99, 97, 108, 108]
  · subst h3
    have HN := Lib.hid (show (op2Of [99, 97, 108, 108]).map (fun o => Ex.two o a b) = some (.two .call a b) from rfl)
    clear e0 h0 e1 h1 e2 h2
    rw [show bs [99, 97, 108, 108] = ⟨#[99, 97, 108, 108]⟩ from rfl]
    go_enter Tryz.func106, Tryz.ntmps106
    go_wp2_with fail
    go_ret2
    exact ⟨ExPost.some HN.out ⟨x, y, rfl, hx _ (below1 _ _), hy _ (below1 _ _)⟩, below1 _ _⟩
  have e3 : ((bs h).toList == [99, 97, 108, 108]) = false := by rw [bs_toList]; simpa using h3
  by_cases h4 : h = [112, 97, 105, 114]
  · subst h4
    have HN := Lib.hid (show (op2Of [112, 97, 105, 114]).map (fun o => Ex.two o a b) = some (.two .pair a b) from rfl)
    clear e0 h0 e1 h1 e2 h2 e3 h3
    rw [show bs [112, 97, 105, 114] = ⟨#[112, 97, 105, 114]⟩ from rfl]
    go_enter Tryz.func106, Tryz.ntmps106
    go_wp2_with fail
    go_ret2
    exact ⟨ExPost.some HN.out ⟨x, y, rfl, hx _ (below1 _ _), hy _ (below1 _ _)⟩, below1 _ _⟩
  have e4 : ((bs h).toList == [112, 97, 105, 114]) = false := by rw [bs_toList]; simpa using h4
  have HN := Lib.hid (show (op2Of h).map (fun o => Ex.two o a b) = none by simp [op2Of, h0, h1, h2, h3, h4])
  clear h0 h1 h2 h3 h4
  go_enter Tryz.func106, Tryz.ntmps106
  go_wp2_with fail
  go_ret2
  exact ⟨ExPost.nil HN.out, below1 _ _⟩
end Go.Proofs.YtlinjnflhpldfaaGreatDoor
