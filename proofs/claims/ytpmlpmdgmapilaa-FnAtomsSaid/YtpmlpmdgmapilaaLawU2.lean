/- General laws of chapter 1: types. -/
import Derived.Test.YtpmlpmdgmapilaaDraw6
import Derived.Test.YtpmlpmdgmapilaaLawU1
import Derived.Test.YtpmlpmdgmapilaaMade
import Derived.Test.YtpmlpmdgmapilaaStrs2
namespace Go.Proofs.Ytpmlpmdgmapilaa
open Go.RowKit
set_option maxRecDepth 8000
set_option linter.unusedSimpArgs false
set_option linter.unusedVariables false
theorem readTy_parse {l : List UInt8} {t : Tr} (h : readTy l = some t) : parse l = some t := by
  unfold readTy at h
  cases hp : parse l with
  | none => simp [hp] at h
  | some t' =>
    simp only [hp] at h
    split at h
    · simp only [Option.some.injEq] at h; rw [h]
    · cases h
theorem orderOf_none {l : List UInt8} (h : readTy l = none) : orderOf l = -1 := by simp [orderOf, h]
/-- A text, by its bytes. -/
theorem as_bs (s : ByteArray) : ∃ l : List UInt8, s = bs l := ⟨s.data.toList, bs_ext rfl⟩
theorem owns_strU {w : World} {B : Nat} {v : Value} {l : List (List UInt8)} (h : w.ownsRow B 9 1 v l.length (l.map strV)) (hl : l.length ≤ 9223372036854775807) : StrS w v l := by
  rcases h.2 with ⟨rfl, h0⟩ | ⟨g, cap, cur, rfl, hb, hg, h1, h2, h3, h4⟩
  · exact ⟨none, 0, by rw [h0], hl, fun hne => absurd (List.eq_nil_of_length_eq_zero h0) hne⟩
  · exact ⟨_, cap, rfl, hl, fun _ => ⟨g, 0, rfl, owns_row h⟩⟩
theorem tyOrder_lt : ∀ t : Tr, isTy t = true → tyOrder t < t.size := by
  intro t
  induction t using Tr.rec (motive_2 := fun ts => ∀ t ∈ ts, isTy t = true → tyOrder t < t.size) with
  | atom a => intro _; rw [tyOrder_atom]; simp [Tr.size]
  | list ts ih =>
    intro h
    obtain ⟨x, a, b, rfl, hx, ha, hb⟩ := isTy_list h
    have h1 := ih a (by simp) ha
    have h2 := ih b (by simp) hb
    have h3 : 1 ≤ x.size := by
      cases x with
      | atom s => simp [Tr.size]
      | list s => rcases hx with hx | hx <;> simp [atomOf] at hx
    rw [tyOrder_three]
    simp only [Tr.size, sizes]
    split <;> omega
  | nil => rename_i t h _; cases h
  | cons a ts ih1 ih2 =>
    rename_i t h hty
    rcases List.mem_cons.1 h with rfl | h
    · exact ih1 hty
    · exact ih2 t h hty
theorem mem_addA {x a : Nm} {l : List Nm} : x ∈ addA l a ↔ x = a ∨ x ∈ l := by
  unfold addA
  split
  · rename_i h
    constructor
    · exact .inr
    · rintro (rfl | h2); exact h; exact h2
  · simp [List.mem_append, or_comm]
theorem mem_three {x : Nm} (h : Nm) (a b : Tr) (l : List Nm) : x ∈ atoms (.list [.atom h, a, b]) l ↔ x ∈ atoms b (atoms a (addA l h)) := by rw [atoms_list]; simp only [atomss, atoms_atom]
/-- The atoms of a type: its order is 0 exactly if there is no arrow among them. -/
theorem order_atoms' : ∀ t : Tr, isTy t = true → ∀ l : List Nm, [62] ∈ atoms t l ↔ [62] ∈ l ∨ tyOrder t ≠ 0 := by
  intro t
  induction t using Tr.rec (motive_2 := fun ts => ∀ t ∈ ts, isTy t = true → ∀ l : List Nm, [62] ∈ atoms t l ↔ [62] ∈ l ∨ tyOrder t ≠ 0) with
  | atom a =>
    intro h l
    rw [isTy_atom] at h
    simp only [beq_iff_eq] at h
    subst h
    rw [atoms_atom, mem_addA, tyOrder_atom]
    simp
  | list ts ih =>
    intro h l
    obtain ⟨x, a, b, rfl, hx, ha, hb⟩ := isTy_list h
    have h1 := ih a (by simp) ha
    have h2 := ih b (by simp) hb
    have hxa : ∃ s, x = .atom s := by
      cases x with
      | atom s => exact ⟨s, rfl⟩
      | list s => rcases hx with hx | hx <;> simp [atomOf] at hx
    obtain ⟨s, rfl⟩ := hxa
    rw [mem_three, h2, h1, mem_addA, tyOrder_three]
    simp only [atomOf] at hx
    rcases hx with rfl | rfl
    · rw [if_pos (show atomOf (Tr.atom [62]) = [62] from rfl)]
      constructor
      · intro _; exact .inr (by omega)
      · intro _; exact .inl (.inl (.inl rfl))
    · rw [if_neg (show ¬ atomOf (Tr.atom [42]) = [62] by decide)]
      constructor
      · rintro (((h3 | h3) | h3) | h3)
        · exact absurd h3 (by decide)
        · exact .inl h3
        · exact .inr (by omega)
        · exact .inr (by omega)
      · rintro (h3 | h3)
        · exact .inl (.inl (.inr h3))
        · by_cases h4 : tyOrder b = 0
          · exact .inl (.inr (by omega))
          · exact .inr h4
  | nil => rename_i t h _ _; cases h
  | cons a ts ih1 ih2 =>
    rename_i t h hty l
    rcases List.mem_cons.1 h with rfl | h
    · exact ih1 hty l
    · exact ih2 t h hty l
theorem order_atoms (t : Tr) (h : isTy t = true) : tyOrder t = 0 ↔ [62] ∉ atoms t [] := by
  have := order_atoms' t h []
  constructor
  · intro e h2; rcases this.1 h2 with h3 | h3; cases h3; exact h3 e
  · intro h2; exact Classical.byContradiction fun e => h2 (this.2 (.inr e))
set_option maxHeartbeats 4000000 in
theorem walk_FnType (a : Option Addr) (L c : Nat) (zs : List Int) (w : World) (hr : BRow w a L c zs) :
    Calls Try.prog 10 #[.slice a L c] w fun e w' => e = .returned (.bool true) ∧ Below w.heap.size w w' := by
  by_cases h0 : L ≤ 1048576
  · have hd0 : decide (1048576 < (L : Int)) = false := by simp; omega
    have C := Lib.hid (drawTypeValid_c a L c zs w hr)
    clear hr
    go_enter Try.func10, Try.ntmps10
    go_wp2_with fail
    refine (C.out).mono ?_
    rintro e w1 ⟨⟨s, rfl, hs⟩, hb1⟩
    have HB := Lib.hid hb1
    clear hb1 C
    obtain ⟨l, rfl⟩ := as_bs s
    rw [bs_size] at hs
    have CV : Hid (∀ W : World, Calls Try.prog 39 #[.string (bs l)] W fun e w' => e = .returned (.bool (readTy l).isSome) ∧ Below W.heap.size W w') := Lib.hid (fun W => by have h := implTypeValid_c (bs l) (by rw [bs_size]; omega) W; rw [bs_data] at h; exact h)
    have CW : Hid (∀ W : World, Calls Try.prog 40 #[.string (bs l)] W fun e w' => e = .returned (.bool (readTy l).isSome) ∧ Below W.heap.size W w') := Lib.hid (fun W => by have h := specTypeValid_c (bs l) (by rw [bs_size]; omega) W; rw [bs_data] at h; exact h)
    cases hr : readTy l with
    | none =>
      rw [hr] at CV CW
      simp only [Option.isSome_none] at CV CW
      clear hr
      go_wp2_with (first | (go_at_call 39; go_must (refine (CV.out _).mono ?_; rintro e wn ⟨rfl, hbn⟩; have HB := Lib.hid ((nextB (firstB HB.out) hbn).1); clear hbn)) | (go_at_call 40; go_must (refine (CW.out _).mono ?_; rintro e wn ⟨rfl, hbn⟩; have HB := Lib.hid ((nextB (firstB HB.out) hbn).1); clear hbn)))
      go_ret
      exact ⟨rfl, HB.out⟩
    | some t =>
      rw [hr] at CV CW
      simp only [Option.isSome_some] at CV CW
      have hp := readTy_parse hr
      have CS : Hid (∀ W : World, Calls Try.prog 20 #[.string (bs l)] W fun e w' => e = .returned (.int .i64 (t.size : Int)) ∧ Below W.heap.size W w') := Lib.hid (fun W => by have h := implFormSize_c (bs l) (by rw [bs_size]; omega) W; rw [bs_data, size_of_parse hp] at h; exact h)
      have CO : Hid (∀ W : World, Calls Try.prog 43 #[.string (bs l)] W fun e w' => e = .returned (.int .i64 (tyOrder t : Int)) ∧ Below W.heap.size W w') := Lib.hid (fun W => by have h := implTypeOrder_c (bs l) (by rw [bs_size]; omega) W; rw [bs_data, orderOf_some hr] at h; exact h)
      have g1 : (t.size : Int) ≤ 16 := by have := (readTy_got hr).2.2.2.2.2; omega
      have g2 : (tyOrder t : Int) ≥ 0 := by omega
      obtain ⟨xf, yf, xp, yp, fz, pz, hF, hP, hcase⟩ : ∃ (xf yf xp yp : ByteArray) (fz pz : Bool), (∀ W : World, Calls Try.prog 41 #[.string (bs l)] W fun e w' => e = .returned (.tuple #[.string xf, .string yf, .bool fz]) ∧ Below W.heap.size W w') ∧ (∀ W : World, Calls Try.prog 42 #[.string (bs l)] W fun e w' => e = .returned (.tuple #[.string xp, .string yp, .bool pz]) ∧ Below W.heap.size W w') ∧ ((l = [105] ∧ fz = false ∧ pz = false) ∨ (l ≠ [105] ∧ fz = true ∧ pz = false) ∨ (l ≠ [105] ∧ fz = false ∧ pz = true)) := by
        refine ⟨bs (((sidesOf [62] l).map (·.1)).getD []), bs (((sidesOf [62] l).map (·.2)).getD []), bs (((sidesOf [42] l).map (·.1)).getD []), bs (((sidesOf [42] l).map (·.2)).getD []), (sidesOf [62] l).isSome, (sidesOf [42] l).isSome, fun W => ?_, fun W => ?_, ?_⟩
        · have h := implTypeFun_c (bs l) (by rw [bs_size]; omega) W; rw [bs_data] at h; exact h
        · have h := implTypePair_c (bs l) (by rw [bs_size]; omega) W; rw [bs_data] at h; exact h
        · rcases ty_sides hr with ⟨h1, h2, h3⟩ | ⟨c, x, a, b, hc, -, -, h4, h5, -, -, h6, -, -⟩
          · exact .inl ⟨h1, by rw [h2]; rfl, by rw [h3]; rfl⟩
          · rcases hc with rfl | rfl
            · exact .inr (.inl ⟨h6, by rw [h4]; rfl, by rw [h5 42 (by decide)]; rfl⟩)
            · exact .inr (.inr ⟨h6, by rw [h5 62 (by decide)]; rfl, by rw [h4]; rfl⟩)
      have CF := Lib.hid hF
      have CP := Lib.hid hP
      clear hF hP hp hr
      generalize (t.size : Int) = z1 at *
      generalize (tyOrder t : Int) = z2 at *
      rcases hcase with ⟨rfl, rfl, rfl⟩ | ⟨hl, rfl, rfl⟩ | ⟨hl, rfl, rfl⟩
      · have e1 : ((bs [105]).toList == [105]) = true := by rw [bs_toList]; rfl
        have e2 : (bs [105]).toList = [105] := by rw [bs_toList]
        go_wp2_with (first | (go_at_call 39; go_must (refine (CV.out _).mono ?_; rintro e wn ⟨rfl, hbn⟩; have HB := Lib.hid ((nextB (firstB HB.out) hbn).1); clear hbn)) | (go_at_call 40; go_must (refine (CW.out _).mono ?_; rintro e wn ⟨rfl, hbn⟩; have HB := Lib.hid ((nextB (firstB HB.out) hbn).1); clear hbn)) | (go_at_call 41; go_must (refine (CF.out _).mono ?_; rintro e wn ⟨rfl, hbn⟩; have HB := Lib.hid ((nextB (firstB HB.out) hbn).1); clear hbn)) | (go_at_call 42; go_must (refine (CP.out _).mono ?_; rintro e wn ⟨rfl, hbn⟩; have HB := Lib.hid ((nextB (firstB HB.out) hbn).1); clear hbn)) | (go_at_call 20; go_must (refine (CS.out _).mono ?_; rintro e wn ⟨rfl, hbn⟩; have HB := Lib.hid ((nextB (firstB HB.out) hbn).1); clear hbn)) | (go_at_call 43; go_must (refine (CO.out _).mono ?_; rintro e wn ⟨rfl, hbn⟩; have HB := Lib.hid ((nextB (firstB HB.out) hbn).1); clear hbn)))
        go_ret
        exact ⟨rfl, HB.out⟩
      · have e1 : ((bs l).toList == [105]) = false := by rw [bs_toList]; simpa using hl
        have e2 : ¬ (bs l).toList = [105] := by rw [bs_toList]; exact hl
        generalize bs l = sl at *
        go_wp2_with (first | (go_at_call 39; go_must (refine (CV.out _).mono ?_; rintro e wn ⟨rfl, hbn⟩; have HB := Lib.hid ((nextB (firstB HB.out) hbn).1); clear hbn)) | (go_at_call 40; go_must (refine (CW.out _).mono ?_; rintro e wn ⟨rfl, hbn⟩; have HB := Lib.hid ((nextB (firstB HB.out) hbn).1); clear hbn)) | (go_at_call 41; go_must (refine (CF.out _).mono ?_; rintro e wn ⟨rfl, hbn⟩; have HB := Lib.hid ((nextB (firstB HB.out) hbn).1); clear hbn)) | (go_at_call 42; go_must (refine (CP.out _).mono ?_; rintro e wn ⟨rfl, hbn⟩; have HB := Lib.hid ((nextB (firstB HB.out) hbn).1); clear hbn)) | (go_at_call 20; go_must (refine (CS.out _).mono ?_; rintro e wn ⟨rfl, hbn⟩; have HB := Lib.hid ((nextB (firstB HB.out) hbn).1); clear hbn)) | (go_at_call 43; go_must (refine (CO.out _).mono ?_; rintro e wn ⟨rfl, hbn⟩; have HB := Lib.hid ((nextB (firstB HB.out) hbn).1); clear hbn)))
        go_ret
        exact ⟨rfl, HB.out⟩
      · have e1 : ((bs l).toList == [105]) = false := by rw [bs_toList]; simpa using hl
        have e2 : ¬ (bs l).toList = [105] := by rw [bs_toList]; exact hl
        generalize bs l = sl at *
        go_wp2_with (first | (go_at_call 39; go_must (refine (CV.out _).mono ?_; rintro e wn ⟨rfl, hbn⟩; have HB := Lib.hid ((nextB (firstB HB.out) hbn).1); clear hbn)) | (go_at_call 40; go_must (refine (CW.out _).mono ?_; rintro e wn ⟨rfl, hbn⟩; have HB := Lib.hid ((nextB (firstB HB.out) hbn).1); clear hbn)) | (go_at_call 41; go_must (refine (CF.out _).mono ?_; rintro e wn ⟨rfl, hbn⟩; have HB := Lib.hid ((nextB (firstB HB.out) hbn).1); clear hbn)) | (go_at_call 42; go_must (refine (CP.out _).mono ?_; rintro e wn ⟨rfl, hbn⟩; have HB := Lib.hid ((nextB (firstB HB.out) hbn).1); clear hbn)) | (go_at_call 20; go_must (refine (CS.out _).mono ?_; rintro e wn ⟨rfl, hbn⟩; have HB := Lib.hid ((nextB (firstB HB.out) hbn).1); clear hbn)) | (go_at_call 43; go_must (refine (CO.out _).mono ?_; rintro e wn ⟨rfl, hbn⟩; have HB := Lib.hid ((nextB (firstB HB.out) hbn).1); clear hbn)))
        go_ret
        exact ⟨rfl, HB.out⟩
  · have hd0 : decide (1048576 < (L : Int)) = true := by simp; omega
    have hm0 : L ≤ 9223372036854775807 := hr.bound
    go_enter Try.func10, Try.ntmps10
    go_wp2_with fail
    go_ret
    exact ⟨rfl, Below.refl _ _⟩
set_option maxHeartbeats 4000000 in
theorem walk_FnOrder (a : Option Addr) (L c : Nat) (zs : List Int) (w : World) (hr : BRow w a L c zs) :
    Calls Try.prog 13 #[.slice a L c] w fun e w' => e = .returned (.bool true) ∧ Below w.heap.size w w' := by
  by_cases h0 : L ≤ 1048576
  · have hd0 : decide (1048576 < (L : Int)) = false := by simp; omega
    have C := Lib.hid (drawTypeOrder_c a L c zs w hr)
    clear hr
    go_enter Try.func13, Try.ntmps13
    go_wp2_with fail
    refine (C.out).mono ?_
    rintro e w1 ⟨⟨s, rfl, hs⟩, hb1⟩
    have HB := Lib.hid hb1
    clear hb1 C
    obtain ⟨l, rfl⟩ := as_bs s
    rw [bs_size] at hs
    have CV : Hid (∀ W : World, Calls Try.prog 43 #[.string (bs l)] W fun e w' => e = .returned (.int .i64 (orderOf l)) ∧ Below W.heap.size W w') := Lib.hid (fun W => by have h := implTypeOrder_c (bs l) (by rw [bs_size]; omega) W; rw [bs_data] at h; exact h)
    have CW : Hid (∀ W : World, Calls Try.prog 50 #[.string (bs l)] W fun e w' => e = .returned (.int .i64 (orderOf l)) ∧ Below W.heap.size W w') := Lib.hid (fun W => by have h := specTypeOrder_c (bs l) (by rw [bs_size]; omega) W; rw [bs_data] at h; exact h)
    cases hr : readTy l with
    | none =>
      rw [orderOf_none hr] at CV CW
      clear hr
      go_wp2_with (first | (go_at_call 43; go_must (refine (CV.out _).mono ?_; rintro e wn ⟨rfl, hbn⟩; have HB := Lib.hid ((nextB (firstB HB.out) hbn).1); clear hbn)) | (go_at_call 50; go_must (refine (CW.out _).mono ?_; rintro e wn ⟨rfl, hbn⟩; have HB := Lib.hid ((nextB (firstB HB.out) hbn).1); clear hbn)))
      go_ret
      exact ⟨rfl, HB.out⟩
    | some t =>
      rw [orderOf_some hr] at CV CW
      have hp := readTy_parse hr
      have CS : Hid (∀ W : World, Calls Try.prog 20 #[.string (bs l)] W fun e w' => e = .returned (.int .i64 (t.size : Int)) ∧ Below W.heap.size W w') := Lib.hid (fun W => by have h := implFormSize_c (bs l) (by rw [bs_size]; omega) W; rw [bs_data, size_of_parse hp] at h; exact h)
      have CA : Hid (∀ W : World, Calls Try.prog 18 #[.string (bs l)] W fun e w' => (∃ p c, e = .returned (.tuple #[.slice p (atoms t []).length c, .bool true]) ∧ StrS w' (.slice p (atoms t []).length c) (atoms t [])) ∧ Below W.heap.size W w') := Lib.hid (fun W => by
        have h := implFormAtoms_c (bs l) (by rw [bs_size]; omega) W
        rw [bs_data, atomsOf_some hp] at h
        refine h.mono fun e w' ⟨⟨v, h1, h2⟩, h3⟩ => ⟨?_, h3⟩
        have h4 := (atoms_range hp).2
        have h5 := (size_ge hp).2
        obtain ⟨p, c, rfl⟩ := owns_slice h2
        exact ⟨p, c, h1, owns_strU h2 (show (atoms t []).length ≤ 9223372036854775807 by omega)⟩)
      have CH : Hid (∀ (W : World) v, StrS W v (atoms t []) → Calls Try.prog 35 #[v, .string ⟨#[62]⟩] W fun e w' => e = .returned (.bool (decide ([62] ∈ atoms t []))) ∧ w' = W) := Lib.hid (fun W v hv => hasT_c v _ [62] W hv)
      have hty := (readTy_got hr).2.2.2.2.1
      have g1 : (tyOrder t : Int) < (t.size : Int) := by have := tyOrder_lt t hty; omega
      have g2 : ¬ (tyOrder t : Int) < 0 := by omega
      have hiff := order_atoms t hty
      clear hp hr
      generalize (t.size : Int) = z1 at *
      generalize atoms t [] = at0 at *
      by_cases hz : tyOrder t = 0
      · have hd : decide ([62] ∈ at0) = false := by simpa using hiff.1 hz
        rw [hd] at CH
        rw [hz] at g1 g2 CV CW
        rw [show ((0 : Nat) : Int) = 0 from rfl] at g1 g2 CV CW
        clear hiff hd hz hty
        go_wp2_with (first | (go_at_call 43; go_must (refine (CV.out _).mono ?_; rintro e wn ⟨rfl, hbn⟩; have HB := Lib.hid ((nextB (firstB HB.out) hbn).1); clear hbn)) | (go_at_call 50; go_must (refine (CW.out _).mono ?_; rintro e wn ⟨rfl, hbn⟩; have HB := Lib.hid ((nextB (firstB HB.out) hbn).1); clear hbn)) | (go_at_call 18; go_must (refine (CA.out _).mono ?_; rintro e wn ⟨⟨p4, c4, rfl, hS⟩, hbn⟩; have HB := Lib.hid ((nextB (firstB HB.out) hbn).1); have HS := Lib.hid hS; clear hbn hS)) | (go_at_call 20; go_must (refine (CS.out _).mono ?_; rintro e wn ⟨rfl, hbn⟩; have HB := Lib.hid ((nextB (firstB HB.out) hbn).1); have HS := Lib.hid (HS.out.below hbn); clear hbn)) | (go_at_call 35; go_must (refine (CH.out _ _ HS.out).mono ?_; rintro e wn ⟨rfl, rfl⟩)))
        go_ret
        exact ⟨rfl, HB.out⟩
      · have hd : decide ([62] ∈ at0) = true := by simpa using fun e => hz (hiff.2 e)
        rw [hd] at CH
        have g3 : ¬ (tyOrder t : Int) = 0 := by omega
        have g4 : ((tyOrder t : Int) == 0) = false := by simpa using hz
        clear hiff hd hz hty
        generalize (tyOrder t : Int) = z2 at *
        go_wp2_with (first | (go_at_call 43; go_must (refine (CV.out _).mono ?_; rintro e wn ⟨rfl, hbn⟩; have HB := Lib.hid ((nextB (firstB HB.out) hbn).1); clear hbn)) | (go_at_call 50; go_must (refine (CW.out _).mono ?_; rintro e wn ⟨rfl, hbn⟩; have HB := Lib.hid ((nextB (firstB HB.out) hbn).1); clear hbn)) | (go_at_call 18; go_must (refine (CA.out _).mono ?_; rintro e wn ⟨⟨p4, c4, rfl, hS⟩, hbn⟩; have HB := Lib.hid ((nextB (firstB HB.out) hbn).1); have HS := Lib.hid hS; clear hbn hS)) | (go_at_call 20; go_must (refine (CS.out _).mono ?_; rintro e wn ⟨rfl, hbn⟩; have HB := Lib.hid ((nextB (firstB HB.out) hbn).1); have HS := Lib.hid (HS.out.below hbn); clear hbn)) | (go_at_call 35; go_must (refine (CH.out _ _ HS.out).mono ?_; rintro e wn ⟨rfl, rfl⟩)))
        go_ret
        exact ⟨rfl, HB.out⟩
  · have hd0 : decide (1048576 < (L : Int)) = true := by simp; omega
    have hm0 : L ≤ 9223372036854775807 := hr.bound
    go_enter Try.func13, Try.ntmps13
    go_wp2_with fail
    go_ret
    exact ⟨rfl, Below.refl _ _⟩
end Go.Proofs.Ytpmlpmdgmapilaa
