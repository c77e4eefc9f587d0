/- The law FnExpr: its walk. Parts of expressions are expressions. -/
import Derived.Test.YtndbdiccjmlegaaGreatDoorDrawC
import Derived.Test.YtndbdiccjmlegaaGreatDoorImpl2v
import Derived.Test.YtndbdiccjmlegaaGreatDoorImpl3a
import Derived.Test.YtndbdiccjmlegaaGreatDoorPureM
import Derived.Test.YtndbdiccjmlegaaGreatDoorI1z
namespace Go.Proofs.YtndbdiccjmlegaaGreatDoor
open Go.RowKit
set_option maxRecDepth 8000
set_option linter.unusedSimpArgs false
set_option linter.unusedVariables false
set_option maxHeartbeats 400000 in
theorem implFormSizeF_c (s : ByteArray) (hs : s.size ≤ 1048576) (w : World) :
    Calls Tryz.prog 23 #[.string s] w fun e w' => e = .returned (.int .i64 (sizeOfText s.data.toList)) ∧ Below w.heap.size w w' := by
  cases hp : parse s.data.toList with
  | none =>
    have C := Lib.hid (readForm_none hs hp)
    have HD := Lib.hid (show sizeOfText s.data.toList = -1 from by simp [sizeOfText, hp])
    clear hp
    go_enter Tryz.func23, Tryz.ntmps23
    go_wp2_with (go_at_call 45; go_must (refine (C.out _).mono ?_; rintro e w1 ⟨rfl, hb1⟩))
    go_ret
    exact ⟨ret_int HD.out.symm, hb1.alloc hb1.size _⟩
  | some t =>
    have C := Lib.hid (readForm_some hs hp)
    have HD := Lib.hid (show sizeOfText s.data.toList = (t.size : Int) from by simp [sizeOfText, hp])
    clear hp
    go_enter Tryz.func23, Tryz.ntmps23
    go_wp2_with (go_at_call 45; go_must (refine (C.out _).mono ?_; rintro e w1 ⟨⟨p, n, c, rfl, hv⟩, hb1⟩))
    go_ret
    exact ⟨ret_int HD.out.symm, hb1.alloc hb1.size _⟩

theorem kid_small {x k : Ex} (hk : k ∈ kidsE x) : (formOf k).size ≤ (formOf x).size ∧ (formOf k).bytes ≤ (formOf x).bytes ∧ (formOf k).depth ≤ (formOf x).depth ∧ ((formOf x).wf → (formOf k).wf) ∧ (good x → good k) := by
  cases x with
  | name s => cases hk
  | num n => cases hk
  | two o a b =>
    simp only [kidsE, List.mem_cons, List.not_mem_nil, or_false] at hk
    simp only [formOf, Tr.size, sizes, Tr.bytes, bytess, Tr.depth, depths, Tr.wf, wfs]
    rcases hk with rfl | rfl
    · exact ⟨by omega, by omega, by omega, fun h => h.2.2.1, fun h => ((good_two _ _ _).1 h).1⟩
    · exact ⟨by omega, by omega, by omega, fun h => h.2.2.2.1, fun h => ((good_two _ _ _).1 h).2⟩
  | one o a =>
    simp only [kidsE, List.mem_cons, List.not_mem_nil, or_false] at hk
    subst hk
    simp only [formOf, Tr.size, sizes, Tr.bytes, bytess, Tr.depth, depths, Tr.wf, wfs]
    exact ⟨by omega, by omega, by omega, fun h => h.2.2.1, fun h => (good_one _ _).1 h⟩
  | cond a b d =>
    simp only [kidsE, List.mem_cons, List.not_mem_nil, or_false] at hk
    simp only [formOf, Tr.size, sizes, Tr.bytes, bytess, Tr.depth, depths, Tr.wf, wfs]
    rcases hk with rfl | rfl | rfl
    · exact ⟨by omega, by omega, by omega, fun h => h.2.2.1, fun h => ((good_cond _ _ _).1 h).1⟩
    · exact ⟨by omega, by omega, by omega, fun h => h.2.2.2.1, fun h => ((good_cond _ _ _).1 h).2.1⟩
    · exact ⟨by omega, by omega, by omega, fun h => h.2.2.2.2.1, fun h => ((good_cond _ _ _).1 h).2.2⟩
  | lete s a b =>
    simp only [kidsE, List.mem_cons, List.not_mem_nil, or_false] at hk
    simp only [formOf, Tr.size, sizes, Tr.bytes, bytess, Tr.depth, depths, Tr.wf, wfs]
    rcases hk with rfl | rfl
    · exact ⟨by omega, by omega, by omega, fun h => h.2.2.2.1, fun h => ((good_lete _ _ _).1 h).2.1⟩
    · exact ⟨by omega, by omega, by omega, fun h => h.2.2.2.2.1, fun h => ((good_lete _ _ _).1 h).2.2⟩
  | func f s A B e =>
    simp only [kidsE, List.mem_cons, List.not_mem_nil, or_false] at hk
    subst hk
    simp only [formOf, Tr.size, sizes, Tr.bytes, bytess, Tr.depth, depths, Tr.wf, wfs]
    exact ⟨by omega, by omega, by omega, fun h => h.2.2.2.2.2.2.1, fun h => ((good_func _ _ _ _ _).1 h).2⟩
theorem read_all {l : List UInt8} {x : Ex} (h : readEx l = some x) : parse l = some (formOf x) ∧ l = (formOf x).text ∧ (formOf x).size ≤ 120 ∧ (formOf x).bytes ≤ 12000 ∧ (formOf x).depth ≤ 60 ∧ (formOf x).wf ∧ good x := by
  unfold readEx at h
  cases hp : parse l with
  | none => simp [hp] at h
  | some t =>
    simp only [hp] at h
    split at h
    · rename_i hs
      have g := parse_got hp
      have e := formOf_eq _ _ h
      rw [e]
      exact ⟨rfl, g.2.2.2, hs, g.2.1, g.2.2.1, g.1, good_of h⟩
    · cases h
theorem read_made {x : Ex} (h1 : (formOf x).size ≤ 120) (h2 : (formOf x).bytes ≤ 12000) (h3 : (formOf x).depth ≤ 60) (h4 : (formOf x).wf) (h5 : good x) : readEx (formOf x).text = some x := by
  rw [readEx_some (parse_text h4 h2 h3), if_pos h1]
  exact h5
theorem kid_read {l : List UInt8} {x k : Ex} (h : readEx l = some x) (hk : k ∈ kidsE x) : readEx (formOf k).text = some k ∧ (formOf k).text.length ≤ 12000 := by
  obtain ⟨-, -, h1, h2, h3, h4, h5⟩ := read_all h
  obtain ⟨k1, k2, k3, k4, k5⟩ := kid_small hk
  exact ⟨read_made (by omega) (by omega) (by omega) (k4 h4) (k5 h5), by rw [text_length _ (k4 h4)]; omega⟩
theorem sumM_len : ∀ ks : List Ex, ks.length ≤ sumM ks
  | [] => Nat.le_refl _
  | k :: ks => by
    have := sumM_len ks
    have : 1 ≤ manyE k := by cases k <;> simp only [manyE] <;> omega
    simp only [List.length_cons, sumM]
    omega
theorem head_ne (x : Ex) : headOf x ≠ [] := by cases x with
  | two o a b => cases o <;> simp [headOf, op2N]
  | one o a => cases o <;> simp [headOf, op1N]
  | _ => simp [headOf, sName, sNumber, kIf, kLet, kFun]
theorem parseE_readS {l : List UInt8} : (parseE l).isSome = (readEx l).isSome := by
  cases h : parseE l with
  | none => rw [readEx_none2 h]; rfl
  | some t => obtain ⟨x, h1, -⟩ := readEx_asEx' h; rw [h1]; rfl
set_option maxHeartbeats 4000000 in
theorem walk_FnExpr (a : Option Addr) (L c : Nat) (zs : List Int) (w : World) (hr : BRow w a L c zs) (hT : Tab w) :
    Calls Tryz.prog 8 #[.slice a L c] w fun e w' => e = .returned (.bool true) ∧ Below w.heap.size w w' := by
  by_cases h0 : L ≤ 1048576
  · have hd0 : decide (1048576 < (L : Int)) = false := by simp; omega
    have C := Lib.hid (drawExprValid_c a L c zs w hr)
    have HT := Lib.hid hT
    clear hr hT
    go_enter Tryz.func8, Tryz.ntmps8
    go_wp2_with fail
    refine (C.out).mono ?_
    rintro e w1 ⟨⟨s, rfl, hs⟩, hb1⟩
    have HB := Lib.hid hb1
    clear hb1 C
    have CI := Lib.hid (fun W => implExprValid_c s (by omega) W)
    have CS := Lib.hid (fun W => specExprValid_c s (by omega) W)
    unfold Hid at CS
    rw [parseE_readS] at CS
    have CS := Lib.hid CS
    cases hc : readEx s.data.toList with
    | none =>
      rw [hc] at CI CS
      simp only [Option.isSome_none] at CI CS
      clear hc
      have tok1 : True := trivial
      go_wp2_with (first | (go_at_call 24; go_must (refine (CI.out _).mono ?_; rintro e wn ⟨rfl, hbn⟩; have HB := Lib.hid ((nextB (firstB HB.out) hbn).1); clear hbn)) | (go_at_call 33; go_must (refine (CS.out _).mono ?_; rintro e wn ⟨rfl, hbn⟩; have HB := Lib.hid ((nextB (firstB HB.out) hbn).1); clear hbn)))
      go_ret
      exact ⟨rfl, HB.out⟩
    | some x =>
      rw [hc] at CI CS
      simp only [Option.isSome_some] at CI CS
      obtain ⟨kl, hkl⟩ : ∃ kl, kl = (kidsE x).map (fun k => (formOf k).text) := ⟨_, rfl⟩
      have hK : ∀ t ∈ kl, (readEx t).isSome = true ∧ t.length ≤ 12000 := fun t ht => by
        rw [hkl] at ht
        obtain ⟨k, hk, rfl⟩ := List.mem_map.1 ht
        have h := kid_read hc hk
        exact ⟨by rw [h.1]; rfl, h.2⟩
      have hlen : kl.length = (kidsE x).length := by rw [hkl]; simp
      have CK : Hid (∀ W, Below w.heap.size w W → Calls Tryz.prog 28 #[.string s] W fun e w' => (∃ v, e = .returned (.tuple #[v, .bool true]) ∧ w'.ownsRow W.heap.size 9 1 v kl.length (kl.map strV)) ∧ Below W.heap.size W w') := Lib.hid (fun W hW => (implExprKids_c s (by omega) W (HT.out.below hW)).mono fun e w' ⟨⟨v, h1, h2⟩, h3⟩ => ⟨by
        rw [kidsTx_some hc, ← hkl] at h1 h2
        exact ⟨v, h1, h2⟩, h3⟩)
      have CZ : Hid (∀ W, Calls Tryz.prog 23 #[.string s] W fun e w' => e = .returned (.int .i64 ((formOf x).size : Nat)) ∧ Below W.heap.size W w') := Lib.hid (fun W => (implFormSizeF_c s (by omega) W).mono fun e w' ⟨h1, h2⟩ => ⟨by rw [h1]; simp [sizeOfText, (read_all hc).1], h2⟩)
      have CH : Hid (∀ W, Calls Tryz.prog 26 #[.string s] W fun e w' => e = .returned (.string (bs (headOf x))) ∧ Below W.heap.size W w') := Lib.hid (fun W => (implExprHead_c s (by omega) W).mono fun e w' ⟨h1, h2⟩ => ⟨by rw [h1, headI_some hc], h2⟩)
      have CM : Hid (∀ W, Calls Tryz.prog 34 #[.string s] W fun e w' => e = .returned (.int .i64 (manyE x : Nat)) ∧ Below W.heap.size W w') := Lib.hid (fun W => (implExprMany_c s (by omega) W).mono fun e w' ⟨h1, h2⟩ => ⟨by rw [h1, manyOf_some hc], h2⟩)
      have hsz : (formOf x).size ≤ 120 := (read_all hc).2.2.1
      have hmk : 1 + kl.length ≤ manyE x := by have := many_kids x; have := sumM_len (kidsE x); omega
      have hmm := readEx_many hc
      have hhd := atomne (head_ne x)
      have hll : kl.length ≤ 120 := by omega
      generalize bs (headOf x) = HD at *
      generalize manyE x = MN at *
      generalize (formOf x).size = SZ at *
      have HK := Lib.hid hK
      have hz1 : (SZ : Int) ≤ 120 := by omega
      clear hc hkl hlen hK
      have tok1 : True := trivial
      go_wp2_with (first | (go_at_call 24; clear tok1; go_must (refine (CI.out _).mono ?_; rintro e wn ⟨rfl, hbn⟩; have HB := Lib.hid ((nextB (firstB HB.out) hbn).1); clear hbn)) | (go_at_call 33; go_must (refine (CS.out _).mono ?_; rintro e wn ⟨rfl, hbn⟩; have HB := Lib.hid ((nextB (firstB HB.out) hbn).1); clear hbn)) | (go_at_call 28; go_must (refine (CK.out _ HB.out).mono ?_; rintro e w6 ⟨⟨v, rfl, hv⟩, hb6⟩; obtain ⟨pv, cv, rfl⟩ := owns_slice hv; have HV := Lib.hid (owns_strS6D hv (by omega)); have HB := Lib.hid ((nextB (firstB HB.out) hb6).1); clear hb6 hv)))
      go_loopw [8] (fun i wr => ∃ j : Nat, j ≤ kl.length ∧ i = .int .i64 j ∧ Hid (Below w.heap.size w wr) ∧ Hid (StrS wr (.slice pv kl.length cv) kl)) (fun i _ => kl.length - (intOf i).toNat)
      case atStart => exact ⟨0, Nat.zero_le _, rfl, HB, HV⟩
      case round =>
        obtain ⟨j, hj, rfl, hB, hS⟩ := hrel
        clear HB HV
        by_cases hlt : j < kl.length
        · have hne : kl ≠ [] := fun e => by rw [e] at hlt; simp at hlt
          have hstr := hS.out
          obtain ⟨p9, c9, he9, h91, h92⟩ := hstr
          simp only [Value.slice.injEq] at he9
          obtain ⟨rfl, -, rfl⟩ := he9
          obtain ⟨rr, off, rfl, h93⟩ := h92 hne
          have x0 : wr.cell? ⟨rr, off + j, none⟩ = some (.string (bs kl[j])) := StrS.cell h93 hlt
          have hk := HK.out kl[j] (List.getElem_mem hlt)
          have CV : Hid (∀ W, Calls Tryz.prog 24 #[.string (bs kl[j])] W fun e w' => e = .returned (.bool true) ∧ Below W.heap.size W w') := Lib.hid (fun W => (implExprValid_c (bs kl[j]) (by rw [bs_size]; omega) W).mono fun e w' ⟨h1, h2⟩ => ⟨by rw [h1, show (bs kl[j]).data.toList = kl[j] from by simp [bs], hk.1], h2⟩)
          have hlI : (j : Int) < (kl.length : Int) := by omega
          generalize bs kl[j] = KT at *
          clear h91 h92 h93 hk
          go_wp2_with (go_at_call 24; go_must (refine (CV.out _).mono ?_; rintro e wn ⟨rfl, hbn⟩))
          go_roundw
          case rel => exact ⟨j + 1, by omega, by go_num, Lib.hid ((nextB (firstB hB.out) hbn).1), Lib.hid (strS_keep2D hS.out hbn)⟩
          case measure => simp [intOf]; omega
        · have : j = kl.length := by omega
          subst this
          have HB := hB
          go_wp2_with (first | (go_at_call 23; go_must (refine (CZ.out _).mono ?_; rintro e wn ⟨rfl, hbn⟩; have HB := Lib.hid ((nextB (firstB HB.out) hbn).1); clear hbn)) | (go_at_call 26; go_must (refine (CH.out _).mono ?_; rintro e wn ⟨rfl, hbn⟩; have HB := Lib.hid ((nextB (firstB HB.out) hbn).1); clear hbn)) | (go_at_call 34; go_must (refine (CM.out _).mono ?_; rintro e wn ⟨rfl, hbn⟩; have HB := Lib.hid ((nextB (firstB HB.out) hbn).1); clear hbn)))
          go_ret
          exact ⟨ret_bool (by simp; omega), HB.out⟩
  · have hd0 : decide (1048576 < (L : Int)) = true := by simp; omega
    have hm0 : L ≤ 9223372036854775807 := hr.bound
    go_enter Tryz.func8, Tryz.ntmps8
    go_wp2_with fail
    go_ret
    exact ⟨rfl, Below.refl _ _⟩
end Go.Proofs.YtndbdiccjmlegaaGreatDoor
