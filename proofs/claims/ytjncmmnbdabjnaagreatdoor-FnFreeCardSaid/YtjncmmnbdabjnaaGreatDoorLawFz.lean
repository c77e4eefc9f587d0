/- The law FnFree: its walk. Free names stand free. -/
import Derived.Test.YtjncmmnbdabjnaaGreatDoorLawFe
import Derived.Test.YtjncmmnbdabjnaaGreatDoorPureZ
import Derived.Test.YtjncmmnbdabjnaaGreatDoorImpl1r
import Derived.OwnWalk
import Derived.Deep.QuietTactic
namespace Go.Proofs.YtjncmmnbdabjnaaGreatDoor
open Go.RowKit
set_option maxRecDepth 8000
set_option linter.unusedSimpArgs false
set_option linter.unusedVariables false
theorem atomsZ_len {l : List UInt8} {x : Ex} (h : readEx l = some x) : (atoms (formOf x) []).length ≤ 120 := by
  obtain ⟨-, -, h1, -, -, hw, -⟩ := readA_all h
  have := (atoms_len (formOf x) [] hw).2
  simp only [List.length_nil] at this
  omega
theorem strS_take {w : World} {p : Option Addr} {n c : Nat} {l : List Nm} (h : StrS w (.slice p n c) l) (j : Nat) (hj : j ≤ l.length) : StrS w (.slice p j c) (l.take j) := by
  obtain ⟨p', c', he, h1, h2⟩ := h
  simp only [Value.slice.injEq] at he
  obtain ⟨rfl, -, rfl⟩ := he
  have hl : (l.take j).length = j := by rw [List.length_take]; omega
  refine ⟨p, c, by rw [hl], by omega, fun hne => ?_⟩
  have hl2 : l ≠ [] := fun e => by subst e; simp at hne
  obtain ⟨r, off, rfl, h3⟩ := h2 hl2
  refine ⟨r, off, rfl, fun i v hi => h3 i v ?_⟩
  rw [List.map_take, List.getElem?_take] at hi
  split at hi
  · exact hi
  · cases hi
theorem ownsZ_cap {w : World} {base : Nat} {e : TypeId} {size : Nat} {v : Value} {n : Nat} {xs : List Value} (h : w.ownsRow base e size v n xs) : ∃ p c, v = .slice p n c ∧ n ≤ c := by
  rcases h.2 with ⟨h1, h2⟩ | ⟨g, cap, cur, h1, h0, h3, h4, h5, h6, h7⟩
  · exact ⟨none, 0, by rw [h1, h2], by omega⟩
  · exact ⟨_, cap, h1, h4⟩
set_option maxHeartbeats 8000000 in
theorem walk_FnFree (a : Option Addr) (L c : Nat) (zs : List Int) (w : World) (hr : BRow w a L c zs) (hT : Tab w) :
    Calls Tryz.prog 7 #[.slice a L c] w fun e w' => e = .returned (.bool true) ∧ Below w.heap.size w w' := by
  by_cases h0 : L ≤ 1048576
  · have hd0 : decide (1048576 < (L : Int)) = false := by simp; omega
    have C := Lib.hid (drawExprFree_c a L c zs w hr)
    have HT := Lib.hid hT
    clear hr hT
    go_enter Tryz.func7, Tryz.ntmps7
    go_wp2_with fail
    refine (C.out).mono ?_
    rintro e w1 ⟨⟨s, rfl, hs⟩, hb1⟩
    have HB := Lib.hid hb1
    clear hb1 C
    obtain ⟨FL, hFL⟩ : ∃ FL, FL = (freeE s.data.toList).getD [] := ⟨_, rfl⟩
    obtain ⟨z, hz⟩ : ∃ z, z = (freeE s.data.toList).isSome := ⟨_, rfl⟩
    have hFLl : FL.length ≤ 120 := by rw [hFL]; exact freeE_len
    have CI : Hid (∀ W, Calls Tryz.prog 29 #[.string s] W fun e w' => (∃ p c, e = .returned (.tuple #[.slice p FL.length c, .bool z]) ∧ StrS w' (.slice p FL.length c) FL ∧ FL.length ≤ c) ∧ Below W.heap.size W w') := Lib.hid (fun W => (implExprFree_c s (by omega) W).mono fun e w' ⟨⟨v, h1, h2⟩, h3⟩ => ⟨by rw [← hz] at h1; rw [← hFL] at h2; obtain ⟨p, c, rfl, hc⟩ := ownsZ_cap h2; exact ⟨p, c, h1, owns_strS6D h2 (by omega), hc⟩, h3⟩)
    have CS : Hid (∀ W, Calls Tryz.prog 30 #[.string s] W fun e w' => (∃ v, e = .returned (.tuple #[v, .bool z]) ∧ StrS w' v FL) ∧ Below W.heap.size W w') := Lib.hid (fun W => (specExprFree_c s (by omega) W).mono fun e w' ⟨⟨v, h1, h2⟩, h3⟩ => ⟨by rw [← hz] at h1; rw [← hFL] at h2; exact ⟨v, h1, owns_strS6D h2 (by omega)⟩, h3⟩)
    have CT : Hid (∀ W va vb, StrS W va FL → StrS W vb FL → Calls Tryz.prog 31 #[va, vb] W fun e w' => e = .returned (.bool true) ∧ ∃ n, w' = W.drewN n) := Lib.hid (fun W va vb h1 h2 => (sameTF_c va vb FL FL W h1 h2).mono fun e w' ⟨h3, h4⟩ => ⟨by rw [h3]; simp, h4⟩)
    cases hc : readEx s.data.toList with
    | none =>
      have hz0 : z = false := by rw [hz]; simp [freeE, hc]
      subst hz0
      clear hc hFL hz
      go_wp2_with (first | (go_at_call 29; go_must (refine (CI.out _).mono ?_; rintro e w2 ⟨⟨p2, c2, rfl, hv2, hc2⟩, hb2⟩; have HB2 := Lib.hid ((nextB (firstB HB.out) hb2).1))) | (go_at_call 30; go_must (refine (CS.out _).mono ?_; rintro e w3 ⟨⟨v3, rfl, hv3⟩, hb3⟩; obtain ⟨p3, m3, c3, rfl⟩ := hv3.shape; have HB3 := Lib.hid ((nextB (firstB HB2.out) hb3).1); have hv23 := strS_keep2D hv2 hb3; have tk : True := trivial)) | (go_at_call 31; clear tk; go_must (refine (CT.out _ _ _ hv23 hv3).mono ?_; rintro e w4 ⟨rfl, m4, rfl⟩)) | (go_at_call 31; go_must (refine (CT.out _ _ _ (strS_drewN hv23 m4) (strS_drewN hv3 m4)).mono ?_; rintro e w5 ⟨rfl, m5, rfl⟩)))
      go_ret
      exact ⟨ret_bool (by simp), by have h := HB3.out; exact ⟨h.os, h.tape, h.output, h.size, h.block⟩⟩
    | some x =>
      have hz0 : z = true := by rw [hz, freeE_some hc]; rfl
      subst hz0
      have hFX : FL = (freeP x).foldl addA [] := by rw [hFL, freeE_some hc]; rfl
      obtain ⟨hp, -, hsz, -, -, hw, hg⟩ := readA_all hc
      obtain ⟨AL, hAL⟩ : ∃ AL, AL = atoms (formOf x) [] := ⟨_, rfl⟩
      have hALl : AL.length ≤ 120 := by rw [hAL]; exact atomsZ_len hc
      have CA : Hid (∀ W, Calls Tryz.prog 32 #[.string s] W fun e w' => (∃ v, e = .returned (.tuple #[v, .bool true]) ∧ StrS w' v AL) ∧ Below W.heap.size W w') := Lib.hid (fun W => (implFormAtoms_c s (by omega) W).mono fun e w' ⟨⟨v, h1, h2⟩, h3⟩ => ⟨by
        rw [atomsOf_some hp, Option.isSome_some] at h1
        rw [atomsOf_some hp, Option.getD_some, ← hAL] at h2
        exact ⟨v, h1, owns_strS6D h2 (by omega)⟩, h3⟩)
      have hnd : FL.Nodup := by rw [hFX]; exact foldA_nodup _ _ List.nodup_nil
      have hFm : ∀ n, n ∈ FL ↔ n ∈ freeP x := fun n => by rw [hFX, memA_foldA]; simp
      obtain ⟨XT, hXT⟩ : ∃ XT : Nat → ByteArray, ∀ j, XT j = bs (formOf (putAll (FL.take j) x)).text := ⟨_, fun _ => rfl⟩
      have hXs : ∀ j, (XT j).size ≤ 1048576 := fun j => by rw [hXT, bs_size]; have := (putAll_text hc (FL.take j)).2; omega
      have hX0 : XT 0 = s := by
        rw [hXT, List.take_zero]
        show bs (formOf x).text = s
        rw [← (readA_all hc).2.1]; simp [bs]
      have CP : Hid (∀ j (hj : j < FL.length) W, Below w.heap.size w W → Calls Tryz.prog 33 #[.string (XT j), .string (bs FL[j]), .string ⟨#[48]⟩] W fun e w' => e = .returned (.tuple #[.string (XT (j + 1)), .bool true]) ∧ Below W.heap.size W w') := Lib.hid (fun j hj W hW => by
        have hm := (hFm _).1 (List.getElem_mem hj)
        have hnm := free_nm x hg _ hm
        have hl := nmA_len hnm
        refine (implExprPut_c (XT j) (bs FL[j]) ⟨#[48]⟩ (hXs j) (by rw [bs_size]; omega) (by decide) W (HT.out.below hW)).mono fun e w' ⟨h1, h2⟩ => ⟨?_, h2⟩
        rw [hXT j, bs_data, bs_data, show (⟨#[48]⟩ : ByteArray).data.toList = [48] from rfl, putAll_step hc _ hnm, ← List.take_succ_eq_append_getElem hj] at h1
        rw [hXT (j + 1)]
        exact h1)
      have CN : Hid (∀ j (hj : j < FL.length) W p c, StrS W (.slice p j c) (FL.take j) → Calls Tryz.prog 34 #[.slice p j c, .string (bs FL[j])] W fun e w' => e = .returned (.bool false) ∧ w' = W) := Lib.hid (fun j hj W p c h => (hasTF_c _ (FL.take j) FL[j] W h).mono fun e w' ⟨h1, h2⟩ => ⟨by rw [h1, decide_eq_false (nodup_take hnd hj)], h2⟩)
      have CE : Hid (∀ W, Calls Tryz.prog 24 #[.string (XT FL.length)] W fun e w' => e = .returned (.bool true) ∧ Below W.heap.size W w') := Lib.hid (fun W => (implExprClosed_c (XT FL.length) (hXs _) W).mono fun e w' ⟨h1, h2⟩ => ⟨by rw [hXT, bs_data, List.take_length, hFX, putAll_end hc] at h1; exact h1, h2⟩)
      have CQ : Hid (∀ j (hj : j < AL.length), ∃ (b : Bool) (M : Int), (M = -1 ∨ (0 ≤ M ∧ decide (0 < M) = b)) ∧ M ≤ 1000000 ∧ (∀ W, Calls Tryz.prog 35 #[.string s, .string (bs AL[j])] W fun e w' => e = .returned (.int .i64 M) ∧ Below W.heap.size W w') ∧ (∀ W v, StrS W v FL → Calls Tryz.prog 34 #[v, .string (bs AL[j])] W fun e w' => e = .returned (.bool b) ∧ w' = W)) := Lib.hid (fun j hj => by
        have hm : AL[j] ∈ AL := List.getElem_mem hj
        have hlen : AL[j].length ≤ 12000 := by
          have hm2 : AL[j] ∈ atoms (formOf x) [] := by rw [← hAL]; exact hm
          rw [mem_atoms] at hm2
          obtain ⟨-, hb⟩ := occ_wf AL[j] (formOf x) hw (hm2.resolve_left (by simp))
          have := (readA_all hc).2.2.2.1
          omega
        have hcnt : (freeP x).count AL[j] ≤ 1000000 := by
          have h2 := freeP_leaves x
          have h4 := leaves_size x
          have h3 := List.count_le_length (a := AL[j]) (l := freeP x)
          omega
        cases hn : isNm AL[j] with
        | false => exact ⟨decide (AL[j] ∈ FL), -1, .inl rfl, by decide, fun W => (implExprCount_c s (bs AL[j]) (by omega) (by rw [bs_size]; omega) W).mono fun e w' ⟨h1, h2⟩ => ⟨by rw [bs_data, cntE_no hn] at h1; exact h1, h2⟩, fun W v hv => hasTF_c v FL AL[j] W hv⟩
        | true => exact ⟨decide (AL[j] ∈ FL), ((freeP x).count AL[j] : Nat), .inr ⟨by omega, by simp [hFm, List.count_pos_iff]⟩, by omega, fun W => (implExprCount_c s (bs AL[j]) (by omega) (by rw [bs_size]; omega) W).mono fun e w' ⟨h1, h2⟩ => ⟨by rw [bs_data, cntE_some hc hn] at h1; exact h1, h2⟩, fun W v hv => hasTF_c v FL AL[j] W hv⟩)
      clear hc hFL hz hFX hp hsz hw hg hAL hnd hFm hXT hXs
      go_wp2_with (first | (go_at_call 29; go_must (refine (CI.out _).mono ?_; rintro e w2 ⟨⟨p2, c2, rfl, hv2, hc2⟩, hb2⟩; have HB2 := Lib.hid ((nextB (firstB HB.out) hb2).1))) | (go_at_call 30; go_must (refine (CS.out _).mono ?_; rintro e w3 ⟨⟨v3, rfl, hv3⟩, hb3⟩; obtain ⟨p3, m3, c3, rfl⟩ := hv3.shape; have HB3 := Lib.hid ((nextB (firstB HB2.out) hb3).1); have hv23 := strS_keep2D hv2 hb3)) | (go_at_call 31; go_must (refine (CT.out _ _ _ hv23 hv3).mono ?_; rintro e w4 ⟨rfl, m4, rfl⟩)) | (go_at_call 32; go_must (refine (CA.out _).mono ?_; rintro e w6 ⟨⟨v6, rfl, hv6⟩, hb6⟩; obtain ⟨p6, m6, c6, rfl⟩ := hv6.shape; have HAt := Lib.hid hv6; have HK := Lib.hid (strS_keep2D (strS_drewN hv23 m4) hb6); have HB6 : Hid (Below w.heap.size w w6) := Lib.hid (by have h := HB3.out; exact (nextB (firstB (show Below w.heap.size w (w3.drewN m4) from ⟨h.os, h.tape, h.output, h.size, h.block⟩)) hb6).1))))
      have hm6 : m6 = AL.length := by obtain ⟨_, _, e, -, -⟩ := HAt.out; injection e
      subst hm6
      clear hv2 hv3 hv23 hv6 hb2 hb3 hb6
      go_loopw [10, 11] (fun v i wr => ∃ j : Nat, j ≤ FL.length ∧ i = .int .i64 j ∧ v = .string (XT j) ∧ Hid (Below w6.heap.size w6 wr)) (fun _ i _ => FL.length - (intOf i).toNat)
      case atStart => exact ⟨0, Nat.zero_le _, rfl, by rw [hX0], Lib.hid (Below.refl _ _)⟩
      case round =>
        obtain ⟨j, hj, rfl, rfl, hB⟩ := hrel
        by_cases hlt : j < FL.length
        · have hst := strS_keep2D HK.out hB.out
          obtain ⟨rr, off, c9, he, hrr, hcell⟩ := StrS.rows hst (fun e => by rw [e] at hlt; simp at hlt)
          simp only [Value.slice.injEq] at he
          obtain ⟨rfl, -, rfl⟩ := he
          have x0 : wr.cell? ⟨rr, off + j, none⟩ = some (.string (bs FL[j])) := by rw [hcell j hlt, List.getD_eq_getElem?_getD, List.getElem?_eq_getElem hlt]; rfl
          have hjI : (j : Int) < (FL.length : Int) := by omega
          have CPj : Hid (∀ W, Below w.heap.size w W → Calls Tryz.prog 33 #[.string (XT j), .string (bs FL[j]), .string ⟨#[48]⟩] W fun e w' => e = .returned (.tuple #[.string (XT (j + 1)), .bool true]) ∧ Below W.heap.size W w') := Lib.hid (CP.out j hlt)
          have CNj : Hid (∀ W, Below wr.heap.size wr W → Calls Tryz.prog 34 #[.slice (some ⟨rr, off, none⟩) j c2, .string (bs FL[j])] W fun e w' => e = .returned (.bool false) ∧ w' = W) := Lib.hid (fun W hW => CN.out j hlt W _ _ (strS_take (strS_keep2D hst hW) j (by omega)))
          have HW := Lib.hid (HB6.out.trans (hB.out.mono HB6.out.size))
          have hj0 : (0 : Int) ≤ (j : Int) := by omega
          have hjc : (j : Int) ≤ (c2 : Int) := by omega
          have hjc2 : j ≤ c2 := by omega
          generalize bs FL[j] = KT at *
          generalize hX1 : XT (j + 1) = X1 at *
          generalize XT j = X0 at *
          clear hcell hst
          go_wp2_with (go_at_call 33; go_must (refine (CPj.out _ HW.out).mono ?_; rintro e w7 ⟨rfl, hb7⟩; have x1 := (hb7.cell (p := ⟨rr, off + j, none⟩) hrr).trans x0))
          go_quiet ((go_at_call 34; exact Calls.quiet_of_same (CNj.out _ (by have h := hb7; exact ⟨h.os, h.tape, h.output, h.size, h.block⟩))))
          go_wp2_with fail
          go_roundw
          case rel => exact ⟨j + 1, by omega, by go_num, by rw [hX1], Lib.hid (by have h := hB.out.trans (hb7.mono hB.out.size); exact ⟨h.os, h.tape, h.output, h.size, h.block⟩)⟩
          case measure => simp [intOf]; omega
        · have : j = FL.length := by omega
          subst this
          have HF := Lib.hid (strS_keep2D HK.out hB.out)
          have HA2 := Lib.hid (strS_keep2D HAt.out hB.out)
          have HBr := Lib.hid (HB6.out.trans (hB.out.mono HB6.out.size))
          generalize XT FL.length = XE at *
          clear CP CN CI CS CT CA HK HAt hB HB6
          go_wp2_with fail
          obtain ⟨wo, rfl⟩ : ∃ wo : World, wo = wr := ⟨_, rfl⟩
          go_loopw [14] (fun i wr => ∃ j : Nat, j ≤ AL.length ∧ i = .int .i64 j ∧ Hid (Below wo.heap.size wo wr)) (fun i _ => AL.length - (intOf i).toNat)
          case atStart => exact ⟨0, Nat.zero_le _, rfl, Lib.hid (Below.refl _ _)⟩
          case round =>
            obtain ⟨j, hj2, rfl, hB⟩ := hrel
            by_cases hlt2 : j < AL.length
            · have hst := strS_keep2D HA2.out hB.out
              have hsa := strS_keep2D HF.out hB.out
              obtain ⟨rr2, off2, c9, he, hrr, hcell⟩ := StrS.rows hst (fun e => by rw [e] at hlt2; simp at hlt2)
              simp only [Value.slice.injEq] at he
              obtain ⟨rfl, -, rfl⟩ := he
              have x0 : wr.cell? ⟨rr2, off2 + j, none⟩ = some (.string (bs AL[j])) := by rw [hcell j hlt2, List.getD_eq_getElem?_getD, List.getElem?_eq_getElem hlt2]; rfl
              have hjI : (j : Int) < (AL.length : Int) := by omega
              obtain ⟨b, M, hM, hM9, cC, cH⟩ := CQ.out j hlt2
              have CC := Lib.hid cC
              have CH : Hid (∀ W, Below wr.heap.size wr W → Calls Tryz.prog 34 #[.slice p2 FL.length c2, .string (bs AL[j])] W fun e w' => e = .returned (.bool b) ∧ w' = W) := Lib.hid (fun W hW => cH W _ (strS_keep2D hsa hW))
              clear cC cH
              generalize bs AL[j] = KT at *
              clear hcell hst hsa
              rcases hM with rfl | ⟨hM0, hMb⟩
              · go_wp2_with (first | (go_at_call 35; go_must (refine (CC.out _).mono ?_; rintro e w7 ⟨rfl, hb7⟩)))
                go_roundw
                case rel => exact ⟨j + 1, by omega, by go_num, Lib.hid (hB.out.trans (hb7.mono hB.out.size))⟩
                case measure => simp [intOf]; omega
              · have hd1 : decide (0 ≤ M) = true := by simpa using hM0
                cases b with
                | false =>
                  have hM1 : ¬ (0 : Int) < M := by simpa using hMb
                  go_wp2_with (first | (go_at_call 35; go_must (refine (CC.out _).mono ?_; rintro e w7 ⟨rfl, hb7⟩; have x1 := (hb7.cell (p := ⟨rr2, off2 + j, none⟩) hrr).trans x0)) | (go_at_call 34; go_must (refine (CH.out _ hb7).mono ?_; rintro e w8 ⟨rfl, rfl⟩)))
                  go_roundw
                  case rel => exact ⟨j + 1, by omega, by go_num, Lib.hid (hB.out.trans (hb7.mono hB.out.size))⟩
                  case measure => simp [intOf]; omega
                | true =>
                  have hM1 : (0 : Int) < M := by simpa using hMb
                  go_wp2_with (first | (go_at_call 35; go_must (refine (CC.out _).mono ?_; rintro e w7 ⟨rfl, hb7⟩; have x1 := (hb7.cell (p := ⟨rr2, off2 + j, none⟩) hrr).trans x0)) | (go_at_call 34; go_must (refine (CH.out _ hb7).mono ?_; rintro e w8 ⟨rfl, rfl⟩)))
                  go_roundw
                  case rel => exact ⟨j + 1, by omega, by go_num, Lib.hid (hB.out.trans (hb7.mono hB.out.size))⟩
                  case measure => simp [intOf]; omega
            · have : j = AL.length := by omega
              subst this
              have HE2 := Lib.hid (HBr.out.trans (hB.out.mono HBr.out.size))
              clear hB HA2 HF HBr CQ
              go_wp2_with (go_at_call 24; go_must (refine (CE.out _).mono ?_; rintro e w7 ⟨rfl, hb7⟩))
              go_ret
              exact ⟨ret_bool (by simp), HE2.out.trans (hb7.mono HE2.out.size)⟩
  · have hd0 : decide (1048576 < (L : Int)) = true := by simp; omega
    have hm0 : L ≤ 9223372036854775807 := hr.bound
    go_enter Tryz.func7, Tryz.ntmps7
    go_wp2_with fail
    go_ret
    exact ⟨rfl, Below.refl _ _⟩
end Go.Proofs.YtjncmmnbdabjnaaGreatDoor
