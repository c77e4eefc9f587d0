/- strings.Repeat for the one byte s. -/
import Derived.Test.YtfknoigbkleanaaGreatDoorBuild
import Derived.Test.YtfknoigbkleanaaGreatDoorB1
namespace Go.Proofs.YtfknoigbkleanaaGreatDoor
open Go.RowKit
set_option maxRecDepth 8000
set_option linter.unusedSimpArgs false
set_option linter.unusedVariables false
theorem bldLen_c (B b : Nat) (l : List UInt8) (w : World) (h : Bld B b l w) :
    Calls Tryz.prog 190 #[.pointer (some ⟨b, 0, none⟩)] w fun e w' => e = .returned (.int .i64 l.length) ∧ w' = w := by
  obtain ⟨hB, v, hbk, hown, hne⟩ := h
  have hll : (Lib.byteCells l).length = l.length := by simp [Lib.byteCells]
  rw [hll] at hown
  have hv : ∃ p cc, v = .slice p l.length cc := by
    rcases hown.2 with ⟨hv, h0⟩ | ⟨g, cap, cur, fz, hv, _⟩
    · exact ⟨none, 0, by rw [hv, h0]⟩
    · exact ⟨_, _, hv⟩
  obtain ⟨p, cc, rfl⟩ := hv
  have c1 := cell_of (j := 1) hbk
  clear hown hne hll
  generalize l.length = n at *
  go_enter Tryz.func190, Tryz.ntmps190
  go_wp2_with fail
  go_ret
  exact ⟨rfl, rfl⟩
theorem rep_bs (m : Nat) : bs (List.replicate m (115 : UInt8)) = ⟨(List.replicate m (115 : UInt8)).toArray⟩ := rfl
theorem rep_take (m k : Nat) (hk : k ≤ m) : (bs (List.replicate m (115 : UInt8))).extract 0 k = bs (List.replicate k 115) := by
  apply bs_ext
  rw [extract_bs, bs_data, bs_data]
  simp [List.take_replicate, Nat.min_eq_left hk]
theorem Tryz.cellsU8 : Tryz.prog.cellsOf 5 = 1 := by kernel_rfl
theorem Tryz.mixedIR : Tryz.prog.follows Departure.mixedOrders = true := by kernel_rfl
theorem Tryz.shapePU8 : Tryz.prog.underlying 167 = some (.pointer 5) := by kernel_rfl
set_option maxHeartbeats 1000000 in
theorem bldString_c (B b : Nat) (l : List UInt8) (h0 : l ≠ []) (w : World) (h : Bld B b l w) :
    Calls Tryz.prog 95 #[.pointer (some ⟨b, 0, none⟩)] w fun e w' => e = .returned (.string (bs l)) ∧ Bld B b l w' ∧ Below B w w' := by
  have hl0 : l.length ≠ 0 := by simpa using h0
  have hll : (Lib.byteCells l).length = l.length := by simp [Lib.byteCells]
  have hA : Lib.BuilderAtF 107 5 B b (.pointer (some ⟨b, 0, none⟩)) (Lib.byteCells l) w.drew := h
  obtain ⟨hB, v, hbk, hown, hne⟩ := h
  rw [hll] at hown
  obtain ⟨g, cap, cur, fz, rfl, hbg, hg, hfz, hnc, hcm, hcs, htake⟩ : ∃ g cap cur fz, v = .slice (some ⟨g, 0, none⟩) l.length cap ∧ B ≤ g ∧ w.heap[g]? = some (.cells cur 5 fz) ∧ fz.2 ≤ l.length * 1 ∧ l.length ≤ cap ∧ cap ≤ maxLen ∧ cur.size = cap * 1 ∧ cur.toList.take (l.length * 1) = Lib.byteCells l := by
    rcases hown.2 with ⟨_, hz⟩ | ⟨g, cap, cur, fz, hv, r⟩
    · exact absurd hz hl0
    · exact ⟨g, cap, cur, fz, hv, r⟩
  have c1 : w.drew.cell? ⟨b, 1, none⟩ = some (.slice (some ⟨g, 0, none⟩) l.length cap) := cell_of (w := w.drew) (j := 1) hbk
  have hF := hA.froze (g := g) (cap := cap) (by rw [hll]; exact c1)
  rw [hll] at hF
  have HF := Lib.hid hF
  have hSD : (Builtin.unsafeSliceData_ #[22] 167 #[.slice (some ⟨g, 0, none⟩) l.length cap]).run Tryz.prog w.drew = .ok (.pointer (some ⟨g, 0, none⟩)) w.drew := Lib.run_unsafeSliceData_row _ _ _ _ _ _ (by omega)
  have hUS : (Builtin.unsafeString_ #[167, 3] 9 #[.pointer (some ⟨g, 0, none⟩), .int .i64 l.length]).run Tryz.prog w.drew = .ok (.string (bs l)) (w.drew.freeze ⟨g, 0, none⟩ l.length) := by
    refine Lib.run_unsafeString_row w.drew 167 3 9 5 Tryz.shapePU8 Tryz.cellsU8 g cur.size (by have hg' : w.drew.heap[g]? = some (.cells cur 5 fz) := hg; simp [World.shape?, hg']) l h0 (by omega) (by unfold maxLen at hcm; omega) ?_
    intro j x hx
    exact hown.cells (g := g) rfl j (.int .u8 x.toNat) (by simp [Lib.byteCells, hx])
  have HW : Hid (Below B w (w.drew.freeze ⟨g, 0, none⟩ l.length)) := Lib.hid (Lib.below_freeze (Below.drew (Below.refl B w)) (p := ⟨g, 0, none⟩) hbg _)
  have mixed := Tryz.mixedIR
  clear hA hF hown hne hg htake hfz hnc hcm hcs hbk
  go_enter Tryz.func95, Tryz.ntmps95
  go_wp2_with fail
  go_region_o
  all_goals
    go_wp2_with fail
    go_ret
    exact ⟨rfl, HF.out, HW.out⟩
set_option maxHeartbeats 2000000 in
theorem repeat_c (n : Nat) (hn : n ≤ 8000) (w : World) :
    Calls Tryz.prog 164 #[.string ⟨#[115]⟩, .int .i64 n] w fun e w' => e = .returned (.string (bs (List.replicate n 115))) ∧ Below w.heap.size w w' := by
  match n, hn with
  | 0, _ =>
    go_enter Tryz.func164, Tryz.ntmps164
    go_wp2_with fail
    go_ret
    exact ⟨rfl, Below.refl _ _⟩
  | 1, _ =>
    go_enter Tryz.func164, Tryz.ntmps164
    go_wp2_with fail
    go_ret
    exact ⟨rfl, Below.refl _ _⟩
  | n + 2, hn =>
    obtain ⟨N, hN⟩ : ∃ N, N = n + 2 := ⟨_, rfl⟩
    rw [← hN] at hn ⊢
    have h2 : 2 ≤ N := by omega
    clear hN
    have hI0 : ((N : Int) == 0) = false := by simp; omega
    have hI1 : ((N : Int) == 1) = false := by simp; omega
    have hI2 : ¬ (N : Int) < 0 := by omega
    have hI3 : ¬ (8192 : Int) < (N : Int) := by omega
    have CM : Hid (∀ W, Calls Tryz.prog 188 #[.int .u64 1, .int .u64 N] W fun e w' => e = .returned (.tuple #[.int .u64 0, .int .u64 N]) ∧ w' = W) := Lib.hid (fun W => (Tryz.bits_Mul 1 N (by decide) (by omega) W).mono fun e w' h => by
      obtain ⟨h1, h2⟩ := h
      refine ⟨?_, h2⟩
      rw [h1, show (1 * N) / 18446744073709551616 = 0 from by omega, show (1 * N) % 18446744073709551616 = N from by omega]
      rfl)
    have hu1 : (bs [115]).size = 1 := rfl
    have hu2 : (bs [115])[0].toNat = 115 := rfl
    go_enter Tryz.func164, Tryz.ntmps164
    go_wp2_with (first | (go_at_call 188; go_must (refine (CM.out _).mono ?_; rintro e w1 ⟨rfl, rfl⟩)) | (go_at_call 93; go_must (refine (Tryz.Builder_Grow_fresh w1.heap.size w1.heap.size N _ (Nat.le_refl _) (heap_alloc_new _ _) (by simp) (by omega)).mono ?_; rintro e w2 ⟨rfl, hB2, hb2⟩)) | (go_at_call 146; go_must (refine (WriteString_c w1.heap.size w1.heap.size [] [115] w2 (Lib.BuilderAtF.of hB2) (by simp) (by have := hb2.size; simp at this; omega)).mono ?_; rintro e w3 ⟨rfl, hB3, hb3, -⟩)))
    have HW3 : Hid (Below w1.heap.size w1 w3) := Lib.hid (((below1 w1 _).trans hb2).trans hb3)
    have hsz3 := HW3.out.size
    clear hB2 hb2 hb3 CM
    go_loopg [10] (N - 1) (fun q ch wr => ∃ m : Nat, q + m = N ∧ 1 ≤ m ∧ Hid (Bld w1.heap.size w1.heap.size (List.replicate m 115) wr) ∧ Hid (Below w1.heap.size w1 wr))
    case atStart => exact ⟨1, by omega, Nat.le_refl _, Lib.hid hB3, HW3⟩
    case round =>
      obtain ⟨m, hq, hm, hB, hW⟩ := hrel
      have CL := Lib.hid (bldLen_c w1.heap.size w1.heap.size (List.replicate m 115) wr hB.out)
      unfold Hid at CL
      rw [List.length_replicate] at CL
      have CL := Lib.hid CL
      by_cases hlt : m < N
      · have hltI : (m : Int) < (N : Int) := by omega
        obtain ⟨k, hk⟩ : ∃ k, N = m + k := ⟨N - m, by omega⟩
        have hkI : (N : Int) - (m : Int) = (k : Int) := by omega
        have hWs := hW.out.size
        have CS := Lib.hid (bldString_c w1.heap.size w1.heap.size (List.replicate m 115) (by intro e; have := congrArg List.length e; simp at this; omega) wr hB.out)
        obtain ⟨S, hS⟩ : ∃ S : ByteArray, S = bs (List.replicate m 115) := ⟨_, rfl⟩
        have hSs : S.size = m := by rw [hS, bs_size, List.length_replicate]
        unfold Hid at CS
        rw [← hS] at CS
        have CS := Lib.hid CS
        have HS := Lib.hid hS
        have HK := Lib.hid hk
        clear hS hk
        by_cases hA : k ≤ m
        · have hAI : (k : Int) ≤ (m : Int) := by omega
          have hA2 : (k : Int) ≤ (N : Int) := by omega
          have CW : Hid (∀ W, Bld w1.heap.size w1.heap.size (List.replicate m 115) W → w1.heap.size ≤ W.heap.size → Calls Tryz.prog 146 #[.pointer (some ⟨w1.heap.size, 0, none⟩), .string (S.extract 0 k)] W fun e w' => e = .returned (.tuple #[.int .i64 k, .nilIface]) ∧ Bld w1.heap.size w1.heap.size (List.replicate (m + k) 115) w' ∧ Below w1.heap.size W w') := Lib.hid (fun W hB hS => by
            have h := WriteString_c w1.heap.size w1.heap.size (List.replicate m 115) (List.replicate k 115) W hB (by simp; omega) hS
            rw [HS.out, rep_take m k (by omega)]
            refine h.mono fun e w' ⟨h1, h2, h3, _⟩ => ⟨by rw [h1, List.length_replicate], by rw [List.replicate_append_replicate] at h2; exact h2, h3⟩)
          go_wp2_with (first | (go_at_call 190; go_must (refine (CL.out).mono ?_; rintro e w5 ⟨rfl, rfl⟩)) | (go_at_call 95; go_must (refine (CS.out).mono ?_; rintro e w6 ⟨rfl, hB6, hb6⟩; have hw6 := hb6.size)) | (go_at_call 146; go_must (refine (CW.out _ hB6 (by omega)).mono ?_; rintro e w7 ⟨rfl, hB7, hb7⟩)))
          go_roundg (gk - k)
          case measure => have := HK.out; omega
          case rel => exact ⟨m + k, by have := HK.out; omega, by omega, Lib.hid hB7, Lib.hid (hW.out.trans ((hb6.trans hb7)))⟩
        · have hAI : ¬ (k : Int) ≤ (m : Int) := by omega
          have hA2 : (m : Int) ≤ (N : Int) := by omega
          have CW : Hid (∀ W, Bld w1.heap.size w1.heap.size (List.replicate m 115) W → w1.heap.size ≤ W.heap.size → Calls Tryz.prog 146 #[.pointer (some ⟨w1.heap.size, 0, none⟩), .string (S.extract 0 m)] W fun e w' => e = .returned (.tuple #[.int .i64 m, .nilIface]) ∧ Bld w1.heap.size w1.heap.size (List.replicate (m + m) 115) w' ∧ Below w1.heap.size W w') := Lib.hid (fun W hB hS => by
            have h := WriteString_c w1.heap.size w1.heap.size (List.replicate m 115) (List.replicate m 115) W hB (by simp; omega) hS
            rw [HS.out, rep_take m m (by omega)]
            refine h.mono fun e w' ⟨h1, h2, h3, _⟩ => ⟨by rw [h1, List.length_replicate], by rw [List.replicate_append_replicate] at h2; exact h2, h3⟩)
          go_wp2_with (first | (go_at_call 190; go_must (refine (CL.out).mono ?_; rintro e w5 ⟨rfl, rfl⟩)) | (go_at_call 95; go_must (refine (CS.out).mono ?_; rintro e w6 ⟨rfl, hB6, hb6⟩; have hw6 := hb6.size)) | (go_at_call 146; go_must (refine (CW.out _ hB6 (by omega)).mono ?_; rintro e w7 ⟨rfl, hB7, hb7⟩)))
          go_roundg (gk - m)
          case measure => have := HK.out; omega
          case rel => exact ⟨m + m, by have := HK.out; omega, by omega, Lib.hid hB7, Lib.hid (hW.out.trans ((hb6.trans hb7)))⟩
      · obtain rfl : m = N := by omega
        have hWs := hW.out.size
        have CS := Lib.hid (bldString_c w1.heap.size w1.heap.size (List.replicate m 115) (by intro e; have := congrArg List.length e; simp at this; omega) wr hB.out)
        go_wp2_with (first | (go_at_call 190; go_must (refine (CL.out).mono ?_; rintro e w5 ⟨rfl, rfl⟩)) | (go_at_call 95; go_must (refine (CS.out).mono ?_; rintro e w6 ⟨rfl, hB6, hb6⟩)))
        go_ret
        exact ⟨rfl, hW.out.trans hb6⟩
end Go.Proofs.YtfknoigbkleanaaGreatDoor
