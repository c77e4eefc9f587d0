/- Instructions: the reference's parts and instructions. -/
import Derived.Test.YtfknoigbkleanaaGreatDoorIn2
import Derived.Deep.RegionWith
namespace Go.Proofs.YtfknoigbkleanaaGreatDoor
open Go.RowKit
set_option maxRecDepth 8000
set_option linter.unusedSimpArgs false
set_option linter.unusedVariables false
theorem l4HeadI_c (t : Tr) (p : Option Addr) (m c : Nat) (ok : Nat → Prop) (w : World) (hwf : t.wf) (hv : FV nS w ok t (nS t (.slice p m c))) (hok : ∀ k, ok k → k < w.heap.size) :
    Calls Tryz.prog 120 #[.agg #[.string (bs (atomOf t)), .slice p m c]] w fun e w' => e = .returned (.string (bs (hdT t))) ∧ Below w.heap.size w w' := by
  match t, hv with
  | .atom a, hv =>
    have ha := atomne hwf.1
    simp only [FV, nS, List.cons.injEq, Value.slice.injEq, and_true, true_and] at hv
    obtain ⟨rfl, rfl, rfl⟩ := hv
    have HZ : Hid (bs (hdT (.atom a)) = ⟨#[]⟩) := Lib.hid rfl
    rw [HZ.out]
    show Calls Tryz.prog 120 #[.agg #[.string (bs a), .slice none 0 0]] w _
    generalize bs a = A at *
    go_enter Tryz.func120, Tryz.ntmps120
    go_wp2_with fail
    go_ret
    exact ⟨rfl, below1 _ _⟩
  | .list [], hv => exact absurd rfl hwf.1
  | .list (h :: ts), hv =>
    obtain ⟨r, off, cap, xs, he, h2, h3, h4, h5, h6⟩ := hv.list_cells
    simp only [nS, List.cons.injEq, Value.slice.injEq, and_true] at he
    obtain ⟨-, rfl, rfl, rfl⟩ := he
    have hrlt := hok r h2
    obtain ⟨cs, g1, g2⟩ := FVs.get nS_len h6 h5 0 (by simp)
    obtain ⟨p', m', c', rfl⟩ := g1.node
    have e0 : w.cell? ⟨r, off, none⟩ = some (.string (bs (atomOf h))) := by have := g2 0 _ rfl; simpa using this
    have hm := maxLen_le h4
    have hemp := emptyne
    have HZ : Hid (bs (hdT (.list (h :: ts))) = bs (atomOf h)) := Lib.hid rfl
    rw [HZ.out]
    have HA : bs (atomOf (Tr.list (h :: ts))) = bs [] := rfl
    rw [HA]
    clear HA
    have hl0 : (((h :: ts).length : Int) == 0) = false := by simp; omega
    have hl1 : ¬ ((h :: ts).length : Int) = 0 := by simp; omega
    have hl2 : 0 < (h :: ts).length := by simp
    clear h5 h6 g1 g2 hwf hok hv
    generalize (h :: ts).length = L at *
    generalize bs (atomOf h) = S at *
    go_enter Tryz.func120, Tryz.ntmps120
    go_wp2_with fail
    go_ret
    exact ⟨rfl, below1 _ _⟩
theorem atomI_len {t : Tr} (h : t.bytes ≤ 12000) : (atomOf t).length ≤ 12000 := by
  cases t with
  | atom a => simpa only [atomOf, Tr.bytes] using h
  | list ts => simp [atomOf]
set_option maxHeartbeats 2000000 in
theorem l6tPart_c (c : UInt8) (hc : c = 114 ∨ c = 42 ∨ c = 110 ∨ c = 108 ∨ c = 101 ∨ c = 119) (t : Tr) (p : Option Addr) (m c' : Nat) (ok : Nat → Prop) (w : World) (hwf : t.wf) (hbt : t.bytes ≤ 12000) (hdt : t.depth ≤ 60) (hv : FV nS w ok t (nS t (.slice p m c'))) (hok : ∀ k, ok k → k < w.heap.size) :
    Calls Tryz.prog 121 #[.agg #[.string (bs (atomOf t)), .slice p m c'], .int .u8 c.toNat] w fun e w' => e = .returned (.bool (partB c t)) ∧ Below w.heap.size w w' := by
  have hal := atomI_len hbt
  obtain ⟨z, hz⟩ : ∃ z, z = (regZ (atomOf t)).getD (-1) := ⟨_, rfl⟩
  have hzB : decide (0 ≤ z) = regB t := by
    rw [hz]
    unfold regB
    cases h : regZ (atomOf t) with
    | none => rfl
    | some n =>
      have : 0 ≤ n := by
        unfold regZ at h
        rw [Option.filter_eq_some_iff] at h
        have := h.2
        simp at this
        exact this.1
      simp [this]
  have CR : Hid (∀ W, Calls Tryz.prog 169 #[.agg #[.string (bs (atomOf t)), .slice p m c']] W fun e w' => e = .returned (.int .i64 z) ∧ Below W.heap.size W w') := Lib.hid (fun W => by rw [hz]; exact l6tReg_c (atomOf t) p m c' hal W)
  have CN : Hid (∀ W, Calls Tryz.prog 122 #[.string (bs (atomOf t))] W fun e w' => (∃ y, e = .returned (.tuple #[.int .i64 y, .bool (numB t)])) ∧ w' = W) := Lib.hid (fun W => (l2Number_c (atomOf t) (by omega) W).mono fun e w' ⟨h1, h2⟩ => ⟨⟨_, h1⟩, h2⟩)
  have CL : Hid (∀ W, Calls Tryz.prog 170 #[.string (bs (atomOf t))] W fun e w' => e = .returned (.bool (labB (atomOf t))) ∧ w' = W) := Lib.hid (fun W => l6tLabel_c (atomOf t) hal W)
  have CH : Hid (∀ W, Below w.heap.size w W → Calls Tryz.prog 120 #[.agg #[.string (bs (atomOf t)), .slice p m c']] W fun e w' => e = .returned (.string (bs (hdT t))) ∧ Below W.heap.size W w') := Lib.hid (fun W hW => l4HeadI_c t p m c' ok W hwf (hv.below hW hok) (fun j hj => Nat.lt_of_lt_of_le (hok j hj) hW.size))
  have CT : Hid (∀ W, Below w.heap.size w W → Calls Tryz.prog 171 #[.agg #[.string (bs (atomOf t)), .slice p m c'], .bool false, .bool false] W fun e w' => e = .returned (.bool (tgt noU false t)) ∧ Below W.heap.size W w') := Lib.hid (fun W hW => l6tType_c noU false (unkC_no _) 61 false t (nS t (.slice p m c')) ok W (by omega) hwf hbt (hv.below hW hok) (fun j hj => Nat.lt_of_lt_of_le (hok j hj) hW.size))
  have P1 : Hid (partB 114 t = regB t ∧ partB 42 t = regB t ∧ partB 110 t = numB t ∧ partB 108 t = labB (atomOf t) ∧ partB 101 t = (decide (hdT t = [101]) && tgt noU false t) ∧ partB 119 t = tgt noU false t) := Lib.hid (by simp [partB, pkB])
  obtain ⟨S, hS⟩ : ∃ S, S = bs (hdT t) := ⟨_, rfl⟩
  rw [← hS] at CH
  have e1 : (S.toList == [101]) = decide (hdT t = [101]) := by
    rw [hS, bs_toList]
    by_cases h : hdT t = [101] <;> simp [h]
  have HZB := Lib.hid hzB
  clear hv hok hwf hbt hdt hal hS hz hzB
  generalize bs (atomOf t) = A at *
  rcases hc with rfl | rfl | rfl | rfl | rfl | rfl
  · rw [P1.out.1, ← HZB.out]
    show Calls Tryz.prog 121 #[.agg #[.string A, .slice p m c'], .int .u8 114] w _
    clear P1 HZB CN CL CH CT e1
    go_enter Tryz.func121, Tryz.ntmps121
    go_wp2_with (go_at_call 169; go_must (refine (CR.out _).mono ?_; rintro e w1 ⟨rfl, hb1⟩))
    go_ret
    exact ⟨rfl, (below1 w _).trans (hb1.mono (by simp))⟩
  · rw [P1.out.2.1, ← HZB.out]
    show Calls Tryz.prog 121 #[.agg #[.string A, .slice p m c'], .int .u8 42] w _
    clear P1 HZB CN CL CH CT e1
    go_enter Tryz.func121, Tryz.ntmps121
    go_wp2_with (go_at_call 169; go_must (refine (CR.out _).mono ?_; rintro e w1 ⟨rfl, hb1⟩))
    go_ret
    exact ⟨rfl, (below1 w _).trans (hb1.mono (by simp))⟩
  · rw [P1.out.2.2.1]
    show Calls Tryz.prog 121 #[.agg #[.string A, .slice p m c'], .int .u8 110] w _
    clear P1 HZB CR CL CH CT e1
    generalize numB t = R at *
    go_enter Tryz.func121, Tryz.ntmps121
    go_wp2_with (go_at_call 122; go_must (refine (CN.out _).mono ?_; rintro e w1 ⟨⟨y, rfl⟩, rfl⟩))
    go_ret
    exact ⟨rfl, below1 w _⟩
  · rw [P1.out.2.2.2.1]
    show Calls Tryz.prog 121 #[.agg #[.string A, .slice p m c'], .int .u8 108] w _
    clear P1 HZB CR CN CH CT e1
    generalize labB (atomOf t) = R at *
    go_enter Tryz.func121, Tryz.ntmps121
    go_wp2_with (go_at_call 170; go_must (refine (CL.out _).mono ?_; rintro e w1 ⟨rfl, rfl⟩))
    go_ret
    exact ⟨rfl, below1 w _⟩
  · rw [P1.out.2.2.2.2.1]
    show Calls Tryz.prog 121 #[.agg #[.string A, .slice p m c'], .int .u8 101] w _
    clear P1 HZB CR CN CL
    generalize tgt noU false t = R at *
    cases hd : decide (hdT t = [101]) with
    | true =>
      rw [hd] at e1
      have e2 : S.toList = [101] := by simpa using e1
      clear hd
      go_enter Tryz.func121, Tryz.ntmps121
      go_wp2_with (first | (go_at_call 120; go_must (refine (CH.out _ (below1 _ _)).mono ?_; rintro e w1 ⟨rfl, hb1⟩; have HB1 := Lib.hid ((below1 w (.cells #[.string A, .slice p m c'] 62)).trans (hb1.mono (by simp))); have X1 := below_blk hb1 (by simp) (heap_alloc_new w (.cells #[.string A, .slice p m c'] 62)); have x0 := cell_of (j := 0) X1; have x1 := cell_of (j := 1) X1)) | (go_at_call 171; go_must (refine (CT.out _ HB1.out).mono ?_; rintro e w2 ⟨rfl, hb2⟩)))
      go_ret
      exact ⟨ret_bool (by simp), HB1.out.trans (hb2.mono HB1.out.size)⟩
    | false =>
      rw [hd] at e1
      have e2 : ¬ S.toList = [101] := by simpa using e1
      clear hd
      go_enter Tryz.func121, Tryz.ntmps121
      go_wp2_with (first | (go_at_call 120; go_must (refine (CH.out _ (below1 _ _)).mono ?_; rintro e w1 ⟨rfl, hb1⟩; have HB1 := Lib.hid ((below1 w (.cells #[.string A, .slice p m c'] 62)).trans (hb1.mono (by simp))))))
      go_ret
      exact ⟨ret_bool (by simp), HB1.out⟩
  · rw [P1.out.2.2.2.2.2]
    show Calls Tryz.prog 121 #[.agg #[.string A, .slice p m c'], .int .u8 119] w _
    clear P1 HZB CR CN CL CH e1
    generalize tgt noU false t = R at *
    go_enter Tryz.func121, Tryz.ntmps121
    go_wp2_with (go_at_call 171; go_must (refine (CT.out _ (below1 _ _)).mono ?_; rintro e w1 ⟨rfl, hb1⟩))
    go_ret
    exact ⟨rfl, (below1 w _).trans (hb1.mono (by simp))⟩
end Go.Proofs.YtfknoigbkleanaaGreatDoor
