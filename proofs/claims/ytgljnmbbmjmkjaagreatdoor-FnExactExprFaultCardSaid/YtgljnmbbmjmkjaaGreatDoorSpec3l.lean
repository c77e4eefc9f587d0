/- The reference's ExprFault. -/
import Derived.Test.YtgljnmbbmjmkjaaGreatDoorSpec3i
import Derived.Test.YtgljnmbbmjmkjaaGreatDoorPureV
import Derived.Test.YtgljnmbbmjmkjaaGreatDoorSpec2h
namespace Go.Proofs.YtgljnmbbmjmkjaaGreatDoor
open Go.RowKit
set_option maxRecDepth 8000
set_option linter.unusedSimpArgs false
set_option linter.unusedVariables false
theorem faOf_fin {l : List UInt8} {t : Tr} {x : Ex} {FT : ByteArray} (hc : readCl l = some x) (hFT : FT = bs (faS (tyR [] x))) (hx : asEx t = some x) (hwf : t.wf) : LkPost (faOf l) (.returned (.tuple #[.string FT, .bool (!FT.toList.isEmpty)])) := by
  unfold LkPost
  cases hr : tyR [] x with
  | ok u => rw [faOf_ok hc hr, hFT, hr, show faS (.ok u) = [] from rfl, bs_toList]; rfl
  | error f =>
    have hne := fault_text hx hwf [] f hr
    rw [faOf_bad hc hr, hFT, hr, show faS (.error f) = (formOf f).text from rfl, bs_toList, show (formOf f).text.isEmpty = false by simpa using hne]
    rfl
set_option maxHeartbeats 4000000 in
theorem specExprFault_c (s : ByteArray) (hs : s.size ≤ 1048576) (w : World) :
    Calls Tryz.prog 33 #[.string s] w fun e w' => LkPost (faOf s.data.toList) e ∧ Below w.heap.size w w' := by
  have CC : Hid (∀ W, Calls Tryz.prog 55 #[.string s] W fun e w' => e = .returned (.bool (readCl s.data.toList).isSome) ∧ Below W.heap.size W w') := Lib.hid (fun W => specExprClosed_c s hs W)
  cases hp : parseE s.data.toList with
  | none =>
    have C := Lib.hid (l2Parse_none hs hp)
    have HR := Lib.hid (faOf_none (readCl_none (readEx_none2 hp)))
    clear hp CC
    go_enter Tryz.func33, Tryz.ntmps33
    go_wp2_with (go_at_call 40; go_must (refine (C.out _).mono ?_; rintro e w1 ⟨⟨a, p, m, c, rfl, hnl⟩, hb1⟩))
    try go_region
    all_goals
      go_wp2_with fail
      go_ret2
      exact ⟨by rw [HR.out]; rfl, by first | exact hb1.alloc hb1.size _ | exact (hb1.alloc hb1.size _).drew⟩
  | some t =>
    have C := Lib.hid (l2Parse_some hs hp)
    obtain ⟨x, hx1, hx2⟩ := readEx_asEx' hp
    have hg := parse_got (parseE_got hp).1
    cases hc : readCl s.data.toList with
    | none =>
      rw [hc] at CC
      have HR := Lib.hid (faOf_none hc)
      clear hp hc hg hx1 hx2
      generalize bs (atomOf t) = A at *
      go_enter Tryz.func33, Tryz.ntmps33
      go_wp2_with (first | (go_at_call 40; go_must (refine (C.out _).mono ?_; rintro e w1 ⟨⟨p, m, c, rfl, hv⟩, hb1⟩; have HB1 := Lib.hid (hb1.alloc hb1.size (.cells #[.string A, .slice p m c] 57)))) | (go_at_call 55; go_must (refine (CC.out _).mono ?_; rintro e w2 ⟨rfl, hb2⟩)))
      all_goals
        go_ret2
        exact ⟨by rw [HR.out]; rfl, HB1.out.trans (hb2.mono HB1.out.size)⟩
    | some x' =>
      rw [hc] at CC
      have hxx : x' = x := by have := (readCl_both hc).1; rw [hx1] at this; simpa using this.symm
      subst hxx
      obtain ⟨FT, hFT⟩ : ∃ q, q = bs (faS (tyR [] x')) := ⟨_, rfl⟩
      have HR := Lib.hid (faOf_fin hc hFT hx2 hg.1)
      have CT : Hid (∀ (W : World) p m c, FV nS W (fun k => k < W.heap.size) t (nS t (.slice p m c)) → Calls Tryz.prog 69 #[.agg #[.string (bs (atomOf t)), .slice p m c], .slice (some ⟨W.heap.size, 0, none⟩) 0 0, .slice (some ⟨W.heap.size + 1, 0, none⟩) 0 0] ((W.alloc (.cells #[] 9)).alloc (.cells #[] 9)) fun e w' => e = .returned (.string FT) ∧ Below W.heap.size W w') := Lib.hid (fun W p m c hv => by
        rw [hFT]
        have hb := below2 W (.cells #[] 9) (.cells #[] 9)
        have k1 : StrS ((W.alloc (.cells #[] 9)).alloc (.cells #[] 9)) (.slice (some ⟨W.heap.size, 0, none⟩) 0 0) [] := str_of (l := []) (blk_alloc (heap_alloc_new W _)) (by simp)
        have k2 : StrS ((W.alloc (.cells #[] 9)).alloc (.cells #[] 9)) (.slice (some ⟨W.heap.size + 1, 0, none⟩) 0 0) [] := str_of (l := []) (heap_alloc_new2 W _ _) (by simp)
        exact (l3Fault_all (t.depth + 1) t x' [] (nS t (.slice p m c)) _ _ _ _ (by omega) hg.1 (by have := hg.2; omega) hx2 envOK_nil (fun q hq => by rw [(readCl_both hc).2] at hq; cases hq) (by have := depth_le t hg.1; have := hg.2; simp; omega) k1 k2 ((hv.below hb (fun _ h => h)).wide (fun k hk => Nat.lt_of_lt_of_le hk hb.size)) (fun _ h => h)).mono fun e w' ⟨h1, h2⟩ => ⟨h1, hb.trans (h2.mono hb.size)⟩)
      obtain ⟨A, hA⟩ : ∃ q, q = bs (atomOf t) := ⟨_, rfl⟩
      rw [← hA] at C CT
      clear hp hc hg hx1 hx2 hA hFT
      go_enter Tryz.func33, Tryz.ntmps33
      go_wp2_with (first | (go_at_call 40; go_must (refine (C.out _).mono ?_; rintro e w1 ⟨⟨p, m, c, rfl, hv⟩, hb1⟩; have HB1 := Lib.hid (hb1.alloc hb1.size (.cells #[.string A, .slice p m c] 57)); have V1 := Lib.hid ((hv.below (below1 w1 (.cells #[.string A, .slice p m c] 57)) (fun k hk => hk.2)).wide (ok' := fun q => q < (w1.alloc (.cells #[.string A, .slice p m c] 57)).heap.size) (fun k hk => by simp; omega)); have y1 := heap_alloc_new w1 (.cells #[.string A, .slice p m c] 57); clear hv)) | (go_at_call 55; go_must (refine (CC.out _).mono ?_; rintro e w2 ⟨rfl, hb2⟩; have HB2 := Lib.hid (HB1.out.trans (hb2.mono HB1.out.size)); have y2 := below_blk hb2 (lt_of_block y1) y1; have c20 := cell_of (j := 0) y2; have c21 := cell_of (j := 1) y2; have V2 := Lib.hid (V1.out.below hb2 (fun _ h => h) |>.wide (ok' := fun q => q < w2.heap.size) (fun k hk => Nat.lt_of_lt_of_le hk hb2.size)))) | (go_at_call 69; go_must (refine (CT.out _ _ _ _ V2.out).mono ?_; rintro e w3 ⟨rfl, hb3⟩)))
      all_goals
        go_ret2
        exact ⟨HR.out, HB2.out.trans (hb3.mono HB2.out.size)⟩
end Go.Proofs.YtgljnmbbmjmkjaaGreatDoor
