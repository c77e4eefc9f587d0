/- FormMake of the program. -/
import Derived.Test.YtpmlpmdgmapilaaImpl1o
import Derived.Test.YtpmlpmdgmapilaaSpec1m
namespace Go.Proofs.Ytpmlpmdgmapilaa
open Go.RowKit
set_option maxRecDepth 8000
set_option linter.unusedSimpArgs false
set_option linter.unusedVariables false
set_option maxHeartbeats 2000000 in
theorem implFormMake_c (v : Value) (l : List (List UInt8)) (hl : l.length + lens l ≤ 1048576) (w : World) (h : StrS w v l) :
    Calls Try.prog 25 #[v] w fun e w' => MakePost (makeOf l) e ∧ Below w.heap.size w w' := by
  obtain ⟨p, c, rfl, h1, h2⟩ := h
  by_cases hz : l = []
  · subst hz
    have HF := Lib.hid makeOf_empty
    clear h2
    go_enter Try.func25, Try.ntmps25
    go_wp2_with fail
    go_ret2
    exact ⟨by rw [HF.out]; rfl, Below.refl _ _⟩
  obtain ⟨r, off, rfl, h3⟩ := h2 hz
  have hne : l.length ≠ 0 := by intro e; exact hz (List.eq_nil_of_length_eq_zero e)
  have hne1 : ((l.length : Int) == 0) = false := by simp; omega
  obtain ⟨R, hR⟩ : ∃ R, R = makeOf l := ⟨_, rfl⟩
  rw [← hR]
  have HR := Lib.hid hR
  have hrl : r < w.heap.size := World.block_lt_of_cell? w ⟨r, off + 0, none⟩ (StrS.cell h3 (by omega))
  obtain ⟨i0, hi0, hz0, hz1, hz2⟩ := info_parts Try.infoI
  clear h2 hR
  go_enter Try.func25, Try.ntmps25
  go_wp2_with fail
  go_loopg [4, 5, 16] l.length (fun q v m i wr => ∃ (k : Nat) (ts : List Tr) (ys : List Value), q + k = l.length ∧ i = .int .i64 k ∧ Hid (partsOK (l.take k) = some ts) ∧ k + lens (l.take k) ≤ 11999 ∧ m = .int .i64 ((11999 : Int) - (k + lens (l.take k) : Nat)) ∧
    Hid (wr.ownsRow w.heap.size 48 5 v k ys) ∧ Hid (FVs nI wr (fun q => w.heap.size ≤ q ∧ q < wr.heap.size ∧ v.ownBlock ≠ some q) ts ys) ∧ Hid (Below w.heap.size w wr))
  case atStart => exact ⟨0, [], [], by omega, rfl, Lib.hid rfl, by simp [lens], by simp [lens], Lib.hid (World.ownsRow_nil _ _ _ _), Lib.hid (by simp only [FVs]), Lib.hid (Below.refl _ _)⟩
  case round =>
    obtain ⟨k, ts, ys, hq, rfl, hp, hroom, rfl, ho, hfv, hbl⟩ := hrel
    obtain ⟨vp, vc, rfl⟩ := owns_slice ho.out
    have hbs := hbl.out.size
    by_cases hlt : k < l.length
    · have c1 : wr.cell? ⟨r, off + k, none⟩ = some (.string (bs l[k])) := by rw [hbl.out.cell (by exact hrl)]; exact StrS.cell h3 hlt
      have hlx := length_le_lens l k hlt
      have hsx := bs_size l[k]
      have hk0 : (0 : Int) ≤ (k : Int) := by omega
      have T := Lib.hid (lens_take l k hlt)
      have T2 := lens_take_le l (k + 1)
      have HG := Lib.hid (partsOK_got _ _ hp.out)
      obtain ⟨q0, hq0⟩ : ∃ q0, q0 = lens (l.take k) := ⟨_, rfl⟩
      rw [← hq0] at hroom T ⊢
      have HQ := Lib.hid hq0
      clear hq0
      obtain ⟨L, hL⟩ : ∃ L, L = l[k].length := ⟨_, rfl⟩
      obtain ⟨s, hs⟩ : ∃ s, s = bs l[k] := ⟨_, rfl⟩
      rw [← hL] at hsx T hlx
      rw [← hs] at hsx c1
      rw [T.out] at T2
      by_cases hnx : k + q0 + (1 + L) ≤ 11999
      · have hd : decide ((11999 : Int) - ((k + q0 : Nat) : Int) - (1 + (L : Int)) < 0) = false := by simp; omega
        have hd2 : ¬ ((11999 : Int) - ((k + q0 : Nat) : Int) - (1 + (L : Int)) < 0) := by omega
        cases hx : parse l[k] with
        | none =>
          have HN := Lib.hid (makeOf_none (partsOK_none l k hlt hx))
          have C := Lib.hid (readForm_none (s := s) (by omega) (by rw [hs, bs_data]; exact hx))
          clear hx hs hL
          go_wp2_with (go_at_call 55; go_must (refine (C.out _).mono ?_; rintro e w2 ⟨rfl, hb2⟩))
          go_ret2
          exact ⟨by rw [HR.out, HN.out]; rfl, (hbl.out.trans (hb2.mono hbs)).alloc (by have := hb2.size; omega) _⟩
        | some t =>
          have HP := Lib.hid (partsOK_step l k hlt ts t hp.out hx)
          have C := Lib.hid (readForm_some (s := s) (by omega) (t := t) (by rw [hs, bs_data]; exact hx))
          have HLEN : Hid (lens (l.take (k + 1)) = q0 + L) := T
          obtain ⟨u, x1, x2, x3, hu, hx1, hx2, hx3, hn⟩ := nI_named t
          rw [← hu, ← hx1, ← hx2, ← hx3] at C
          have HN6 := Lib.hid hn
          clear hx hs hL hu hx1 hx2 hx3 hn
          go_wp2_with (first | (go_at_call 55; go_must (refine (C.out _).mono ?_; rintro e w2 ⟨⟨p2, n2, c2, rfl, hv2⟩, hb2⟩; have hs2 := hb2.size)) | (at_builtin; go_must (refine wpList_append_one _ rfl _ _ 46 rfl w.heap.size 48 i0 (.agg #[.string ⟨#[]⟩, .slice none 0 0, .int .i64 0, .int .i64 0, .int .i64 0]) 5 64 Try.underlying46 hi0 hz0 hz1 hz2 rfl (by decide) _ _ _ rfl (((owns_below ho.out hb2).alloc _).alloc _) ⟨w2.heap.size + 1, 0, none⟩ [.string u, .slice p2 n2 c2, .int .i64 x1, .int .i64 x2, .int .i64 x3] rfl rfl (news_at (heap_alloc_new2 _ _ _)) (by intro u hu; simp at hu; rcases hu with rfl | rfl | rfl | rfl | rfl <;> rfl) (by unfold maxLen; omega) (by omega) (by simp; omega) ?_; intro g' c' w6 hown' hgrow hgg)))
          have hgs := hgrow.size
          simp only [alloc_size] at hgs
          go_roundg (gk - 1)
          case measure => omega
          case rel =>
            refine ⟨k + 1, ts ++ [t], ys ++ [.string u, .slice p2 n2 c2, .int .i64 x1, .int .i64 x2, .int .i64 x3], by omega, by go_num, HP, by rw [HLEN.out]; omega, by rw [HLEN.out]; exact congrArg (Value.int .i64) (by omega), Lib.hid hown', Lib.hid ?_, Lib.hid ?_⟩
            · rw [← HN6.out]
              exact FVs.snoc (FV.grown hv2 hbs (below2 _ _ _) hgrow rfl hgg (fun q hq => (ho.out.lt q hq).2)) (FVs.grown hfv.out (hb2.trans ((below2 _ _ _).mono hs2)) hgrow rfl hgg)
            · exact (((hbl.out.trans (hb2.mono hbs)).alloc (by omega) _).alloc (by simp; omega) _).grown hgrow (by simp; omega) (fun q hq => by have := ho.out.lt q hq; omega)
      · have hd2 : ((11999 : Int) - ((k + q0 : Nat) : Int) - (1 + (L : Int)) < 0) := by omega
        have hd : decide ((11999 : Int) - ((k + q0 : Nat) : Int) - (1 + (L : Int)) < 0) = true := by simp; omega
        have HN := Lib.hid (makeOf_long (l := l) (by omega))
        clear hL hs
        go_wp2_with fail
        go_ret2
        exact ⟨by rw [HR.out, HN.out]; rfl, hbl.out⟩
    · have : k = l.length := by omega
      subst this
      have hpo := hp.out
      rw [List.take_length] at hpo hroom
      have HM := Lib.hid (makeOf_some hpo)
      obtain ⟨g1, g2, g3⟩ := partsOK_got _ _ hpo
      have hown := ho.out
      have hcap := owns_cap hown
      have hpp : ∃ g, vp = some ⟨g, 0, none⟩ := by
        rcases hown.2 with ⟨e1, e2⟩ | ⟨g, cap', cur, e1, _⟩
        · exact absurd e2 hne
        · simp only [Value.slice.injEq] at e1; exact ⟨g, e1.1⟩
      obtain ⟨g, rfl⟩ := hpp
      have hlt' := hown.lt g rfl
      have hts : ts ≠ [] := by intro e; subst e; simp at g2; omega
      have hwf : (Tr.list ts).wf := ⟨hts, g1⟩
      have hfs := hfv.out
      have hby : (Tr.list ts).bytes ≤ 1000000 := by simp only [Tr.bytes]; omega
      have hdp := depth_le _ hwf
      have NL := Lib.hid (newList_n l.length ts g2 ys _ g vc wr hfs (owns_row hown) (fun k hk => hk.2.1) hlt'.2 g1 (by omega) hcap.2 hcap.1)
      have HV : Hid (FV nI wr (fun k => k < wr.heap.size) (.list ts) (nI (.list ts) (.slice (some ⟨g, 0, none⟩) l.length vc))) := Lib.hid (by
        simp only [FV]
        refine ⟨g, 0, vc, ys, by rw [g2], hlt'.2, by rw [g2]; exact hcap.1, hcap.2, owns_row hown, FVs.move (fun q hq => hq.2.1) (fun q hq => rfl) _ _ hfs⟩)
      obtain ⟨u, x1, x2, x3, hu, hx1, hx2, hx3, hn⟩ := nI_named (.list ts)
      simp only [atomOf] at hu
      have LM : Hid (∀ (W : World) (p : Option Addr) (m c : Nat), Calls Try.prog 62 #[.agg #[.string ⟨#[]⟩, .slice p m c, .int .i64 x1, .int .i64 x2, .int .i64 x3]] W fun e w' => e = .returned (.bool (decide ((Tr.list ts).bytes ≤ 12000 ∧ (Tr.list ts).depth ≤ 60))) ∧ Below W.heap.size W w') := Lib.hid (fun W p m c => by rw [hx1, hx3]; exact inLimits_c (.list ts) _ p m c x2 W (by omega) (by omega))
      have TX : Hid (∀ (W : World), Below wr.heap.size wr W → Calls Try.prog 59 #[.agg #[.string ⟨#[]⟩, .slice (some ⟨g, 0, none⟩) l.length vc, .int .i64 x1, .int .i64 x2, .int .i64 x3]] W fun e w' => e = .returned (.string (bs (Tr.list ts).text)) ∧ Below W.heap.size W w') :=
        Lib.hid (fun W hW => by rw [hx1, hx2, hx3]; exact text_c (.list ts) _ _ _ (fun k => k < wr.heap.size) W hwf (by omega) (HV.out.below hW (fun k hk => hk)) (fun k hk => Nat.lt_of_lt_of_le hk hW.size))
      rw [← hx1, ← hx2, ← hx3] at NL
      obtain ⟨z, hz⟩ : ∃ z, z = decide ((Tr.list ts).bytes ≤ 12000 ∧ (Tr.list ts).depth ≤ 60) := ⟨_, rfl⟩
      rw [← hz] at LM
      have HL : Hid (listOf ts = if z = true then some (.list ts) else none) := Lib.hid (by rw [hz]; simp [listOf, hts])
      clear hz hpo hp g1 g2 g3 hwf hfs hu hx1 hx2 hx3 hn hdp hby
      cases z <;>
        (go_wp2_with (first | (go_at_call 61; go_must (refine NL.out.mono ?_; rintro e w7 ⟨rfl, hb7⟩; have B7 := Lib.hid (hb7.alloc hb7.size (.cells #[.string ⟨#[]⟩, .slice (some ⟨g, 0, none⟩) l.length vc, .int .i64 x1, .int .i64 x2, .int .i64 x3] 48)); have y7 := heap_alloc_new w7 (.cells #[.string ⟨#[]⟩, .slice (some ⟨g, 0, none⟩) l.length vc, .int .i64 x1, .int .i64 x2, .int .i64 x3] 48))) | (go_at_call 62; go_must (refine (LM.out _ _ _ _).mono ?_; rintro e w8 ⟨rfl, hb8⟩; have y8 := below_blk hb8 (lt_of_block y7) y7; have e0 := cell_of (j := 0) y8; have e1 := cell_of (j := 1) y8; have e2 := cell_of (j := 2) y8; have e3 := cell_of (j := 3) y8; have e4 := cell_of (j := 4) y8; have B8 := Lib.hid (nextB (firstB B7.out) hb8).1)) | (go_at_call 59; go_must (refine (TX.out _ B8.out).mono ?_; rintro e w9 ⟨rfl, hb9⟩)))
         go_ret2
         first
           | exact ⟨by rw [HR.out, HM.out, HL.out]; rfl, (nextB (nextB ⟨hbl.out, hbs⟩ B8.out) hb9).1⟩
           | exact ⟨by rw [HR.out, HM.out, HL.out]; rfl, (nextB ⟨hbl.out, hbs⟩ B8.out).1⟩)
end Go.Proofs.Ytpmlpmdgmapilaa
