/- The program's parts of a form. -/
import Derived.Test.YtfknoigbkleanaaGreatDoorImpl1j
import Derived.Test.YtfknoigbkleanaaGreatDoorS1z
namespace Go.Proofs.YtfknoigbkleanaaGreatDoor
open Go.RowKit
set_option maxRecDepth 8000
set_option linter.unusedSimpArgs false
set_option linter.unusedVariables false
set_option maxHeartbeats 1000000 in
theorem implFormParts_c (s : ByteArray) (hs : s.size ≤ 1048576) (w : World) :
    Calls Tryz.prog 33 #[.string s] w fun e w' => PartsPost w.heap.size (partsOf s.data.toList) e w' ∧ Below w.heap.size w w' := by
  cases hp : parse s.data.toList with
  | none =>
    have C := Lib.hid (readForm_none hs hp)
    have HP := Lib.hid (show partsOf s.data.toList = none from by simp [partsOf, hp])
    clear hp
    go_enter Tryz.func33, Tryz.ntmps33
    go_wp2_with (go_at_call 61; go_must (refine (C.out _).mono ?_; rintro e w1 ⟨rfl, hb1⟩))
    go_ret2
    exact ⟨⟨_, by rw [HP.out]; rfl, by rw [HP.out]; exact World.ownsRow_nil _ _ _ _⟩, hb1.alloc hb1.size _⟩
  | some t =>
    have C := Lib.hid (readForm_some hs hp)
    have hg := parse_got hp
    match t with
    | .atom a =>
      have HP := Lib.hid (show partsOf s.data.toList = none from by simp [partsOf, hp])
      clear hp
      simp only [atomOf] at C
      go_enter Tryz.func33, Tryz.ntmps33
      go_wp2_with (first | (go_at_call 61; go_must (refine (C.out _).mono ?_; rintro e w1 ⟨⟨p, n, c, rfl, hv⟩, hb1⟩; simp only [FV] at hv; have hh := nI_inj _ _ _ hv; simp only [Value.slice.injEq] at hh; obtain ⟨rfl, rfl, rfl⟩ := hh; clear hv)) | (go_at_call 73; go_must (refine (isAtom_yes _ _ _ _ _ _ _).mono ?_; rintro e w2 ⟨rfl, hb2⟩)))
      go_ret2
      exact ⟨⟨_, by rw [HP.out]; rfl, by rw [HP.out]; exact World.ownsRow_nil _ _ _ _⟩, (hb1.alloc hb1.size _).trans (hb2.mono (by have := hb1.size; simp; omega))⟩
    | .list ts =>
      have HP := Lib.hid (show partsOf s.data.toList = some (ts.map Tr.text) from by simp [partsOf, hp])
      have HT : Hid (∀ (k : Nat) (hk : k < ts.length) (W : World) (p : Option Addr) (n c : Nat) (ok : Nat → Prop), FV nI W ok ts[k] (nI ts[k] (.slice p n c)) → (∀ k, ok k → k < W.heap.size) → Calls Tryz.prog 48 #[.agg #[.string (bs (atomOf ts[k])), .slice p n c, .int .i64 ts[k].bytes, .int .i64 ts[k].size, .int .i64 ts[k].depth]] W fun e w' => e = .returned (.string (bs ts[k].text)) ∧ Below W.heap.size W w') :=
        Lib.hid (fun k hk W p n c ok h1 h2 => text_c ts[k] p n c ok W (wf_get hg.1.2 hk) (by have := bytes_lt hk; omega) h1 h2)
      have hne : ts.length ≠ 0 := by intro e; exact hg.1.1 (List.eq_nil_of_length_eq_zero e)
      have hlen : ts.length ≤ 12000 := by have := length_le_bytess ts; have := hg.2.1; simp only [Tr.bytes] at this; omega
      obtain ⟨i0, hi0, hz0, hz1, hz2⟩ := info_parts Tryz.infoStr
      clear hp hg
      simp only [atomOf] at C
      go_enter Tryz.func33, Tryz.ntmps33
      go_wp2_with (first | (go_at_call 61; go_must (refine (C.out _).mono ?_; rintro e w1 ⟨⟨p, n, c, rfl, hv⟩, hb1⟩; obtain ⟨r, off, cap, xs, hh, h2, h3, h4, h5, h6⟩ := FV.list_cells hv; have hh' := nI_inj _ _ _ hh; simp only [Value.slice.injEq] at hh'; obtain ⟨rfl, rfl, rfl⟩ := hh'; clear hh hv; have h3' := maxLen_le h4)) | (go_at_call 73; go_must (refine (isAtom_no _ _ _ _ hne _ _ _ _).mono ?_; rintro e w2 ⟨rfl, hb2⟩; have x1 := below_blk hb2 (by simp) (heap_alloc_new w1 (.cells #[.string (bs []), .slice (some ⟨r, off, none⟩) ts.length c, .int .i64 (Tr.list ts).bytes, .int .i64 (Tr.list ts).size, .int .i64 (Tr.list ts).depth] 56)); have d1 := cell_of (j := 1) x1)) | (at_make; go_must (refine wpList_make_own _ rfl _ _ 23 rfl w2.heap.size 9 i0 (.string ⟨#[]⟩) 1 Tryz.underlying23 hi0 hz0 hz1 _ _ _ ts.length rfl rfl rfl (by rw [hz2]; omega) (by unfold maxLen; omega) (Nat.le_refl _) ?_; intro w3 ho3 hg3; have x2 := blk_grown hg3 x1 (by simp); have d2 := cell_of (j := 1) x2)))
      have hrl : r < w1.heap.size := h2.2
      have hbw3 : Below w1.heap.size w1 w3 := (((below1 w1 (.cells #[.string (bs []), .slice (some ⟨r, off, none⟩) ts.length c, .int .i64 (Tr.list ts).bytes, .int .i64 (Tr.list ts).size, .int .i64 (Tr.list ts).depth] 56)).trans (hb2.mono (by simp))).grown hg3 (by have := hb2.size; simp at this; omega) (fun k hk => by cases hk))
      have HB3 := Lib.hid hbw3
      have h12 : w1.heap.size + 1 ≤ w2.heap.size := by have := hb2.size; simpa using this
      clear x1 x2 d1 d2 hb2
      go_loopg [6, 27] ts.length (fun q v i wr => ∃ k : Nat, q + k = ts.length ∧ i = .int .i64 k ∧ Hid (wr.ownsRow w2.heap.size 9 1 v k ((ts.take k).map (fun t => strV t.text))) ∧ Hid (Below w1.heap.size w1 wr) ∧ w2.heap.size ≤ wr.heap.size)
      case atStart => exact ⟨0, by omega, rfl, Lib.hid (by simpa using ho3), HB3, hg3.size⟩
      case round =>
        obtain ⟨k, hq, rfl, ho, hb, hsz⟩ := hrel
        obtain ⟨vp, vc, rfl⟩ := owns_slice ho.out
        by_cases hlt : k < ts.length
        · obtain ⟨cs, g1, g2⟩ := FVs.get nI_len h6 h5 k hlt
          obtain ⟨p, pn, pc, rfl⟩ := g1.node
          have e0 : wr.cell? ⟨r, off + k * 5, none⟩ = some (.string (bs (atomOf ts[k]))) := by rw [hb.out.cell (by exact hrl)]; exact g2 0 _ rfl
          have e1 : wr.cell? ⟨r, off + k * 5 + 1, none⟩ = some (.slice p pn pc) := by rw [hb.out.cell (by exact hrl)]; exact g2 1 _ rfl
          have e2 : wr.cell? ⟨r, off + k * 5 + 2, none⟩ = some (.int .i64 ts[k].bytes) := by rw [hb.out.cell (by exact hrl)]; exact g2 2 _ rfl
          have e3 : wr.cell? ⟨r, off + k * 5 + 3, none⟩ = some (.int .i64 ts[k].size) := by rw [hb.out.cell (by exact hrl)]; exact g2 3 _ rfl
          have e4 : wr.cell? ⟨r, off + k * 5 + 4, none⟩ = some (.int .i64 ts[k].depth) := by rw [hb.out.cell (by exact hrl)]; exact g2 4 _ rfl
          have CT := Lib.hid (fun (o : Obj) => HT.out k hlt (wr.alloc o) p pn pc _ (g1.below (hb.out.alloc (by omega) o) (fun k hk => hk.2)) (fun k hk => Nat.lt_of_lt_of_le hk.2 (hb.out.alloc (by omega) o).size))
          have HX := Lib.hid (parts_take ts k hlt)
          clear g1 g2
          go_wp2_with (first | (go_at_call 48; go_must (refine (CT.out _).mono ?_; rintro e w4 ⟨rfl, hb4⟩)) | (at_builtin; go_must (refine wpList_append_one _ rfl _ _ 23 rfl w2.heap.size 9 i0 (.string ⟨#[]⟩) 1 16 Tryz.underlying23 hi0 hz0 hz1 hz2 rfl (by decide) _ _ _ rfl ((owns_below (ho.out.alloc _) hb4).alloc _) ⟨w4.heap.size, 0, none⟩ [.string (bs ts[k].text)] rfl rfl (news_at (heap_alloc_new _ _)) (by intro u hu; simp at hu; subst hu; rfl) (by unfold maxLen; omega) (by omega) (by have := hb4.size; simp at this ⊢; omega) ?_; intro g' c' w5 hown' hgrow hgg)))
          go_roundg (gk - 1)
          case measure => omega
          case rel =>
            refine ⟨k + 1, by omega, by go_num, Lib.hid (by rw [HX.out]; exact hown'), Lib.hid ?_, ?_⟩
            · exact (((hb.out.alloc (by omega) _).trans (hb4.mono (by simp; omega))).alloc (by have := hb4.size; simp at this; omega) _).grown hgrow (by have := hb4.size; simp at this ⊢; omega) (fun q hq => by have := (ho.out.lt q hq).1; omega)
            · have := hb4.size; have := hgrow.size; simp at *; omega
        · have : k = ts.length := by omega
          subst this
          go_wp2_with fail
          go_ret2
          refine ⟨⟨_, by rw [HP.out]; rfl, ?_⟩, hb1.trans (hb.out.mono hb1.size)⟩
          rw [HP.out]
          have := ho.out
          rw [List.take_length] at this
          have h9 := owns_base this (B := w.heap.size) (by have := hb1.size; omega)
          simpa [Function.comp_def] using h9
end Go.Proofs.YtfknoigbkleanaaGreatDoor
