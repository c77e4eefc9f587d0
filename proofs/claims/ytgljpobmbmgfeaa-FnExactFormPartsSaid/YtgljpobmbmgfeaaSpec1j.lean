/- The reference model's parts of a form. -/
import Derived.Test.YtgljpobmbmgfeaaSpec1g
import Derived.Test.YtgljpobmbmgfeaaStrs
namespace Go.Proofs.Ytgljpobmbmgfeaa
open Go.RowKit
set_option linter.unusedSimpArgs false
set_option linter.unusedVariables false
theorem Try.infoStr : (Try.prog.info? 9).map (fun i => (i.zero, i.size, i.bytes)) = some (some (.string ⟨#[]⟩), 1, 16) := by kernel_rfl
/-- The texts of the parts of a form that is no atom. -/
def partsOf (l : List UInt8) : Option (List (List UInt8)) :=
  match parse l with
  | some (.list ts) => some (ts.map Tr.text)
  | _ => none
/-- A slice of texts of the call's own, and whether there is one. -/
def PartsPost (B : Nat) (r : Option (List (List UInt8))) (e : Ending) (w' : World) : Prop :=
  ∃ v, e = .returned (.tuple #[v, .bool r.isSome]) ∧ w'.ownsRow B 9 1 v (r.getD []).length ((r.getD []).map strV)
theorem parts_take (ts : List Tr) (k : Nat) (h : k < ts.length) : ((ts.take (k + 1)).map (fun t => strV t.text)) = (ts.take k).map (fun t => strV t.text) ++ [.string (bs ts[k].text)] := by
  rw [take_snoc' _ _ h, List.map_append]; rfl
theorem owns_base {w : World} {base B : Nat} {e : TypeId} {size : Nat} {v : Value} {n : Nat} {xs : List Value} (h : w.ownsRow base e size v n xs) (hB : B ≤ base) : w.ownsRow B e size v n xs := by
  refine ⟨h.1, ?_⟩
  rcases h.2 with h2 | ⟨g, cap, cur, hv, hb, hr⟩
  · exact .inl h2
  · exact .inr ⟨g, cap, cur, hv, by omega, hr⟩
theorem made_none {w w1 : World} {o : Obj} (hb1 : Below w.heap.size w w1) : ((w1.alloc o).alloc (.cells #[] 9)).ownsRow w.heap.size 9 1 (.slice (some ⟨w1.heap.size + 1, 0, none⟩) 0 0) 0 [] := by
  have := World.ownsRow_made (w1.alloc o) #[] 0 (base := w.heap.size) (e := 9) (size := 1) (by have := hb1.size; simp; omega) (by decide) rfl
  simpa using this
set_option maxHeartbeats 1000000 in
theorem specFormParts_c (s : ByteArray) (hs : s.size ≤ 1048576) (w : World) :
    Calls Try.prog 17 #[.string s] w fun e w' => PartsPost w.heap.size (partsOf s.data.toList) e w' ∧ Below w.heap.size w w' := by
  cases hp : parse s.data.toList with
  | none =>
    have C := Lib.hid (l1Parse_none hs hp)
    have HP := Lib.hid (show partsOf s.data.toList = none from by simp [partsOf, hp])
    clear hp
    go_enter Try.func17, Try.ntmps17
    go_wp2_with (go_at_call 44; go_must (refine (C.out _).mono ?_; rintro e w1 ⟨⟨a, p, n, c, rfl, hn⟩, hb1⟩; have hn' := maxLen_le hn))
    refine wp_loop_rounds 1 ?_
    rw [rounds_succ]
    go_wp2_with fail
    all_goals
      go_ret2
      exact ⟨⟨_, by rw [HP.out]; rfl, by rw [HP.out]; exact made_none hb1⟩, (hb1.alloc hb1.size _).alloc (by have := hb1.size; simp; omega) _⟩
  | some t =>
    have C := Lib.hid (l1Parse_some hs hp)
    have hg := parse_got hp
    match t with
    | .atom a =>
      have HP := Lib.hid (show partsOf s.data.toList = none from by simp [partsOf, hp])
      clear hp
      simp only [atomOf] at C
      go_enter Try.func17, Try.ntmps17
      go_wp2_with (go_at_call 44; go_must (refine (C.out _).mono ?_; rintro e w1 ⟨⟨p, n, c, rfl, hv⟩, hb1⟩; simp only [FV] at hv; have hh := nS_inj _ _ _ hv; simp only [Value.slice.injEq] at hh; obtain ⟨rfl, rfl, rfl⟩ := hh; clear hv))
      refine wp_loop_rounds 1 ?_
      rw [rounds_succ]
      go_wp2_with fail
      all_goals
        go_ret2
        exact ⟨⟨_, by rw [HP.out]; rfl, by rw [HP.out]; exact made_none hb1⟩, (hb1.alloc hb1.size _).alloc (by have := hb1.size; simp; omega) _⟩
    | .list ts =>
      have HP := Lib.hid (show partsOf s.data.toList = some (ts.map Tr.text) from by simp [partsOf, hp])
      have HT : Hid (∀ (k : Nat) (hk : k < ts.length) (W : World) (p : Option Addr) (n c : Nat) (ok : Nat → Prop), FV nS W ok ts[k] (nS ts[k] (.slice p n c)) → (∀ k, ok k → k < W.heap.size) → Calls Try.prog 46 #[.agg #[.string (bs (atomOf ts[k])), .slice p n c]] W fun e w' => e = .returned (.string (bs ts[k].text)) ∧ Below W.heap.size W w') :=
        Lib.hid (fun k hk W p n c ok h1 h2 => l1Text_c (ts[k].depth + 1) ts[k] _ ok W (by omega) (wf_get hg.1.2 hk) (by have := bytes_lt hk; omega) h1 h2)
      have hne : ts.length ≠ 0 := by intro e; exact hg.1.1 (List.eq_nil_of_length_eq_zero e)
      have hlen : ts.length ≤ 12000 := by have := length_le_bytess ts; have := hg.2.1; simp only [Tr.bytes] at this; omega
      obtain ⟨i0, hi0, hz0, hz1, hz2⟩ := info_parts Try.infoStr
      clear hp hg
      simp only [atomOf] at C
      go_enter Try.func17, Try.ntmps17
      go_wp2_with (go_at_call 44; go_must (refine (C.out _).mono ?_; rintro e w1 ⟨⟨p, n, c, rfl, hv⟩, hb1⟩; obtain ⟨r, off, cap, xs, hh, h2, h3, h4, h5, h6⟩ := FV.list_cells hv; have hh' := nS_inj _ _ _ hh; simp only [Value.slice.injEq] at hh'; obtain ⟨rfl, rfl, rfl⟩ := hh'; clear hh hv; have h3' := maxLen_le h4))
      have hrl : r < w1.heap.size := h2.2
      go_loopw [6, 7] (fun v i wr => ∃ k : Nat, k ≤ ts.length ∧ i = .int .i64 k ∧ Hid (wr.ownsRow (w1.heap.size + 1) 9 1 v k ((ts.take k).map (fun t => strV t.text))) ∧ Hid (Below (w1.heap.size + 1) (w1.alloc (.cells #[.string (bs []), .slice (some ⟨r, off, none⟩) ts.length c] 41)) wr)) (fun _ i _ => ts.length - (intOf i).toNat)
      case atStart => exact ⟨0, Nat.zero_le _, rfl, Lib.hid (by simpa using World.ownsRow_made (w1.alloc (.cells #[.string (bs []), .slice (some ⟨r, off, none⟩) ts.length c] 41)) #[] 0 (base := w1.heap.size + 1) (e := 9) (size := 1) (by simp) (by decide) rfl), Lib.hid ((Below.refl _ _).alloc (by simp) _)⟩
      case round =>
        obtain ⟨k, hk, rfl, ho, hb⟩ := hrel
        obtain ⟨vp, vc, rfl⟩ := owns_slice ho.out
        have x0 := below_blk hb.out (by omega) (heap_alloc_new w1 (.cells #[.string (bs []), .slice (some ⟨r, off, none⟩) ts.length c] 41))
        have c1 := cell_of (j := 1) x0
        have hbw : Below w1.heap.size w1 wr := (below1 w1 _).trans (hb.out.mono (by omega))
        by_cases hlt : k < ts.length
        · obtain ⟨cs, g1, g2⟩ := FVs.get nS_len h6 h5 k hlt
          obtain ⟨p, pn, pc, rfl⟩ := g1.node
          have e0 : wr.cell? ⟨r, off + k * 2, none⟩ = some (.string (bs (atomOf ts[k]))) := by rw [hbw.cell (by exact hrl)]; exact g2 0 _ rfl
          have e1 : wr.cell? ⟨r, off + k * 2 + 1, none⟩ = some (.slice p pn pc) := by rw [hbw.cell (by exact hrl)]; exact g2 1 _ rfl
          have CT := Lib.hid (HT.out k hlt wr p pn pc _ (g1.below hbw (fun k hk => hk.2)) (fun k hk => Nat.lt_of_lt_of_le hk.2 hbw.size))
          have HX := Lib.hid (parts_take ts k hlt)
          have hbs := hb.out.size
          clear g1 g2 x0 hbw
          go_wp2_with (first | (go_at_call 46; go_must (refine CT.out.mono ?_; rintro e w2 ⟨rfl, hb2⟩)) | (at_builtin; go_must (refine wpList_append_one _ rfl _ _ 23 rfl (w1.heap.size + 1) 9 i0 (.string ⟨#[]⟩) 1 16 Try.underlying23 hi0 hz0 hz1 hz2 rfl (by decide) _ _ _ rfl ((owns_below ho.out hb2).alloc _) ⟨w2.heap.size, 0, none⟩ [.string (bs ts[k].text)] rfl rfl (news_at (heap_alloc_new _ _)) (by intro u hu; simp at hu; subst hu; rfl) (by unfold maxLen; omega) (by omega) (by have := hb2.size; simp at hbs ⊢; omega) ?_; intro g' c' w3 hown' hgrow hgg)))
          go_roundw
          case rel =>
            refine ⟨k + 1, by omega, by go_num, Lib.hid (by rw [HX.out]; exact hown'), Lib.hid ?_⟩
            exact ((hb.out.trans (hb2.mono (by simp at hbs; omega))).alloc (by have := hb2.size; simp at hbs; omega) _).grown hgrow (by have := hb2.size; simp at hbs ⊢; omega) (fun q hq => (ho.out.lt q hq).1)
          case measure => simp [intOf]; omega
        · have : k = ts.length := by omega
          subst this
          have hkp : decide (0 < ts.length) = true := by simp; omega
          go_wp2_with fail
          go_ret2
          refine ⟨⟨_, by rw [HP.out]; rfl, ?_⟩, (hb1.alloc hb1.size _).trans (hb.out.mono (by have := hb1.size; omega))⟩
          rw [HP.out]
          have := ho.out
          rw [List.take_length] at this
          have h9 := owns_base this (B := w.heap.size) (by have := hb1.size; omega)
          simpa [Function.comp_def] using h9
end Go.Proofs.Ytgljpobmbmgfeaa
