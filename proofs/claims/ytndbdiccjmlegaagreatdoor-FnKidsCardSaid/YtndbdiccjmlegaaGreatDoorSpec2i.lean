/- The reference model: the kids of a text. -/
import Derived.Test.YtndbdiccjmlegaaGreatDoorImpl2v
import Derived.Test.YtndbdiccjmlegaaGreatDoorSpec2h
namespace Go.Proofs.YtndbdiccjmlegaaGreatDoor
open Go.RowKit
set_option maxRecDepth 8000
set_option linter.unusedSimpArgs false
set_option linter.unusedVariables false
theorem kidsTx_atom {l a : List UInt8} {x : Ex} (h : readEx l = some x) (hx : asEx (.atom a) = some x) : kidsTx l = some [] := by
  rw [kidsTx_some h]
  simp only [asEx, atomEx] at hx
  split at hx
  · simp only [Option.some.injEq] at hx; subst hx; rfl
  · split at hx
    · simp only [Option.some.injEq] at hx; subst hx; rfl
    · cases hx
set_option maxHeartbeats 2000000 in
theorem specExprKids_c (s : ByteArray) (hs : s.size ≤ 1048576) (w : World) :
    Calls Tryz.prog 31 #[.string s] w fun e w' => PartsPost w.heap.size (kidsTx s.data.toList) e w' ∧ Below w.heap.size w w' := by
  cases hp : parseE s.data.toList with
  | none =>
    have C := Lib.hid (l2Parse_none hs hp)
    have HR := Lib.hid (kidsTx_none (readEx_none2 hp))
    clear hp
    go_enter Tryz.func31, Tryz.ntmps31
    go_wp2_with (go_at_call 43; go_must (refine (C.out _).mono ?_; rintro e w1 ⟨⟨a, p, m, c, rfl, hnl⟩, hb1⟩))
    go_ret2
    exact ⟨by rw [HR.out]; exact ⟨_, rfl, made_none hb1⟩, (hb1.alloc hb1.size _).alloc (by have := hb1.size; simp; omega) _⟩
  | some t =>
    have C := Lib.hid (l2Parse_some hs hp)
    obtain ⟨x, hx1, hx2⟩ := readEx_asEx' hp
    have hg := parse_got (parseE_got hp).1
    match t, C, hx2, hg with
    | .atom a, C, hx2, hg =>
      have HR := Lib.hid (kidsTx_atom hx1 hx2)
      have ha := atomne hg.1.1
      simp only [atomOf] at C
      clear hp hx1 hx2 hg
      go_enter Tryz.func31, Tryz.ntmps31
      go_wp2_with (go_at_call 43; go_must (refine (C.out _).mono ?_; rintro e w1 ⟨⟨p, m, c, rfl, hv⟩, hb1⟩))
      go_ret2
      exact ⟨by rw [HR.out]; exact ⟨_, rfl, made_none hb1⟩, (hb1.alloc hb1.size _).alloc (by have := hb1.size; simp; omega) _⟩
    | .list [], C, hx2, hg => simp [asEx, asExs] at hx2
    | .list (h :: ps), C, hx2, hg =>
      obtain ⟨a, V⟩ := kidView hx2
      have hemp := emptyne
      have HR := Lib.hid (kidsTx_some hx1)
      obtain ⟨L, hL⟩ : ∃ L, L = (h :: ps).length := ⟨_, rfl⟩
      obtain ⟨K, hK⟩ : ∃ K, K = (kidsE x).length := ⟨_, rfl⟩
      have hwf := hg.1
      have hby := hg.2.1
      simp only [Tr.wf] at hwf
      simp only [Tr.bytes] at hby
      have hLb : L ≤ 12000 := by rw [hL]; have := length_le_bytess (h :: ps); omega
      have haK : a + K = L := by rw [hK, hL, V.len]; rfl
      have hapos := V.pos
      have CK : Hid (∀ W, Calls Tryz.prog 59 #[.string (bs (atomOf h))] W fun e w' => e = .returned (.tuple #[.int .i64 (a : Int), .int .i64 (L : Int)]) ∧ w' = W) := Lib.hid (fun W => l2Kids_ab _ _ _ (by rw [V.at_, hL]; rfl) W)
      have HKid : Hid (∀ (w1 : World) (B0 r off cap : Nat) (xs : List Value), (B0 ≤ r ∧ r < w1.heap.size) → hasRow w1 r off xs → FVs nS w1 (fun k => B0 ≤ k ∧ k < w1.heap.size) (h :: ps) xs → ∀ (wr : World), Below w1.heap.size w1 wr → ∀ k j, k = a + j → j < K → ∃ at0 p pn pc Q, wr.cell? ⟨r, off + k * 2, none⟩ = some (.string at0) ∧ wr.cell? ⟨r, off + k * 2 + 1, none⟩ = some (.slice p pn pc) ∧
          ((kidsE x).take (j + 1)).map (fun k => (formOf k).text) = ((kidsE x).take j).map (fun k => (formOf k).text) ++ [Q] ∧
          Calls Tryz.prog 60 #[.agg #[.string at0, .slice p pn pc]] wr fun e w' => e = .returned (.string (bs Q)) ∧ Below wr.heap.size wr w') := Lib.hid (fun w1 B0 r off cap xs hr h5 h6 wr hb k j hk hj => by
        rw [hK] at hj
        obtain ⟨tk, p, pn, pc, q1, q2, q3, q4, q5, q6, q7⟩ := kid_at (n := (Tr.list (h :: ps)).depth) V hk hj (by omega) hwf.2 (by omega) h5 h6
        refine ⟨bs (atomOf tk), p, pn, pc, tk.text, (hb.cell (p := ⟨r, off + k * 2, none⟩) hr.2).trans q2, (hb.cell (p := ⟨r, off + k * 2 + 1, none⟩) hr.2).trans q3, ?_, ?_⟩
        · rw [List.take_succ_eq_append_getElem hj, List.map_append, List.map_cons, List.map_nil, formOf_eq tk _ q7]
        · exact l1Text_c (tk.depth + 1) tk (nS tk (.slice p pn pc)) _ wr (by omega) q6 (by omega) (q1.below hb (fun k hk => hk.2)) (fun k hk => Nat.lt_of_lt_of_le hk.2 hb.size))
      have HO : Hid (∀ (W : World) (B : Nat) p n c, FV nS W (fun k => B ≤ k ∧ k < W.heap.size) (.list (h :: ps)) (nS (.list (h :: ps)) (.slice p n c)) → ∃ r off xs, p = some ⟨r, off, none⟩ ∧ (B ≤ r ∧ r < W.heap.size) ∧ n = L ∧ hasRow W r off xs ∧ FVs nS W (fun k => B ≤ k ∧ k < W.heap.size) (h :: ps) xs ∧ W.cell? ⟨r, off, none⟩ = some (.string (bs (atomOf h)))) := Lib.hid (by
        intro W B p n c hv
        simp only [FV] at hv
        obtain ⟨r, off, cap, xs, hh, h2, h3, h4, h5, h6⟩ := hv
        have hh := nS_inj _ _ _ hh
        simp only [Value.slice.injEq] at hh
        obtain ⟨rfl, rfl, rfl⟩ := hh
        obtain ⟨p, m, c, _, q, _⟩ := kid_S h6 h5 0 (by simp)
        exact ⟨r, off, xs, rfl, h2, hL.symm, h5, h6, by simpa using q⟩)
      have HKe := Lib.hid hK
      have HaK := Lib.hid haK
      have hL1 : 0 < L := by omega
      have haL : a ≤ L := by omega
      have hKL : K ≤ L := by omega
      obtain ⟨i0, hi0, hz0, hz1, hz2⟩ := info_parts Tryz.infoStr
      simp only [atomOf] at C
      clear hp hx1 hx2 hg hwf hby V hK haK hL hapos
      generalize kidsE x = ks at *
      go_enter Tryz.func31, Tryz.ntmps31
      go_wp2_with (first | (go_at_call 43; go_must (refine (C.out _).mono ?_; rintro e w1 ⟨⟨p, n, c, rfl, hv⟩, hb1⟩; obtain ⟨r, off, xs, rfl, hr, rfl, h5, h6, e0⟩ := HO.out _ _ _ _ _ hv; clear hv)) | (go_at_call 59; go_must (refine (CK.out _).mono ?_; rintro e w2 ⟨rfl, rfl⟩)))
      have hr2 := hr.2
      go_loopw [6, 9] (fun v1 i wr => ∃ k j : Nat, Hid (k = a + j) ∧ j ≤ K ∧ k ≤ n ∧ i = .int .i64 k ∧ Hid (wr.ownsRow (w1.heap.size + 1) 9 1 v1 ((ks.take j).map (fun k => (formOf k).text)).length (((ks.take j).map (fun k => (formOf k).text)).map strV)) ∧ Below (w1.heap.size + 1) (w1.alloc (.cells #[.string (bs []), .slice (some ⟨r, off, none⟩) n c] 51)) wr) (fun _ i _ => n - (intOf i).toNat)
      case atStart => exact ⟨a, 0, Lib.hid rfl, Nat.zero_le _, haL, rfl, Lib.hid (owns_empty (heap_alloc_new2 _ _ _) (by simp)), (Below.refl _ _).alloc (by simp) _⟩
      case round =>
        obtain ⟨k, j, hkj, hjK, hkL, rfl, hO, hb⟩ := hrel
        obtain ⟨p1, c1, rfl⟩ := owns_slice hO.out
        have c1' : wr.cell? ⟨w1.heap.size, 1, none⟩ = some (.slice (some ⟨r, off, none⟩) n c) := by rw [hb.cell (p := ⟨w1.heap.size, 1, none⟩) (by simp)]; simp
        have hbw : Below w1.heap.size w1 wr := (below1 w1 _).trans (hb.mono (by omega))
        have hsz0 : w1.heap.size < wr.heap.size := by have := hb.size; simp at this; omega
        have hl2 : ((ks.take j).map (fun k => (formOf k).text)).length ≤ 12000 := by simp only [List.length_map, List.length_take]; omega
        by_cases hlt : k < n
        · have hjlt : j < K := by have := hkj.out; have := HaK.out; omega
          obtain ⟨at0, p, pn, pc, Q, x0, x1, hF, hC⟩ := HKid.out w1 _ r off c xs hr h5 h6 wr hbw k j hkj.out hjlt
          have HF := Lib.hid hF
          have CC := Lib.hid hC
          have HO1 := hO
          generalize (ks.take j).map (fun k => (formOf k).text) = P0 at *
          clear hF hC HKid HO hO
          go_wp2_with (first | (go_at_call 60; go_must (refine (CC.out).mono ?_; rintro e w3 ⟨rfl, hb3⟩)) | (at_builtin; go_must (refine wpList_append_str _ rfl _ _ 24 rfl (w1.heap.size + 1) 9 i0 Tryz.underlying24 hi0 hz0 hz1 hz2 _ P0 rfl ((owns_below HO1.out hb3).alloc _) _ [Q] rfl (strS_madeI (l := [Q]) (heap_alloc_new _ _) _ (by simp)) (by simp; omega) (by have := hb3.size; simp; omega) ?_; intro v3 w5 ho3 hg3 hv3)))
          go_roundw
          case rel =>
            refine ⟨k + 1, j + 1, Lib.hid (by rw [hkj.out]; omega), by omega, by omega, by go_num, Lib.hid (by rw [HF.out]; exact ho3), ?_⟩
            have h9 := below_grown2 (w := w1.alloc (.cells #[.string (bs []), .slice (some ⟨r, off, none⟩) n c] 51)) (wr := wr) (by simpa using hb) (hb3.alloc hb3.size _) hg3 (fun q hq => by have := (own_lt HO1.out hq).1; simp; omega)
            simpa using h9
          case measure => simp [intOf]; omega
        · have hjK2 : j = K := by have := hkj.out; have := HaK.out; omega
          have hfin : ks.take j = ks := List.take_of_length_le (by rw [← HKe.out]; omega)
          have h9 := hO.out
          rw [hfin] at h9 ⊢
          have HF := Lib.hid h9
          clear h9
          clear HKid HO hO hfin
          go_wp2_with fail
          go_ret2
          exact ⟨by rw [HR.out]; exact ⟨_, rfl, owns_base HF.out (by have := hb1.size; omega)⟩, hb1.trans (hbw.mono hb1.size)⟩
end Go.Proofs.YtndbdiccjmlegaaGreatDoor
