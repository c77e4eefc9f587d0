/- General laws of chapter 1: atoms are forms. -/
import Derived.Test.YtpmlpmdgmapilaaLawU7
import Derived.Deep.RegionHeld3
namespace Go.Proofs.Ytpmlpmdgmapilaa
open Go.RowKit
set_option maxRecDepth 8000
set_option linter.unusedSimpArgs false
set_option linter.unusedVariables false
theorem nodup_take {l : List Nm} (h : l.Nodup) {k : Nat} (hk : k < l.length) : l[k] ∉ l.take k := by
  intro hm
  have e : l = l.take k ++ l.drop k := (List.take_append_drop k l).symm
  rw [e] at h
  have h2 := (List.nodup_append.1 h).2.2 _ hm
  have h3 : l[k] ∈ l.drop k := by rw [List.drop_eq_getElem_cons hk]; exact List.mem_cons.2 (.inl rfl)
  exact h2 _ h3 rfl
/-- The list of a text's atoms, as either answers it. -/
theorem atoms_call2 {f : Nat} {l : List UInt8} {ps : List Nm} {z : Bool} (hps : (atomsOf l).getD [] = ps) (hz : (atomsOf l).isSome = z) (hl : ps.length ≤ 100000) {W : World} (h : Calls Try.prog f #[.string (bs l)] W fun e w' => PartsPost W.heap.size (atomsOf l) e w' ∧ Below W.heap.size W w') :
    Calls Try.prog f #[.string (bs l)] W fun e w' => (∃ p c, e = .returned (.tuple #[.slice p ps.length c, .bool z]) ∧ ps.length ≤ c ∧ StrS w' (.slice p ps.length c) ps) ∧ Below W.heap.size W w' :=
  h.mono fun e w' ⟨⟨v, h1, h2⟩, h3⟩ => ⟨by
    rw [hps] at h2
    rw [hz] at h1
    obtain ⟨p, c, rfl⟩ := owns_slice h2
    refine ⟨p, c, h1, ?_, owns_strU h2 (by omega)⟩
    rcases h2.2 with ⟨e, h0⟩ | ⟨g, cap, cur, e, _, _, h4, _⟩
    · omega
    · simp only [Value.slice.injEq] at e; obtain ⟨-, -, rfl⟩ := e; exact h4, h3⟩
set_option maxHeartbeats 4000000 in
theorem walk_FnAtoms (a : Option Addr) (L c : Nat) (zs : List Int) (w : World) (hr : BRow w a L c zs) :
    Calls Try.prog 8 #[.slice a L c] w fun e w' => e = .returned (.bool true) ∧ Below w.heap.size w w' := by
  by_cases h0 : L ≤ 1048576
  · have hd0 : decide (1048576 < (L : Int)) = false := by simp; omega
    have C := Lib.hid (drawFormAtoms_c a L c zs w hr)
    clear hr
    go_enter Try.func8, Try.ntmps8
    go_wp2_with fail
    refine (C.out).mono ?_
    rintro e w1 ⟨⟨s, rfl, hs⟩, hb1⟩
    have HB := Lib.hid hb1
    clear hb1 C
    obtain ⟨l, rfl⟩ := as_bs s
    rw [bs_size] at hs
    have hlen : ((atomsOf l).getD []).length ≤ 12000 := by
      cases hp : parse l with
      | none => simp [atomsOf, hp]
      | some t =>
        have h1 := (atoms_range hp).2
        have h2 := (size_ge hp).2
        simp only [atomsOf, hp, Option.map_some, Option.getD_some]
        have := (parse_some hp).1
        omega
    have CV := Lib.hid (fun (W : World) => atoms_call2 (W := W) (ps := (atomsOf l).getD []) (z := (atomsOf l).isSome) rfl rfl (by omega) (by have h := implFormAtoms_c (bs l) (by rw [bs_size]; omega) W; rw [bs_data] at h; exact h))
    have CW := Lib.hid (fun (W : World) => atoms_call2 (W := W) (ps := (atomsOf l).getD []) (z := (atomsOf l).isSome) rfl rfl (by omega) (by have h := specFormAtoms_c (bs l) (by rw [bs_size]; omega) W; rw [bs_data] at h; exact h))
    cases hp : parse l with
    | none =>
      rw [atomsOf_none hp] at CV CW
      simp only [Option.getD_none, Option.isSome_none] at CV CW
      clear hp hlen
      go_wp2_with (first | (go_at_call 18; go_must (refine (CV.out _).mono ?_; rintro e wn ⟨⟨p4, c4, rfl, hc4, hS⟩, hbn⟩; have HB := Lib.hid ((nextB (firstB HB.out) hbn).1); have HS1 := Lib.hid hS; clear hbn hS)) | (go_at_call 33; go_must (refine (CW.out _).mono ?_; rintro e wn ⟨⟨p5, c5, rfl, hc5, hS⟩, hbn⟩; have HB := Lib.hid ((nextB (firstB HB.out) hbn).1); have HS1 := Lib.hid (HS1.out.below hbn); have HS2 := Lib.hid hS; clear hbn hS)) | (go_at_call 24; go_must (refine (same_call HS1.out HS2.out).mono ?_; rintro e wn ⟨rfl, m7, rfl⟩; have HB := Lib.hid ((nextB (firstB HB.out) (below_drewU _ m7)).1); have HS1 := Lib.hid (StrS.drewU HS1.out m7); have HS2 := Lib.hid (StrS.drewU HS2.out m7))))
      go_ret
      exact ⟨rfl, HB.out.os, HB.out.tape, HB.out.output, HB.out.size, HB.out.block⟩
    | some t =>
      rw [atomsOf_some hp] at CV CW hlen
      simp only [Option.getD_some, Option.isSome_some] at CV CW hlen
      have hpos := (atoms_range hp).1
      have hnd := atoms_nodup t [] (by simp)
      have hocc : ∀ x ∈ atoms t [], occ x t = true := fun x hx => by
        have := (mem_atoms x t []).1 hx
        simpa using this
      have HNOT : Hid (∀ j (hj : j < (atoms t []).length), (atoms t [])[j] ∉ (atoms t []).take j) := Lib.hid (fun j hj => nodup_take hnd hj)
      have CR : Hid (∀ j (hj : j < (atoms t []).length) (W : World), Calls Try.prog 34 #[.string (bs l), .string (bs (atoms t [])[j]), .string (bs (atoms t [])[j])] W fun e w' => e = .returned (.tuple #[.string (bs l), .bool true]) ∧ Below W.heap.size W w') := Lib.hid (fun j hj W => by
        have hm := List.getElem_mem hj
        have ho := occ_wf _ t (parse_got hp).1 (hocc _ hm)
        have hb := (parse_got hp).2.1
        have h := implFormReplace_c (bs l) (bs (atoms t [])[j]) (bs (atoms t [])[j]) (by rw [bs_size]; omega) (by rw [bs_size]; omega) (by rw [bs_size]; omega) W
        rw [bs_data, bs_data, (replOf_self hp (hocc _ hm)).1] at h
        simp only [MakePost] at h
        have e : t.text = l := (parse_got hp).2.2.2.symm
        rw [e] at h
        exact h)
      have CD : Hid (∀ j (hj : j < (atoms t []).length) (W : World), Calls Try.prog 19 #[.string (bs (atoms t [])[j])] W fun e w' => e = .returned (.int .i64 0) ∧ Below W.heap.size W w') := Lib.hid (fun j hj W => by
        have hm := List.getElem_mem hj
        have ho := occ_wf _ t (parse_got hp).1 (hocc _ hm)
        have hb := (parse_got hp).2.1
        have h := implFormDepth_c (bs (atoms t [])[j]) (by rw [bs_size]; omega) W
        rw [bs_data, (replOf_self hp (hocc _ hm)).2] at h
        exact h)
      clear hp hnd hocc
      generalize atoms t [] = ps at *
      generalize bs l = sl at *
      go_wp2_with (first | (go_at_call 18; go_must (refine (CV.out _).mono ?_; rintro e wn ⟨⟨p4, c4, rfl, hc4, hS⟩, hbn⟩; have HB := Lib.hid ((nextB (firstB HB.out) hbn).1); have HS1 := Lib.hid hS; clear hbn hS)) | (go_at_call 33; go_must (refine (CW.out _).mono ?_; rintro e wn ⟨⟨p5, c5, rfl, hc5, hS⟩, hbn⟩; have HB := Lib.hid ((nextB (firstB HB.out) hbn).1); have HS1 := Lib.hid (HS1.out.below hbn); have HS2 := Lib.hid hS; clear hbn hS)) | (go_at_call 24; go_must (refine (same_call HS1.out HS2.out).mono ?_; rintro e wn ⟨rfl, m7, rfl⟩; have HB := Lib.hid ((nextB (firstB HB.out) (below_drewU _ m7)).1); have HS1 := Lib.hid (StrS.drewU HS1.out m7); have HS2 := Lib.hid (StrS.drewU HS2.out m7))))
      obtain ⟨p9, c9, hv9, hl9, hrow9⟩ := HS1.out
      obtain ⟨r, off, hp9, h9⟩ := hrow9 (by intro e; rw [e] at hpos; simp at hpos)
      simp only [Value.slice.injEq] at hv9
      obtain ⟨e1, -, e2⟩ := hv9
      subst e1 e2
      subst hp9
      have h9r : r < wn.heap.size := World.block_lt_of_cell? _ _ (h9 0 _ (by rw [List.getElem?_map, List.getElem?_eq_getElem (by omega)]; rfl))
      have KX : Hid (∀ j (hj : j < ps.length) W, Below wn.heap.size wn W → W.cell? ⟨r, off + j, none⟩ = some (.string (bs ps[j]))) := Lib.hid (fun j hj W hW => by
        rw [hW.cell (p := ⟨r, off + j, none⟩) h9r]
        exact StrS.cell h9 hj)
      have KT : Hid (∀ j c (hj : j ≤ ps.length) W, Below wn.heap.size wn W → StrS W (.slice (some ⟨r, off, none⟩) j c) (ps.take j)) := Lib.hid (fun j c hj W hW => by
        have hl : (ps.take j).length = j := by simp; omega
        refine ⟨some ⟨r, off, none⟩, c, by rw [hl], by omega, fun _ => ⟨r, off, rfl, fun i v hi => ?_⟩⟩
        rw [hW.cell (p := ⟨r, off + i, none⟩) h9r]
        have hij : i < j := by
          have := (List.getElem?_eq_some_iff.1 hi).1
          simp at this; omega
        have h2 : (ps.map strV)[i]? = some v := by
          rw [List.getElem?_map] at hi ⊢
          rwa [List.getElem?_take_of_lt hij] at hi
        exact h9 i v h2)
      have hc9 : (ps.length : Int) ≤ (c4 : Int) := by omega
      clear HS1 HS2 h9 hrow9 hl9
      go_loopg [8] ps.length (fun q i wr => ∃ k : Nat, q + k = ps.length ∧ i = .int .i64 k ∧ Hid (Below wn.heap.size wn wr))
      case atStart => exact ⟨0, by omega, rfl, Lib.hid (below_drewU wn m7)⟩
      case round =>
        obtain ⟨k, hk, rfl, hW⟩ := hrel
        by_cases hlt : k < ps.length
        · have x0 := KX.out k hlt wr hW.out
          have hltI : (k : Int) < (ps.length : Int) := by omega
          have hk0 : (0 : Int) ≤ (k : Int) := by omega
          have K1 := Lib.hid (CR.out k hlt)
          have K2 := Lib.hid (CD.out k hlt)
          have K3 : Hid (∀ W c, Below wn.heap.size wn W → Calls Try.prog 35 #[.slice (some ⟨r, off, none⟩) k c, .string (bs ps[k])] W fun e w' => e = .returned (.bool false) ∧ w' = W) := Lib.hid (fun W c hW => by
            have h := hasT_c _ (ps.take k) ps[k] W (KT.out k c (by omega) W hW)
            rwa [show decide (ps[k] ∈ ps.take k) = false by simpa using HNOT.out k hlt] at h)
          have KX2 : Hid (∀ W, Below wn.heap.size wn W → W.cell? ⟨r, off + k, none⟩ = some (.string (bs ps[k]))) := Lib.hid (fun W hW => KX.out k hlt W hW)
          generalize bs ps[k] = SK at *
          have K : Hid (∀ W, Below wr.heap.size wr W → (fun W => Below wr.heap.size wr W ∧ W.cell? ⟨r, off + k, none⟩ = some (.string SK)) W) := Lib.hid (fun W h => ⟨h, KX2.out W (hW.out.trans (h.mono hW.out.size))⟩)
          have S0 := Lib.hid (K.out _ ((Below.refl _ wr).drew))
          go_wp2_with fail
          first | (go_region_held3 (fun W => Below wr.heap.size wr W ∧ W.cell? ⟨r, off + k, none⟩ = some (.string SK)) (first | exact S0.out | assumption | fail) (first | (go_at_call 34; have hh := And.left (by assumption : Below wr.heap.size wr _ ∧ _); (with_reducible refine (K1.out _).mono ?_); rintro e w2 ⟨rfl, hb2⟩; have hB2 := hh.trans (hb2.mono hh.size); have hS2 := K.out _ hB2) | fail)) | fail
          all_goals
            have SB := Lib.hid (K.out _ (hB2.drew))
            have hkc : (k : Int) ≤ (c4 : Int) := by omega
            go_wp2_with fail
            first | (go_region_held3 (fun W => Below wr.heap.size wr W ∧ W.cell? ⟨r, off + k, none⟩ = some (.string SK)) (first | exact SB.out | assumption | fail) (first | (go_at_call 19; have hh := And.left (by assumption : Below wr.heap.size wr _ ∧ _); (with_reducible refine (K2.out _).mono ?_); rintro e w3 ⟨rfl, hb3⟩; have hB3 := hh.trans (hb3.mono hh.size); have hS3 := K.out _ hB3) | (go_at_call 35; have hh := And.left (by assumption : Below wr.heap.size wr _ ∧ _); (with_reducible refine (K3.out _ _ (hW.out.trans (hh.mono hW.out.size))).mono ?_); rintro e w4 ⟨rfl, rfl⟩) | fail)) | fail
            all_goals
              go_wp2_with fail
              go_roundg (gk - 1)
              case measure => omega
              case rel => exact ⟨k + 1, by omega, by go_num, Lib.hid (hW.out.trans (hB3.mono hW.out.size))⟩
        · have hkn : k = ps.length := by omega
          subst hkn
          have hge : (ps.length : Int) ≥ 1 := by omega
          have HBn : Below w.heap.size w wn := ⟨HB.out.os, HB.out.tape, HB.out.output, HB.out.size, HB.out.block⟩
          have HB := Lib.hid ((nextB (firstB HBn) hW.out).1)
          clear HBn
          go_wp2_with fail
          go_ret
          exact ⟨rfl, HB.out⟩
  · have hd0 : decide (1048576 < (L : Int)) = true := by simp; omega
    have hm0 : L ≤ 9223372036854775807 := hr.bound
    go_enter Try.func8, Try.ntmps8
    go_wp2_with fail
    go_ret
    exact ⟨rfl, Below.refl _ _⟩
end Go.Proofs.Ytpmlpmdgmapilaa
