/- General laws of chapter 1: parts make the form. -/
import Derived.Test.YtpmlpmdgmapilaaLawU5
import Derived.Deep.LoopGhost
namespace Go.Proofs.Ytpmlpmdgmapilaa
open Go.RowKit
set_option maxRecDepth 8000
set_option linter.unusedSimpArgs false
set_option linter.unusedVariables false
theorem partsOK_texts : ∀ ts : List Tr, wfs ts → (∀ t ∈ ts, t.bytes ≤ 12000 ∧ t.depth ≤ 60) → partsOK (ts.map Tr.text) = some ts
  | [], _, _ => rfl
  | t :: ts, h, hb => by
    rw [List.map_cons]
    exact partsOK_cons.2 ⟨t, ts, parse_text h.1 (hb t (by simp)).1 (hb t (by simp)).2, partsOK_texts ts h.2 (fun u hu => hb u (by simp [hu])), rfl⟩
theorem part_small {ts : List Tr} {t : Tr} (ht : t ∈ ts) : t.bytes < (Tr.list ts).bytes ∧ t.depth < (Tr.list ts).depth := by
  obtain ⟨i, hi, rfl⟩ := List.getElem_of_mem ht
  exact ⟨bytes_lt hi, depth_lt hi⟩
theorem lens_texts : ∀ ts : List Tr, wfs ts → (ts.map Tr.text).length + lens (ts.map Tr.text) = bytess ts
  | [], _ => by simp [lens, bytess]
  | t :: ts, h => by
    have h1 := lens_texts ts h.2
    have h2 := text_length t h.1
    simp only [List.map_cons, List.length_cons, lens, bytess]; omega
/-- The parts of a text, as FormParts answers them, in letters. -/
theorem parts_call {f : Nat} {l : List UInt8} {ps : List Nm} {z : Bool} (hps : (partsOf l).getD [] = ps) (hz : (partsOf l).isSome = z) (hl : ps.length ≤ 100000) {W : World} (h : Calls Try.prog f #[.string (bs l)] W fun e w' => PartsPost W.heap.size (partsOf l) e w' ∧ Below W.heap.size W w') :
    Calls Try.prog f #[.string (bs l)] W fun e w' => (∃ p c, e = .returned (.tuple #[.slice p ps.length c, .bool z]) ∧ StrS w' (.slice p ps.length c) ps) ∧ Below W.heap.size W w' :=
  h.mono fun e w' ⟨⟨v, h1, h2⟩, h3⟩ => ⟨by
    rw [hps] at h2
    rw [hz] at h1
    obtain ⟨p, c, rfl⟩ := owns_slice h2
    exact ⟨p, c, h1, owns_strU h2 (by omega)⟩, h3⟩
theorem StrS.drewU {w : World} {v : Value} {l : List Nm} (h : StrS w v l) (n : Nat) : StrS (w.drewN n) v l := h
theorem same_call {va vb : Value} {l : List Nm} {w : World} (ha : StrS w va l) (hb : StrS w vb l) : Calls Try.prog 24 #[va, vb] w fun e w' => e = .returned (.bool true) ∧ ∃ n, w' = w.drewN n :=
  (sameT_c va vb l l w ha hb).mono fun e w' ⟨h1, h2⟩ => ⟨by rw [h1]; simp, h2⟩
theorem below_drewU (w : World) (m : Nat) : Below w.heap.size w (w.drewN m) := ⟨rfl, rfl, rfl, Nat.le_refl _, fun _ _ => rfl⟩
set_option maxHeartbeats 4000000 in
theorem walk_FnParts (a : Option Addr) (L c : Nat) (zs : List Int) (w : World) (hr : BRow w a L c zs) :
    Calls Try.prog 4 #[.slice a L c] w fun e w' => e = .returned (.bool true) ∧ Below w.heap.size w w' := by
  by_cases h0 : L ≤ 1048576
  · have hd0 : decide (1048576 < (L : Int)) = false := by simp; omega
    have C := Lib.hid (drawFormParts_c a L c zs w hr)
    clear hr
    go_enter Try.func4, Try.ntmps4
    go_wp2_with fail
    refine (C.out).mono ?_
    rintro e w1 ⟨⟨s, rfl, hs⟩, hb1⟩
    have HB := Lib.hid hb1
    clear hb1 C
    obtain ⟨l, rfl⟩ := as_bs s
    rw [bs_size] at hs
    have hlen : ((partsOf l).getD []).length ≤ 12000 := by
      cases hp : parse l with
      | none => simp [partsOf, hp]
      | some t =>
        cases t with
        | atom a => simp [partsOf, hp]
        | list ts =>
          have := length_le_bytess ts
          have := (parse_got hp).2.1
          simp only [partsOf, hp, Tr.bytes, Option.getD_some, List.length_map] at this ⊢
          omega
    have CV := Lib.hid (fun (W : World) => parts_call (W := W) (ps := (partsOf l).getD []) (z := (partsOf l).isSome) rfl rfl (by omega) (by have h := implFormParts_c (bs l) (by rw [bs_size]; omega) W; rw [bs_data] at h; exact h))
    have CW := Lib.hid (fun (W : World) => parts_call (W := W) (ps := (partsOf l).getD []) (z := (partsOf l).isSome) rfl rfl (by omega) (by have h := specFormParts_c (bs l) (by rw [bs_size]; omega) W; rw [bs_data] at h; exact h))
    cases hq : partsOf l with
    | none =>
      rw [hq] at CV CW
      simp only [Option.getD_none, Option.isSome_none] at CV CW
      clear hq hlen
      go_wp2_with (first | (go_at_call 22; go_must (refine (CV.out _).mono ?_; rintro e wn ⟨⟨p4, c4, rfl, hS⟩, hbn⟩; have HB := Lib.hid ((nextB (firstB HB.out) hbn).1); have HS1 := Lib.hid hS; clear hbn hS)) | (go_at_call 23; go_must (refine (CW.out _).mono ?_; rintro e wn ⟨⟨p5, c5, rfl, hS⟩, hbn⟩; have HB := Lib.hid ((nextB (firstB HB.out) hbn).1); have HS1 := Lib.hid (HS1.out.below hbn); have HS2 := Lib.hid hS; clear hbn hS)) | (go_at_call 24; go_must (refine (same_call HS1.out HS2.out).mono ?_; rintro e wn ⟨rfl, m7, rfl⟩; have HB := Lib.hid ((nextB (firstB HB.out) (below_drewU _ m7)).1); have HS1 := Lib.hid (StrS.drewU HS1.out m7); have HS2 := Lib.hid (StrS.drewU HS2.out m7))))
      go_ret
      exact ⟨rfl, HB.out.os, HB.out.tape, HB.out.output, HB.out.size, HB.out.block⟩
    | some ps =>
      obtain ⟨ts, hp, rfl⟩ : ∃ ts, parse l = some (.list ts) ∧ ps = ts.map Tr.text := by
        cases hp : parse l with
        | none => simp [partsOf, hp] at hq
        | some t =>
          cases t with
          | atom a => simp [partsOf, hp] at hq
          | list ts => simp only [partsOf, hp, Option.some.injEq] at hq; exact ⟨ts, rfl, hq.symm⟩
      rw [hq] at CV CW hlen
      simp only [Option.getD_some, Option.isSome_some] at CV CW hlen
      obtain ⟨g1, g2, g3, g4⟩ := parse_got hp
      have hne : ts ≠ [] := g1.1
      have hpos : 0 < ts.length := List.length_pos_iff.2 hne
      have hmk : makeOf (ts.map Tr.text) = some (.list ts) := by
        rw [makeOf_some (partsOK_texts ts g1.2 (fun t ht => by have := part_small ht; omega)), listOf, if_pos ⟨hne, g2, g3⟩]
      have hlens := lens_texts ts g1.2
      have CM : Hid (∀ (W : World) v, StrS W v (ts.map Tr.text) → Calls Try.prog 25 #[v] W fun e w' => e = .returned (.tuple #[.string (bs l), .bool true]) ∧ Below W.heap.size W w') := Lib.hid (fun W v hv => by
        have h := implFormMake_c v (ts.map Tr.text) (by rw [hlens]; simp only [Tr.bytes] at g2; omega) W hv
        rw [hmk] at h
        rw [g4]; exact h)
      have CS : Hid (∀ W : World, Calls Try.prog 20 #[.string (bs l)] W fun e w' => e = .returned (.int .i64 (sizes ts : Int)) ∧ Below W.heap.size W w') := Lib.hid (fun W => by have h := implFormSize_c (bs l) (by rw [bs_size]; omega) W; rw [bs_data, size_of_parse hp] at h; exact h)
      have CD : Hid (∀ W : World, Calls Try.prog 19 #[.string (bs l)] W fun e w' => e = .returned (.int .i64 (depths ts : Int)) ∧ Below W.heap.size W w') := Lib.hid (fun W => by have h := implFormDepth_c (bs l) (by rw [bs_size]; omega) W; rw [bs_data, depth_of_parse hp] at h; exact h)
      have hpj : ∀ j (hj : j < ts.length), parse ts[j].text = some ts[j] := fun j hj => by
        have h1 := part_small (List.getElem_mem hj)
        exact parse_text (wf_get g1.2 hj) (by omega) (by omega)
      have KS : Hid (∀ j (hj : j < ts.length) (W : World), Calls Try.prog 20 #[.string (bs ts[j].text)] W fun e w' => e = .returned (.int .i64 (ts[j].size : Int)) ∧ Below W.heap.size W w') := Lib.hid (fun j hj W => by
        have h1 := (parse_some (hpj j hj)).1
        have h := implFormSize_c (bs ts[j].text) (by rw [bs_size]; omega) W; rw [bs_data, size_of_parse (hpj j hj)] at h; exact h)
      have KD : Hid (∀ j (hj : j < ts.length) (W : World), Calls Try.prog 19 #[.string (bs ts[j].text)] W fun e w' => e = .returned (.int .i64 (ts[j].depth : Int)) ∧ Below W.heap.size W w') := Lib.hid (fun j hj W => by
        have h1 := (parse_some (hpj j hj)).1
        have h := implFormDepth_c (bs ts[j].text) (by rw [bs_size]; omega) W; rw [bs_data, depth_of_parse (hpj j hj)] at h; exact h)
      have hsz : sizes ts ≤ 12000 := by have := (size_le _ g1).1; simp only [Tr.size] at this; omega
      have hdp : 1 ≤ depths ts ∧ depths ts ≤ 60 := by
        refine ⟨?_, g3⟩
        cases ts with
        | nil => exact absurd rfl hne
        | cons u us => simp only [depths]; omega
      have STEP : Hid (∀ j (hj : j < ts.length), sizes (ts.take (j + 1)) = sizes (ts.take j) + ts[j].size ∧ sizes (ts.take (j + 1)) ≤ sizes ts ∧ depths (ts.take (j + 1)) - 1 = max (depths (ts.take j) - 1) ts[j].depth ∧ depths (ts.take (j + 1)) ≤ depths ts) := Lib.hid (fun j hj => by
        have h1 := sizes_take ts j hj
        have h2 := sizes_take_le ts (j + 1)
        have h3 := depths_take ts j hj
        have h4 := depths_take_le ts (j + 1)
        exact ⟨h1, h2, by omega, h4⟩)
      have hn1 : Hid ((ts.map Tr.text).length = ts.length) := Lib.hid (by simp)
      have HG : Hid (∀ j (hj : j < ts.length) (hj2 : j < (ts.map Tr.text).length), (ts.map Tr.text)[j] = ts[j].text) := Lib.hid (fun j hj hj2 => by simp)
      have HT : Hid (ts.take ts.length = ts) := Lib.hid (List.take_length ..)
      have hts : ts.length ≤ 12000 := by simpa using hlen
      generalize ts.map Tr.text = ps at *
      clear hq hp hmk g1 g2 g3 g4 hlens hpj hlen
      generalize bs l = sl at *
      go_wp2_with (first | (go_at_call 22; go_must (refine (CV.out _).mono ?_; rintro e wn ⟨⟨p4, c4, rfl, hS⟩, hbn⟩; have HB := Lib.hid ((nextB (firstB HB.out) hbn).1); have HS1 := Lib.hid hS; clear hbn hS)) | (go_at_call 23; go_must (refine (CW.out _).mono ?_; rintro e wn ⟨⟨p5, c5, rfl, hS⟩, hbn⟩; have HB := Lib.hid ((nextB (firstB HB.out) hbn).1); have HS1 := Lib.hid (HS1.out.below hbn); have HS2 := Lib.hid hS; clear hbn hS)) | (go_at_call 24; go_must (refine (same_call HS1.out HS2.out).mono ?_; rintro e wn ⟨rfl, m7, rfl⟩; have HB := Lib.hid ((nextB (firstB HB.out) (below_drewU _ m7)).1); have HS1 := Lib.hid (StrS.drewU HS1.out m7); have HS2 := Lib.hid (StrS.drewU HS2.out m7))) | (go_at_call 25; go_must (refine (CM.out _ _ HS1.out).mono ?_; rintro e wn ⟨rfl, hbn⟩; have HB := Lib.hid ((nextB (firstB HB.out) hbn).1); have HS1 := Lib.hid (HS1.out.below hbn); clear hbn)))
      obtain ⟨p9, c9, hv9, hl9, hrow9⟩ := HS1.out
      obtain ⟨r, off, hp9, h9⟩ := hrow9 (by intro e; have h := hn1.out; rw [e] at h; simp at h; omega)
      simp only [Value.slice.injEq] at hv9
      obtain ⟨e1, -, e2⟩ := hv9
      subst e1 e2
      subst hp9
      have h9r : r < wn.heap.size := World.block_lt_of_cell? _ _ (h9 0 _ (by rw [List.getElem?_map, List.getElem?_eq_getElem (by have := hn1.out; omega)]; rfl))
      have KX : Hid (∀ j (hj : j < ts.length) W, Below wn.heap.size wn W → W.cell? ⟨r, off + j, none⟩ = some (.string (bs ts[j].text))) := Lib.hid (fun j hj W hW => by
        rw [hW.cell (p := ⟨r, off + j, none⟩) h9r, ← HG.out j hj (by have := hn1.out; omega)]
        exact StrS.cell h9 (by have := hn1.out; omega))
      have hn2 : ps.length = ts.length := hn1.out
      rw [hn2]
      clear HS1 HS2 h9 hrow9 hl9 HG
      go_loopg [10, 11, 12] ts.length (fun q sz dp i wr => ∃ k : Nat, q + k = ts.length ∧ i = .int .i64 k ∧ sz = .int .i64 (sizes (ts.take k) : Nat) ∧ dp = .int .i64 (depths (ts.take k) - 1 : Nat) ∧ Hid (Below wn.heap.size wn wr))
      case atStart => exact ⟨0, by omega, rfl, rfl, rfl, Lib.hid (Below.refl _ _)⟩
      case round =>
        obtain ⟨k, hk, rfl, rfl, rfl, hW⟩ := hrel
        by_cases hlt : k < ts.length
        · have x0 := KX.out k hlt wr hW.out
          have hltI : (k : Int) < (ts.length : Int) := by omega
          have hk0 : (0 : Int) ≤ (k : Int) := by omega
          obtain ⟨s1, s2, s3, s4⟩ := STEP.out k hlt
          have K1 := Lib.hid (KS.out k hlt)
          have K2 := Lib.hid (KD.out k hlt)
          have KX2 : Hid (∀ W, Below wn.heap.size wn W → W.cell? ⟨r, off + k, none⟩ = some (.string (bs ts[k].text))) := Lib.hid (fun W hW => KX.out k hlt W hW)
          obtain ⟨z1, hz1⟩ : ∃ z, z = ts[k].size := ⟨_, rfl⟩
          obtain ⟨z2, hz2⟩ : ∃ z, z = ts[k].depth := ⟨_, rfl⟩
          rw [← hz1] at s1
          rw [← hz2] at s3
          unfold Hid at K1 K2
          rw [← hz1] at K1
          rw [← hz2] at K2
          have K1 := Lib.hid K1
          have K2 := Lib.hid K2
          generalize bs ts[k].text = SK at *
          have S1 := Lib.hid s1
          have S3 := Lib.hid s3
          obtain ⟨a1, ha1⟩ : ∃ z, z = sizes (ts.take k) := ⟨_, rfl⟩
          obtain ⟨a2, ha2⟩ : ∃ z, z = depths (ts.take k) - 1 := ⟨_, rfl⟩
          rw [← ha1, ← ha2]
          have w1 : IntKind.i64.wrap ((a1 : Int) + (z1 : Int)) = (a1 : Int) + (z1 : Int) := by rw [IntKind.wrap_i64]; omega
          have R1 : Hid ((a1 : Int) + (z1 : Int) = (sizes (ts.take (k + 1)) : Nat)) := Lib.hid (by omega)
          have R2 : Hid (max (a2 : Int) (z2 : Int) = (depths (ts.take (k + 1)) - 1 : Nat)) := Lib.hid (by omega)
          clear s1 s2 s3 s4 hz1 hz2 ha1 ha2
          go_wp2_with (first | (go_at_call 20; go_must (refine (K1.out _).mono ?_; rintro e w8 ⟨rfl, hb8⟩; have HB8 := Lib.hid (hW.out.trans (hb8.mono hW.out.size)); have x8 := KX2.out _ HB8.out; clear hb8)) | (go_at_call 19; go_must (refine (K2.out _).mono ?_; rintro e w9 ⟨rfl, hb9⟩; have HBr := Lib.hid (HB8.out.trans (hb9.mono HB8.out.size)); clear hb9)))
          go_roundg (gk - 1)
          case measure => omega
          case rel => exact ⟨k + 1, by omega, by go_num, by rw [R1.out], by rw [R2.out], HBr⟩
        · have hkn : k = ts.length := by omega
          subst hkn
          have e1 := HT.out
          rw [e1]
          have d0 : ((depths ts - 1 : Nat) : Int) = (depths ts : Int) - 1 := by omega
          have d1 : IntKind.i64.wrap ((depths ts : Int) - 1 + 1) = (depths ts : Int) := by rw [IntKind.wrap_i64]; omega
          rw [d0]
          generalize sizes ts = a1 at *
          generalize depths ts = a2 at *
          have HB := Lib.hid ((nextB (firstB HB.out) hW.out).1)
          go_wp2_with (first | (go_at_call 20; go_must (refine (CS.out _).mono ?_; rintro e wn ⟨rfl, hbn⟩; have HB := Lib.hid ((nextB (firstB HB.out) hbn).1); clear hbn)) | (go_at_call 19; go_must (refine (CD.out _).mono ?_; rintro e wn ⟨rfl, hbn⟩; have HB := Lib.hid ((nextB (firstB HB.out) hbn).1); clear hbn)))
          go_ret
          exact ⟨rfl, HB.out⟩
  · have hd0 : decide (1048576 < (L : Int)) = true := by simp; omega
    have hm0 : L ≤ 9223372036854775807 := hr.bound
    go_enter Try.func4, Try.ntmps4
    go_wp2_with fail
    go_ret
    exact ⟨rfl, Below.refl _ _⟩
end Go.Proofs.Ytpmlpmdgmapilaa
