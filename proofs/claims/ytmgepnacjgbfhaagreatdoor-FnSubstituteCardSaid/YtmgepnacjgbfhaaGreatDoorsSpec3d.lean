/- The reference: lists with more names, the type of an expression by the types of its parts. The reference: the type of an expression that binds no names. -/
import Derived.Test.YtmgepnacjgbfhaaGreatDoorsS2fM
import Derived.Test.YtmgepnacjgbfhaaGreatDoorsImpl1rM
import Derived.Test.YtmgepnacjgbfhaaGreatDoorsMade
namespace Go.Proofs.YtmgepnacjgbfhaaGreatDoor
open Go.RowKit Go.Proofs.Tryz
set_option maxRecDepth 8000
set_option maxHeartbeats 20000000
set_option linter.unusedVariables false
set_option linter.unusedSimpArgs false
theorem Z41 (v1 v2 : Value) (l m : List Nm) (w : World) (h1 : Zo w v1 l) (h2 : Zo w v2 m) (hb : l.length + m.length ≤ 1000000) :
 Calls prog 33 #[v1, v2] w fun e w' => (∃ v, e = .returned v ∧ Zo w' v (l ++ m)) ∧ Below w.heap.size w w' := by
 obtain ⟨i0, hi0, hz0, hz1, hz2⟩ := info_parts Tryz.infoStr
 have H1 := H_ h1
 have H2 := H_ h2
 obtain ⟨p1, c1, rfl, -, -⟩ := h1
 obtain ⟨p2, c2, rfl, -, -⟩ := h2
 have HE : Hid ((w.alloc (.cells #[] 9)).ownsRow w.heap.size 9 1 (.slice (some ⟨w.heap.size, 0, none⟩) 0 0) ([] : List Nm).length (([] : List Nm).map Ye)) := H_ (owns_empty (heap_alloc_new w _) (Nat.le_refl _))
 go_enter func33, ntmps33
 go_wp2_with (first | (at_builtin; refine Y4 _ rfl _ _ 23 rfl w.heap.size 9 i0 underlying23 hi0 hz0 hz1 hz2 _ l rfl ho3 _ m rfl (Qm H2.out hB3) (by omega) hs3 ?_; intro v4 w4 ho4 hg4 hv4) | (at_builtin; go_must (refine Y4 _ rfl _ _ 23 rfl w.heap.size 9 i0 underlying23 hi0 hz0 hz1 hz2 _ [] rfl HE.out _ l rfl (Qm H1.out (Z4 w _)) (by simp; omega) (by simp) ?_; intro v3 w3 ho3 hg3 hv3; have hB3 := Xt (Below.refl _ w) (Z4 w _) hg3 (fun k hk => (Xn HE.out hk).1); have hs3 := hB3.size; simp only [List.nil_append] at ho3)))
 go_ret
 have hB4 := Xt hB3 (Below.refl _ _) hg4 (fun k hk => (Xn ho3 hk).1)
 exact ⟨⟨v4, rfl, Xe ho4 (by simp; omega)⟩, hB4⟩
theorem num_text {t : Tr} (ht : Zn t = true) : t.text = [105] ↔ Ya t = true := by
 match t, ht with
 | .atom a, ht =>
   have h := (Zw ht).1
   simp only [X5, beq_iff_eq, decide_eq_true_eq] at h
   simp [Tr.text, Ya, h]
 | .list ts, ht => simp [Tr.text, Ya]
theorem Z0x {t : Tr} (ht : Zn t = true) : ((bs t.text).toList == [105]) = Ya t := by
 have h := num_text ht
 rw [Z8]
 cases hx : Ya t with
 | true => simpa using h.2 hx
 | false =>
   have : ¬ t.text = [105] := fun e => by rw [h.1 e] at hx; cases hx
   simpa using this
theorem Vl {t : Tr} (ht : Zn t = true) : (bs t.text).size ≤ 1048576 := by
 obtain ⟨h1, h2, _⟩ := Ze ht
 rw [Y1, Zr t h1]; omega
theorem Z6h {c : UInt8} {t : Tr} (ht : Zn t = true) : X2 [c] t.text = (Zy c t).map (fun q => (q.1.text, q.2.text)) := by
 cases h : Zy c t with
 | none => exact sidesOf_no (Jg ht) h (Zw ht).1
 | some q => obtain ⟨a, b⟩ := q; rw [(sidesOf_yes (Jg ht) h (Zw ht).1).1]; rfl
theorem Z1u (ta : Tr) (hta : Zn ta = true) : ∃ f1 f2 fz g1 g2 gz, (f1 = bs (((Zy 62 ta).map (fun q => q.1.text)).getD []) ∧ f2 = bs (((Zy 62 ta).map (fun q => q.2.text)).getD []) ∧ fz = (Zy 62 ta).isSome ∧
 g1 = bs (((Zy 42 ta).map (fun q => q.1.text)).getD []) ∧ g2 = bs (((Zy 42 ta).map (fun q => q.2.text)).getD []) ∧ gz = (Zy 42 ta).isSome) ∧
 Hid (∀ W, Calls prog 94 #[.string (bs ta.text)] W fun e w' => e = .returned (.tuple #[.string f1, .string f2, .bool fz]) ∧ Below W.heap.size W w') ∧
 Hid (∀ W, Calls prog 95 #[.string (bs ta.text)] W fun e w' => e = .returned (.tuple #[.string g1, .string g2, .bool gz]) ∧ Below W.heap.size W w') := by
 obtain ⟨f1, hf1⟩ : ∃ x, x = bs (((Zy 62 ta).map (fun q => q.1.text)).getD []) := ⟨_, rfl⟩
 obtain ⟨f2, hf2⟩ : ∃ x, x = bs (((Zy 62 ta).map (fun q => q.2.text)).getD []) := ⟨_, rfl⟩
 obtain ⟨fz, hfz⟩ : ∃ x, x = (Zy 62 ta).isSome := ⟨_, rfl⟩
 have CF : Hid (∀ W, Calls prog 94 #[.string (bs ta.text)] W fun e w' => e = .returned (.tuple #[.string f1, .string f2, .bool fz]) ∧ Below W.heap.size W w') := H_ (fun W => by
  have h := specTypeFun_c (bs ta.text) (Vl hta) W
  rw [Q4, Z6h hta, Option.map_map, Option.map_map, Option.isSome_map] at h
  rw [hf1, hf2, hfz]
  exact h)
 obtain ⟨g1, hg1⟩ : ∃ x, x = bs (((Zy 42 ta).map (fun q => q.1.text)).getD []) := ⟨_, rfl⟩
 obtain ⟨g2, hg2⟩ : ∃ x, x = bs (((Zy 42 ta).map (fun q => q.2.text)).getD []) := ⟨_, rfl⟩
 obtain ⟨gz, hgz⟩ : ∃ x, x = (Zy 42 ta).isSome := ⟨_, rfl⟩
 have CP : Hid (∀ W, Calls prog 95 #[.string (bs ta.text)] W fun e w' => e = .returned (.tuple #[.string g1, .string g2, .bool gz]) ∧ Below W.heap.size W w') := H_ (fun W => by
  have h := Z6c (bs ta.text) (Vl hta) W
  rw [Q4, Z6h hta, Option.map_map, Option.map_map, Option.isSome_map] at h
  rw [hg1, hg2, hgz]
  exact h)
 exact ⟨f1, f2, fz, g1, g2, gz, ⟨hf1, hf2, hfz, hg1, hg2, hgz⟩, CF, CP⟩
theorem jn_fst (ta : Tr) (hta : Zn ta = true) (v : Value) (w : World) (hS : Zo w v [ta.text]) :
 Calls prog 56 #[.string ⟨#[102, 115, 116]⟩, v] w fun e w' => e = .returned (.string (bs (((Qy .fst ta).map Tr.text).getD []))) ∧ Below w.heap.size w w' := by
 obtain ⟨p, c, rfl, -, hrow⟩ := id hS
 obtain ⟨r, off, rfl, hr⟩ := hrow (by simp)
 have hsl : Value.slice (some ⟨r, off, none⟩) [ta.text].length c = .slice (some ⟨r, off, none⟩) 1 c := rfl
 rw [hsl] at hS ⊢
 clear hsl
 have x0 : w.cell? ⟨r, off, none⟩ = some (.string (bs ta.text)) := by simpa [Ye] using hr 0 _ rfl
 have hrl : r < w.heap.size := World.block_lt_of_cell? w ⟨r, off, none⟩ x0
 have hnot : decide (([] : List UInt8) ∈ [ta.text]) = false := by simp [(Qb (Ze hta).1).symm]
 have CH : Hid (∀ W, Below w.heap.size w W → Calls prog 93 #[.slice (some ⟨r, off, none⟩) 1 c, .string ⟨#[]⟩] W fun e w' => e = .returned (.bool false) ∧ w' = W) := H_ (fun W hW => by have h := Z0f _ _ [] W (Qm hS hW); rw [hnot] at h; exact h)
 obtain ⟨f1, f2, fz, g1, g2, gz, ⟨hf1, hf2, hfz, hg1, hg2, hgz⟩, CF, CP⟩ := Z1u ta hta
 cases hs : Zy 42 ta with
 | none =>
   rw [hs] at hgz
   replace hgz : gz = false := hgz
   subst hgz
   rw [show (Qy .fst ta) = none by simp [Qy, hs]]
   clear hs hf1 hf2 hfz hg1 hg2 hS hr hrow hnot
   go_enter func56, ntmps56
   go_wp2_with (first | (go_at_call 93; go_must (refine (CH.out _ (Below.refl _ _)).mono ?_; rintro e w1 ⟨rfl, rfl⟩)) | (go_at_call 94; go_must (refine (CF.out _).mono ?_; rintro e w2 ⟨rfl, hb2⟩; have x0a := (hb2.cell (p := ⟨r, off, none⟩) hrl).trans x0)) | (go_at_call 95; go_must (refine (CP.out _).mono ?_; rintro e w3 ⟨rfl, hb3⟩; have hb23 := hb2.trans (hb3.mono hb2.size); have x0b := (hb23.cell (p := ⟨r, off, none⟩) hrl).trans x0)))
   try go_region
   all_goals
    go_wp2_with fail
    go_ret
    exact ⟨rfl, (by first | exact hb23 | exact hb23.drew)⟩
 | some q =>
   obtain ⟨a, b⟩ := q
   rw [hs] at hgz hg1 hg2
   replace hgz : gz = true := hgz
   subst hgz
   have HG := H_ hg1
   rw [show (Qy .fst ta) = some a by simp [Qy, hs]]
   clear hs hf1 hf2 hfz hg1 hg2 hS hr hrow hnot
   go_enter func56, ntmps56
   go_wp2_with (first | (go_at_call 93; go_must (refine (CH.out _ (Below.refl _ _)).mono ?_; rintro e w1 ⟨rfl, rfl⟩)) | (go_at_call 94; go_must (refine (CF.out _).mono ?_; rintro e w2 ⟨rfl, hb2⟩; have x0a := (hb2.cell (p := ⟨r, off, none⟩) hrl).trans x0)) | (go_at_call 95; go_must (refine (CP.out _).mono ?_; rintro e w3 ⟨rfl, hb3⟩; have hb23 := hb2.trans (hb3.mono hb2.size); have x0b := (hb23.cell (p := ⟨r, off, none⟩) hrl).trans x0)))
   try go_region
   all_goals
    go_wp2_with fail
    go_ret
    exact ⟨by rw [HG.out]; rfl, (by first | exact hb23 | exact hb23.drew)⟩
theorem jn_snd (ta : Tr) (hta : Zn ta = true) (v : Value) (w : World) (hS : Zo w v [ta.text]) :
 Calls prog 56 #[.string ⟨#[115, 110, 100]⟩, v] w fun e w' => e = .returned (.string (bs (((Qy .snd ta).map Tr.text).getD []))) ∧ Below w.heap.size w w' := by
 obtain ⟨p, c, rfl, -, hrow⟩ := id hS
 obtain ⟨r, off, rfl, hr⟩ := hrow (by simp)
 have hsl : Value.slice (some ⟨r, off, none⟩) [ta.text].length c = .slice (some ⟨r, off, none⟩) 1 c := rfl
 rw [hsl] at hS ⊢
 clear hsl
 have x0 : w.cell? ⟨r, off, none⟩ = some (.string (bs ta.text)) := by simpa [Ye] using hr 0 _ rfl
 have hrl : r < w.heap.size := World.block_lt_of_cell? w ⟨r, off, none⟩ x0
 have hnot : decide (([] : List UInt8) ∈ [ta.text]) = false := by simp [(Qb (Ze hta).1).symm]
 have CH : Hid (∀ W, Below w.heap.size w W → Calls prog 93 #[.slice (some ⟨r, off, none⟩) 1 c, .string ⟨#[]⟩] W fun e w' => e = .returned (.bool false) ∧ w' = W) := H_ (fun W hW => by have h := Z0f _ _ [] W (Qm hS hW); rw [hnot] at h; exact h)
 obtain ⟨f1, f2, fz, g1, g2, gz, ⟨hf1, hf2, hfz, hg1, hg2, hgz⟩, CF, CP⟩ := Z1u ta hta
 cases hs : Zy 42 ta with
 | none =>
   rw [hs] at hgz
   replace hgz : gz = false := hgz
   subst hgz
   rw [show (Qy .snd ta) = none by simp [Qy, hs]]
   clear hs hf1 hf2 hfz hg1 hg2 hS hr hrow hnot
   go_enter func56, ntmps56
   go_wp2_with (first | (go_at_call 93; go_must (refine (CH.out _ (Below.refl _ _)).mono ?_; rintro e w1 ⟨rfl, rfl⟩)) | (go_at_call 94; go_must (refine (CF.out _).mono ?_; rintro e w2 ⟨rfl, hb2⟩; have x0a := (hb2.cell (p := ⟨r, off, none⟩) hrl).trans x0)) | (go_at_call 95; go_must (refine (CP.out _).mono ?_; rintro e w3 ⟨rfl, hb3⟩; have hb23 := hb2.trans (hb3.mono hb2.size); have x0b := (hb23.cell (p := ⟨r, off, none⟩) hrl).trans x0)))
   try go_region
   all_goals
    go_wp2_with fail
    go_ret
    exact ⟨rfl, (by first | exact hb23 | exact hb23.drew)⟩
 | some q =>
   obtain ⟨a, b⟩ := q
   rw [hs] at hgz hg1 hg2
   replace hgz : gz = true := hgz
   subst hgz
   have HG := H_ hg2
   rw [show (Qy .snd ta) = some b by simp [Qy, hs]]
   clear hs hf1 hf2 hfz hg1 hg2 hS hr hrow hnot
   go_enter func56, ntmps56
   go_wp2_with (first | (go_at_call 93; go_must (refine (CH.out _ (Below.refl _ _)).mono ?_; rintro e w1 ⟨rfl, rfl⟩)) | (go_at_call 94; go_must (refine (CF.out _).mono ?_; rintro e w2 ⟨rfl, hb2⟩; have x0a := (hb2.cell (p := ⟨r, off, none⟩) hrl).trans x0)) | (go_at_call 95; go_must (refine (CP.out _).mono ?_; rintro e w3 ⟨rfl, hb3⟩; have hb23 := hb2.trans (hb3.mono hb2.size); have x0b := (hb23.cell (p := ⟨r, off, none⟩) hrl).trans x0)))
   try go_region
   all_goals
    go_wp2_with fail
    go_ret
    exact ⟨by rw [HG.out]; rfl, (by first | exact hb23 | exact hb23.drew)⟩
theorem jn_add (ta tb : Tr) (hta : Zn ta = true) (htb : Zn tb = true) (v : Value) (w : World) (hS : Zo w v [ta.text, tb.text]) :
 Calls prog 56 #[.string ⟨#[43]⟩, v] w fun e w' => e = .returned (.string (bs (((Yt .add ta tb).map Tr.text).getD []))) ∧ Below w.heap.size w w' := by
 obtain ⟨p, c, rfl, -, hrow⟩ := id hS
 obtain ⟨r, off, rfl, hr⟩ := hrow (by simp)
 have hsl : Value.slice (some ⟨r, off, none⟩) [ta.text, tb.text].length c = .slice (some ⟨r, off, none⟩) 2 c := rfl
 rw [hsl] at hS ⊢
 clear hsl
 have x0 : w.cell? ⟨r, off, none⟩ = some (.string (bs ta.text)) := by simpa [Ye] using hr 0 _ rfl
 have x1 : w.cell? ⟨r, off + 1, none⟩ = some (.string (bs tb.text)) := by simpa [Ye] using hr 1 _ rfl
 have hrl : r < w.heap.size := World.block_lt_of_cell? w ⟨r, off, none⟩ x0
 have hnot : decide (([] : List UInt8) ∈ [ta.text, tb.text]) = false := by simp [(Qb (Ze hta).1).symm, (Qb (Ze htb).1).symm]
 have CH : Hid (∀ W, Below w.heap.size w W → Calls prog 93 #[.slice (some ⟨r, off, none⟩) 2 c, .string ⟨#[]⟩] W fun e w' => e = .returned (.bool false) ∧ w' = W) := H_ (fun W hW => by have h := Z0f _ _ [] W (Qm hS hW); rw [hnot] at h; exact h)
 obtain ⟨f1, f2, fz, g1, g2, gz, ⟨hf1, hf2, hfz, hg1, hg2, hgz⟩, CF, CP⟩ := Z1u ta hta
 have n0 := Z0x hta
 have n1 := Z0x htb
 have HJ : Hid (Yt .add ta tb = if Ya ta = true ∧ Ya tb = true then some tI else none) := H_ rfl
 rw [HJ.out]
 clear HJ hf1 hf2 hfz hg1 hg2 hgz hS hr hrow hnot
 obtain ⟨K0, hK0⟩ : ∃ K, K = bs (((none : Option Tr).map Tr.text).getD []) := ⟨_, rfl⟩
 obtain ⟨K1, hK1⟩ : ∃ K, K = bs (((some tI).map Tr.text).getD []) := ⟨_, rfl⟩
 have k0 : K0 = ⟨#[]⟩ := hK0.trans rfl
 have k1 : K1 = ⟨#[105]⟩ := hK1.trans rfl
 cases ha : Ya ta with
 | false =>
   rw [ha] at n0
   have m0 : ¬ (bs ta.text).toList = [105] := by simpa using n0
   rw [if_neg (fun h => by cases h.1), ← hK0, k0]
   clear ha n1 hK0 hK1 k0 k1
   generalize bs ta.text = sa at *
   generalize bs tb.text = sb at *
   go_enter func56, ntmps56
   go_wp2_with (first | (go_at_call 93; go_must (refine (CH.out _ (Below.refl _ _)).mono ?_; rintro e w1 ⟨rfl, rfl⟩)) | (go_at_call 94; go_must (refine (CF.out _).mono ?_; rintro e w2 ⟨rfl, hb2⟩; have x0a := (hb2.cell (p := ⟨r, off, none⟩) hrl).trans x0; have x1a := (hb2.cell (p := ⟨r, off + 1, none⟩) hrl).trans x1)) | (go_at_call 95; go_must (refine (CP.out _).mono ?_; rintro e w3 ⟨rfl, hb3⟩; have hb23 := hb2.trans (hb3.mono hb2.size); have x0b := (hb23.cell (p := ⟨r, off, none⟩) hrl).trans x0; have x1b := (hb23.cell (p := ⟨r, off + 1, none⟩) hrl).trans x1)))
   try go_region
   all_goals
    go_wp2_with fail
    go_ret
    exact ⟨by first | rfl | simp, (by first | exact hb23 | exact hb23.drew)⟩
 | true =>
   rw [ha] at n0
   have m0 : (bs ta.text).toList = [105] := by simpa using n0
   cases hb : Ya tb with
   | false =>
     rw [hb] at n1
     have m1 : ¬ (bs tb.text).toList = [105] := by simpa using n1
     rw [if_neg (fun h => by cases h.2), ← hK0, k0]
     clear ha hb hK0 hK1 k0 k1
     generalize bs ta.text = sa at *
     generalize bs tb.text = sb at *
     go_enter func56, ntmps56
     go_wp2_with (first | (go_at_call 93; go_must (refine (CH.out _ (Below.refl _ _)).mono ?_; rintro e w1 ⟨rfl, rfl⟩)) | (go_at_call 94; go_must (refine (CF.out _).mono ?_; rintro e w2 ⟨rfl, hb2⟩; have x0a := (hb2.cell (p := ⟨r, off, none⟩) hrl).trans x0; have x1a := (hb2.cell (p := ⟨r, off + 1, none⟩) hrl).trans x1)) | (go_at_call 95; go_must (refine (CP.out _).mono ?_; rintro e w3 ⟨rfl, hb3⟩; have hb23 := hb2.trans (hb3.mono hb2.size); have x0b := (hb23.cell (p := ⟨r, off, none⟩) hrl).trans x0; have x1b := (hb23.cell (p := ⟨r, off + 1, none⟩) hrl).trans x1)))
     try go_region
     all_goals
      go_wp2_with fail
      go_ret
      exact ⟨by first | rfl | simp, (by first | exact hb23 | exact hb23.drew)⟩
   | true =>
     rw [hb] at n1
     have m1 : (bs tb.text).toList = [105] := by simpa using n1
     rw [if_pos ⟨rfl, rfl⟩, ← hK1, k1]
     clear ha hb hK0 hK1 k0 k1
     generalize bs ta.text = sa at *
     generalize bs tb.text = sb at *
     go_enter func56, ntmps56
     go_wp2_with (first | (go_at_call 93; go_must (refine (CH.out _ (Below.refl _ _)).mono ?_; rintro e w1 ⟨rfl, rfl⟩)) | (go_at_call 94; go_must (refine (CF.out _).mono ?_; rintro e w2 ⟨rfl, hb2⟩; have x0a := (hb2.cell (p := ⟨r, off, none⟩) hrl).trans x0; have x1a := (hb2.cell (p := ⟨r, off + 1, none⟩) hrl).trans x1)) | (go_at_call 95; go_must (refine (CP.out _).mono ?_; rintro e w3 ⟨rfl, hb3⟩; have hb23 := hb2.trans (hb3.mono hb2.size); have x0b := (hb23.cell (p := ⟨r, off, none⟩) hrl).trans x0; have x1b := (hb23.cell (p := ⟨r, off + 1, none⟩) hrl).trans x1)))
     try go_region
     all_goals
      go_wp2_with fail
      go_ret
      exact ⟨by first | rfl | simp, (by first | exact hb23 | exact hb23.drew)⟩
theorem jn_sub (ta tb : Tr) (hta : Zn ta = true) (htb : Zn tb = true) (v : Value) (w : World) (hS : Zo w v [ta.text, tb.text]) :
 Calls prog 56 #[.string ⟨#[45]⟩, v] w fun e w' => e = .returned (.string (bs (((Yt .sub ta tb).map Tr.text).getD []))) ∧ Below w.heap.size w w' := by
 obtain ⟨p, c, rfl, -, hrow⟩ := id hS
 obtain ⟨r, off, rfl, hr⟩ := hrow (by simp)
 have hsl : Value.slice (some ⟨r, off, none⟩) [ta.text, tb.text].length c = .slice (some ⟨r, off, none⟩) 2 c := rfl
 rw [hsl] at hS ⊢
 clear hsl
 have x0 : w.cell? ⟨r, off, none⟩ = some (.string (bs ta.text)) := by simpa [Ye] using hr 0 _ rfl
 have x1 : w.cell? ⟨r, off + 1, none⟩ = some (.string (bs tb.text)) := by simpa [Ye] using hr 1 _ rfl
 have hrl : r < w.heap.size := World.block_lt_of_cell? w ⟨r, off, none⟩ x0
 have hnot : decide (([] : List UInt8) ∈ [ta.text, tb.text]) = false := by simp [(Qb (Ze hta).1).symm, (Qb (Ze htb).1).symm]
 have CH : Hid (∀ W, Below w.heap.size w W → Calls prog 93 #[.slice (some ⟨r, off, none⟩) 2 c, .string ⟨#[]⟩] W fun e w' => e = .returned (.bool false) ∧ w' = W) := H_ (fun W hW => by have h := Z0f _ _ [] W (Qm hS hW); rw [hnot] at h; exact h)
 obtain ⟨f1, f2, fz, g1, g2, gz, ⟨hf1, hf2, hfz, hg1, hg2, hgz⟩, CF, CP⟩ := Z1u ta hta
 have n0 := Z0x hta
 have n1 := Z0x htb
 have HJ : Hid (Yt .sub ta tb = if Ya ta = true ∧ Ya tb = true then some tI else none) := H_ rfl
 rw [HJ.out]
 clear HJ hf1 hf2 hfz hg1 hg2 hgz hS hr hrow hnot
 obtain ⟨K0, hK0⟩ : ∃ K, K = bs (((none : Option Tr).map Tr.text).getD []) := ⟨_, rfl⟩
 obtain ⟨K1, hK1⟩ : ∃ K, K = bs (((some tI).map Tr.text).getD []) := ⟨_, rfl⟩
 have k0 : K0 = ⟨#[]⟩ := hK0.trans rfl
 have k1 : K1 = ⟨#[105]⟩ := hK1.trans rfl
 cases ha : Ya ta with
 | false =>
   rw [ha] at n0
   have m0 : ¬ (bs ta.text).toList = [105] := by simpa using n0
   rw [if_neg (fun h => by cases h.1), ← hK0, k0]
   clear ha n1 hK0 hK1 k0 k1
   generalize bs ta.text = sa at *
   generalize bs tb.text = sb at *
   go_enter func56, ntmps56
   go_wp2_with (first | (go_at_call 93; go_must (refine (CH.out _ (Below.refl _ _)).mono ?_; rintro e w1 ⟨rfl, rfl⟩)) | (go_at_call 94; go_must (refine (CF.out _).mono ?_; rintro e w2 ⟨rfl, hb2⟩; have x0a := (hb2.cell (p := ⟨r, off, none⟩) hrl).trans x0; have x1a := (hb2.cell (p := ⟨r, off + 1, none⟩) hrl).trans x1)) | (go_at_call 95; go_must (refine (CP.out _).mono ?_; rintro e w3 ⟨rfl, hb3⟩; have hb23 := hb2.trans (hb3.mono hb2.size); have x0b := (hb23.cell (p := ⟨r, off, none⟩) hrl).trans x0; have x1b := (hb23.cell (p := ⟨r, off + 1, none⟩) hrl).trans x1)))
   try go_region
   all_goals
    go_wp2_with fail
    go_ret
    exact ⟨by first | rfl | simp, (by first | exact hb23 | exact hb23.drew)⟩
 | true =>
   rw [ha] at n0
   have m0 : (bs ta.text).toList = [105] := by simpa using n0
   cases hb : Ya tb with
   | false =>
     rw [hb] at n1
     have m1 : ¬ (bs tb.text).toList = [105] := by simpa using n1
     rw [if_neg (fun h => by cases h.2), ← hK0, k0]
     clear ha hb hK0 hK1 k0 k1
     generalize bs ta.text = sa at *
     generalize bs tb.text = sb at *
     go_enter func56, ntmps56
     go_wp2_with (first | (go_at_call 93; go_must (refine (CH.out _ (Below.refl _ _)).mono ?_; rintro e w1 ⟨rfl, rfl⟩)) | (go_at_call 94; go_must (refine (CF.out _).mono ?_; rintro e w2 ⟨rfl, hb2⟩; have x0a := (hb2.cell (p := ⟨r, off, none⟩) hrl).trans x0; have x1a := (hb2.cell (p := ⟨r, off + 1, none⟩) hrl).trans x1)) | (go_at_call 95; go_must (refine (CP.out _).mono ?_; rintro e w3 ⟨rfl, hb3⟩; have hb23 := hb2.trans (hb3.mono hb2.size); have x0b := (hb23.cell (p := ⟨r, off, none⟩) hrl).trans x0; have x1b := (hb23.cell (p := ⟨r, off + 1, none⟩) hrl).trans x1)))
     try go_region
     all_goals
      go_wp2_with fail
      go_ret
      exact ⟨by first | rfl | simp, (by first | exact hb23 | exact hb23.drew)⟩
   | true =>
     rw [hb] at n1
     have m1 : (bs tb.text).toList = [105] := by simpa using n1
     rw [if_pos ⟨rfl, rfl⟩, ← hK1, k1]
     clear ha hb hK0 hK1 k0 k1
     generalize bs ta.text = sa at *
     generalize bs tb.text = sb at *
     go_enter func56, ntmps56
     go_wp2_with (first | (go_at_call 93; go_must (refine (CH.out _ (Below.refl _ _)).mono ?_; rintro e w1 ⟨rfl, rfl⟩)) | (go_at_call 94; go_must (refine (CF.out _).mono ?_; rintro e w2 ⟨rfl, hb2⟩; have x0a := (hb2.cell (p := ⟨r, off, none⟩) hrl).trans x0; have x1a := (hb2.cell (p := ⟨r, off + 1, none⟩) hrl).trans x1)) | (go_at_call 95; go_must (refine (CP.out _).mono ?_; rintro e w3 ⟨rfl, hb3⟩; have hb23 := hb2.trans (hb3.mono hb2.size); have x0b := (hb23.cell (p := ⟨r, off, none⟩) hrl).trans x0; have x1b := (hb23.cell (p := ⟨r, off + 1, none⟩) hrl).trans x1)))
     try go_region
     all_goals
      go_wp2_with fail
      go_ret
      exact ⟨by first | rfl | simp, (by first | exact hb23 | exact hb23.drew)⟩
theorem jn_mul (ta tb : Tr) (hta : Zn ta = true) (htb : Zn tb = true) (v : Value) (w : World) (hS : Zo w v [ta.text, tb.text]) :
 Calls prog 56 #[.string ⟨#[42]⟩, v] w fun e w' => e = .returned (.string (bs (((Yt .mul ta tb).map Tr.text).getD []))) ∧ Below w.heap.size w w' := by
 obtain ⟨p, c, rfl, -, hrow⟩ := id hS
 obtain ⟨r, off, rfl, hr⟩ := hrow (by simp)
 have hsl : Value.slice (some ⟨r, off, none⟩) [ta.text, tb.text].length c = .slice (some ⟨r, off, none⟩) 2 c := rfl
 rw [hsl] at hS ⊢
 clear hsl
 have x0 : w.cell? ⟨r, off, none⟩ = some (.string (bs ta.text)) := by simpa [Ye] using hr 0 _ rfl
 have x1 : w.cell? ⟨r, off + 1, none⟩ = some (.string (bs tb.text)) := by simpa [Ye] using hr 1 _ rfl
 have hrl : r < w.heap.size := World.block_lt_of_cell? w ⟨r, off, none⟩ x0
 have hnot : decide (([] : List UInt8) ∈ [ta.text, tb.text]) = false := by simp [(Qb (Ze hta).1).symm, (Qb (Ze htb).1).symm]
 have CH : Hid (∀ W, Below w.heap.size w W → Calls prog 93 #[.slice (some ⟨r, off, none⟩) 2 c, .string ⟨#[]⟩] W fun e w' => e = .returned (.bool false) ∧ w' = W) := H_ (fun W hW => by have h := Z0f _ _ [] W (Qm hS hW); rw [hnot] at h; exact h)
 obtain ⟨f1, f2, fz, g1, g2, gz, ⟨hf1, hf2, hfz, hg1, hg2, hgz⟩, CF, CP⟩ := Z1u ta hta
 have n0 := Z0x hta
 have n1 := Z0x htb
 have HJ : Hid (Yt .mul ta tb = if Ya ta = true ∧ Ya tb = true then some tI else none) := H_ rfl
 rw [HJ.out]
 clear HJ hf1 hf2 hfz hg1 hg2 hgz hS hr hrow hnot
 obtain ⟨K0, hK0⟩ : ∃ K, K = bs (((none : Option Tr).map Tr.text).getD []) := ⟨_, rfl⟩
 obtain ⟨K1, hK1⟩ : ∃ K, K = bs (((some tI).map Tr.text).getD []) := ⟨_, rfl⟩
 have k0 : K0 = ⟨#[]⟩ := hK0.trans rfl
 have k1 : K1 = ⟨#[105]⟩ := hK1.trans rfl
 cases ha : Ya ta with
 | false =>
   rw [ha] at n0
   have m0 : ¬ (bs ta.text).toList = [105] := by simpa using n0
   rw [if_neg (fun h => by cases h.1), ← hK0, k0]
   clear ha n1 hK0 hK1 k0 k1
   generalize bs ta.text = sa at *
   generalize bs tb.text = sb at *
   go_enter func56, ntmps56
   go_wp2_with (first | (go_at_call 93; go_must (refine (CH.out _ (Below.refl _ _)).mono ?_; rintro e w1 ⟨rfl, rfl⟩)) | (go_at_call 94; go_must (refine (CF.out _).mono ?_; rintro e w2 ⟨rfl, hb2⟩; have x0a := (hb2.cell (p := ⟨r, off, none⟩) hrl).trans x0; have x1a := (hb2.cell (p := ⟨r, off + 1, none⟩) hrl).trans x1)) | (go_at_call 95; go_must (refine (CP.out _).mono ?_; rintro e w3 ⟨rfl, hb3⟩; have hb23 := hb2.trans (hb3.mono hb2.size); have x0b := (hb23.cell (p := ⟨r, off, none⟩) hrl).trans x0; have x1b := (hb23.cell (p := ⟨r, off + 1, none⟩) hrl).trans x1)))
   try go_region
   all_goals
    go_wp2_with fail
    go_ret
    exact ⟨by first | rfl | simp, (by first | exact hb23 | exact hb23.drew)⟩
 | true =>
   rw [ha] at n0
   have m0 : (bs ta.text).toList = [105] := by simpa using n0
   cases hb : Ya tb with
   | false =>
     rw [hb] at n1
     have m1 : ¬ (bs tb.text).toList = [105] := by simpa using n1
     rw [if_neg (fun h => by cases h.2), ← hK0, k0]
     clear ha hb hK0 hK1 k0 k1
     generalize bs ta.text = sa at *
     generalize bs tb.text = sb at *
     go_enter func56, ntmps56
     go_wp2_with (first | (go_at_call 93; go_must (refine (CH.out _ (Below.refl _ _)).mono ?_; rintro e w1 ⟨rfl, rfl⟩)) | (go_at_call 94; go_must (refine (CF.out _).mono ?_; rintro e w2 ⟨rfl, hb2⟩; have x0a := (hb2.cell (p := ⟨r, off, none⟩) hrl).trans x0; have x1a := (hb2.cell (p := ⟨r, off + 1, none⟩) hrl).trans x1)) | (go_at_call 95; go_must (refine (CP.out _).mono ?_; rintro e w3 ⟨rfl, hb3⟩; have hb23 := hb2.trans (hb3.mono hb2.size); have x0b := (hb23.cell (p := ⟨r, off, none⟩) hrl).trans x0; have x1b := (hb23.cell (p := ⟨r, off + 1, none⟩) hrl).trans x1)))
     try go_region
     all_goals
      go_wp2_with fail
      go_ret
      exact ⟨by first | rfl | simp, (by first | exact hb23 | exact hb23.drew)⟩
   | true =>
     rw [hb] at n1
     have m1 : (bs tb.text).toList = [105] := by simpa using n1
     rw [if_pos ⟨rfl, rfl⟩, ← hK1, k1]
     clear ha hb hK0 hK1 k0 k1
     generalize bs ta.text = sa at *
     generalize bs tb.text = sb at *
     go_enter func56, ntmps56
     go_wp2_with (first | (go_at_call 93; go_must (refine (CH.out _ (Below.refl _ _)).mono ?_; rintro e w1 ⟨rfl, rfl⟩)) | (go_at_call 94; go_must (refine (CF.out _).mono ?_; rintro e w2 ⟨rfl, hb2⟩; have x0a := (hb2.cell (p := ⟨r, off, none⟩) hrl).trans x0; have x1a := (hb2.cell (p := ⟨r, off + 1, none⟩) hrl).trans x1)) | (go_at_call 95; go_must (refine (CP.out _).mono ?_; rintro e w3 ⟨rfl, hb3⟩; have hb23 := hb2.trans (hb3.mono hb2.size); have x0b := (hb23.cell (p := ⟨r, off, none⟩) hrl).trans x0; have x1b := (hb23.cell (p := ⟨r, off + 1, none⟩) hrl).trans x1)))
     try go_region
     all_goals
      go_wp2_with fail
      go_ret
      exact ⟨by first | rfl | simp, (by first | exact hb23 | exact hb23.drew)⟩
theorem jn_call (ta tb : Tr) (hta : Zn ta = true) (htb : Zn tb = true) (v : Value) (w : World) (hS : Zo w v [ta.text, tb.text]) :
 Calls prog 56 #[.string ⟨#[99, 97, 108, 108]⟩, v] w fun e w' => e = .returned (.string (bs (((Yt .call ta tb).map Tr.text).getD []))) ∧ Below w.heap.size w w' := by
 obtain ⟨p, c, rfl, -, hrow⟩ := id hS
 obtain ⟨r, off, rfl, hr⟩ := hrow (by simp)
 have hsl : Value.slice (some ⟨r, off, none⟩) [ta.text, tb.text].length c = .slice (some ⟨r, off, none⟩) 2 c := rfl
 rw [hsl] at hS ⊢
 clear hsl
 have x0 : w.cell? ⟨r, off, none⟩ = some (.string (bs ta.text)) := by simpa [Ye] using hr 0 _ rfl
 have x1 : w.cell? ⟨r, off + 1, none⟩ = some (.string (bs tb.text)) := by simpa [Ye] using hr 1 _ rfl
 have hrl : r < w.heap.size := World.block_lt_of_cell? w ⟨r, off, none⟩ x0
 have hnot : decide (([] : List UInt8) ∈ [ta.text, tb.text]) = false := by simp [(Qb (Ze hta).1).symm, (Qb (Ze htb).1).symm]
 have CH : Hid (∀ W, Below w.heap.size w W → Calls prog 93 #[.slice (some ⟨r, off, none⟩) 2 c, .string ⟨#[]⟩] W fun e w' => e = .returned (.bool false) ∧ w' = W) := H_ (fun W hW => by have h := Z0f _ _ [] W (Qm hS hW); rw [hnot] at h; exact h)
 obtain ⟨f1, f2, fz, g1, g2, gz, ⟨hf1, hf2, hfz, hg1, hg2, hgz⟩, CF, CP⟩ := Z1u ta hta
 cases hs : Zy 62 ta with
 | none =>
   rw [hs] at hfz
   replace hfz : fz = false := hfz
   subst hfz
   rw [show Yt .call ta tb = none by simp [Yt, hs]]
   clear hs hf1 hf2 hg1 hg2 hgz hS hr hrow hnot
   go_enter func56, ntmps56
   go_wp2_with (first | (go_at_call 93; go_must (refine (CH.out _ (Below.refl _ _)).mono ?_; rintro e w1 ⟨rfl, rfl⟩)) | (go_at_call 94; go_must (refine (CF.out _).mono ?_; rintro e w2 ⟨rfl, hb2⟩; have x0a := (hb2.cell (p := ⟨r, off, none⟩) hrl).trans x0; have x1a := (hb2.cell (p := ⟨r, off + 1, none⟩) hrl).trans x1)) | (go_at_call 95; go_must (refine (CP.out _).mono ?_; rintro e w3 ⟨rfl, hb3⟩; have hb23 := hb2.trans (hb3.mono hb2.size); have x0b := (hb23.cell (p := ⟨r, off, none⟩) hrl).trans x0; have x1b := (hb23.cell (p := ⟨r, off + 1, none⟩) hrl).trans x1)))
   try go_region
   all_goals
    go_wp2_with fail
    go_ret
    exact ⟨rfl, (by first | exact hb23 | exact hb23.drew)⟩
 | some q =>
   obtain ⟨a, b⟩ := q
   rw [hs] at hfz hf1 hf2
   replace hfz : fz = true := hfz
   subst hfz
   have HG := H_ hf2
   replace hf1 : f1 = bs a.text := hf1
   by_cases hab : a.text = tb.text
   · have n0 : (f1.toList == (bs tb.text).toList) = true := by rw [hf1, hab]; simp
     have m0 : f1.toList = (bs tb.text).toList := by rw [hf1, hab]
     rw [show Yt .call ta tb = some b by simp [Yt, hs, hab]]
     clear hs hf1 hf2 hg1 hg2 hgz hS hr hrow hnot hab
     generalize bs tb.text = sb at *
     go_enter func56, ntmps56
     go_wp2_with (first | (go_at_call 93; go_must (refine (CH.out _ (Below.refl _ _)).mono ?_; rintro e w1 ⟨rfl, rfl⟩)) | (go_at_call 94; go_must (refine (CF.out _).mono ?_; rintro e w2 ⟨rfl, hb2⟩; have x0a := (hb2.cell (p := ⟨r, off, none⟩) hrl).trans x0; have x1a := (hb2.cell (p := ⟨r, off + 1, none⟩) hrl).trans x1)) | (go_at_call 95; go_must (refine (CP.out _).mono ?_; rintro e w3 ⟨rfl, hb3⟩; have hb23 := hb2.trans (hb3.mono hb2.size); have x0b := (hb23.cell (p := ⟨r, off, none⟩) hrl).trans x0; have x1b := (hb23.cell (p := ⟨r, off + 1, none⟩) hrl).trans x1)))
     try go_region
     all_goals
      go_wp2_with fail
      go_ret
      exact ⟨by rw [HG.out]; rfl, (by first | exact hb23 | exact hb23.drew)⟩
   · have m0 : ¬ f1.toList = (bs tb.text).toList := by rw [hf1, Z8, Z8]; exact hab
     have n0 : (f1.toList == (bs tb.text).toList) = false := by simpa using m0
     rw [show Yt .call ta tb = none by simp [Yt, hs, hab]]
     clear hs hf1 hf2 hg1 hg2 hgz hS hr hrow hnot hab
     generalize bs tb.text = sb at *
     go_enter func56, ntmps56
     go_wp2_with (first | (go_at_call 93; go_must (refine (CH.out _ (Below.refl _ _)).mono ?_; rintro e w1 ⟨rfl, rfl⟩)) | (go_at_call 94; go_must (refine (CF.out _).mono ?_; rintro e w2 ⟨rfl, hb2⟩; have x0a := (hb2.cell (p := ⟨r, off, none⟩) hrl).trans x0; have x1a := (hb2.cell (p := ⟨r, off + 1, none⟩) hrl).trans x1)) | (go_at_call 95; go_must (refine (CP.out _).mono ?_; rintro e w3 ⟨rfl, hb3⟩; have hb23 := hb2.trans (hb3.mono hb2.size); have x0b := (hb23.cell (p := ⟨r, off, none⟩) hrl).trans x0; have x1b := (hb23.cell (p := ⟨r, off + 1, none⟩) hrl).trans x1)))
     try go_region
     all_goals
      go_wp2_with fail
      go_ret
      exact ⟨rfl, (by first | exact hb23 | exact hb23.drew)⟩
theorem jn_if (ta tb tc : Tr) (hta : Zn ta = true) (htb : Zn tb = true) (htc : Zn tc = true) (v : Value) (w : World) (hS : Zo w v [ta.text, tb.text, tc.text]) :
 Calls prog 56 #[.string ⟨#[105, 102]⟩, v] w fun e w' => e = .returned (.string (bs (((if Ya ta = true ∧ tb.text = tc.text then some tb else none).map Tr.text).getD []))) ∧ Below w.heap.size w w' := by
 obtain ⟨p, c, rfl, -, hrow⟩ := id hS
 obtain ⟨r, off, rfl, hr⟩ := hrow (by simp)
 have hsl : Value.slice (some ⟨r, off, none⟩) [ta.text, tb.text, tc.text].length c = .slice (some ⟨r, off, none⟩) 3 c := rfl
 rw [hsl] at hS ⊢
 clear hsl
 have x0 : w.cell? ⟨r, off, none⟩ = some (.string (bs ta.text)) := by simpa [Ye] using hr 0 _ rfl
 have x1 : w.cell? ⟨r, off + 1, none⟩ = some (.string (bs tb.text)) := by simpa [Ye] using hr 1 _ rfl
 have x2 : w.cell? ⟨r, off + 2, none⟩ = some (.string (bs tc.text)) := by simpa [Ye] using hr 2 _ rfl
 have hrl : r < w.heap.size := World.block_lt_of_cell? w ⟨r, off, none⟩ x0
 have hnot : decide (([] : List UInt8) ∈ [ta.text, tb.text, tc.text]) = false := by simp [(Qb (Ze hta).1).symm, (Qb (Ze htb).1).symm, (Qb (Ze htc).1).symm]
 have CH : Hid (∀ W, Below w.heap.size w W → Calls prog 93 #[.slice (some ⟨r, off, none⟩) 3 c, .string ⟨#[]⟩] W fun e w' => e = .returned (.bool false) ∧ w' = W) := H_ (fun W hW => by have h := Z0f _ _ [] W (Qm hS hW); rw [hnot] at h; exact h)
 obtain ⟨f1, f2, fz, g1, g2, gz, ⟨hf1, hf2, hfz, hg1, hg2, hgz⟩, CF, CP⟩ := Z1u ta hta
 have n0 := Z0x hta
 clear hf1 hf2 hfz hg1 hg2 hgz hS hr hrow hnot
 cases ha : Ya ta with
 | false =>
   rw [ha] at n0
   have m0 : ¬ (bs ta.text).toList = [105] := by simpa using n0
   rw [if_neg (fun h => by cases h.1), show bs (((none : Option Tr).map Tr.text).getD []) = ⟨#[]⟩ from rfl]
   clear ha
   generalize bs ta.text = sa at *
   go_enter func56, ntmps56
   go_wp2_with (first | (go_at_call 93; go_must (refine (CH.out _ (Below.refl _ _)).mono ?_; rintro e w1 ⟨rfl, rfl⟩)) | (go_at_call 94; go_must (refine (CF.out _).mono ?_; rintro e w2 ⟨rfl, hb2⟩; have x0a := (hb2.cell (p := ⟨r, off, none⟩) hrl).trans x0; have x1a := (hb2.cell (p := ⟨r, off + 1, none⟩) hrl).trans x1; have x2a := (hb2.cell (p := ⟨r, off + 2, none⟩) hrl).trans x2)) | (go_at_call 95; go_must (refine (CP.out _).mono ?_; rintro e w3 ⟨rfl, hb3⟩; have hb23 := hb2.trans (hb3.mono hb2.size); have x0b := (hb23.cell (p := ⟨r, off, none⟩) hrl).trans x0; have x1b := (hb23.cell (p := ⟨r, off + 1, none⟩) hrl).trans x1; have x2b := (hb23.cell (p := ⟨r, off + 2, none⟩) hrl).trans x2)))
   try go_region
   all_goals
    go_wp2_with fail
    go_ret
    exact ⟨by first | rfl | simp, by first | exact hb23 | exact hb23.drew⟩
 | true =>
   rw [ha] at n0
   have m0 : (bs ta.text).toList = [105] := by simpa using n0
   by_cases hbc : tb.text = tc.text
   · rw [if_pos ⟨rfl, hbc⟩]
     clear ha
     have n1 : ((bs tb.text).toList == (bs tc.text).toList) = true := by rw [hbc]; simp
     have m1 : (bs tb.text).toList = (bs tc.text).toList := by rw [hbc]
     have HB := H_ hbc
     clear hbc
     obtain ⟨sa, hsa⟩ : ∃ x, x = bs ta.text := ⟨_, rfl⟩
     obtain ⟨sb, hsb⟩ : ∃ x, x = bs tb.text := ⟨_, rfl⟩
     obtain ⟨sc, hsc⟩ : ∃ x, x = bs tc.text := ⟨_, rfl⟩
     rw [← hsa] at x0 CF CP n0 m0
     rw [← hsb] at x1 n1 m1
     rw [← hsc] at x2 n1 m1
     have HSB := H_ hsb
     clear hsa hsb hsc
     go_enter func56, ntmps56
     go_wp2_with (first | (go_at_call 93; go_must (refine (CH.out _ (Below.refl _ _)).mono ?_; rintro e w1 ⟨rfl, rfl⟩)) | (go_at_call 94; go_must (refine (CF.out _).mono ?_; rintro e w2 ⟨rfl, hb2⟩; have x0a := (hb2.cell (p := ⟨r, off, none⟩) hrl).trans x0; have x1a := (hb2.cell (p := ⟨r, off + 1, none⟩) hrl).trans x1; have x2a := (hb2.cell (p := ⟨r, off + 2, none⟩) hrl).trans x2)) | (go_at_call 95; go_must (refine (CP.out _).mono ?_; rintro e w3 ⟨rfl, hb3⟩; have hb23 := hb2.trans (hb3.mono hb2.size); have x0b := (hb23.cell (p := ⟨r, off, none⟩) hrl).trans x0; have x1b := (hb23.cell (p := ⟨r, off + 1, none⟩) hrl).trans x1; have x2b := (hb23.cell (p := ⟨r, off + 2, none⟩) hrl).trans x2)))
     try go_region
     all_goals
      go_wp2_with fail
      go_ret
      exact ⟨by rw [← show sb = bs (((some tb).map Tr.text).getD []) from HSB.out]; first | rfl | simp, by first | exact hb23 | exact hb23.drew⟩
   · have m1 : ¬ (bs tb.text).toList = (bs tc.text).toList := by rw [Z8, Z8]; exact hbc
     rw [if_neg (fun h => hbc h.2)]
     clear ha
     have n1 : ((bs tb.text).toList == (bs tc.text).toList) = false := by simpa using m1
     have HB := H_ hbc
     clear hbc
     obtain ⟨sa, hsa⟩ : ∃ x, x = bs ta.text := ⟨_, rfl⟩
     obtain ⟨sb, hsb⟩ : ∃ x, x = bs tb.text := ⟨_, rfl⟩
     obtain ⟨sc, hsc⟩ : ∃ x, x = bs tc.text := ⟨_, rfl⟩
     rw [← hsa] at x0 CF CP n0 m0
     rw [← hsb] at x1 n1 m1
     rw [← hsc] at x2 n1 m1
     have HSB := H_ hsb
     clear hsa hsb hsc
     go_enter func56, ntmps56
     go_wp2_with (first | (go_at_call 93; go_must (refine (CH.out _ (Below.refl _ _)).mono ?_; rintro e w1 ⟨rfl, rfl⟩)) | (go_at_call 94; go_must (refine (CF.out _).mono ?_; rintro e w2 ⟨rfl, hb2⟩; have x0a := (hb2.cell (p := ⟨r, off, none⟩) hrl).trans x0; have x1a := (hb2.cell (p := ⟨r, off + 1, none⟩) hrl).trans x1; have x2a := (hb2.cell (p := ⟨r, off + 2, none⟩) hrl).trans x2)) | (go_at_call 95; go_must (refine (CP.out _).mono ?_; rintro e w3 ⟨rfl, hb3⟩; have hb23 := hb2.trans (hb3.mono hb2.size); have x0b := (hb23.cell (p := ⟨r, off, none⟩) hrl).trans x0; have x1b := (hb23.cell (p := ⟨r, off + 1, none⟩) hrl).trans x1; have x2b := (hb23.cell (p := ⟨r, off + 2, none⟩) hrl).trans x2)))
     try go_region
     all_goals
      go_wp2_with fail
      go_ret
      exact ⟨by first | rfl | simp, by first | exact hb23 | exact hb23.drew⟩
theorem jn_pair (ta tb : Tr) (hta : Zn ta = true) (htb : Zn tb = true) (v : Value) (w : World) (hS : Zo w v [ta.text, tb.text]) :
 Calls prog 56 #[.string ⟨#[112, 97, 105, 114]⟩, v] w fun e w' => e = .returned (.string (bs (((Yt .pair ta tb).map Tr.text).getD []))) ∧ Below w.heap.size w w' := by
 obtain ⟨p, c, rfl, -, hrow⟩ := id hS
 obtain ⟨r, off, rfl, hr⟩ := hrow (by simp)
 have hsl : Value.slice (some ⟨r, off, none⟩) [ta.text, tb.text].length c = .slice (some ⟨r, off, none⟩) 2 c := rfl
 rw [hsl] at hS ⊢
 clear hsl
 have x0 : w.cell? ⟨r, off, none⟩ = some (.string (bs ta.text)) := by simpa [Ye] using hr 0 _ rfl
 have x1 : w.cell? ⟨r, off + 1, none⟩ = some (.string (bs tb.text)) := by simpa [Ye] using hr 1 _ rfl
 have hrl : r < w.heap.size := World.block_lt_of_cell? w ⟨r, off, none⟩ x0
 have hnot : decide (([] : List UInt8) ∈ [ta.text, tb.text]) = false := by simp [(Qb (Ze hta).1).symm, (Qb (Ze htb).1).symm]
 have CH : Hid (∀ W, Below w.heap.size w W → Calls prog 93 #[.slice (some ⟨r, off, none⟩) 2 c, .string ⟨#[]⟩] W fun e w' => e = .returned (.bool false) ∧ w' = W) := H_ (fun W hW => by have h := Z0f _ _ [] W (Qm hS hW); rw [hnot] at h; exact h)
 obtain ⟨f1, f2, fz, g1, g2, gz, ⟨hf1, hf2, hfz, hg1, hg2, hgz⟩, CF, CP⟩ := Z1u ta hta
 obtain ⟨k1, k2, hk⟩ := Z1r (Z0m 42 ta.text tb.text)
 have HK : Hid (k1 = bs (((Yt .pair ta tb).map Tr.text).getD [])) := H_ (by
  have e1 : Z0m 42 ta.text tb.text = Yt .pair ta tb := by rw [Z0y (Jg hta) (Jg htb)]; rfl
  rw [e1] at hk
  cases hj : Yt .pair ta tb with
  | none => rw [hj] at hk; have h := hk _ rfl; simp at h; rw [← h.1]; rfl
  | some t => rw [hj] at hk; have h := hk _ rfl; simp at h; rw [← h.1]; rfl)
 have CM : Hid (∀ W, Calls prog 55 #[.bool false, .string (bs ta.text), .string (bs tb.text)] W fun e w' => e = .returned (.tuple #[.string k1, .bool k2]) ∧ Below W.heap.size W w') := H_ (fun W => by
  have h := Z1h false (bs ta.text) (bs tb.text) (Vl hta) (Vl htb) W
  rw [Q4, Q4] at h
  exact h.mono fun e w' ⟨h1, h2⟩ => ⟨hk e h1, h2⟩)
 rw [← HK.out]
 clear hf1 hf2 hfz hg1 hg2 hgz hS hr hrow hnot hk
 have KX : Hid (∀ W, Below w.heap.size w W → W.cell? ⟨r, off, none⟩ = some (.string (bs ta.text)) ∧ W.cell? ⟨r, off + 1, none⟩ = some (.string (bs tb.text))) := H_ (fun W hW => ⟨(hW.cell (p := ⟨r, off, none⟩) hrl).trans x0, (hW.cell (p := ⟨r, off + 1, none⟩) hrl).trans x1⟩)
 go_enter func56, ntmps56
 go_wp2_with (first | (go_at_call 93; go_must (refine (CH.out _ (Below.refl _ _)).mono ?_; rintro e w1 ⟨rfl, rfl⟩)) | (go_at_call 94; go_must (refine (CF.out _).mono ?_; rintro e w2 ⟨rfl, hb2⟩; have x0a := (hb2.cell (p := ⟨r, off, none⟩) hrl).trans x0; have x1a := (hb2.cell (p := ⟨r, off + 1, none⟩) hrl).trans x1)) | (go_at_call 95; go_must (refine (CP.out _).mono ?_; rintro e w3 ⟨rfl, hb3⟩; have hb23 := hb2.trans (hb3.mono hb2.size); have x0b := (hb23.cell (p := ⟨r, off, none⟩) hrl).trans x0; have x1b := (hb23.cell (p := ⟨r, off + 1, none⟩) hrl).trans x1)))
 have hd4 : Below w3.heap.size w3 w3 := Below.refl _ _
 have hd5 : Below w3.heap.size w3 w3.drew := hd4.drew
 have hd6 : Below w3.heap.size w3 w3.drew.drew := hd5.drew
 have HB23 := H_ hb23
 obtain ⟨x0d, x1d⟩ := KX.out _ (hb23.trans (hd5.mono hb23.size))
 clear x0a x1a hb2 hb3 hb23 x0 x1
 try go_region
 all_goals
  go_wp2_with fail
  first | (go_region_with (first | (go_at_call 55; (with_reducible refine (CM.out _).mono ?_); rintro e w4 ⟨rfl, hb4⟩; have hB4 := Below.trans (by assumption : Below w3.heap.size w3 _) (hb4.mono (Below.size (by assumption))); obtain ⟨x0c, x1c⟩ := KX.out _ (HB23.out.trans (hB4.mono HB23.out.size))))) | fail
  all_goals
   go_wp2_with fail
   go_ret
   exact ⟨by first | rfl | simp, HB23.out.trans (hB4.mono HB23.out.size)⟩
def tyS : Except Ex Tr → Nm
 | .ok t => t.text
 | .error _ => []
theorem Z2d (x : Ex) (o : Option Tr) : tyS (Ka x o) = (o.map Tr.text).getD [] := by cases o <;> rfl
theorem op1Of_N {h : Nm} {o : Op1} (e : Ki h = some o) : h = Z4l o := by
 unfold Ki at e
 split at e
 · rename_i k; simp only [Option.some.injEq] at e; subst e; exact k
 · split at e
   · rename_i k; simp only [Option.some.injEq] at e; subst e; exact k
   · cases e
theorem op2Of_N {h : Nm} {o : Op2} (e : Jl h = some o) : h = Z3d o := by
 unfold Jl at e
 split at e
 · rename_i k; simp only [Option.some.injEq] at e; subst e; exact k
 · split at e
   · rename_i k; simp only [Option.some.injEq] at e; subst e; exact k
   · split at e
     · rename_i k; simp only [Option.some.injEq] at e; subst e; exact k
     · split at e
       · rename_i k; simp only [Option.some.injEq] at e; subst e; exact k
       · split at e
         · rename_i k; simp only [Option.some.injEq] at e; subst e; exact k
         · cases e
theorem Z4s (h : ByteArray) (v : Value) (l : List Nm) (w : World) (hS : Zo w v l) (hm : [] ∈ l) :
 Calls prog 56 #[.string h, v] w fun e w' => e = .returned (.string (bs [])) ∧ Below w.heap.size w w' := by
 have CH : Hid (Calls prog 93 #[v, .string ⟨#[]⟩] w fun e w' => e = .returned (.bool true) ∧ w' = w) := H_ (by have h := Z0f _ _ [] w hS; rw [show decide (([] : Nm) ∈ l) = true by simpa using hm] at h; exact h)
 obtain ⟨p, c, rfl, -, -⟩ := hS
 go_enter func56, ntmps56
 go_wp2_with (go_at_call 93; go_must (refine (CH.out).mono ?_; rintro e w1 ⟨rfl, rfl⟩))
 go_ret
 exact ⟨rfl, Below.refl _ _⟩
theorem joinR_c (h : Nm) (es : List Ex) (x : Ex) (env : List (Nm × Tr)) (v : Value) (w : World) (hx : Yi h es = some x) (henv : Qu env) (hty : Kf x) (hS : Zo w v (es.map (fun e => tyS (tyR env e)))) :
 Calls prog 56 #[.string (bs h), v] w fun e w' => e = .returned (.string (bs (tyS (tyR env x)))) ∧ Below w.heap.size w w' := by
 match es, hx, hS with
 | [], hx, _ => cases hx
 | [a], hx, hS =>
   simp only [Yi, Option.map_eq_some_iff] at hx
   obtain ⟨o, ho, rfl⟩ := hx
   have hh := op1Of_N ho
   subst hh
   cases ha : tyR env a with
   | error f =>
     rw [show tyS (tyR env (.one o a)) = [] by simp [tyR, ha, tyS]]
     exact Z4s _ v _ w hS (by simp [ha, tyS])
   | ok ta =>
     have hta := Q8 a env ta henv hty ha
     have hS2 : Zo w v [ta.text] := by simpa [ha, tyS] using hS
     rw [show tyS (tyR env (.one o a)) = ((Qy o ta).map Tr.text).getD [] by simp only [tyR, ha]; exact Z2d _ _]
     cases o
     · exact jn_fst ta hta v w hS2
     · exact jn_snd ta hta v w hS2
 | [a, b], hx, hS =>
   simp only [Yi, Option.map_eq_some_iff] at hx
   obtain ⟨o, ho, rfl⟩ := hx
   have hh := op2Of_N ho
   subst hh
   cases ha : tyR env a with
   | error f =>
     rw [show tyS (tyR env (.two o a b)) = [] by simp [tyR, ha, tyS]]
     exact Z4s _ v _ w hS (by simp [ha, tyS])
   | ok ta =>
     cases hb : tyR env b with
     | error f =>
       rw [show tyS (tyR env (.two o a b)) = [] by simp [tyR, ha, hb, tyS]]
       exact Z4s _ v _ w hS (by simp [hb, tyS])
     | ok tb =>
       have hta := Q8 a env ta henv hty.1 ha
       have htb := Q8 b env tb henv hty.2 hb
       have hS2 : Zo w v [ta.text, tb.text] := by simpa [ha, hb, tyS] using hS
       rw [show tyS (tyR env (.two o a b)) = ((Yt o ta tb).map Tr.text).getD [] by simp only [tyR, ha, hb]; exact Z2d _ _]
       cases o
       · exact jn_add ta tb hta htb v w hS2
       · exact jn_sub ta tb hta htb v w hS2
       · exact jn_mul ta tb hta htb v w hS2
       · exact jn_call ta tb hta htb v w hS2
       · exact jn_pair ta tb hta htb v w hS2
 | [a, b, c], hx, hS =>
   simp only [Yi] at hx
   split at hx
   · rename_i hh
     simp only [Option.some.injEq] at hx
     subst hx
     subst hh
     cases ha : tyR env a with
     | error f =>
       rw [show tyS (tyR env (.cond a b c)) = [] by simp [tyR, ha, tyS]]
       exact Z4s _ v _ w hS (by simp [ha, tyS])
     | ok ta =>
       cases hb : tyR env b with
       | error f =>
         rw [show tyS (tyR env (.cond a b c)) = [] by simp [tyR, ha, hb, tyS]]
         exact Z4s _ v _ w hS (by simp [hb, tyS])
       | ok tb =>
         cases hc : tyR env c with
         | error f =>
           rw [show tyS (tyR env (.cond a b c)) = [] by simp [tyR, ha, hb, hc, tyS]]
           exact Z4s _ v _ w hS (by simp [hc, tyS])
         | ok tc =>
           have hta := Q8 a env ta henv hty.1 ha
           have htb := Q8 b env tb henv hty.2.1 hb
           have htc := Q8 c env tc henv hty.2.2 hc
           have hS2 : Zo w v [ta.text, tb.text, tc.text] := by simpa [ha, hb, hc, tyS] using hS
           rw [show tyS (tyR env (.cond a b c)) = (((if Ya ta = true ∧ tb.text = tc.text then some tb else none : Option Tr)).map Tr.text).getD [] by simp only [tyR, ha, hb, hc]; exact Z2d _ _]
           exact jn_if ta tb tc hta htb htc v w hS2
   · cases hx
 | _ :: _ :: _ :: _ :: _, hx, _ => cases hx
def TyS (n : Nat) : Prop := ∀ (t : Tr) (x : Ex) (env : List (Nm × Tr)) (cs : List Value) (v1 v2 : Value) (ok : Nat → Prop) (w : World), t.depth < n → t.wf → t.bytes ≤ 12000 → Yg t = some x → Qu env → env.length + 2 * t.depth ≤ 100000 → Zo w v1 (Z06 env) → Zo w v2 (Z05 env) → FV nS w ok t cs → (∀ k, ok k → k < w.heap.size) →
    Calls prog 23 #[.agg cs.toArray, v1, v2] w fun e w' => e = .returned (.string (bs (tyS (tyR env x)))) ∧ Below w.heap.size w w'
theorem l3Type_atom (a : List UInt8) (x : Ex) (env : List (Nm × Tr)) (v1 v2 : Value) (w : World) (ha0 : a ≠ []) (hal : a.length ≤ 12000) (hx : Yg (.atom a) = some x) (henv : Qu env) (hlen : env.length ≤ 1000000) (h1 : Zo w v1 (Z06 env)) (h2 : Zo w v2 (Z05 env)) :
 Calls prog 23 #[.agg #[.string (bs a), .slice none 0 0], v1, v2] w fun e w' => e = .returned (.string (bs (tyS (tyR env x)))) ∧ Below w.heap.size w w' := by
 have ha := Ve ha0
 have CN : Hid (∀ W, Calls prog 51 #[.string (bs a)] W fun e w' => e = .returned (.bool (Yl a)) ∧ w' = W) := H_ (fun W => Vp a (by omega) W)
 have CL : Hid (∀ W, Below w.heap.size w W → Calls prog 53 #[v1, v2, .string (bs a)] W fun e w' => e = .returned (.string (bs (((Yu env a).map Tr.text).getD []))) ∧ w' = W) := H_ (fun W hW => by
  have h := l3Look_c v1 v2 _ _ a W (h1.below hW) (h2.below hW) (by rw [Z00, Z46]) (by rw [Z00]; exact hlen)
  rw [Z00, lookK_env] at h
  exact h)
 obtain ⟨p1, c1, rfl, -, -⟩ := h1
 obtain ⟨p2, c2, rfl, -, -⟩ := h2
 simp only [Yg, Qs] at hx
 cases hn : Qx a with
 | some n =>
   simp only [hn, Option.some.injEq] at hx
   subst hx
   have hf : Yl a = false := numOf_notNm hn
   rw [hf] at CN
   have HR := H_ (show bs (tyS (tyR env (.num n))) = ⟨#[105]⟩ from rfl)
   rw [HR.out]
   clear CL hn hf HR
   generalize bs a = A at *
   go_enter func23, ntmps23
   go_wp2_with (go_at_call 51; go_must (refine (CN.out _).mono ?_; rintro e w1 ⟨rfl, rfl⟩))
   go_ret
   exact ⟨rfl, Z4 _ _⟩
 | none =>
   simp only [hn] at hx
   split at hx
   · rename_i hm
     simp only [Option.some.injEq] at hx
     subst hx
     rw [hm] at CN
     rw [show tyS (tyR env (.name a)) = ((Yu env a).map Tr.text).getD [] from Z2d _ _]
     generalize ((Yu env a).map Tr.text).getD [] = RR at *
     clear hn hm
     generalize bs a = A at *
     generalize bs RR = R2 at *
     go_enter func23, ntmps23
     go_wp2_with (first | (go_at_call 51; go_must (refine (CN.out _).mono ?_; rintro e w1 ⟨rfl, rfl⟩)) | (go_at_call 53; go_must (refine (CL.out _ (Z4 _ _)).mono ?_; rintro e w2 ⟨rfl, rfl⟩)))
     go_ret
     exact ⟨rfl, Z4 _ _⟩
   · cases hx
theorem Z72 : ∀ (ts : List Tr) (es : List Ex), Yh ts = some es → es.length = ts.length
 | [], es, h => by simp only [Yh, Option.some.injEq] at h; subst h; rfl
 | t :: ts, es, h => by
   simp only [Yh] at h
   split at h
   · cases h
   · split at h
     · cases h
     · rename_i es' h2
       simp only [Option.some.injEq] at h
       subst h
       simp [Z72 ts es' h2]
theorem l3Type_ord (n : Nat) (ih : TyS n) (h : Tr) (ps : List Tr) (es : List Ex) (x : Ex) (env : List (Nm × Tr)) (v1 v2 : Value) (r off cap L : Nat) (xs : List Value) (ok : Nat → Prop) (w : World) (hd : (Tr.list (h :: ps)).depth < n + 1) (hwf : wfs (h :: ps)) (hby : Zq (h :: ps) ≤ 12000) (hnl : ¬ Z0 h = Qr) (hnf : ¬ Z0 h = Qh) (hes : Yh ps = some es) (hmk : Yi (Z0 h) es = some x) (hty : Kf x)
 (henv : Qu env) (hlen : env.length + 2 * (Tr.list (h :: ps)).depth ≤ 100000) (h1 : Zo w v1 (Z06 env)) (h2s : Zo w v2 (Z05 env))
 (h2 : ok r) (h4 : cap ≤ maxLen) (hL : L = (h :: ps).length) (h3 : L ≤ cap) (h5 : Yc w r off xs) (h6 : FVs nS w ok (h :: ps) xs) (hok : ∀ k, ok k → k < w.heap.size) :
 Calls prog 23 #[.agg #[.string (bs []), .slice (some ⟨r, off, none⟩) L cap], v1, v2] w fun e w' => e = .returned (.string (bs (tyS (tyR env x)))) ∧ Below w.heap.size w w' := by
 have hrlt := hok r h2
 have hemp := Ju
 have hm := Zx h4
 have e0 : w.cell? ⟨r, off, none⟩ = some (.string (bs (Z0 h))) := by
  obtain ⟨p, m, c, _, q, _⟩ := Z32 h6 h5 0 (by simp)
  simpa using q
 have hel := Z72 ps es hes
 obtain ⟨gs, hgs⟩ : ∃ gs, gs = es.map (fun e => tyS (tyR env e)) := ⟨_, rfl⟩
 have hgl : gs.length + 1 = L := by rw [hgs, hL]; simp [hel]
 have hps : ps.length ≤ 12000 := by
  have := Xq (h :: ps)
  simp at this; omega
 have hL0 : 1 ≤ L := by rw [hL]; simp
 have hLs : L ≤ 20000 := by rw [hL]; simp; omega
 have HK : Hid (∀ (wr : World), Below w.heap.size w wr → ∀ k j, k = j + 1 → (hj : j < gs.length) → ∃ at0 p pn pc, wr.cell? ⟨r, off + k * 2, none⟩ = some (.string at0) ∧ wr.cell? ⟨r, off + k * 2 + 1, none⟩ = some (.slice p pn pc) ∧
  ∀ W, Below w.heap.size w W → Calls prog 23 #[.agg #[.string at0, .slice p pn pc], v1, v2] W fun e w' => e = .returned (.string (bs gs[j])) ∧ Below W.heap.size W w') := H_ (fun wr hb k j hk hj => by
  subst hk
  have hjp : j < ps.length := by rw [← hel]; simpa [hgs] using hj
  have hje : j < es.length := by rw [hel]; exact hjp
  obtain ⟨cs, g1, g2⟩ := FVs.get Qp h6 h5 (j + 1) (by simp; omega)
  obtain ⟨p, pn, pc, rfl⟩ := g1.node
  simp only [List.getElem_cons_succ] at g1 g2
  have hbd : j + 1 < (h :: ps).length := by simp; omega
  have hdl := Xa hbd
  have hbl := Xb hbd
  have hwg := Xu hwf hbd
  simp only [List.getElem_cons_succ] at hdl hbl hwg
  simp only [Tr.bytes] at hbl
  refine ⟨bs (Z0 ps[j]), p, pn, pc, (hb.cell (p := ⟨r, off + (j + 1) * 2, none⟩) hrlt).trans (g2 0 _ rfl), (hb.cell (p := ⟨r, off + (j + 1) * 2 + 1, none⟩) hrlt).trans (g2 1 _ rfl), fun W hW => ?_⟩
  have hq := ih ps[j] es[j] env (nS ps[j] (.slice p pn pc)) v1 v2 ok W (by omega) hwg (by omega) (Z3f ps es hes j hjp hje) henv (by omega) (h1.below hW) (h2s.below hW) (g1.below hW hok) (Xw hok hW)
  have hge : gs[j] = tyS (tyR env es[j]) := by simp [hgs]
  rw [hge]
  exact hq)
 have CJ : Hid (∀ W v, Zo W v gs → Calls prog 56 #[.string (bs (Z0 h)), v] W fun e w' => e = .returned (.string (bs (tyS (tyR env x)))) ∧ Below W.heap.size W w') := H_ (fun W v hv => joinR_c (Z0 h) es x env v W hmk henv hty (hgs ▸ hv))
 obtain ⟨p1, c1, rfl, -, -⟩ := h1
 obtain ⟨p2, c2, rfl, -, -⟩ := h2s
 have hl1 : ((bs (Z0 h)).toList == [108, 101, 116]) = false := by rw [Z8]; simpa [Qr] using hnl
 have hl2 : ¬ (bs (Z0 h)).toList = [108, 101, 116] := by rw [Z8]; exact hnl
 have hl3 : ((bs (Z0 h)).toList == [102, 117, 110]) = false := by rw [Z8]; simpa [Qh] using hnf
 have hl4 : ¬ (bs (Z0 h)).toList = [102, 117, 110] := by rw [Z8]; exact hnf
 generalize bs (tyS (tyR env x)) = RR at *
 generalize bs (Z0 h) = sx at *
 obtain ⟨i0, hi0, hz0, hz1, hz2⟩ := info_parts Tryz.infoStr
 have HGL := H_ hgl
 have HD0 := H_ e0
 clear hes hmk hty henv hlen ih hwf hby hd h5 h6 hel hgs hnl hnf hL hps
 go_enter func23, ntmps23
 go_wp2_with fail
 go_loopw [12, 13] (fun v i wr => ∃ k j : Nat, Hid (k = j + 1) ∧ k ≤ L ∧ i = .int .i64 k ∧ Hid (wr.ownsRow (w.heap.size + 1) 9 1 v j ((gs.take j).map Ye)) ∧ Hid (Below (w.heap.size + 1) (w.alloc (.cells #[.string (bs []), .slice (some ⟨r, off, none⟩) L cap] 55)) wr)) (fun _ i _ => L - (intOf i).toNat)
 case atStart => exact ⟨1, 0, H_ rfl, hL0, rfl, H_ (by simpa using World.ownsRow_made (w.alloc (.cells #[.string (bs []), .slice (some ⟨r, off, none⟩) L cap] 55)) #[] 0 (base := w.heap.size + 1) (e := 9) (size := 1) (by simp) (by decide) rfl), H_ ((Below.refl _ _).alloc (by simp) _)⟩
 case round =>
  obtain ⟨k, j, hkj, hk, rfl, ho, hb⟩ := hrel
  obtain ⟨vp, vc, rfl⟩ := Zv ho.out
  have x0 := Z1 hb.out (by omega) (heap_alloc_new w (.cells #[.string (bs []), .slice (some ⟨r, off, none⟩) L cap] 55))
  obtain ⟨y0, y1⟩ := Zp x0
  have hbw : Below w.heap.size w wr := (Z4 w _).trans (hb.out.mono (by omega))
  have hbs := hb.out.size
  by_cases hlt : k < L
  · have hjl : j < gs.length := by have := HGL.out; have := hkj.out; omega
    obtain ⟨at0, p, pn, pc, e1, e2, HC⟩ := HK.out wr hbw k j hkj.out hjl
    have CT := H_ (HC wr hbw)
    have HX : Hid ((gs.take (j + 1)).map Ye = (gs.take j).map Ye ++ [Ye gs[j]]) := H_ (by rw [List.take_succ_eq_append_getElem hjl, List.map_append]; rfl)
    clear HC x0 hbw
    go_wp2_with (first | (go_at_call 23; go_must (refine CT.out.mono ?_; rintro e w2 ⟨rfl, hb2⟩)) | (at_builtin; go_must (refine Zl _ rfl _ _ 23 rfl (w.heap.size + 1) 9 i0 (.string ⟨#[]⟩) 1 16 underlying23 hi0 hz0 hz1 hz2 rfl (by decide) _ _ _ rfl ((Y9 ho.out hb2).alloc _) ⟨w2.heap.size, 0, none⟩ [.string (bs gs[j])] rfl rfl (Xg (heap_alloc_new _ _)) (by intro u hu; simp at hu; subst hu; rfl) (by unfold maxLen; omega) (by omega) (by have := hb2.size; simp at hbs ⊢; omega) ?_; intro g' c' w3 hown' hgrow hgg)))
    go_roundw
    case rel =>
     refine ⟨k + 1, j + 1, H_ (by have := hkj.out; omega), by omega, by go_num, H_ (by rw [HX.out]; exact hown'), H_ ?_⟩
     exact ((hb.out.trans (hb2.mono (by simp at hbs; omega))).alloc (by have := hb2.size; simp at hbs; omega) _).grown hgrow (by have := hb2.size; simp at hbs ⊢; omega) (fun q hq => (ho.out.lt q hq).1)
    case measure => simp [intOf]; omega
  · have hjl : j = gs.length := by have := HGL.out; have := hkj.out; omega
    subst hjl
    have hv : Zo wr (.slice vp gs.length vc) gs := by
     have := ho.out
     rw [List.take_length] at this
     exact Xe this (by omega)
    have ex : wr.cell? ⟨r, off, none⟩ = some (.string sx) := (hbw.cell (p := ⟨r, off, none⟩) hrlt).trans HD0.out
    have CC := H_ (CJ.out wr _ hv)
    clear x0 CJ HK
    go_wp2_with (go_at_call 56; go_must (refine CC.out.mono ?_; rintro e w2 ⟨rfl, hb2⟩))
    go_ret
    exact ⟨rfl, hbw.trans (hb2.mono hbw.size)⟩
end Go.Proofs.YtmgepnacjgbfhaaGreatDoor
