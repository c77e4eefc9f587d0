/- The program tells what a package of code needs. -/
import Derived.Test.YtaoicbmepliklaaTgf
import Derived.Deep.QuietTactic
namespace Go.Proofs.Ytaoicbmepliklaa
open Go.RowKit
set_option maxRecDepth 8000
set_option linter.unusedSimpArgs false
set_option linter.unusedVariables false
/-- What packedNeeds hands back. -/
def PnPost (ok : Nat → Prop) (o : Option (List Tr)) (e : Ending) (w' : World) : Prop :=
  match o with
  | none => ∃ p n c, e = .returned (.tuple #[.slice p n c, .bool false]) ∧ n ≤ maxLen
  | some ns => ∃ r off c xs, e = .returned (.tuple #[.slice (some ⟨r, off, none⟩) ns.length c, .bool true]) ∧ ok r ∧ ns.length ≤ c ∧ c ≤ maxLen ∧ hasRow w' r off xs ∧ FVs nI w' ok ns xs
/-- The parts of the code of a package. -/
def pkCode (f : Tr) : Option Tr := (second f).bind second
theorem pkNeeds_code {f : Tr} {ns : List Tr} (h : pkNeeds f = some ns) : pkCode f = some (codeT ns) := by rw [pkNeeds_some h]; rfl
theorem pkNeeds_no {f : Tr} (h : ∀ ts, pkCode f = some (.list ts) → ts.length < 2) : pkNeeds f = none := by
  cases hp : pkNeeds f with
  | none => rfl
  | some ns =>
    have := h _ (pkNeeds_code hp)
    simp at this; omega
theorem pkNeeds_not {f : Tr} {a b : Tr} {ns : List Tr} (h : pkCode f = some (.list (a :: b :: ns))) (hn : ¬ pk ns = f) : pkNeeds f = none := by
  cases hp : pkNeeds f with
  | none => rfl
  | some ms =>
    have h1 := pkNeeds_code hp
    rw [h] at h1
    simp only [codeT, Option.some.injEq, Tr.list.injEq, List.cons.injEq] at h1
    rw [h1.2.2] at hn
    exact absurd (pkNeeds_some hp).symm hn
set_option maxHeartbeats 4000000 in
theorem packedNeeds_short (f : Tr) (p : Option Addr) (n c : Nat) (ok : Nat → Prop) (w : World) (hv : FV nI w ok f (nI f (.slice p n c))) (hok : ∀ k, ok k → k < w.heap.size) (hsh : ∀ ts, pkCode f = some (.list ts) → ts.length < 2) :
    Calls Try.prog 72 #[.agg #[.string (bs (atomOf f)), .slice p n c, .int .i64 f.bytes, .int .i64 f.size, .int .i64 f.depth]] w fun e w' => e = .returned (.tuple #[.slice none 0 0, .bool false]) ∧ Below w.heap.size w w' := by
  have C1 : Hid (∀ W, Below w.heap.size w W → Calls Try.prog 94 #[.agg #[.string (bs (atomOf f)), .slice p n c, .int .i64 f.bytes, .int .i64 f.size, .int .i64 f.depth], .int .i64 1] W fun e w' => PPost ok (second f) e w' ∧ Below W.heap.size W w') :=
    Lib.hid (fun W hW => part_c (some f) _ p n c _ _ _ ok W ⟨rfl, rfl, rfl, rfl, hv.below hW hok⟩ (fun k hk => Nat.lt_of_lt_of_le (hok k hk) hW.size))
  have C2 : Hid (∀ (W : World) u p n c x y z, (∀ k, ok k → k < W.heap.size) → PVal W ok (second f) u p n c x y z → Calls Try.prog 94 #[.agg #[.string u, .slice p n c, .int .i64 x, .int .i64 y, .int .i64 z], .int .i64 1] W fun e w' => (∃ u p n c x y z, e = .returned (.agg #[.string u, .slice p n c, .int .i64 x, .int .i64 y, .int .i64 z]) ∧ n < 2) ∧ Below W.heap.size W w') :=
    Lib.hid (fun W u p n c x y z hk hp => (part_c (second f) u p n c x y z ok W hp hk).mono fun e w' ⟨⟨u, p, n, c, x, y, z, k1, k2⟩, k3⟩ => ⟨⟨u, p, n, c, x, y, z, k1, by
      cases hc : (second f).bind second with
      | none => rw [hc] at k2; rw [k2.2.2.1]; omega
      | some t =>
        rw [hc] at k2
        obtain ⟨-, -, -, -, k4⟩ := k2
        match t, k4, hc with
        | .atom a, k4, _ =>
          simp only [FV] at k4
          have hh := nI_inj _ _ _ k4
          simp only [Value.slice.injEq] at hh
          omega
        | .list ts, k4, hc =>
          obtain ⟨r, off, cap, xs, hh, -⟩ := k4.list_cells
          have hh := nI_inj _ _ _ hh
          simp only [Value.slice.injEq] at hh
          have := hsh ts hc
          omega⟩, k3⟩)
  have HOK := Lib.hid hok
  clear hv hok hsh
  generalize bs (atomOf f) = A at *
  obtain ⟨n1, hn1⟩ : ∃ x : Int, x = f.bytes := ⟨_, rfl⟩
  obtain ⟨n2, hn2⟩ : ∃ x : Int, x = f.size := ⟨_, rfl⟩
  obtain ⟨n3, hn3⟩ : ∃ x : Int, x = f.depth := ⟨_, rfl⟩
  rw [← hn1, ← hn2, ← hn3] at C1 ⊢
  clear hn1 hn2 hn3
  go_enter Try.func72, Try.ntmps72
  go_wp2_with (go_at_call 94; first | ((with_reducible refine (C1.out _ (below1 w _)).mono ?_); rintro e w1 ⟨⟨u1, p1, m1, c1, x1, y1, z1, rfl, hp1⟩, hb1⟩; have hB1 := (below1 w _).trans (hb1.mono (by simp))) | ((with_reducible refine (C2.out _ _ _ _ _ _ _ _ (fun k hk => Nat.lt_of_lt_of_le (HOK.out k hk) hB1.size) hp1).mono ?_); rintro e w2 ⟨⟨u2, p2, m2, c2, x2, y2, z2, rfl, hm2⟩, hb2⟩; have hB2 := hB1.trans (hb2.mono hB1.size); have hd2 : decide ((m2 : Int) < 2) = true := (by simp; omega); have hd3 : (m2 : Int) < 2 := (by omega)))
  go_ret2
  exact ⟨rfl, hB2.alloc hB2.size _⟩
theorem drop2 {w : World} {ok : Nat → Prop} {a b : Tr} {ns : List Tr} {xs : List Value} {r off : Nat} (h6 : FVs nI w ok (a :: b :: ns) xs) (h5 : hasRow w r off xs) : ∃ ys, FVs nI w ok ns ys ∧ hasRow w r (off + 10) ys := by
  simp only [FVs] at h6
  obtain ⟨x, y, rfl, k2, z, t, rfl, k3, k4⟩ := h6
  have hx : x.length = 5 := by obtain ⟨p, n, c, rfl⟩ := k2.node; rfl
  have hz : z.length = 5 := by obtain ⟨p, n, c, rfl⟩ := k3.node; rfl
  refine ⟨t, k4, fun j v hj => ?_⟩
  have := h5 (10 + j) v (by rw [List.getElem?_append_right (by omega), hx, List.getElem?_append_right (by omega), hz, show 10 + j - 5 - 5 = j from by omega]; exact hj)
  rw [show off + 10 + j = off + (10 + j) from by omega]; exact this
set_option maxHeartbeats 8000000 in
theorem packedNeeds_long (f : Tr) (hwf : f.wf) (hbt : f.bytes ≤ 12000) (p : Option Addr) (n c : Nat) (ok : Nat → Prop) (w : World) (hv : FV nI w ok f (nI f (.slice p n c))) (hok : ∀ k, ok k → k < w.heap.size) (a b g : Tr) (ns : List Tr) (h1 : second f = some g) (h2 : second g = some (.list (a :: b :: ns))) (hwn : wfs ns) (hbn : bytess ns ≤ 12000) :
    Calls Try.prog 72 #[.agg #[.string (bs (atomOf f)), .slice p n c, .int .i64 f.bytes, .int .i64 f.size, .int .i64 f.depth]] w fun e w' => PnPost ok (pkNeeds f) e w' ∧ Below w.heap.size w w' := by
  obtain ⟨u, hu⟩ : ∃ u, u = bs (atomOf (pk ns)) := ⟨_, rfl⟩
  obtain ⟨t1, ht1⟩ : ∃ x : Int, x = (pk ns).bytes := ⟨_, rfl⟩
  obtain ⟨t2, ht2⟩ : ∃ x : Int, x = (pk ns).size := ⟨_, rfl⟩
  obtain ⟨t3, ht3⟩ : ∃ x : Int, x = (pk ns).depth := ⟨_, rfl⟩
  obtain ⟨A, hA⟩ : ∃ A, A = bs (atomOf f) := ⟨_, rfl⟩
  obtain ⟨n1, hn1⟩ : ∃ x : Int, x = f.bytes := ⟨_, rfl⟩
  obtain ⟨n2, hn2⟩ : ∃ x : Int, x = f.size := ⟨_, rfl⟩
  obtain ⟨n3, hn3⟩ : ∃ x : Int, x = f.depth := ⟨_, rfl⟩
  have C1 : Hid (∀ W, Below w.heap.size w W → Calls Try.prog 94 #[.agg #[.string A, .slice p n c, .int .i64 n1, .int .i64 n2, .int .i64 n3], .int .i64 1] W fun e w' => PPost ok (some g) e w' ∧ Below W.heap.size W w') :=
    Lib.hid (fun W hW => by
      rw [← h1, hA, hn1, hn2, hn3]
      exact part_c (some f) _ p n c _ _ _ ok W ⟨rfl, rfl, rfl, rfl, hv.below hW hok⟩ (fun k hk => Nat.lt_of_lt_of_le (hok k hk) hW.size))
  have C2 : Hid (∀ (W : World) u p n c x y z, (∀ k, ok k → k < W.heap.size) → PVal W ok (some g) u p n c x y z → Calls Try.prog 94 #[.agg #[.string u, .slice p n c, .int .i64 x, .int .i64 y, .int .i64 z], .int .i64 1] W fun e w' => (∃ u r off c x y z ys, e = .returned (.agg #[.string u, .slice (some ⟨r, off, none⟩) (ns.length + 1 + 1) c, .int .i64 x, .int .i64 y, .int .i64 z]) ∧ ok r ∧ ns.length + 1 + 1 ≤ c ∧ c ≤ maxLen ∧ FVs nI w' ok ns ys ∧ hasRow w' r (off + 10) ys) ∧ Below W.heap.size W w') :=
    Lib.hid (fun W u p n c x y z hk hp => (part_c (some g) u p n c x y z ok W hp hk).mono fun e w' ⟨⟨u, p, n, c, x, y, z, k1, k2⟩, k3⟩ => ⟨by
      rw [show (some g).bind second = second g from rfl, h2] at k2
      obtain ⟨-, -, -, -, k4⟩ := k2
      obtain ⟨r, off, cap, xs, hh, g2, g3, g4, g5, g6⟩ := k4.list_cells
      have hh := nI_inj _ _ _ hh
      simp only [Value.slice.injEq] at hh
      obtain ⟨rfl, rfl, rfl⟩ := hh
      obtain ⟨ys, i1, i2⟩ := drop2 g6 g5
      exact ⟨u, r, off, c, x, y, z, ys, k1, g2, g3, g4, i1, i2⟩, k3⟩)
  have CP : Hid (∀ (W : World) (r off cap : Nat) (ys : List Value), (∀ k, ok k → k < W.heap.size) → FVs nI W ok ns ys → hasRow W r off ys → r < W.heap.size → Calls Try.prog 62 #[.slice (some ⟨r, off, none⟩) ns.length cap] W fun e w' => MadeU (fun k => k < w'.heap.size) (pk ns) u t1 t2 t3 e w' ∧ Below W.heap.size W w') :=
    Lib.hid (fun W r off cap ys k0 k1 k2 k3 => (packedCode_c ns ys ok r off cap W k1 k2 k0 k3 hwn (by omega)).mono fun e w' ⟨j1, j2⟩ => ⟨madeU_of j1 hu ht1 ht2 ht3 (fun k hk => hk.elim (fun h => Nat.lt_of_lt_of_le (k0 k h) j2.size) (fun h => h.2)), j2⟩)
  have CE : Hid (∀ (W : World) (q : Option Addr) (m k : Nat), Below w.heap.size w W → FV nI W (fun k => k < W.heap.size) (pk ns) [.string u, .slice q m k, .int .i64 t1, .int .i64 t2, .int .i64 t3] → Calls Try.prog 95 #[.agg #[.string u, .slice q m k, .int .i64 t1, .int .i64 t2, .int .i64 t3], .agg #[.string A, .slice p n c, .int .i64 n1, .int .i64 n2, .int .i64 n3]] W fun e w' => EqPostT (pk ns = f) e ∧ Below W.heap.size W w') :=
    Lib.hid (fun W q m k hW k1 => by
      rw [hu, ht1, ht2, ht3] at k1 ⊢
      rw [hA, hn1, hn2, hn3]
      exact equalsT_c ((pk ns).depth + 1) (pk ns) f q p m k n c W (by omega) (pk_wf hwn) hwf k1 ((hv.below hW hok).wide (fun j hj => Nat.lt_of_lt_of_le (hok j hj) hW.size)))
  have HK : Hid (∀ (z : Bool), (z = true ↔ pk ns = f) → ∀ (W : World) (r off c : Nat) (ys : List Value), ok r → ns.length ≤ c → c ≤ maxLen → hasRow W r off ys → FVs nI W ok ns ys → PnPost ok (pkNeeds f) (.returned (.tuple #[.slice (some ⟨r, off, none⟩) ns.length c, .bool z])) W) := Lib.hid (fun z hz W r off c ys k1 k2 k3 k4 k5 => by
    have hcode : pkCode f = some (.list (a :: b :: ns)) := by rw [pkCode, h1]; exact h2
    cases z with
    | true =>
      have hf := hz.1 rfl
      have hpn : pkNeeds f = some ns := by rw [← hf, pkNeeds_pk]
      rw [hpn]
      exact ⟨r, off, c, ys, rfl, k1, k2, k3, k4, k5⟩
    | false =>
      rw [pkNeeds_not hcode (fun h => by have := hz.2 h; cases this)]
      exact ⟨_, _, _, rfl, Nat.le_trans k2 k3⟩)
  have HOK := Lib.hid hok
  rw [← hA, ← hn1, ← hn2, ← hn3]
  generalize pkNeeds f = PN at *
  generalize (pk ns = f) = EQ at *
  clear hv hok hwf hbt hu ht1 ht2 ht3 hA hn1 hn2 hn3 h1 h2 hwn hbn
  go_enter Try.func72, Try.ntmps72
  go_wp2_with (go_at_call 94; first | ((with_reducible refine (C1.out _ (below1 w _)).mono ?_); rintro e w1 ⟨⟨u1, p1, m1, c1, x1, y1, z1, rfl, hp1⟩, hb1⟩; have hB1 := (below1 w _).trans (hb1.mono (by simp)); have x0 := below_blk hb1 (by simp) (heap_alloc_new w _)) | ((with_reducible refine (C2.out _ _ _ _ _ _ _ _ (fun k hk => Nat.lt_of_lt_of_le (HOK.out k hk) hB1.size) hp1).mono ?_); rintro e w2 ⟨⟨u2, r2, off2, c2, x2, y2, z2, ys, rfl, hor, hc2, hc3, hfn, hrw⟩, hb2⟩; have hB2 := hB1.trans (hb2.mono hB1.size); have hd2 : decide (((ns.length + 1 + 1 : Nat) : Int) < 2) = false := (by simp; omega); have hd3 : ¬ ((ns.length + 1 + 1 : Nat) : Int) < 2 := (by omega); have hc4 := maxLen_le hc3; have hrl2 := HOK.out _ hor; have x2' := below_blk hb2 (lt_of_block x0) x0))
  case inl h =>
    have hrow3 : hasRow w2 r2 (off2) ys := by
      have h0 : ns = [] := List.eq_nil_of_length_eq_zero (by omega)
      subst h0
      simp only [FVs] at hfn
      subst hfn
      intro j v hj
      simp at hj
    have hBa := hB2.alloc hB2.size (.cells #[.string u2, .slice (some ⟨r2, off2, none⟩) (ns.length + 1 + 1) 2, .int .i64 x2, .int .i64 y2, .int .i64 z2] 41)
    have xa := blk_alloc (o' := .cells #[.string u2, .slice (some ⟨r2, off2, none⟩) (ns.length + 1 + 1) 2, .int .i64 x2, .int .i64 y2, .int .i64 z2] 41) x2'
    have hra : hasRow (w2.alloc (.cells #[.string u2, .slice (some ⟨r2, off2, none⟩) (ns.length + 1 + 1) 2, .int .i64 x2, .int .i64 y2, .int .i64 z2] 41)) r2 (off2) ys := hrow3.move (heap_alloc_old _ _ (by have := hB2.size; omega))
    have hfa : FVs nI (w2.alloc (.cells #[.string u2, .slice (some ⟨r2, off2, none⟩) (ns.length + 1 + 1) 2, .int .i64 x2, .int .i64 y2, .int .i64 z2] 41)) ok ns ys := FVs.move (fun k hk => hk) (fun k hk => heap_alloc_old _ _ (by have := HOK.out k hk; have := hB2.size; omega)) _ _ hfn
    generalize hwx : w2.alloc (.cells #[.string u2, .slice (some ⟨r2, off2, none⟩) (ns.length + 1 + 1) 2, .int .i64 x2, .int .i64 y2, .int .i64 z2] 41) = wa at *
    have hsw := hBa.size
    have KA : Hid (∀ W, Below wa.heap.size wa W → W.cell? ⟨w.heap.size, 0, none⟩ = some (.string A) ∧ W.cell? ⟨w.heap.size, 1, none⟩ = some (.slice p n c) ∧ W.cell? ⟨w.heap.size, 2, none⟩ = some (.int .i64 n1) ∧ W.cell? ⟨w.heap.size, 3, none⟩ = some (.int .i64 n2) ∧ W.cell? ⟨w.heap.size, 4, none⟩ = some (.int .i64 n3)) := Lib.hid (fun W hW => by
      have h1 := below_blk hW (lt_of_block xa) xa
      exact ⟨cell_of (j := 0) h1, cell_of (j := 1) h1, cell_of (j := 2) h1, cell_of (j := 3) h1, cell_of (j := 4) h1⟩)
    have KP : Hid (∀ W, Below wa.heap.size wa W → (∀ k, ok k → k < W.heap.size) ∧ FVs nI W ok ns ys ∧ hasRow W r2 (off2) ys ∧ r2 < W.heap.size) := Lib.hid (fun W hW => by
      have hs := hW.size
      exact ⟨fun k hk => by have := HOK.out k hk; omega, hfa.below hW (fun k hk => by have := HOK.out k hk; omega), hra.move (hW.block r2 (by omega)), by omega⟩)
    have HBA := Lib.hid hBa
    have hR0 := Below.refl wa.heap.size wa
    have hR1 := hR0.drew
    obtain ⟨ix0, ix1, ix2, ix3, ix4⟩ := KA.out _ hR0
    clear xa hra hfa hwx hBa hrow3 hrw hfn x2' hB1 hp1 x0
    first | (go_region_with (first | (go_at_call 62; ((with_reducible refine (CP.out _ _ _ _ ys ?_ ?_ ?_ ?_).mono ?_); (· exact (KP.out _ (by assumption)).1); (· exact (KP.out _ (by assumption)).2.1); (· exact (KP.out _ (by assumption)).2.2.1); (· exact (KP.out _ (by assumption)).2.2.2); rintro e w3 ⟨⟨q3, m3, k3, rfl, hf3⟩, hb3⟩; have hBw3 := Below.trans (by assumption : Below wa.heap.size wa _) (hb3.mono (Below.size (by assumption))); have hR3 := hBw3.drew; obtain ⟨jx0, jx1, jx2, jx3, jx4⟩ := KA.out _ hBw3)) | (go_at_call 95; ((with_reducible refine (CE.out _ _ _ _ ?_ ?_).mono ?_); (· exact HBA.out.trans (Below.mono (by assumption) hsw)); (· exact hf3); rintro e w4 ⟨⟨z4, rfl, hz4⟩, hb4⟩; have hBw4 := Below.trans (by assumption : Below wa.heap.size wa _) (hb4.mono (Below.size (by assumption))))) | fail)) | fail
    all_goals
      go_wp2_with fail
      go_ret2
      refine ⟨HK.out z4 hz4 _ r2 (off2) 0 ys hor (by omega) (by omega) ?_ ?_, ?_⟩
      · exact (KP.out _ hBw4).2.2.1
      · exact (KP.out _ hBw4).2.1
      · exact HBA.out.trans (hBw4.mono hsw)
  case inr h =>
    have hrow3 : hasRow w2 r2 (off2 + 10) ys := hrw
    have hBa := hB2.alloc hB2.size (.cells #[.string u2, .slice (some ⟨r2, off2, none⟩) (ns.length + 1 + 1) c2, .int .i64 x2, .int .i64 y2, .int .i64 z2] 41)
    have xa := blk_alloc (o' := .cells #[.string u2, .slice (some ⟨r2, off2, none⟩) (ns.length + 1 + 1) c2, .int .i64 x2, .int .i64 y2, .int .i64 z2] 41) x2'
    have hra : hasRow (w2.alloc (.cells #[.string u2, .slice (some ⟨r2, off2, none⟩) (ns.length + 1 + 1) c2, .int .i64 x2, .int .i64 y2, .int .i64 z2] 41)) r2 (off2 + 10) ys := hrow3.move (heap_alloc_old _ _ (by have := hB2.size; omega))
    have hfa : FVs nI (w2.alloc (.cells #[.string u2, .slice (some ⟨r2, off2, none⟩) (ns.length + 1 + 1) c2, .int .i64 x2, .int .i64 y2, .int .i64 z2] 41)) ok ns ys := FVs.move (fun k hk => hk) (fun k hk => heap_alloc_old _ _ (by have := HOK.out k hk; have := hB2.size; omega)) _ _ hfn
    generalize hwx : w2.alloc (.cells #[.string u2, .slice (some ⟨r2, off2, none⟩) (ns.length + 1 + 1) c2, .int .i64 x2, .int .i64 y2, .int .i64 z2] 41) = wa at *
    have hsw := hBa.size
    have KA : Hid (∀ W, Below wa.heap.size wa W → W.cell? ⟨w.heap.size, 0, none⟩ = some (.string A) ∧ W.cell? ⟨w.heap.size, 1, none⟩ = some (.slice p n c) ∧ W.cell? ⟨w.heap.size, 2, none⟩ = some (.int .i64 n1) ∧ W.cell? ⟨w.heap.size, 3, none⟩ = some (.int .i64 n2) ∧ W.cell? ⟨w.heap.size, 4, none⟩ = some (.int .i64 n3)) := Lib.hid (fun W hW => by
      have h1 := below_blk hW (lt_of_block xa) xa
      exact ⟨cell_of (j := 0) h1, cell_of (j := 1) h1, cell_of (j := 2) h1, cell_of (j := 3) h1, cell_of (j := 4) h1⟩)
    have KP : Hid (∀ W, Below wa.heap.size wa W → (∀ k, ok k → k < W.heap.size) ∧ FVs nI W ok ns ys ∧ hasRow W r2 (off2 + 10) ys ∧ r2 < W.heap.size) := Lib.hid (fun W hW => by
      have hs := hW.size
      exact ⟨fun k hk => by have := HOK.out k hk; omega, hfa.below hW (fun k hk => by have := HOK.out k hk; omega), hra.move (hW.block r2 (by omega)), by omega⟩)
    have HBA := Lib.hid hBa
    have hR0 := Below.refl wa.heap.size wa
    have hR1 := hR0.drew
    obtain ⟨ix0, ix1, ix2, ix3, ix4⟩ := KA.out _ hR0
    clear xa hra hfa hwx hBa hrow3 hrw hfn x2' hB1 hp1 x0
    first | (go_region_with (first | (go_at_call 62; ((with_reducible refine (CP.out _ _ _ _ ys ?_ ?_ ?_ ?_).mono ?_); (· exact (KP.out _ (by assumption)).1); (· exact (KP.out _ (by assumption)).2.1); (· exact (KP.out _ (by assumption)).2.2.1); (· exact (KP.out _ (by assumption)).2.2.2); rintro e w3 ⟨⟨q3, m3, k3, rfl, hf3⟩, hb3⟩; have hBw3 := Below.trans (by assumption : Below wa.heap.size wa _) (hb3.mono (Below.size (by assumption))); have hR3 := hBw3.drew; obtain ⟨jx0, jx1, jx2, jx3, jx4⟩ := KA.out _ hBw3)) | (go_at_call 95; ((with_reducible refine (CE.out _ _ _ _ ?_ ?_).mono ?_); (· exact HBA.out.trans (Below.mono (by assumption) hsw)); (· exact hf3); rintro e w4 ⟨⟨z4, rfl, hz4⟩, hb4⟩; have hBw4 := Below.trans (by assumption : Below wa.heap.size wa _) (hb4.mono (Below.size (by assumption))))) | fail)) | fail
    all_goals
      go_wp2_with fail
      go_ret2
      refine ⟨HK.out z4 hz4 _ r2 (off2 + 10) (c2 - 2) ys hor (by omega) (by omega) ?_ ?_, ?_⟩
      · exact (KP.out _ hBw4).2.2.1
      · exact (KP.out _ hBw4).2.1
      · exact HBA.out.trans (hBw4.mono hsw)
end Go.Proofs.Ytaoicbmepliklaa
