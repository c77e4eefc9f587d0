/- The program: the type of an expression that binds names. The program: the type of a function. The program: the type of a function. -/
import Derived.Test.YtjncmmnbdabjnaaGreatDoorImpl3j
import Derived.Deep.RegionWith
import Derived.Deep.RegionHeld3
import Derived.Deep.DeepCutAuto
import Derived.BigRegion
namespace Go.Proofs.YtjncmmnbdabjnaaGreatDoor
open Go.RowKit
set_option maxRecDepth 8000
set_option linter.unusedSimpArgs false
set_option linter.unusedVariables false
theorem ty3_shape {w : World} {ok : Nat → Prop} {r : Except Ex Tr} {e : Ending} {w' : World} (h : Ty3 w ok r e w') : ∃ g p m c, ∃ i1 i2 i3 : Int, ∃ F, e = .returned (.tuple #[.agg #[.string g, .slice p m c, .int .i64 i1, .int .i64 i2, .int .i64 i3], F]) := by
  cases r with
  | error f => obtain ⟨T, u, h1, _⟩ := h; exact ⟨_, _, _, _, _, _, _, _, h1⟩
  | ok t => obtain ⟨p, m, c, h1, _⟩ := h; exact ⟨_, _, _, _, _, _, _, _, h1⟩
theorem ty3_fin {w wa W : World} {ok : Nat → Prop} {b : Nat} {r : Except Ex Tr} {e : Ending} (hok : ∀ k, ok k → k < w.heap.size) (h1 : w.heap.size ≤ b) (h2 : b < wa.heap.size) (h : Ty3 wa ok r e W) (v0 v1 v2 v3 v4 : Value) : Ty3 w ok r e (((((W.setCell ⟨b, 0, none⟩ v0).setCell ⟨b, 1, none⟩ v1).setCell ⟨b, 2, none⟩ v2).setCell ⟨b, 3, none⟩ v3).setCell ⟨b, 4, none⟩ v4) := by
  have hk : ∀ k, okN wa W ok k → okN w (((((W.setCell ⟨b, 0, none⟩ v0).setCell ⟨b, 1, none⟩ v1).setCell ⟨b, 2, none⟩ v2).setCell ⟨b, 3, none⟩ v3).setCell ⟨b, 4, none⟩ v4) ok k := fun k q => by
    rcases q with q | q
    · exact .inl q
    · exact .inr ⟨by omega, by simpa using q.2⟩
  have hn : ∀ k, okN wa W ok k → (((((W.setCell ⟨b, 0, none⟩ v0).setCell ⟨b, 1, none⟩ v1).setCell ⟨b, 2, none⟩ v2).setCell ⟨b, 3, none⟩ v3).setCell ⟨b, 4, none⟩ v4).heap[k]? = W.heap[k]? := fun k q => set5_other (by
    rcases q with q | q
    · have := hok k q; omega
    · omega) _ _ _ _ _
  cases r with
  | error f => obtain ⟨T, u, h1, h2⟩ := h; exact ⟨T, u, h1, h2.move hk hn⟩
  | ok t => obtain ⟨p, m, c, h1, h2⟩ := h; exact ⟨p, m, c, h1, FV.move hk hn _ _ h2⟩
theorem okN_lt {w W : World} {ok : Nat → Prop} (hok : ∀ k, ok k → k < w.heap.size) (h : w.heap.size ≤ W.heap.size) : ∀ k, okN w W ok k → k < W.heap.size := fun k q => by
  rcases q with q | q
  · have := hok k q; omega
  · exact q.2
theorem okN_step {w W w' : World} {ok : Nat → Prop} (h1 : w.heap.size ≤ W.heap.size) (h2 : W.heap.size ≤ w'.heap.size) : ∀ k, okN W w' (okN w W ok) k → okN w w' ok k := fun k q => by
  rcases q with (q | q) | q
  · exact .inl q
  · exact .inr ⟨q.1, by omega⟩
  · exact .inr ⟨by omega, q.2⟩
theorem fr_N {w W : World} {ok : Nat → Prop} {env : List (Nm × Tr)} {v : Value} (hok : ∀ k, ok k → k < w.heap.size) (h : FrO w ok env v) (hb : Below w.heap.size w W) : FrO W (okN w W ok) env v := h.move (fun k q => .inl q) (fun k q => hb.block k (hok k q))
theorem withN_c {w : World} {ok : Nat → Prop} (hok : ∀ k, ok k → k < w.heap.size) (env : List (Nm × Tr)) (n : Nm) (t : Tr) (v : Value) (p : Option Addr) (m c : Nat) (W : World) (hW : Below w.heap.size w W) (hv : FrO W (okN w W ok) env v) (hf : FV nI W (okN w W ok) t (nI t (.slice p m c))) :
    Calls Tryz.prog 72 #[v, .string (bs n), .agg #[.string (bs (atomOf t)), .slice p m c, .int .i64 t.bytes, .int .i64 t.size, .int .i64 t.depth]] W fun e w' => (∃ q, e = .returned (.pointer q) ∧ FrO w' (okN w w' ok) ((n, t) :: env) (.pointer q)) ∧ Below W.heap.size W w' :=
  (withO_c _ _ env n t v p m c W (okN_lt hok hW.size) hv hf (okN_lt hok hW.size)).mono fun e w' ⟨⟨q, h1, h2⟩, h3⟩ => ⟨⟨q, h1, h2.move (fun k hk => by
    have e1 := hW.size; have e2 := h3.size
    rcases hk with (hk | hk) | hk
    · rcases hk with hk | hk
      · exact .inl hk
      · exact .inr ⟨hk.1, by omega⟩
    · rcases hk with hk | hk
      · exact .inl hk
      · exact .inr ⟨hk.1, by omega⟩
    · exact .inr ⟨by omega, hk.2⟩) (fun _ _ => rfl)⟩, h3⟩
theorem ty3_base {w W w' : World} {ok : Nat → Prop} {r : Except Ex Tr} {e : Ending} (h1 : w.heap.size ≤ W.heap.size) (h2 : W.heap.size ≤ w'.heap.size) (h : Ty3 W (okN w W ok) r e w') : Ty3 w ok r e w' := by
  cases r with
  | error f => obtain ⟨T, u, q1, q2⟩ := h; exact ⟨T, u, q1, q2.move (okN_step h1 h2) (fun _ _ => rfl)⟩
  | ok t => obtain ⟨p, m, c, q1, q2⟩ := h; exact ⟨p, m, c, q1, FV.move (okN_step h1 h2) (fun _ _ => rfl) _ _ q2⟩
theorem tyN {x : Ex} (ih : TyC x) {w : World} {ok : Nat → Prop} (hok : ∀ k, ok k → k < w.heap.size) {env : List (Nm × Tr)} (henv : envOK env) (hty : tyEx x) {v : Value} (hv : EV w ok x v) (W : World) (q : Option Addr) (hW : Below w.heap.size w W) (hq : FrO W (okN w W ok) env (.pointer q)) :
    Calls Tryz.prog 47 #[.pointer q, v] W fun e w' => Ty3 w ok (tyR env x) e w' ∧ Below W.heap.size W w' :=
  (ih _ env q v W henv hty (okN_lt hok hW.size) hq (hv.move (fun k hk => .inl hk) (fun k hk => hW.block k (hok k hk)))).mono fun e w' ⟨h1, h2⟩ => ⟨ty3_base hW.size h2.size h1, h2⟩
set_option maxHeartbeats 8000000 in
theorem ty_let (s : Nm) (a c : Ex) (iha : TyC a) (ihc : TyC c) : TyC (.lete s a c) := by
  intro ok env pe v w henv hty hok hfr hv
  simp only [EV] at hv
  obtain ⟨x, y, rfl, hx, hy⟩ := hv
  obtain ⟨Tx, ux, rfl⟩ := hx.iface
  obtain ⟨Ty, uy, rfl⟩ := hy.iface
  obtain ⟨wa, hwa⟩ : ∃ wa, wa = (((w.alloc (.cells #[.string ⟨#[]⟩, .slice none 0 0, .int .i64 0, .int .i64 0, .int .i64 0] 50)).alloc (.cells #[.string ⟨#[]⟩, .slice none 0 0, .int .i64 0, .int .i64 0, .int .i64 0] 50)).alloc (.cells #[.string (bs s), .iface Tx ux, .iface Ty uy] 93)) := ⟨_, rfl⟩
  have hBa : Below w.heap.size w wa := by rw [hwa]; exact below3 w _ _ _
  have hsa : wa.heap.size = w.heap.size + 3 := by rw [hwa]; simp
  have hoka : ∀ k, ok k → k < wa.heap.size := fun k hk => by have := hok k hk; omega
  have hfa := hfr.below hBa hok
  have hxa := hx.below hBa hok
  have hya := hy.below hBa hok
  have y8 : wa.heap[w.heap.size + 2]? = some (.cells #[.string (bs s), .iface Tx ux, .iface Ty uy] 93 (0, 0)) := by rw [hwa]; simpa using heap_alloc_new ((w.alloc (.cells #[.string ⟨#[]⟩, .slice none 0 0, .int .i64 0, .int .i64 0, .int .i64 0] 50)).alloc (.cells #[.string ⟨#[]⟩, .slice none 0 0, .int .i64 0, .int .i64 0, .int .i64 0] 50)) (.cells #[.string (bs s), .iface Tx ux, .iface Ty uy] 93)
  have y4 : wa.heap[w.heap.size]? = some (.cells #[.string ⟨#[]⟩, .slice none 0 0, .int .i64 0, .int .i64 0, .int .i64 0] 50 (0, 0)) := by rw [hwa]; exact blk_alloc (blk_alloc (heap_alloc_new w (.cells #[.string ⟨#[]⟩, .slice none 0 0, .int .i64 0, .int .i64 0, .int .i64 0] 50)))
  have CE := Lib.hid (tyN iha hoka henv hty.1 hxa wa pe (Below.refl _ _) (fr_N hoka hfa (Below.refl _ _)))
  have hk0 := cell_of (j := 0) y8
  have hk1 := cell_of (j := 1) y8
  have hk2 := cell_of (j := 2) y8
  cases ha : tyR env a with
  | error f =>
    rw [ha] at CE
    rw [show tyR env (.lete s a c) = .error f by simp only [tyR, ha]]
    have HOK := Lib.hid hok
    clear ha hx hy hya hxa hfa hfr iha ihc henv hty hoka hok
    go_enter Tryz.func47, Tryz.ntmps47
    go_wp2_with fail
    rw [← hwa]
    go_wp2_with (go_at_call 47; go_must (refine (CE.out).mono ?_; rintro e w5 ⟨⟨T5, u5, rfl, hf⟩, hb5⟩; have hs5 := hb5.size; have y5 := blk_alloc (o' := (.cells #[.string ⟨#[]⟩, .slice none 0 0, .int .i64 0, .int .i64 0, .int .i64 0] 50)) (below_blk hb5 (by omega) y4); have hB5 := (hBa.trans (hb5.mono hBa.size)).trans ((below1 w5 (.cells #[.string ⟨#[]⟩, .slice none 0 0, .int .i64 0, .int .i64 0, .int .i64 0] 50)).mono (by omega)); have fb0 := free_of (j := 0) y5; have fb1 := free_of (j := 1) y5; have fb2 := free_of (j := 2) y5; have fb3 := free_of (j := 3) y5; have fb4 := free_of (j := 4) y5; have zb0 := cell_of (j := 0) y5; have zb1 := cell_of (j := 1) y5; have zb2 := cell_of (j := 2) y5; have zb3 := cell_of (j := 3) y5; have zb4 := cell_of (j := 4) y5; have O4 := set5_same y5 (.string ⟨#[]⟩) (.slice none 0 0) (.int .i64 0) (.int .i64 0) (.int .i64 0); have r0 := cell_of (j := 0) O4; have r1 := cell_of (j := 1) O4; have r2 := cell_of (j := 2) O4; have r3 := cell_of (j := 3) O4; have r4 := cell_of (j := 4) O4))
    refine bodyPost_ret (v := .tuple #[.agg #[.string ⟨#[]⟩, .slice none 0 0, .int .i64 0, .int .i64 0, .int .i64 0], .iface T5 u5]) (by simp [results, Tryz.results47, go_sem, r0, r1, r2, r3, r4]) rfl ⟨?_, ?_⟩
    · exact ⟨T5, u5, rfl, hf.move (fun k h => h.imp id (fun q => ⟨by omega, by simp; omega⟩)) (fun k h => (set5_other (by rcases h with h | h; have := HOK.out k h; omega; omega) _ _ _ _ _).trans (heap_alloc_old _ _ (by rcases h with h | h; have := HOK.out k h; omega; omega)))⟩
    · exact set5 hB5 (Nat.le_refl _) _ _ _ _ _
  | ok t =>
    rw [ha] at CE
    obtain ⟨u, t1, t2, t3, hu, ht1, ht2, ht3, hq⟩ := nI_named t
    have hti := tyR_ok a env t henv hty.1 ha
    obtain ⟨R, hR⟩ : ∃ R, R = tyR ((s, t) :: env) c := ⟨_, rfl⟩
    rw [show tyR env (.lete s a c) = R by simp only [tyR, ha, hR]]
    obtain ⟨sn, hsn⟩ : ∃ sn, sn = bs s := ⟨_, rfl⟩
    have CE2 : Hid (Calls Tryz.prog 47 #[.pointer pe, .iface Tx ux] wa fun e w' => (∃ p m c, e = .returned (.tuple #[.agg #[.string u, .slice p m c, .int .i64 t1, .int .i64 t2, .int .i64 t3], .nilIface]) ∧ FV nI w' (okN wa w' ok) t (nI t (.slice p m c))) ∧ Below wa.heap.size wa w') := by rw [hu, ht1, ht2, ht3]; exact CE
    have CW : Hid (∀ W p m c, Below wa.heap.size wa W → FV nI W (okN wa W ok) t (nI t (.slice p m c)) → Calls Tryz.prog 72 #[.pointer pe, .string sn, .agg #[.string u, .slice p m c, .int .i64 t1, .int .i64 t2, .int .i64 t3]] W fun e w' => (∃ q, e = .returned (.pointer q) ∧ FrO w' (okN wa w' ok) ((s, t) :: env) (.pointer q)) ∧ Below W.heap.size W w') := Lib.hid (fun W p m c hW hf => by
      rw [hsn, hu, ht1, ht2, ht3]
      exact withN_c hoka env s t _ p m c W hW (fr_N hoka hfa hW) hf)
    have CB : Hid (∀ W q, Below wa.heap.size wa W → FrO W (okN wa W ok) ((s, t) :: env) (.pointer q) → Calls Tryz.prog 47 #[.pointer q, .iface Ty uy] W fun e w' => (∃ g p m c, ∃ i1 i2 i3 : Int, ∃ F, e = .returned (.tuple #[.agg #[.string g, .slice p m c, .int .i64 i1, .int .i64 i2, .int .i64 i3], F]) ∧ Ty3 wa ok R (.returned (.tuple #[.agg #[.string g, .slice p m c, .int .i64 i1, .int .i64 i2, .int .i64 i3], F])) w') ∧ Below W.heap.size W w') := Lib.hid (fun W q hW hq => (tyN ihc hoka (henv.cons hti) hty.2 hya W q hW hq).mono fun e w' ⟨h1, h2⟩ => by
      rw [← hR] at h1
      obtain ⟨g, p, m, c, i1, i2, i3, F, rfl⟩ := ty3_shape h1
      exact ⟨⟨g, p, m, c, i1, i2, i3, F, rfl, h1⟩, h2⟩)
    rw [← hsn] at y8 hk0 hwa ⊢
    have HOK := Lib.hid hok
    have HOKA := Lib.hid hoka
    clear ha hx hy hya hxa hfa hfr iha ihc henv hty CE hu ht1 ht2 ht3 hq hR hsn hti hoka hok
    go_enter Tryz.func47, Tryz.ntmps47
    go_wp2_with fail
    rw [← hwa]
    go_wp2_with (go_at_call 47; go_must (refine (CE2.out).mono ?_; rintro e w5 ⟨⟨p, m, c, rfl, hf⟩, hb5⟩; have hs5 := hb5.size; have y4b := below_blk hb5 (by omega) y4; have y8b := below_blk hb5 (by omega) y8; obtain ⟨wb, hwb⟩ : ∃ wb, wb = w5.alloc (.cells #[.string u, .slice p m c, .int .i64 t1, .int .i64 t2, .int .i64 t3] 50) := ⟨_, rfl⟩; have hBb : Below wa.heap.size wa wb := (by rw [hwb]; exact hb5.trans ((below1 _ _).mono hs5)); have hVb := Lib.hid (show FV nI wb (okN wa wb ok) t (nI t (.slice p m c)) by rw [hwb]; exact FV.move (fun k h => h.imp id (fun q => ⟨q.1, by simp; omega⟩)) (fun k h => heap_alloc_old _ _ (okN_lt HOKA.out hs5 k h)) _ _ hf); have yl4 : wb.heap[w.heap.size]? = some (.cells #[.string ⟨#[]⟩, .slice none 0 0, .int .i64 0, .int .i64 0, .int .i64 0] 50 (0, 0)) := (by rw [hwb]; exact blk_alloc y4b); have yl8 : wb.heap[w.heap.size + 2]? = some (.cells #[.string (sn), .iface Tx ux, .iface Ty uy] 93 (0, 0)) := (by rw [hwb]; exact blk_alloc y8b); have yl9 : wb.heap[w5.heap.size]? = some (.cells #[.string u, .slice p m c, .int .i64 t1, .int .i64 t2, .int .i64 t3] 50 (0, 0)) := (by rw [hwb]; exact heap_alloc_new w5 _); have hzb : wb.heap.size = w5.heap.size + 1 := (by rw [hwb]; simp); have KA : Hid (∀ W, Below wb.heap.size wb W → (W.cell? ⟨w.heap.size + 2, 0, none⟩ = some (.string sn) ∧ W.cell? ⟨w.heap.size + 2, 1, none⟩ = some (.iface Tx ux) ∧ W.cell? ⟨w.heap.size + 2, 2, none⟩ = some (.iface Ty uy)) ∧ (W.cell? ⟨w5.heap.size, 0, none⟩ = some (.string u) ∧ W.cell? ⟨w5.heap.size, 1, none⟩ = some (.slice p m c) ∧ W.cell? ⟨w5.heap.size, 2, none⟩ = some (.int .i64 t1) ∧ W.cell? ⟨w5.heap.size, 3, none⟩ = some (.int .i64 t2) ∧ W.cell? ⟨w5.heap.size, 4, none⟩ = some (.int .i64 t3)) ∧ W.heap[w.heap.size]? = some (.cells #[.string ⟨#[]⟩, .slice none 0 0, .int .i64 0, .int .i64 0, .int .i64 0] 50 (0, 0))) := Lib.hid (fun W hW => by have e4 := below_blk hW (lt_of_block yl4) yl4; have e8 := below_blk hW (lt_of_block yl8) yl8; have e9 := below_blk hW (lt_of_block yl9) yl9; exact ⟨⟨cell_of e8, cell_of e8, cell_of e8⟩, ⟨cell_of e9, cell_of e9, cell_of e9, cell_of e9, cell_of e9⟩, e4⟩); have hVW : Hid (∀ W, Below wb.heap.size wb W → Below wa.heap.size wa W ∧ FV nI W (okN wa W ok) t (nI t (.slice p m c))) := Lib.hid (fun W hW => ⟨hBb.trans (hW.mono hBb.size), FV.move (fun k h => h.imp id (fun q => ⟨q.1, by have := hW.size; omega⟩)) (fun k h => hW.block k (okN_lt HOKA.out hBb.size k h)) _ _ hVb.out⟩); have hd5 : Below wb.heap.size wb wb.drew := (Below.refl _ _).drew; have hd4 : Below wb.heap.size wb wb := Below.refl _ _; clear y4b y8b yl4 yl8 yl9))
    rw [← hwb]
    clear hwb
    obtain ⟨⟨lz0, lz1, lz2⟩, ⟨mz0, mz1, mz2, mz3, mz4⟩, yz⟩ := KA.out _ hd4
    have fb0 := free_of (j := 0) yz
    have fb1 := free_of (j := 1) yz
    have fb2 := free_of (j := 2) yz
    have fb3 := free_of (j := 3) yz
    have fb4 := free_of (j := 4) yz
    have zb0 := cell_of (j := 0) yz
    have zb1 := cell_of (j := 1) yz
    have zb2 := cell_of (j := 2) yz
    have zb3 := cell_of (j := 3) yz
    have zb4 := cell_of (j := 4) yz
    clear hf y4 y8 hk0 hk1 hk2 hwa CE2
    first | (go_region_with (first | (go_at_call 72; (with_reducible refine (CW.out _ _ _ _ (hVW.out _ (by assumption)).1 (hVW.out _ (by assumption)).2).mono ?_); rintro e w6 ⟨⟨q6, rfl, hq6⟩, hb6⟩; have hB6 := Below.trans (by assumption : Below wb.heap.size wb _) (hb6.mono (Below.size (by assumption))); obtain ⟨⟨lk0, lk1, lk2⟩, ⟨mk0, mk1, mk2, mk3, mk4⟩, yk⟩ := KA.out _ hB6; have fc0 := free_of (j := 0) yk; have fc1 := free_of (j := 1) yk; have fc2 := free_of (j := 2) yk; have fc3 := free_of (j := 3) yk; have fc4 := free_of (j := 4) yk; have zc0 := cell_of (j := 0) yk; have zc1 := cell_of (j := 1) yk; have zc2 := cell_of (j := 2) yk; have zc3 := cell_of (j := 3) yk; have zc4 := cell_of (j := 4) yk) | (go_at_call 47; (with_reducible refine (CB.out _ _ (hVW.out _ hB6).1 hq6).mono ?_); rintro e w7 ⟨⟨g, p7, m7, c7, i1, i2, i3, F, rfl, hR7⟩, hb7⟩; have hB7 := (hVW.out _ (hB6.trans (hb7.mono hB6.size))).1; obtain ⟨⟨ln0, ln1, ln2⟩, ⟨mn0, mn1, mn2, mn3, mn4⟩, yn⟩ := KA.out _ (hB6.trans (hb7.mono hB6.size)); have fd0 := free_of (j := 0) yn; have fd1 := free_of (j := 1) yn; have fd2 := free_of (j := 2) yn; have fd3 := free_of (j := 3) yn; have fd4 := free_of (j := 4) yn; have zd0 := cell_of (j := 0) yn; have zd1 := cell_of (j := 1) yn; have zd2 := cell_of (j := 2) yn; have zd3 := cell_of (j := 3) yn; have zd4 := cell_of (j := 4) yn))) | fail
    all_goals
      go_wp2_with fail
      have O4 := set5_same yn (.string g) (.slice p7 m7 c7) (.int .i64 i1) (.int .i64 i2) (.int .i64 i3)
      have r0 := cell_of (j := 0) O4
      have r1 := cell_of (j := 1) O4
      have r2 := cell_of (j := 2) O4
      have r3 := cell_of (j := 3) O4
      have r4 := cell_of (j := 4) O4
      refine bodyPost_ret (v := .tuple #[.agg #[.string g, .slice p7 m7 c7, .int .i64 i1, .int .i64 i2, .int .i64 i3], F]) (by simp [results, Tryz.results47, go_sem, r0, r1, r2, r3, r4]) rfl ⟨?_, ?_⟩
      · exact ty3_fin HOK.out (Nat.le_refl _) (by omega) hR7 _ _ _ _ _
      · exact set5 (hBa.trans (hB7.mono hBa.size)) (Nat.le_refl _) _ _ _ _ _
end Go.Proofs.YtjncmmnbdabjnaaGreatDoor
namespace Go.Proofs.YtjncmmnbdabjnaaGreatDoor
open Go.RowKit
set_option maxRecDepth 8000
set_option linter.unusedSimpArgs false
set_option linter.unusedVariables false
set_option maxHeartbeats 8000000 in
theorem tf_no (ok : Nat → Prop) (pe : Option Addr) (w : World) (fn xn ua ub : ByteArray) (pa pb : Option Addr) (na ca nb cb : Nat) (a1 a2 a3 b1 b2 b3 m1 m2 m3 : Int) (Ty : TypeId) (uy : Value) (X : Ex) (hok : ∀ k, ok k → k < w.heap.size) (CM : Hid (Calls Tryz.prog 116 #[.string ⟨#[62]⟩, .agg #[.string ua, .slice pa na ca, .int .i64 a1, .int .i64 a2, .int .i64 a3], .agg #[.string ub, .slice pb nb cb, .int .i64 b1, .int .i64 b2, .int .i64 b3]] ((w.alloc (.cells #[.string fn, .string xn, .string ua, .slice pa na ca, .int .i64 a1, .int .i64 a2, .int .i64 a3, .string ub, .slice pb nb cb, .int .i64 b1, .int .i64 b2, .int .i64 b3, .iface Ty uy] 95)).alloc (.cells #[.string ⟨#[]⟩, .slice none 0 0, .int .i64 0, .int .i64 0, .int .i64 0] 50)) fun e w' => (∃ r5, e = .returned (.tuple #[.agg #[.string ⟨#[]⟩, .slice (some ⟨r5, 0, none⟩) 3 3, .int .i64 m1, .int .i64 m2, .int .i64 m3], .bool false])) ∧ Below ((w.alloc (.cells #[.string fn, .string xn, .string ua, .slice pa na ca, .int .i64 a1, .int .i64 a2, .int .i64 a3, .string ub, .slice pb nb cb, .int .i64 b1, .int .i64 b2, .int .i64 b3, .iface Ty uy] 95)).alloc (.cells #[.string ⟨#[]⟩, .slice none 0 0, .int .i64 0, .int .i64 0, .int .i64 0] 50)).heap.size ((w.alloc (.cells #[.string fn, .string xn, .string ua, .slice pa na ca, .int .i64 a1, .int .i64 a2, .int .i64 a3, .string ub, .slice pb nb cb, .int .i64 b1, .int .i64 b2, .int .i64 b3, .iface Ty uy] 95)).alloc (.cells #[.string ⟨#[]⟩, .slice none 0 0, .int .i64 0, .int .i64 0, .int .i64 0] 50)) w')) (HX : Hid (EV w ok X (.iface 95 (.agg #[.string fn, .string xn, .string ua, .slice pa na ca, .int .i64 a1, .int .i64 a2, .int .i64 a3, .string ub, .slice pb nb cb, .int .i64 b1, .int .i64 b2, .int .i64 b3, .iface Ty uy])))) :
    Calls Tryz.prog 79 #[.pointer pe, .agg #[.string fn, .string xn, .string ua, .slice pa na ca, .int .i64 a1, .int .i64 a2, .int .i64 a3, .string ub, .slice pb nb cb, .int .i64 b1, .int .i64 b2, .int .i64 b3, .iface Ty uy]] w fun e w' => Ty3 w ok (.error X) e w' ∧ Below w.heap.size w w' := by
  obtain ⟨wa, hwa⟩ : ∃ wa, wa = ((w.alloc (.cells #[.string fn, .string xn, .string ua, .slice pa na ca, .int .i64 a1, .int .i64 a2, .int .i64 a3, .string ub, .slice pb nb cb, .int .i64 b1, .int .i64 b2, .int .i64 b3, .iface Ty uy] 95)).alloc (.cells #[.string ⟨#[]⟩, .slice none 0 0, .int .i64 0, .int .i64 0, .int .i64 0] 50)) := ⟨_, rfl⟩
  have hBa : Below w.heap.size w wa := by rw [hwa]; exact below2 w _ _
  have hsa : wa.heap.size = w.heap.size + 2 := by rw [hwa]; simp
  have y3 : wa.heap[w.heap.size]? = some (.cells #[.string fn, .string xn, .string ua, .slice pa na ca, .int .i64 a1, .int .i64 a2, .int .i64 a3, .string ub, .slice pb nb cb, .int .i64 b1, .int .i64 b2, .int .i64 b3, .iface Ty uy] 95 (0, 0)) := by rw [hwa]; exact blk_alloc (heap_alloc_new w (.cells #[.string fn, .string xn, .string ua, .slice pa na ca, .int .i64 a1, .int .i64 a2, .int .i64 a3, .string ub, .slice pb nb cb, .int .i64 b1, .int .i64 b2, .int .i64 b3, .iface Ty uy] 95))
  have y4 : wa.heap[w.heap.size + 1]? = some (.cells #[.string ⟨#[]⟩, .slice none 0 0, .int .i64 0, .int .i64 0, .int .i64 0] 50 (0, 0)) := by rw [hwa]; exact heap_alloc_new2 w _ _
  rw [← hwa] at CM
  have x2 := cell_of (j := 2) y3
  have x3 := cell_of (j := 3) y3
  have x4 := cell_of (j := 4) y3
  have x5 := cell_of (j := 5) y3
  have x6 := cell_of (j := 6) y3
  have x7 := cell_of (j := 7) y3
  have x8 := cell_of (j := 8) y3
  have x9 := cell_of (j := 9) y3
  have x10 := cell_of (j := 10) y3
  have x11 := cell_of (j := 11) y3
  go_enter Tryz.func79, Tryz.ntmps79
  go_wp2_with fail
  rw [← hwa]
  clear hwa
  go_wp2_with (go_at_call 116; go_must (refine (CM.out).mono ?_; rintro e w5 ⟨⟨r5, rfl⟩, hb5⟩; have hs5 := hb5.size; have y3b := blk_alloc (o' := (.cells #[.string ⟨#[]⟩, .slice (some ⟨r5, 0, none⟩) 3 3, .int .i64 m1, .int .i64 m2, .int .i64 m3] 50)) (below_blk hb5 (by omega) y3); have y4b := blk_alloc (o' := (.cells #[.string ⟨#[]⟩, .slice (some ⟨r5, 0, none⟩) 3 3, .int .i64 m1, .int .i64 m2, .int .i64 m3] 50)) (below_blk hb5 (by omega) y4); have hB5 := (hBa.trans (hb5.mono hBa.size)).trans ((below1 w5 (.cells #[.string ⟨#[]⟩, .slice (some ⟨r5, 0, none⟩) 3 3, .int .i64 m1, .int .i64 m2, .int .i64 m3] 50)).mono (by omega)); have fb0 := free_of (j := 0) y4b; have fb1 := free_of (j := 1) y4b; have fb2 := free_of (j := 2) y4b; have fb3 := free_of (j := 3) y4b; have fb4 := free_of (j := 4) y4b; have zb0 := cell_of (j := 0) y4b; have zb1 := cell_of (j := 1) y4b; have zb2 := cell_of (j := 2) y4b; have zb3 := cell_of (j := 3) y4b; have zb4 := cell_of (j := 4) y4b; have q0 := cell_of (j := 0) y3b; have q1 := cell_of (j := 1) y3b; have q2 := cell_of (j := 2) y3b; have q3 := cell_of (j := 3) y3b; have q4 := cell_of (j := 4) y3b; have q5 := cell_of (j := 5) y3b; have q6 := cell_of (j := 6) y3b; have q7 := cell_of (j := 7) y3b; have q8 := cell_of (j := 8) y3b; have q9 := cell_of (j := 9) y3b; have q10 := cell_of (j := 10) y3b; have q11 := cell_of (j := 11) y3b; have q12 := cell_of (j := 12) y3b))
  have O4 := set5_same y4b (.string ⟨#[]⟩) (.slice none 0 0) (.int .i64 0) (.int .i64 0) (.int .i64 0)
  have r0 := cell_of (j := 0) O4
  have r1 := cell_of (j := 1) O4
  have r2 := cell_of (j := 2) O4
  have r3 := cell_of (j := 3) O4
  have r4 := cell_of (j := 4) O4
  clear x2 x3 x4 x5 x6 x7 x8 x9 x10 x11
  try go_region
  all_goals
    go_wp2_with fail
    refine bodyPost_ret (v := .tuple #[.agg #[.string ⟨#[]⟩, .slice none 0 0, .int .i64 0, .int .i64 0, .int .i64 0], .iface 95 (.agg #[.string fn, .string xn, .string ua, .slice pa na ca, .int .i64 a1, .int .i64 a2, .int .i64 a3, .string ub, .slice pb nb cb, .int .i64 b1, .int .i64 b2, .int .i64 b3, .iface Ty uy])]) (by simp [results, Tryz.results79, go_sem, r0, r1, r2, r3, r4]) rfl ⟨?_, ?_⟩
    · first
      | exact ⟨_, _, rfl, ev_keep hok HX.out (set5 hB5 (by omega) _ _ _ _ _)⟩
      | exact ⟨_, _, rfl, ev_keep hok HX.out (set5 hB5 (by omega) _ _ _ _ _).drew⟩
    · first
      | exact set5 hB5 (by omega) _ _ _ _ _
      | exact (set5 hB5 (by omega) _ _ _ _ _).drew
/-- The blocks of ok and those made since wa, but one. -/
def okX (wa : World) (ok : Nat → Prop) (b : Nat) (W : World) : Nat → Prop := fun k => okN wa W ok k ∧ k ≠ b
theorem fr_b {wa W : World} {ok : Nat → Prop} {b : Nat} {env : List (Nm × Tr)} {v : Value} {o : Obj} (hok : ∀ k, ok k → k < wa.heap.size) (hs : wa.heap.size ≤ W.heap.size) (h : FrO W (okX wa ok b W) env v) : FrO (W.alloc o) (okX wa ok W.heap.size (W.alloc o)) env v := h.move (fun k hk => ⟨hk.1.imp id (fun q => ⟨q.1, by simp; omega⟩), by have := okN_lt hok hs k hk.1; omega⟩) (fun k hk => heap_alloc_old _ _ (okN_lt hok hs k hk.1))
theorem ev_x5 {wa W : World} {ok : Nat → Prop} {b : Nat} {x : Ex} {v : Value} {v0 v1 v2 v3 v4 : Value} (h : EV W (okX wa ok b W) x v) : EV (((((W.setCell ⟨b, 0, none⟩ v0).setCell ⟨b, 1, none⟩ v1).setCell ⟨b, 2, none⟩ v2).setCell ⟨b, 3, none⟩ v3).setCell ⟨b, 4, none⟩ v4) (okN wa (((((W.setCell ⟨b, 0, none⟩ v0).setCell ⟨b, 1, none⟩ v1).setCell ⟨b, 2, none⟩ v2).setCell ⟨b, 3, none⟩ v3).setCell ⟨b, 4, none⟩ v4) ok) x v := h.move (fun k hk => hk.1.imp id (fun q => ⟨q.1, by simpa using q.2⟩)) (fun k hk => set5_other hk.2 _ _ _ _ _)
theorem ev_xa {wa W : World} {ok : Nat → Prop} {b : Nat} {x : Ex} {v : Value} {o : Obj} (hok : ∀ k, ok k → k < wa.heap.size) (hs : wa.heap.size ≤ W.heap.size) (h : EV W (okX wa ok b W) x v) : EV (W.alloc o) (okN wa (W.alloc o) ok) x v := h.move (fun k hk => hk.1.imp id (fun q => ⟨q.1, by simp; omega⟩)) (fun k hk => heap_alloc_old _ _ (okN_lt hok hs k hk.1))
theorem fv_x5 {wa W : World} {ok : Nat → Prop} {b : Nat} {x : Tr} {v : List Value} {v0 v1 v2 v3 v4 : Value} (h : FV nI W (okX wa ok b W) x v) : FV nI (((((W.setCell ⟨b, 0, none⟩ v0).setCell ⟨b, 1, none⟩ v1).setCell ⟨b, 2, none⟩ v2).setCell ⟨b, 3, none⟩ v3).setCell ⟨b, 4, none⟩ v4) (okN wa (((((W.setCell ⟨b, 0, none⟩ v0).setCell ⟨b, 1, none⟩ v1).setCell ⟨b, 2, none⟩ v2).setCell ⟨b, 3, none⟩ v3).setCell ⟨b, 4, none⟩ v4) ok) x v := FV.move (fun k hk => hk.1.imp id (fun q => ⟨q.1, by simpa using q.2⟩)) (fun k hk => set5_other hk.2 _ _ _ _ _) _ _ h
theorem fv_xa {wa W : World} {ok : Nat → Prop} {b : Nat} {x : Tr} {v : List Value} {o : Obj} (hok : ∀ k, ok k → k < wa.heap.size) (hs : wa.heap.size ≤ W.heap.size) (h : FV nI W (okX wa ok b W) x v) : FV nI (W.alloc o) (okN wa (W.alloc o) ok) x v := FV.move (fun k hk => hk.1.imp id (fun q => ⟨q.1, by simp; omega⟩)) (fun k hk => heap_alloc_old _ _ (okN_lt hok hs k hk.1)) _ _ h
theorem withX_c {w : World} {ok : Nat → Prop} (hok : ∀ k, ok k → k < w.heap.size) (b : Nat) (env : List (Nm × Tr)) (n : Nm) (t : Tr) (v : Value) (p : Option Addr) (m c : Nat) (W : World) (hW : Below w.heap.size w W) (hbW : b < W.heap.size) (hv : FrO W (okX w ok b W) env v) (hf : FV nI W (okX w ok b W) t (nI t (.slice p m c))) :
    Calls Tryz.prog 72 #[v, .string (bs n), .agg #[.string (bs (atomOf t)), .slice p m c, .int .i64 t.bytes, .int .i64 t.size, .int .i64 t.depth]] W fun e w' => (∃ q, e = .returned (.pointer q) ∧ FrO w' (okX w ok b w') ((n, t) :: env) (.pointer q)) ∧ Below W.heap.size W w' :=
  (withO_c _ _ env n t v p m c W (fun k hk => okN_lt hok hW.size k hk.1) hv hf (fun k hk => okN_lt hok hW.size k hk.1)).mono fun e w' ⟨⟨q, h1, h2⟩, h3⟩ => ⟨⟨q, h1, h2.move (fun k hk => by
    have e1 := hW.size; have e2 := h3.size
    rcases hk with (hk | hk) | hk
    · exact ⟨hk.1.imp id (fun q => ⟨q.1, by omega⟩), hk.2⟩
    · exact ⟨hk.1.imp id (fun q => ⟨q.1, by omega⟩), hk.2⟩
    · exact ⟨.inr ⟨by omega, hk.2⟩, by omega⟩) (fun _ _ => rfl)⟩, h3⟩
def Ty3X (wa : World) (ok : Nat → Prop) (b : Nat) (r : Except Ex Tr) (e : Ending) (w' : World) : Prop :=
  match r with
  | .ok t => ∃ p m c, e = .returned (.tuple #[.agg #[.string (bs (atomOf t)), .slice p m c, .int .i64 t.bytes, .int .i64 t.size, .int .i64 t.depth], .nilIface]) ∧ FV nI w' (okX wa ok b w') t (nI t (.slice p m c))
  | .error f => ∃ T u, e = .returned (.tuple #[.agg #[.string ⟨#[]⟩, .slice none 0 0, .int .i64 0, .int .i64 0, .int .i64 0], .iface T u]) ∧ EV w' (okX wa ok b w') f (.iface T u)
theorem tyX {x : Ex} (ih : TyC x) {w : World} {ok : Nat → Prop} (hok : ∀ k, ok k → k < w.heap.size) (b : Nat) (hbo : ¬ ok b) {env : List (Nm × Tr)} (henv : envOK env) (hty : tyEx x) {v : Value} (hv : EV w ok x v) (W : World) (q : Option Addr) (hW : Below w.heap.size w W) (hbW : b < W.heap.size) (hq : FrO W (okX w ok b W) env (.pointer q)) :
    Calls Tryz.prog 47 #[.pointer q, v] W fun e w' => Ty3X w ok b (tyR env x) e w' ∧ Below W.heap.size W w' :=
  (ih _ env q v W henv hty (fun k hk => okN_lt hok hW.size k hk.1) hq (hv.move (fun k hk => ⟨.inl hk, fun e => hbo (e ▸ hk)⟩) (fun k hk => hW.block k (hok k hk)))).mono fun e w' ⟨h1, h2⟩ => ⟨by
    have e1 := hW.size; have e2 := h2.size
    have hk : ∀ k, okN W w' (okX w ok b W) k → okX w ok b w' k := fun k hk => by
      rcases hk with hk | hk
      · exact ⟨hk.1.imp id (fun q => ⟨q.1, by omega⟩), hk.2⟩
      · exact ⟨.inr ⟨by omega, hk.2⟩, by omega⟩
    cases hr : tyR env x with
    | error f => rw [hr] at h1; obtain ⟨T, u, q1, q2⟩ := h1; exact ⟨T, u, q1, q2.move hk (fun _ _ => rfl)⟩
    | ok t => rw [hr] at h1; obtain ⟨p, m, c, q1, q2⟩ := h1; exact ⟨p, m, c, q1, FV.move hk (fun _ _ => rfl) _ _ q2⟩, h2⟩
set_option maxHeartbeats 16000000 in
theorem tf_err (ok : Nat → Prop) (pe : Option Addr) (w : World) (fn xn ua ub : ByteArray) (pa pb : Option Addr) (na ca nb cb : Nat) (a1 a2 a3 b1 b2 b3 m1 m2 m3 : Int) (Ty : TypeId) (uy : Value) (X : Ex) (g : Ex) (f x : Nm) (A B T : Tr) (env : List (Nm × Tr)) (hok : ∀ k, ok k → k < w.heap.size)
    (CM : Hid (Calls Tryz.prog 116 #[.string ⟨#[62]⟩, .agg #[.string ua, .slice pa na ca, .int .i64 a1, .int .i64 a2, .int .i64 a3], .agg #[.string ub, .slice pb nb cb, .int .i64 b1, .int .i64 b2, .int .i64 b3]] ((w.alloc (.cells #[.string fn, .string xn, .string ua, .slice pa na ca, .int .i64 a1, .int .i64 a2, .int .i64 a3, .string ub, .slice pb nb cb, .int .i64 b1, .int .i64 b2, .int .i64 b3, .iface Ty uy] 95)).alloc (.cells #[.string ⟨#[]⟩, .slice none 0 0, .int .i64 0, .int .i64 0, .int .i64 0] 50)) fun e w' => (∃ r5, e = .returned (.tuple #[.agg #[.string ⟨#[]⟩, .slice (some ⟨r5, 0, none⟩) 3 3, .int .i64 m1, .int .i64 m2, .int .i64 m3], .bool true]) ∧ FV nI w' (okN ((w.alloc (.cells #[.string fn, .string xn, .string ua, .slice pa na ca, .int .i64 a1, .int .i64 a2, .int .i64 a3, .string ub, .slice pb nb cb, .int .i64 b1, .int .i64 b2, .int .i64 b3, .iface Ty uy] 95)).alloc (.cells #[.string ⟨#[]⟩, .slice none 0 0, .int .i64 0, .int .i64 0, .int .i64 0] 50)) w' ok) T (nI T (.slice (some ⟨r5, 0, none⟩) 3 3))) ∧ Below ((w.alloc (.cells #[.string fn, .string xn, .string ua, .slice pa na ca, .int .i64 a1, .int .i64 a2, .int .i64 a3, .string ub, .slice pb nb cb, .int .i64 b1, .int .i64 b2, .int .i64 b3, .iface Ty uy] 95)).alloc (.cells #[.string ⟨#[]⟩, .slice none 0 0, .int .i64 0, .int .i64 0, .int .i64 0] 50)).heap.size ((w.alloc (.cells #[.string fn, .string xn, .string ua, .slice pa na ca, .int .i64 a1, .int .i64 a2, .int .i64 a3, .string ub, .slice pb nb cb, .int .i64 b1, .int .i64 b2, .int .i64 b3, .iface Ty uy] 95)).alloc (.cells #[.string ⟨#[]⟩, .slice none 0 0, .int .i64 0, .int .i64 0, .int .i64 0] 50)) w'))
    (CW1 : Hid (∀ W r5 b, Below (((w.alloc (.cells #[.string fn, .string xn, .string ua, .slice pa na ca, .int .i64 a1, .int .i64 a2, .int .i64 a3, .string ub, .slice pb nb cb, .int .i64 b1, .int .i64 b2, .int .i64 b3, .iface Ty uy] 95)).alloc (.cells #[.string ⟨#[]⟩, .slice none 0 0, .int .i64 0, .int .i64 0, .int .i64 0] 50))).heap.size ((w.alloc (.cells #[.string fn, .string xn, .string ua, .slice pa na ca, .int .i64 a1, .int .i64 a2, .int .i64 a3, .string ub, .slice pb nb cb, .int .i64 b1, .int .i64 b2, .int .i64 b3, .iface Ty uy] 95)).alloc (.cells #[.string ⟨#[]⟩, .slice none 0 0, .int .i64 0, .int .i64 0, .int .i64 0] 50)) W → b < W.heap.size → FV nI W (okX ((w.alloc (.cells #[.string fn, .string xn, .string ua, .slice pa na ca, .int .i64 a1, .int .i64 a2, .int .i64 a3, .string ub, .slice pb nb cb, .int .i64 b1, .int .i64 b2, .int .i64 b3, .iface Ty uy] 95)).alloc (.cells #[.string ⟨#[]⟩, .slice none 0 0, .int .i64 0, .int .i64 0, .int .i64 0] 50)) ok b W) T (nI T (.slice (some ⟨r5, 0, none⟩) 3 3)) → b ≠ w.heap.size ∧ (b < w.heap.size → ¬ ok b) → Calls Tryz.prog 72 #[.pointer pe, .string fn, .agg #[.string ⟨#[]⟩, .slice (some ⟨r5, 0, none⟩) 3 3, .int .i64 m1, .int .i64 m2, .int .i64 m3]] W fun e w' => (∃ q, e = .returned (.pointer q) ∧ FrO w' (okX ((w.alloc (.cells #[.string fn, .string xn, .string ua, .slice pa na ca, .int .i64 a1, .int .i64 a2, .int .i64 a3, .string ub, .slice pb nb cb, .int .i64 b1, .int .i64 b2, .int .i64 b3, .iface Ty uy] 95)).alloc (.cells #[.string ⟨#[]⟩, .slice none 0 0, .int .i64 0, .int .i64 0, .int .i64 0] 50)) ok b w') ((f, T) :: env) (.pointer q)) ∧ Below W.heap.size W w'))
    (CW2 : Hid (∀ W q b, Below (((w.alloc (.cells #[.string fn, .string xn, .string ua, .slice pa na ca, .int .i64 a1, .int .i64 a2, .int .i64 a3, .string ub, .slice pb nb cb, .int .i64 b1, .int .i64 b2, .int .i64 b3, .iface Ty uy] 95)).alloc (.cells #[.string ⟨#[]⟩, .slice none 0 0, .int .i64 0, .int .i64 0, .int .i64 0] 50))).heap.size ((w.alloc (.cells #[.string fn, .string xn, .string ua, .slice pa na ca, .int .i64 a1, .int .i64 a2, .int .i64 a3, .string ub, .slice pb nb cb, .int .i64 b1, .int .i64 b2, .int .i64 b3, .iface Ty uy] 95)).alloc (.cells #[.string ⟨#[]⟩, .slice none 0 0, .int .i64 0, .int .i64 0, .int .i64 0] 50)) W → b < W.heap.size → FrO W (okX ((w.alloc (.cells #[.string fn, .string xn, .string ua, .slice pa na ca, .int .i64 a1, .int .i64 a2, .int .i64 a3, .string ub, .slice pb nb cb, .int .i64 b1, .int .i64 b2, .int .i64 b3, .iface Ty uy] 95)).alloc (.cells #[.string ⟨#[]⟩, .slice none 0 0, .int .i64 0, .int .i64 0, .int .i64 0] 50)) ok b W) ((f, T) :: env) (.pointer q) → w.heap.size < b → Calls Tryz.prog 72 #[.pointer q, .string xn, .agg #[.string ua, .slice pa na ca, .int .i64 a1, .int .i64 a2, .int .i64 a3]] W fun e w' => (∃ q, e = .returned (.pointer q) ∧ FrO w' (okX ((w.alloc (.cells #[.string fn, .string xn, .string ua, .slice pa na ca, .int .i64 a1, .int .i64 a2, .int .i64 a3, .string ub, .slice pb nb cb, .int .i64 b1, .int .i64 b2, .int .i64 b3, .iface Ty uy] 95)).alloc (.cells #[.string ⟨#[]⟩, .slice none 0 0, .int .i64 0, .int .i64 0, .int .i64 0] 50)) ok b w') ((x, A) :: (f, T) :: env) (.pointer q)) ∧ Below W.heap.size W w'))
    (CB : Hid (∀ W q b, Below (((w.alloc (.cells #[.string fn, .string xn, .string ua, .slice pa na ca, .int .i64 a1, .int .i64 a2, .int .i64 a3, .string ub, .slice pb nb cb, .int .i64 b1, .int .i64 b2, .int .i64 b3, .iface Ty uy] 95)).alloc (.cells #[.string ⟨#[]⟩, .slice none 0 0, .int .i64 0, .int .i64 0, .int .i64 0] 50))).heap.size ((w.alloc (.cells #[.string fn, .string xn, .string ua, .slice pa na ca, .int .i64 a1, .int .i64 a2, .int .i64 a3, .string ub, .slice pb nb cb, .int .i64 b1, .int .i64 b2, .int .i64 b3, .iface Ty uy] 95)).alloc (.cells #[.string ⟨#[]⟩, .slice none 0 0, .int .i64 0, .int .i64 0, .int .i64 0] 50)) W → b < W.heap.size → FrO W (okX ((w.alloc (.cells #[.string fn, .string xn, .string ua, .slice pa na ca, .int .i64 a1, .int .i64 a2, .int .i64 a3, .string ub, .slice pb nb cb, .int .i64 b1, .int .i64 b2, .int .i64 b3, .iface Ty uy] 95)).alloc (.cells #[.string ⟨#[]⟩, .slice none 0 0, .int .i64 0, .int .i64 0, .int .i64 0] 50)) ok b W) ((x, A) :: (f, T) :: env) (.pointer q) → w.heap.size < b → Calls Tryz.prog 47 #[.pointer q, .iface Ty uy] W fun e w' => (∃ T5 u5, e = .returned (.tuple #[.agg #[.string ⟨#[]⟩, .slice none 0 0, .int .i64 0, .int .i64 0, .int .i64 0], .iface T5 u5]) ∧ EV w' (okX ((w.alloc (.cells #[.string fn, .string xn, .string ua, .slice pa na ca, .int .i64 a1, .int .i64 a2, .int .i64 a3, .string ub, .slice pb nb cb, .int .i64 b1, .int .i64 b2, .int .i64 b3, .iface Ty uy] 95)).alloc (.cells #[.string ⟨#[]⟩, .slice none 0 0, .int .i64 0, .int .i64 0, .int .i64 0] 50)) ok b w') g (.iface T5 u5)) ∧ Below W.heap.size W w')) :
    Calls Tryz.prog 79 #[.pointer pe, .agg #[.string fn, .string xn, .string ua, .slice pa na ca, .int .i64 a1, .int .i64 a2, .int .i64 a3, .string ub, .slice pb nb cb, .int .i64 b1, .int .i64 b2, .int .i64 b3, .iface Ty uy]] w fun e w' => Ty3 w ok (.error g) e w' ∧ Below w.heap.size w w' := by
  obtain ⟨wa, hwa⟩ : ∃ wa, wa = ((w.alloc (.cells #[.string fn, .string xn, .string ua, .slice pa na ca, .int .i64 a1, .int .i64 a2, .int .i64 a3, .string ub, .slice pb nb cb, .int .i64 b1, .int .i64 b2, .int .i64 b3, .iface Ty uy] 95)).alloc (.cells #[.string ⟨#[]⟩, .slice none 0 0, .int .i64 0, .int .i64 0, .int .i64 0] 50)) := ⟨_, rfl⟩
  have hBa : Below w.heap.size w wa := by rw [hwa]; exact below2 w _ _
  have hsa : wa.heap.size = w.heap.size + 2 := by rw [hwa]; simp
  have y3 : wa.heap[w.heap.size]? = some (.cells #[.string fn, .string xn, .string ua, .slice pa na ca, .int .i64 a1, .int .i64 a2, .int .i64 a3, .string ub, .slice pb nb cb, .int .i64 b1, .int .i64 b2, .int .i64 b3, .iface Ty uy] 95 (0, 0)) := by rw [hwa]; exact blk_alloc (heap_alloc_new w (.cells #[.string fn, .string xn, .string ua, .slice pa na ca, .int .i64 a1, .int .i64 a2, .int .i64 a3, .string ub, .slice pb nb cb, .int .i64 b1, .int .i64 b2, .int .i64 b3, .iface Ty uy] 95))
  have y4 : wa.heap[w.heap.size + 1]? = some (.cells #[.string ⟨#[]⟩, .slice none 0 0, .int .i64 0, .int .i64 0, .int .i64 0] 50 (0, 0)) := by rw [hwa]; exact heap_alloc_new2 w _ _
  rw [← hwa] at CM CW1 CW2 CB
  have x2 := cell_of (j := 2) y3
  have x3 := cell_of (j := 3) y3
  have x4 := cell_of (j := 4) y3
  have x5 := cell_of (j := 5) y3
  have x6 := cell_of (j := 6) y3
  have x7 := cell_of (j := 7) y3
  have x8 := cell_of (j := 8) y3
  have x9 := cell_of (j := 9) y3
  have x10 := cell_of (j := 10) y3
  have x11 := cell_of (j := 11) y3
  have hoka : ∀ k, ok k → k < wa.heap.size := fun k hk => by have := hok k hk; omega
  have HOKA := Lib.hid hoka
  clear hoka
  go_enter Tryz.func79, Tryz.ntmps79
  go_wp2_with fail
  rw [← hwa]
  clear hwa
  go_upto_region 4 with (go_at_call 116; go_must (refine (CM.out).mono ?_; rintro e w5 ⟨⟨r5, rfl, hf⟩, hb5⟩; have hs5 := hb5.size; have y3b := below_blk hb5 (by omega) y3; have y4b := below_blk hb5 (by omega) y4; obtain ⟨wb, hwb⟩ : ∃ wb, wb = w5.alloc (.cells #[.string ⟨#[]⟩, .slice (some ⟨r5, 0, none⟩) 3 3, .int .i64 m1, .int .i64 m2, .int .i64 m3] 50) := ⟨_, rfl⟩; have hBb : Below wa.heap.size wa wb := (by rw [hwb]; exact hb5.trans ((below1 _ _).mono hs5)); have hVb := Lib.hid (show FV nI wb (okN wa wb ok) T (nI T (.slice (some ⟨r5, 0, none⟩) 3 3)) by rw [hwb]; exact FV.move (fun k h => h.imp id (fun q => ⟨q.1, by simp; omega⟩)) (fun k h => heap_alloc_old _ _ (okN_lt HOKA.out hs5 k h)) _ _ hf); have yl3 : wb.heap[w.heap.size]? = some (.cells #[.string fn, .string xn, .string ua, .slice pa na ca, .int .i64 a1, .int .i64 a2, .int .i64 a3, .string ub, .slice pb nb cb, .int .i64 b1, .int .i64 b2, .int .i64 b3, .iface Ty uy] 95 (0, 0)) := (by rw [hwb]; exact blk_alloc y3b); have yl4 : wb.heap[w.heap.size + 1]? = some (.cells #[.string ⟨#[]⟩, .slice none 0 0, .int .i64 0, .int .i64 0, .int .i64 0] 50 (0, 0)) := (by rw [hwb]; exact blk_alloc y4b); have yl6 : wb.heap[w5.heap.size]? = some (.cells #[.string ⟨#[]⟩, .slice (some ⟨r5, 0, none⟩) 3 3, .int .i64 m1, .int .i64 m2, .int .i64 m3] 50 (0, 0)) := (by rw [hwb]; exact heap_alloc_new w5 _); have hzb : wb.heap.size = w5.heap.size + 1 := (by rw [hwb]; simp); have K : Hid (∀ W, Below wb.heap.size wb W → (fun W => Below wb.heap.size wb W ∧ (W.cell? ⟨w.heap.size, 0, none⟩ = some (.string fn) ∧ W.cell? ⟨w.heap.size, 1, none⟩ = some (.string xn) ∧ W.cell? ⟨w.heap.size, 2, none⟩ = some (.string ua) ∧ W.cell? ⟨w.heap.size, 3, none⟩ = some (.slice pa na ca) ∧ W.cell? ⟨w.heap.size, 4, none⟩ = some (.int .i64 a1) ∧ W.cell? ⟨w.heap.size, 5, none⟩ = some (.int .i64 a2) ∧ W.cell? ⟨w.heap.size, 6, none⟩ = some (.int .i64 a3) ∧ W.cell? ⟨w.heap.size, 7, none⟩ = some (.string ub) ∧ W.cell? ⟨w.heap.size, 8, none⟩ = some (.slice pb nb cb) ∧ W.cell? ⟨w.heap.size, 9, none⟩ = some (.int .i64 b1) ∧ W.cell? ⟨w.heap.size, 10, none⟩ = some (.int .i64 b2) ∧ W.cell? ⟨w.heap.size, 11, none⟩ = some (.int .i64 b3) ∧ W.cell? ⟨w.heap.size, 12, none⟩ = some (.iface Ty uy)) ∧ (W.cell? ⟨w5.heap.size, 0, none⟩ = some (.string ⟨#[]⟩) ∧ W.cell? ⟨w5.heap.size, 1, none⟩ = some (.slice (some ⟨r5, 0, none⟩) 3 3) ∧ W.cell? ⟨w5.heap.size, 2, none⟩ = some (.int .i64 m1) ∧ W.cell? ⟨w5.heap.size, 3, none⟩ = some (.int .i64 m2) ∧ W.cell? ⟨w5.heap.size, 4, none⟩ = some (.int .i64 m3))) W) := Lib.hid (fun W hW => by have e3 := below_blk hW (lt_of_block yl3) yl3; have e6 := below_blk hW (lt_of_block yl6) yl6; exact ⟨hW, ⟨cell_of e3, cell_of e3, cell_of e3, cell_of e3, cell_of e3, cell_of e3, cell_of e3, cell_of e3, cell_of e3, cell_of e3, cell_of e3, cell_of e3, cell_of e3⟩, ⟨cell_of e6, cell_of e6, cell_of e6, cell_of e6, cell_of e6⟩⟩); have hVW : Hid (∀ W b, Below wb.heap.size wb W → (wb.heap.size ≤ b ∨ b = w.heap.size + 1) → Below wa.heap.size wa W ∧ FV nI W (okX wa ok b W) T (nI T (.slice (some ⟨r5, 0, none⟩) 3 3))) := Lib.hid (fun W b hW hb => ⟨hBb.trans (hW.mono hBb.size), FV.move (fun k h => ⟨h.imp id (fun q => ⟨q.1, by have := hW.size; omega⟩), by have := okN_lt HOKA.out hBb.size k h; rcases h with h | h; have := hok k h; omega; omega⟩) (fun k h => hW.block k (okN_lt HOKA.out hBb.size k h)) _ _ hVb.out⟩); have S0 := Lib.hid (K.out _ ((Below.refl _ wb).drew)); have hltA : Hid (∀ o : Obj, wb.heap.size < (wb.drew.alloc o).heap.size) := Lib.hid (fun o => one_more wb.drew o); have hltB : Hid (∀ o : Obj, wb.heap.size < ((wb.alloc o).drew).heap.size) := Lib.hid (fun o => one_more wb o); have hlt0 : Hid (∀ W, Below wb.heap.size wb W → w.heap.size + 1 < W.heap.size) := Lib.hid (fun W hW => by have := hW.size; have := lt_of_block yl4; omega); have hbn : Hid (∀ b, (wb.heap.size ≤ b ∨ b = w.heap.size + 1) → b ≠ w.heap.size ∧ (b < w.heap.size → ¬ ok b)) := Lib.hid (fun b hb => ⟨by have := hBb.size; omega, fun h => by have := hBb.size; omega⟩); have hwlt : w.heap.size < wb.heap.size := (by omega); have hwlt1 : w.heap.size + 1 < wb.heap.size := (by omega); clear y3b y4b yl3 yl6 hzb))
  rw [← hwb]
  clear hwb hf x2 x3 x4 x5 x6 x7 x8 x9 x10 x11 y3 y4
  go_cut [8, 9] (fun v8 v9 W => ∃ T5 u5, v9 = .iface T5 u5 ∧ Hid (Below wb.heap.size wb W) ∧ Hid (EV W (okN wa W ok) g (.iface T5 u5)))
  case first =>
    first | (go_region_held3 (fun W => Below wb.heap.size wb W ∧ (W.cell? ⟨w.heap.size, 0, none⟩ = some (.string fn) ∧ W.cell? ⟨w.heap.size, 1, none⟩ = some (.string xn) ∧ W.cell? ⟨w.heap.size, 2, none⟩ = some (.string ua) ∧ W.cell? ⟨w.heap.size, 3, none⟩ = some (.slice pa na ca) ∧ W.cell? ⟨w.heap.size, 4, none⟩ = some (.int .i64 a1) ∧ W.cell? ⟨w.heap.size, 5, none⟩ = some (.int .i64 a2) ∧ W.cell? ⟨w.heap.size, 6, none⟩ = some (.int .i64 a3) ∧ W.cell? ⟨w.heap.size, 7, none⟩ = some (.string ub) ∧ W.cell? ⟨w.heap.size, 8, none⟩ = some (.slice pb nb cb) ∧ W.cell? ⟨w.heap.size, 9, none⟩ = some (.int .i64 b1) ∧ W.cell? ⟨w.heap.size, 10, none⟩ = some (.int .i64 b2) ∧ W.cell? ⟨w.heap.size, 11, none⟩ = some (.int .i64 b3) ∧ W.cell? ⟨w.heap.size, 12, none⟩ = some (.iface Ty uy)) ∧ (W.cell? ⟨w5.heap.size, 0, none⟩ = some (.string ⟨#[]⟩) ∧ W.cell? ⟨w5.heap.size, 1, none⟩ = some (.slice (some ⟨r5, 0, none⟩) 3 3) ∧ W.cell? ⟨w5.heap.size, 2, none⟩ = some (.int .i64 m1) ∧ W.cell? ⟨w5.heap.size, 3, none⟩ = some (.int .i64 m2) ∧ W.cell? ⟨w5.heap.size, 4, none⟩ = some (.int .i64 m3))) (first | exact S0.out | assumption | exact KA K.out (And.left (by assumption)) | exact KA K.out hS8.1 | exact KS5 K.out hS8.1 HB12 | fail) (first | (go_at_call 72; have hh := And.left (by assumption : Below wb.heap.size wb _ ∧ _); first | ((with_reducible refine (CW1.out _ _ wb.heap.size (hVW.out _ _ hh (.inl (Nat.le_refl _))).1 (hltA.out _) (hVW.out _ _ hh (.inl (Nat.le_refl _))).2 (hbn.out _ (.inl (Nat.le_refl _)))).mono ?_); rintro e w6 ⟨⟨q6, rfl, hq6⟩, hb6⟩; have hS6 := K.out _ (hh.trans (hb6.mono hh.size)); have y81 : w6.heap[wb.heap.size]? = (some (.cells #[.string ⟨#[]⟩, .slice none 0 0, .int .i64 0, .int .i64 0, .int .i64 0] 50 (0, 0))) := below_blk hb6 (one_more wb.drew _) (heap_alloc_new wb.drew _); have hl6 := lt_of_block y81; have hw6 := hwlt; have HB12 := Nat.le_refl wb.heap.size) | ((with_reducible refine (CW1.out _ _ wb.heap.size (hVW.out _ _ hh (.inl (Nat.le_refl _))).1 (hltB.out _) (hVW.out _ _ hh (.inl (Nat.le_refl _))).2 (hbn.out _ (.inl (Nat.le_refl _)))).mono ?_); rintro e w6 ⟨⟨q6, rfl, hq6⟩, hb6⟩; have hS6 := K.out _ (hh.trans (hb6.mono hh.size)); have y81 : w6.heap[wb.heap.size]? = (some (.cells #[.string ⟨#[]⟩, .slice none 0 0, .int .i64 0, .int .i64 0, .int .i64 0] 50 (0, 0))) := below_blk hb6 (hltB.out _) (heap_alloc_new wb _); have hl6 := lt_of_block y81; have hw6 := hwlt; have HB12 := Nat.le_refl wb.heap.size) | ((with_reducible refine (CW1.out _ _ (w.heap.size + 1) (hVW.out _ _ hh (.inr rfl)).1 (hlt0.out _ hh) (hVW.out _ _ hh (.inr rfl)).2 (hbn.out _ (.inr rfl))).mono ?_); rintro e w6 ⟨⟨q6, rfl, hq6⟩, hb6⟩; have hS6 := K.out _ (hh.trans (hb6.mono hh.size)); have hl6 : w.heap.size + 1 < w6.heap.size := (by have := hS6.1.size; omega); have hw6 : w.heap.size < w.heap.size + 1 := Nat.lt_succ_self _)) | (go_at_call 72; have hh := And.left (by assumption : Below wb.heap.size wb _ ∧ _); first | ((with_reducible refine (CW2.out _ _ _ (hVW.out _ _ hh (.inr rfl)).1 hl6 hq6 hw6).mono ?_); rintro e w7 ⟨⟨q7, rfl, hq7⟩, hb7⟩; have hS7 := K.out _ (hh.trans (hb7.mono hh.size)); have hl7 := Nat.lt_of_lt_of_le hl6 hb7.size; have hw7 := hw6; first | (have y82 : w7.heap[wb.heap.size]? = (some (.cells #[.string ⟨#[]⟩, .slice none 0 0, .int .i64 0, .int .i64 0, .int .i64 0] 50 (0, 0))) := below_blk hb7 (lt_of_block y81) y81) | skip) | ((with_reducible refine (CW2.out _ _ _ (hVW.out _ _ hh (.inr rfl)).1 (one_more w6 _) (fr_b HOKA.out (hVW.out _ _ hS6.1 (.inr rfl)).1.size hq6) (by have := hS6.1.size; omega)).mono ?_); rintro e w7 ⟨⟨q7, rfl, hq7⟩, hb7⟩; have hS7 := K.out _ (hh.trans (hb7.mono hh.size)); have y82 : w7.heap[w6.heap.size]? = (some (.cells #[.string ⟨#[]⟩, .slice none 0 0, .int .i64 0, .int .i64 0, .int .i64 0] 50 (0, 0))) := below_blk hb7 (one_more w6 _) (heap_alloc_new w6 _); have hl7 := lt_of_block y82; have hw7 : w.heap.size < w6.heap.size := (by have := hS6.1.size; omega); have HB12 := hS6.1.size)) | (go_at_call 47; have hh := And.left (by assumption : Below wb.heap.size wb _ ∧ _); first | ((with_reducible refine (CB.out _ _ _ (hVW.out _ _ hh (.inr rfl)).1 hl7 hq7 hw7).mono ?_); rintro e w8 ⟨⟨T5, u5, rfl, hf8⟩, hb8⟩; have hS8 := K.out _ (hh.trans (hb8.mono hh.size)); first | (have y83 := below_blk hb8 (lt_of_block y82) y82; first | (have d0 := cell_of (j := 0) y83; have d1 := cell_of (j := 1) y83; have d2 := cell_of (j := 2) y83; have d3 := cell_of (j := 3) y83; have d4 := cell_of (j := 4) y83; have g0 := free_of (j := 0) y83; have g1 := free_of (j := 1) y83; have g2 := free_of (j := 2) y83; have g3 := free_of (j := 3) y83; have g4 := free_of (j := 4) y83) | skip) | skip) | ((with_reducible refine (CB.out _ _ _ (hVW.out _ _ hh (.inr rfl)).1 (one_more w7 _) (fr_b HOKA.out (hVW.out _ _ hS7.1 (.inr rfl)).1.size hq7) (by have := hS7.1.size; omega)).mono ?_); rintro e w8 ⟨⟨T5, u5, rfl, hf8⟩, hb8⟩; have hS8 := K.out _ (hh.trans (hb8.mono hh.size)); have y83 : w8.heap[w7.heap.size]? = (some (.cells #[.string ⟨#[]⟩, .slice none 0 0, .int .i64 0, .int .i64 0, .int .i64 0] 50 (0, 0))) := below_blk hb8 (one_more w7 _) (heap_alloc_new w7 _); have HB12 := hS7.1.size; first | (have d0 := cell_of (j := 0) y83; have d1 := cell_of (j := 1) y83; have d2 := cell_of (j := 2) y83; have d3 := cell_of (j := 3) y83; have d4 := cell_of (j := 4) y83; have g0 := free_of (j := 0) y83; have g1 := free_of (j := 1) y83; have g2 := free_of (j := 2) y83; have g3 := free_of (j := 3) y83; have g4 := free_of (j := 4) y83) | skip)) | fail)) | fail
    all_goals
      go_wp2_with fail
      go_meet
      first
        | exact ⟨_, _, rfl, Lib.hid (set5 hS8.1 HB12 _ _ _ _ _), Lib.hid (ev_x5 hf8)⟩
        | exact ⟨_, _, rfl, Lib.hid (hS8.1.alloc hS8.1.size _), Lib.hid (ev_xa HOKA.out (hVW.out _ _ hS8.1 (.inr rfl)).1.size hf8)⟩
  case rest =>
    obtain ⟨T5, u5, rfl, hbl, hev⟩ := hcut
    have y4c := below_blk hbl.out (lt_of_block yl4) yl4
    have fg0 := free_of (j := 0) y4c
    have fg1 := free_of (j := 1) y4c
    have fg2 := free_of (j := 2) y4c
    have fg3 := free_of (j := 3) y4c
    have fg4 := free_of (j := 4) y4c
    have zg0 := cell_of (j := 0) y4c
    have zg1 := cell_of (j := 1) y4c
    have zg2 := cell_of (j := 2) y4c
    have zg3 := cell_of (j := 3) y4c
    have zg4 := cell_of (j := 4) y4c
    have O4 := set5_same y4c (.string ⟨#[]⟩) (.slice none 0 0) (.int .i64 0) (.int .i64 0) (.int .i64 0)
    have r0 := cell_of (j := 0) O4
    have r1 := cell_of (j := 1) O4
    have r2 := cell_of (j := 2) O4
    have r3 := cell_of (j := 3) O4
    have r4 := cell_of (j := 4) O4
    go_wp2_with fail
    refine bodyPost_ret (v := .tuple #[.agg #[.string ⟨#[]⟩, .slice none 0 0, .int .i64 0, .int .i64 0, .int .i64 0], .iface T5 u5]) (by simp [results, Tryz.results79, go_sem, r0, r1, r2, r3, r4]) rfl ⟨?_, ?_⟩
    · exact ty3_fin (wa := wa) hok (b := w.heap.size + 1) (by omega) (by omega) (r := .error g) ⟨T5, u5, rfl, hev.out⟩ _ _ _ _ _
    · exact set5 (hBa.trans ((hBb.trans (hbl.out.mono hBb.size)).mono hBa.size)) (by omega) _ _ _ _ _
end Go.Proofs.YtjncmmnbdabjnaaGreatDoor
namespace Go.Proofs.YtjncmmnbdabjnaaGreatDoor
open Go.RowKit
set_option maxRecDepth 8000
set_option linter.unusedSimpArgs false
set_option linter.unusedVariables false
set_option maxHeartbeats 16000000 in
theorem tf_ok (ok : Nat → Prop) (pe : Option Addr) (w : World) (fn xn ua ub : ByteArray) (pa pb : Option Addr) (na ca nb cb : Nat) (a1 a2 a3 b1 b2 b3 m1 m2 m3 : Int) (Ty : TypeId) (uy : Value) (X : Ex) (t : Tr) (g : ByteArray) (t1 t2 t3 : Int) (P : Prop) (R : Bool → Except Ex Tr) (f x : Nm) (A B T : Tr) (env : List (Nm × Tr)) (hok : ∀ k, ok k → k < w.heap.size)
    (CM : Hid (Calls Tryz.prog 116 #[.string ⟨#[62]⟩, .agg #[.string ua, .slice pa na ca, .int .i64 a1, .int .i64 a2, .int .i64 a3], .agg #[.string ub, .slice pb nb cb, .int .i64 b1, .int .i64 b2, .int .i64 b3]] ((w.alloc (.cells #[.string fn, .string xn, .string ua, .slice pa na ca, .int .i64 a1, .int .i64 a2, .int .i64 a3, .string ub, .slice pb nb cb, .int .i64 b1, .int .i64 b2, .int .i64 b3, .iface Ty uy] 95)).alloc (.cells #[.string ⟨#[]⟩, .slice none 0 0, .int .i64 0, .int .i64 0, .int .i64 0] 50)) fun e w' => (∃ r5, e = .returned (.tuple #[.agg #[.string ⟨#[]⟩, .slice (some ⟨r5, 0, none⟩) 3 3, .int .i64 m1, .int .i64 m2, .int .i64 m3], .bool true]) ∧ FV nI w' (okN ((w.alloc (.cells #[.string fn, .string xn, .string ua, .slice pa na ca, .int .i64 a1, .int .i64 a2, .int .i64 a3, .string ub, .slice pb nb cb, .int .i64 b1, .int .i64 b2, .int .i64 b3, .iface Ty uy] 95)).alloc (.cells #[.string ⟨#[]⟩, .slice none 0 0, .int .i64 0, .int .i64 0, .int .i64 0] 50)) w' ok) T (nI T (.slice (some ⟨r5, 0, none⟩) 3 3))) ∧ Below ((w.alloc (.cells #[.string fn, .string xn, .string ua, .slice pa na ca, .int .i64 a1, .int .i64 a2, .int .i64 a3, .string ub, .slice pb nb cb, .int .i64 b1, .int .i64 b2, .int .i64 b3, .iface Ty uy] 95)).alloc (.cells #[.string ⟨#[]⟩, .slice none 0 0, .int .i64 0, .int .i64 0, .int .i64 0] 50)).heap.size ((w.alloc (.cells #[.string fn, .string xn, .string ua, .slice pa na ca, .int .i64 a1, .int .i64 a2, .int .i64 a3, .string ub, .slice pb nb cb, .int .i64 b1, .int .i64 b2, .int .i64 b3, .iface Ty uy] 95)).alloc (.cells #[.string ⟨#[]⟩, .slice none 0 0, .int .i64 0, .int .i64 0, .int .i64 0] 50)) w'))
    (CW1 : Hid (∀ W r5 b, Below (((w.alloc (.cells #[.string fn, .string xn, .string ua, .slice pa na ca, .int .i64 a1, .int .i64 a2, .int .i64 a3, .string ub, .slice pb nb cb, .int .i64 b1, .int .i64 b2, .int .i64 b3, .iface Ty uy] 95)).alloc (.cells #[.string ⟨#[]⟩, .slice none 0 0, .int .i64 0, .int .i64 0, .int .i64 0] 50))).heap.size ((w.alloc (.cells #[.string fn, .string xn, .string ua, .slice pa na ca, .int .i64 a1, .int .i64 a2, .int .i64 a3, .string ub, .slice pb nb cb, .int .i64 b1, .int .i64 b2, .int .i64 b3, .iface Ty uy] 95)).alloc (.cells #[.string ⟨#[]⟩, .slice none 0 0, .int .i64 0, .int .i64 0, .int .i64 0] 50)) W → b < W.heap.size → FV nI W (okX ((w.alloc (.cells #[.string fn, .string xn, .string ua, .slice pa na ca, .int .i64 a1, .int .i64 a2, .int .i64 a3, .string ub, .slice pb nb cb, .int .i64 b1, .int .i64 b2, .int .i64 b3, .iface Ty uy] 95)).alloc (.cells #[.string ⟨#[]⟩, .slice none 0 0, .int .i64 0, .int .i64 0, .int .i64 0] 50)) ok b W) T (nI T (.slice (some ⟨r5, 0, none⟩) 3 3)) → b ≠ w.heap.size ∧ (b < w.heap.size → ¬ ok b) → Calls Tryz.prog 72 #[.pointer pe, .string fn, .agg #[.string ⟨#[]⟩, .slice (some ⟨r5, 0, none⟩) 3 3, .int .i64 m1, .int .i64 m2, .int .i64 m3]] W fun e w' => (∃ q, e = .returned (.pointer q) ∧ FrO w' (okX ((w.alloc (.cells #[.string fn, .string xn, .string ua, .slice pa na ca, .int .i64 a1, .int .i64 a2, .int .i64 a3, .string ub, .slice pb nb cb, .int .i64 b1, .int .i64 b2, .int .i64 b3, .iface Ty uy] 95)).alloc (.cells #[.string ⟨#[]⟩, .slice none 0 0, .int .i64 0, .int .i64 0, .int .i64 0] 50)) ok b w') ((f, T) :: env) (.pointer q)) ∧ Below W.heap.size W w'))
    (CW2 : Hid (∀ W q b, Below (((w.alloc (.cells #[.string fn, .string xn, .string ua, .slice pa na ca, .int .i64 a1, .int .i64 a2, .int .i64 a3, .string ub, .slice pb nb cb, .int .i64 b1, .int .i64 b2, .int .i64 b3, .iface Ty uy] 95)).alloc (.cells #[.string ⟨#[]⟩, .slice none 0 0, .int .i64 0, .int .i64 0, .int .i64 0] 50))).heap.size ((w.alloc (.cells #[.string fn, .string xn, .string ua, .slice pa na ca, .int .i64 a1, .int .i64 a2, .int .i64 a3, .string ub, .slice pb nb cb, .int .i64 b1, .int .i64 b2, .int .i64 b3, .iface Ty uy] 95)).alloc (.cells #[.string ⟨#[]⟩, .slice none 0 0, .int .i64 0, .int .i64 0, .int .i64 0] 50)) W → b < W.heap.size → FrO W (okX ((w.alloc (.cells #[.string fn, .string xn, .string ua, .slice pa na ca, .int .i64 a1, .int .i64 a2, .int .i64 a3, .string ub, .slice pb nb cb, .int .i64 b1, .int .i64 b2, .int .i64 b3, .iface Ty uy] 95)).alloc (.cells #[.string ⟨#[]⟩, .slice none 0 0, .int .i64 0, .int .i64 0, .int .i64 0] 50)) ok b W) ((f, T) :: env) (.pointer q) → w.heap.size < b → Calls Tryz.prog 72 #[.pointer q, .string xn, .agg #[.string ua, .slice pa na ca, .int .i64 a1, .int .i64 a2, .int .i64 a3]] W fun e w' => (∃ q, e = .returned (.pointer q) ∧ FrO w' (okX ((w.alloc (.cells #[.string fn, .string xn, .string ua, .slice pa na ca, .int .i64 a1, .int .i64 a2, .int .i64 a3, .string ub, .slice pb nb cb, .int .i64 b1, .int .i64 b2, .int .i64 b3, .iface Ty uy] 95)).alloc (.cells #[.string ⟨#[]⟩, .slice none 0 0, .int .i64 0, .int .i64 0, .int .i64 0] 50)) ok b w') ((x, A) :: (f, T) :: env) (.pointer q)) ∧ Below W.heap.size W w'))
    (CB : Hid (∀ W q b, Below (((w.alloc (.cells #[.string fn, .string xn, .string ua, .slice pa na ca, .int .i64 a1, .int .i64 a2, .int .i64 a3, .string ub, .slice pb nb cb, .int .i64 b1, .int .i64 b2, .int .i64 b3, .iface Ty uy] 95)).alloc (.cells #[.string ⟨#[]⟩, .slice none 0 0, .int .i64 0, .int .i64 0, .int .i64 0] 50))).heap.size ((w.alloc (.cells #[.string fn, .string xn, .string ua, .slice pa na ca, .int .i64 a1, .int .i64 a2, .int .i64 a3, .string ub, .slice pb nb cb, .int .i64 b1, .int .i64 b2, .int .i64 b3, .iface Ty uy] 95)).alloc (.cells #[.string ⟨#[]⟩, .slice none 0 0, .int .i64 0, .int .i64 0, .int .i64 0] 50)) W → b < W.heap.size → FrO W (okX ((w.alloc (.cells #[.string fn, .string xn, .string ua, .slice pa na ca, .int .i64 a1, .int .i64 a2, .int .i64 a3, .string ub, .slice pb nb cb, .int .i64 b1, .int .i64 b2, .int .i64 b3, .iface Ty uy] 95)).alloc (.cells #[.string ⟨#[]⟩, .slice none 0 0, .int .i64 0, .int .i64 0, .int .i64 0] 50)) ok b W) ((x, A) :: (f, T) :: env) (.pointer q) → w.heap.size < b → Calls Tryz.prog 47 #[.pointer q, .iface Ty uy] W fun e w' => (∃ p m c, e = .returned (.tuple #[.agg #[.string g, .slice p m c, .int .i64 t1, .int .i64 t2, .int .i64 t3], .nilIface]) ∧ FV nI w' (okX ((w.alloc (.cells #[.string fn, .string xn, .string ua, .slice pa na ca, .int .i64 a1, .int .i64 a2, .int .i64 a3, .string ub, .slice pb nb cb, .int .i64 b1, .int .i64 b2, .int .i64 b3, .iface Ty uy] 95)).alloc (.cells #[.string ⟨#[]⟩, .slice none 0 0, .int .i64 0, .int .i64 0, .int .i64 0] 50)) ok b w') t (nI t (.slice p m c))) ∧ Below W.heap.size W w')) (CQ : Hid (∀ W p m c, Below (((w.alloc (.cells #[.string fn, .string xn, .string ua, .slice pa na ca, .int .i64 a1, .int .i64 a2, .int .i64 a3, .string ub, .slice pb nb cb, .int .i64 b1, .int .i64 b2, .int .i64 b3, .iface Ty uy] 95)).alloc (.cells #[.string ⟨#[]⟩, .slice none 0 0, .int .i64 0, .int .i64 0, .int .i64 0] 50))).heap.size ((w.alloc (.cells #[.string fn, .string xn, .string ua, .slice pa na ca, .int .i64 a1, .int .i64 a2, .int .i64 a3, .string ub, .slice pb nb cb, .int .i64 b1, .int .i64 b2, .int .i64 b3, .iface Ty uy] 95)).alloc (.cells #[.string ⟨#[]⟩, .slice none 0 0, .int .i64 0, .int .i64 0, .int .i64 0] 50)) W → FV nI W (okN ((w.alloc (.cells #[.string fn, .string xn, .string ua, .slice pa na ca, .int .i64 a1, .int .i64 a2, .int .i64 a3, .string ub, .slice pb nb cb, .int .i64 b1, .int .i64 b2, .int .i64 b3, .iface Ty uy] 95)).alloc (.cells #[.string ⟨#[]⟩, .slice none 0 0, .int .i64 0, .int .i64 0, .int .i64 0] 50)) W ok) t (nI t (.slice p m c)) → Calls Tryz.prog 117 #[.agg #[.string g, .slice p m c, .int .i64 t1, .int .i64 t2, .int .i64 t3], .agg #[.string ub, .slice pb nb cb, .int .i64 b1, .int .i64 b2, .int .i64 b3]] W fun e w' => EqPost P e ∧ Below W.heap.size W w'))
    (hR0 : R false = .error X) (hR1 : R true = .ok T) (HT : Hid (bs (atomOf T) = ⟨#[]⟩ ∧ (T.bytes : Int) = m1 ∧ (T.size : Int) = m2 ∧ (T.depth : Int) = m3)) (HX : Hid (EV w ok X (.iface 95 (.agg #[.string fn, .string xn, .string ua, .slice pa na ca, .int .i64 a1, .int .i64 a2, .int .i64 a3, .string ub, .slice pb nb cb, .int .i64 b1, .int .i64 b2, .int .i64 b3, .iface Ty uy])))) :
    Calls Tryz.prog 79 #[.pointer pe, .agg #[.string fn, .string xn, .string ua, .slice pa na ca, .int .i64 a1, .int .i64 a2, .int .i64 a3, .string ub, .slice pb nb cb, .int .i64 b1, .int .i64 b2, .int .i64 b3, .iface Ty uy]] w fun e w' => (∃ z, (z = true ↔ P) ∧ Ty3 w ok (R z) e w') ∧ Below w.heap.size w w' := by
  obtain ⟨wa, hwa⟩ : ∃ wa, wa = ((w.alloc (.cells #[.string fn, .string xn, .string ua, .slice pa na ca, .int .i64 a1, .int .i64 a2, .int .i64 a3, .string ub, .slice pb nb cb, .int .i64 b1, .int .i64 b2, .int .i64 b3, .iface Ty uy] 95)).alloc (.cells #[.string ⟨#[]⟩, .slice none 0 0, .int .i64 0, .int .i64 0, .int .i64 0] 50)) := ⟨_, rfl⟩
  have hBa : Below w.heap.size w wa := by rw [hwa]; exact below2 w _ _
  have hsa : wa.heap.size = w.heap.size + 2 := by rw [hwa]; simp
  have y3 : wa.heap[w.heap.size]? = some (.cells #[.string fn, .string xn, .string ua, .slice pa na ca, .int .i64 a1, .int .i64 a2, .int .i64 a3, .string ub, .slice pb nb cb, .int .i64 b1, .int .i64 b2, .int .i64 b3, .iface Ty uy] 95 (0, 0)) := by rw [hwa]; exact blk_alloc (heap_alloc_new w (.cells #[.string fn, .string xn, .string ua, .slice pa na ca, .int .i64 a1, .int .i64 a2, .int .i64 a3, .string ub, .slice pb nb cb, .int .i64 b1, .int .i64 b2, .int .i64 b3, .iface Ty uy] 95))
  have y4 : wa.heap[w.heap.size + 1]? = some (.cells #[.string ⟨#[]⟩, .slice none 0 0, .int .i64 0, .int .i64 0, .int .i64 0] 50 (0, 0)) := by rw [hwa]; exact heap_alloc_new2 w _ _
  rw [← hwa] at CM CW1 CW2 CB CQ
  have x2 := cell_of (j := 2) y3
  have x3 := cell_of (j := 3) y3
  have x4 := cell_of (j := 4) y3
  have x5 := cell_of (j := 5) y3
  have x6 := cell_of (j := 6) y3
  have x7 := cell_of (j := 7) y3
  have x8 := cell_of (j := 8) y3
  have x9 := cell_of (j := 9) y3
  have x10 := cell_of (j := 10) y3
  have x11 := cell_of (j := 11) y3
  have hoka : ∀ k, ok k → k < wa.heap.size := fun k hk => by have := hok k hk; omega
  have HOKA := Lib.hid hoka
  clear hoka
  go_enter Tryz.func79, Tryz.ntmps79
  go_wp2_with fail
  rw [← hwa]
  clear hwa
  go_upto_region 4 with (go_at_call 116; go_must (refine (CM.out).mono ?_; rintro e w5 ⟨⟨r5, rfl, hf⟩, hb5⟩; have hs5 := hb5.size; have y3b := below_blk hb5 (by omega) y3; have y4b := below_blk hb5 (by omega) y4; obtain ⟨wb, hwb⟩ : ∃ wb, wb = w5.alloc (.cells #[.string ⟨#[]⟩, .slice (some ⟨r5, 0, none⟩) 3 3, .int .i64 m1, .int .i64 m2, .int .i64 m3] 50) := ⟨_, rfl⟩; have hBb : Below wa.heap.size wa wb := (by rw [hwb]; exact hb5.trans ((below1 _ _).mono hs5)); have hVb := Lib.hid (show FV nI wb (okN wa wb ok) T (nI T (.slice (some ⟨r5, 0, none⟩) 3 3)) by rw [hwb]; exact FV.move (fun k h => h.imp id (fun q => ⟨q.1, by simp; omega⟩)) (fun k h => heap_alloc_old _ _ (okN_lt HOKA.out hs5 k h)) _ _ hf); have yl3 : wb.heap[w.heap.size]? = some (.cells #[.string fn, .string xn, .string ua, .slice pa na ca, .int .i64 a1, .int .i64 a2, .int .i64 a3, .string ub, .slice pb nb cb, .int .i64 b1, .int .i64 b2, .int .i64 b3, .iface Ty uy] 95 (0, 0)) := (by rw [hwb]; exact blk_alloc y3b); have yl4 : wb.heap[w.heap.size + 1]? = some (.cells #[.string ⟨#[]⟩, .slice none 0 0, .int .i64 0, .int .i64 0, .int .i64 0] 50 (0, 0)) := (by rw [hwb]; exact blk_alloc y4b); have yl6 : wb.heap[w5.heap.size]? = some (.cells #[.string ⟨#[]⟩, .slice (some ⟨r5, 0, none⟩) 3 3, .int .i64 m1, .int .i64 m2, .int .i64 m3] 50 (0, 0)) := (by rw [hwb]; exact heap_alloc_new w5 _); have hzb : wb.heap.size = w5.heap.size + 1 := (by rw [hwb]; simp); have K : Hid (∀ W, Below wb.heap.size wb W → (fun W => Below wb.heap.size wb W ∧ (W.cell? ⟨w.heap.size, 0, none⟩ = some (.string fn) ∧ W.cell? ⟨w.heap.size, 1, none⟩ = some (.string xn) ∧ W.cell? ⟨w.heap.size, 2, none⟩ = some (.string ua) ∧ W.cell? ⟨w.heap.size, 3, none⟩ = some (.slice pa na ca) ∧ W.cell? ⟨w.heap.size, 4, none⟩ = some (.int .i64 a1) ∧ W.cell? ⟨w.heap.size, 5, none⟩ = some (.int .i64 a2) ∧ W.cell? ⟨w.heap.size, 6, none⟩ = some (.int .i64 a3) ∧ W.cell? ⟨w.heap.size, 7, none⟩ = some (.string ub) ∧ W.cell? ⟨w.heap.size, 8, none⟩ = some (.slice pb nb cb) ∧ W.cell? ⟨w.heap.size, 9, none⟩ = some (.int .i64 b1) ∧ W.cell? ⟨w.heap.size, 10, none⟩ = some (.int .i64 b2) ∧ W.cell? ⟨w.heap.size, 11, none⟩ = some (.int .i64 b3) ∧ W.cell? ⟨w.heap.size, 12, none⟩ = some (.iface Ty uy)) ∧ (W.cell? ⟨w5.heap.size, 0, none⟩ = some (.string ⟨#[]⟩) ∧ W.cell? ⟨w5.heap.size, 1, none⟩ = some (.slice (some ⟨r5, 0, none⟩) 3 3) ∧ W.cell? ⟨w5.heap.size, 2, none⟩ = some (.int .i64 m1) ∧ W.cell? ⟨w5.heap.size, 3, none⟩ = some (.int .i64 m2) ∧ W.cell? ⟨w5.heap.size, 4, none⟩ = some (.int .i64 m3))) W) := Lib.hid (fun W hW => by have e3 := below_blk hW (lt_of_block yl3) yl3; have e6 := below_blk hW (lt_of_block yl6) yl6; exact ⟨hW, ⟨cell_of e3, cell_of e3, cell_of e3, cell_of e3, cell_of e3, cell_of e3, cell_of e3, cell_of e3, cell_of e3, cell_of e3, cell_of e3, cell_of e3, cell_of e3⟩, ⟨cell_of e6, cell_of e6, cell_of e6, cell_of e6, cell_of e6⟩⟩); have hVW : Hid (∀ W b, Below wb.heap.size wb W → (wb.heap.size ≤ b ∨ b = w.heap.size + 1) → Below wa.heap.size wa W ∧ FV nI W (okX wa ok b W) T (nI T (.slice (some ⟨r5, 0, none⟩) 3 3))) := Lib.hid (fun W b hW hb => ⟨hBb.trans (hW.mono hBb.size), FV.move (fun k h => ⟨h.imp id (fun q => ⟨q.1, by have := hW.size; omega⟩), by have := okN_lt HOKA.out hBb.size k h; rcases h with h | h; have := hok k h; omega; omega⟩) (fun k h => hW.block k (okN_lt HOKA.out hBb.size k h)) _ _ hVb.out⟩); have S0 := Lib.hid (K.out _ ((Below.refl _ wb).drew)); have hltA : Hid (∀ o : Obj, wb.heap.size < (wb.drew.alloc o).heap.size) := Lib.hid (fun o => one_more wb.drew o); have hltB : Hid (∀ o : Obj, wb.heap.size < ((wb.alloc o).drew).heap.size) := Lib.hid (fun o => one_more wb o); have hlt0 : Hid (∀ W, Below wb.heap.size wb W → w.heap.size + 1 < W.heap.size) := Lib.hid (fun W hW => by have := hW.size; have := lt_of_block yl4; omega); have hbn : Hid (∀ b, (wb.heap.size ≤ b ∨ b = w.heap.size + 1) → b ≠ w.heap.size ∧ (b < w.heap.size → ¬ ok b)) := Lib.hid (fun b hb => ⟨by have := hBb.size; omega, fun h => by have := hBb.size; omega⟩); have hwlt : w.heap.size < wb.heap.size := (by omega); have hwlt1 : w.heap.size + 1 < wb.heap.size := (by omega); clear y3b y4b yl3 yl6 hzb))
  rw [← hwb]
  clear hwb hf x2 x3 x4 x5 x6 x7 x8 x9 x10 x11 y3 y4
  go_cut [8, 9] (fun v8 v9 W => ∃ b8 p m c, v8 = .pointer (some ⟨b8, 0, none⟩) ∧ v9 = .nilIface ∧ W.heap[b8]? = some (.cells #[.string g, .slice p m c, .int .i64 t1, .int .i64 t2, .int .i64 t3] 50 (0, 0)) ∧ Hid (Below wb.heap.size wb W) ∧ Hid (FV nI W (okN wa W ok) t (nI t (.slice p m c))))
  case first =>
    first | (go_region_held3 (fun W => Below wb.heap.size wb W ∧ (W.cell? ⟨w.heap.size, 0, none⟩ = some (.string fn) ∧ W.cell? ⟨w.heap.size, 1, none⟩ = some (.string xn) ∧ W.cell? ⟨w.heap.size, 2, none⟩ = some (.string ua) ∧ W.cell? ⟨w.heap.size, 3, none⟩ = some (.slice pa na ca) ∧ W.cell? ⟨w.heap.size, 4, none⟩ = some (.int .i64 a1) ∧ W.cell? ⟨w.heap.size, 5, none⟩ = some (.int .i64 a2) ∧ W.cell? ⟨w.heap.size, 6, none⟩ = some (.int .i64 a3) ∧ W.cell? ⟨w.heap.size, 7, none⟩ = some (.string ub) ∧ W.cell? ⟨w.heap.size, 8, none⟩ = some (.slice pb nb cb) ∧ W.cell? ⟨w.heap.size, 9, none⟩ = some (.int .i64 b1) ∧ W.cell? ⟨w.heap.size, 10, none⟩ = some (.int .i64 b2) ∧ W.cell? ⟨w.heap.size, 11, none⟩ = some (.int .i64 b3) ∧ W.cell? ⟨w.heap.size, 12, none⟩ = some (.iface Ty uy)) ∧ (W.cell? ⟨w5.heap.size, 0, none⟩ = some (.string ⟨#[]⟩) ∧ W.cell? ⟨w5.heap.size, 1, none⟩ = some (.slice (some ⟨r5, 0, none⟩) 3 3) ∧ W.cell? ⟨w5.heap.size, 2, none⟩ = some (.int .i64 m1) ∧ W.cell? ⟨w5.heap.size, 3, none⟩ = some (.int .i64 m2) ∧ W.cell? ⟨w5.heap.size, 4, none⟩ = some (.int .i64 m3))) (first | exact S0.out | assumption | exact KA K.out (And.left (by assumption)) | exact KA K.out hS8.1 | exact KS5 K.out hS8.1 HB12 | fail) (first | (go_at_call 72; have hh := And.left (by assumption : Below wb.heap.size wb _ ∧ _); first | ((with_reducible refine (CW1.out _ _ wb.heap.size (hVW.out _ _ hh (.inl (Nat.le_refl _))).1 (hltA.out _) (hVW.out _ _ hh (.inl (Nat.le_refl _))).2 (hbn.out _ (.inl (Nat.le_refl _)))).mono ?_); rintro e w6 ⟨⟨q6, rfl, hq6⟩, hb6⟩; have hS6 := K.out _ (hh.trans (hb6.mono hh.size)); have y81 : w6.heap[wb.heap.size]? = (some (.cells #[.string ⟨#[]⟩, .slice none 0 0, .int .i64 0, .int .i64 0, .int .i64 0] 50 (0, 0))) := below_blk hb6 (one_more wb.drew _) (heap_alloc_new wb.drew _); have hl6 := lt_of_block y81; have hw6 := hwlt; have HB12 := Nat.le_refl wb.heap.size) | ((with_reducible refine (CW1.out _ _ wb.heap.size (hVW.out _ _ hh (.inl (Nat.le_refl _))).1 (hltB.out _) (hVW.out _ _ hh (.inl (Nat.le_refl _))).2 (hbn.out _ (.inl (Nat.le_refl _)))).mono ?_); rintro e w6 ⟨⟨q6, rfl, hq6⟩, hb6⟩; have hS6 := K.out _ (hh.trans (hb6.mono hh.size)); have y81 : w6.heap[wb.heap.size]? = (some (.cells #[.string ⟨#[]⟩, .slice none 0 0, .int .i64 0, .int .i64 0, .int .i64 0] 50 (0, 0))) := below_blk hb6 (hltB.out _) (heap_alloc_new wb _); have hl6 := lt_of_block y81; have hw6 := hwlt; have HB12 := Nat.le_refl wb.heap.size) | ((with_reducible refine (CW1.out _ _ (w.heap.size + 1) (hVW.out _ _ hh (.inr rfl)).1 (hlt0.out _ hh) (hVW.out _ _ hh (.inr rfl)).2 (hbn.out _ (.inr rfl))).mono ?_); rintro e w6 ⟨⟨q6, rfl, hq6⟩, hb6⟩; have hS6 := K.out _ (hh.trans (hb6.mono hh.size)); have hl6 : w.heap.size + 1 < w6.heap.size := (by have := hS6.1.size; omega); have hw6 : w.heap.size < w.heap.size + 1 := Nat.lt_succ_self _)) | (go_at_call 72; have hh := And.left (by assumption : Below wb.heap.size wb _ ∧ _); first | ((with_reducible refine (CW2.out _ _ _ (hVW.out _ _ hh (.inr rfl)).1 hl6 hq6 hw6).mono ?_); rintro e w7 ⟨⟨q7, rfl, hq7⟩, hb7⟩; have hS7 := K.out _ (hh.trans (hb7.mono hh.size)); have hl7 := Nat.lt_of_lt_of_le hl6 hb7.size; have hw7 := hw6; first | (have y82 : w7.heap[wb.heap.size]? = (some (.cells #[.string ⟨#[]⟩, .slice none 0 0, .int .i64 0, .int .i64 0, .int .i64 0] 50 (0, 0))) := below_blk hb7 (lt_of_block y81) y81) | skip) | ((with_reducible refine (CW2.out _ _ _ (hVW.out _ _ hh (.inr rfl)).1 (one_more w6 _) (fr_b HOKA.out (hVW.out _ _ hS6.1 (.inr rfl)).1.size hq6) (by have := hS6.1.size; omega)).mono ?_); rintro e w7 ⟨⟨q7, rfl, hq7⟩, hb7⟩; have hS7 := K.out _ (hh.trans (hb7.mono hh.size)); have y82 : w7.heap[w6.heap.size]? = (some (.cells #[.string ⟨#[]⟩, .slice none 0 0, .int .i64 0, .int .i64 0, .int .i64 0] 50 (0, 0))) := below_blk hb7 (one_more w6 _) (heap_alloc_new w6 _); have hl7 := lt_of_block y82; have hw7 : w.heap.size < w6.heap.size := (by have := hS6.1.size; omega); have HB12 := hS6.1.size)) | (go_at_call 47; have hh := And.left (by assumption : Below wb.heap.size wb _ ∧ _); first | ((with_reducible refine (CB.out _ _ _ (hVW.out _ _ hh (.inr rfl)).1 hl7 hq7 hw7).mono ?_); rintro e w8 ⟨⟨p, m, c, rfl, hf8⟩, hb8⟩; have hS8 := K.out _ (hh.trans (hb8.mono hh.size)); first | (have y83 := below_blk hb8 (lt_of_block y82) y82; first | (have d0 := cell_of (j := 0) y83; have d1 := cell_of (j := 1) y83; have d2 := cell_of (j := 2) y83; have d3 := cell_of (j := 3) y83; have d4 := cell_of (j := 4) y83; have g0 := free_of (j := 0) y83; have g1 := free_of (j := 1) y83; have g2 := free_of (j := 2) y83; have g3 := free_of (j := 3) y83; have g4 := free_of (j := 4) y83) | skip) | skip) | ((with_reducible refine (CB.out _ _ _ (hVW.out _ _ hh (.inr rfl)).1 (one_more w7 _) (fr_b HOKA.out (hVW.out _ _ hS7.1 (.inr rfl)).1.size hq7) (by have := hS7.1.size; omega)).mono ?_); rintro e w8 ⟨⟨p, m, c, rfl, hf8⟩, hb8⟩; have hS8 := K.out _ (hh.trans (hb8.mono hh.size)); have y83 : w8.heap[w7.heap.size]? = (some (.cells #[.string ⟨#[]⟩, .slice none 0 0, .int .i64 0, .int .i64 0, .int .i64 0] 50 (0, 0))) := below_blk hb8 (one_more w7 _) (heap_alloc_new w7 _); have HB12 := hS7.1.size; first | (have d0 := cell_of (j := 0) y83; have d1 := cell_of (j := 1) y83; have d2 := cell_of (j := 2) y83; have d3 := cell_of (j := 3) y83; have d4 := cell_of (j := 4) y83; have g0 := free_of (j := 0) y83; have g1 := free_of (j := 1) y83; have g2 := free_of (j := 2) y83; have g3 := free_of (j := 3) y83; have g4 := free_of (j := 4) y83) | skip)) | fail)) | fail
    all_goals
      go_wp2_with fail
      go_meet
      first
        | exact ⟨_, _, _, _, rfl, rfl, set5_same y83 _ _ _ _ _, Lib.hid (set5 hS8.1 HB12 _ _ _ _ _), Lib.hid (fv_x5 hf8)⟩
        | exact ⟨_, _, _, _, rfl, rfl, heap_alloc_new _ _, Lib.hid (hS8.1.alloc hS8.1.size _), Lib.hid (fv_xa HOKA.out (hVW.out _ _ hS8.1 (.inr rfl)).1.size hf8)⟩
  case rest =>
    obtain ⟨b8, p, m, c, rfl, rfl, hb8, hbl, hfv⟩ := hcut
    have hV9 := (hVW.out _ _ hbl.out (.inr rfl)).1
    have y4c := below_blk hbl.out (lt_of_block yl4) yl4
    have CQ1 := Lib.hid (CQ.out _ p m c hV9 hfv.out)
    obtain ⟨_, ⟨fc0, fc1, fc2, fc3, fc4, fc5, fc6, fc7, fc8, fc9, fc10, fc11, fc12⟩, ⟨mc0, mc1, mc2, mc3, mc4⟩⟩ := K.out _ hbl.out
    have n0 := cell_of (j := 0) hb8
    have n1 := cell_of (j := 1) hb8
    have n2 := cell_of (j := 2) hb8
    have n3 := cell_of (j := 3) hb8
    have n4 := cell_of (j := 4) hb8
    go_wp2_with (go_at_call 117; go_must (refine (CQ1.out).mono ?_; rintro e w10 ⟨⟨z, rfl, hz⟩, hb10⟩; have hB10 := hbl.out.trans (hb10.mono hbl.out.size); obtain ⟨_, ⟨fe0, fe1, fe2, fe3, fe4, fe5, fe6, fe7, fe8, fe9, fe10, fe11, fe12⟩, ⟨me0, me1, me2, me3, me4⟩⟩ := K.out _ hB10; have ye := below_blk hB10 (lt_of_block yl4) yl4; have fh0 := free_of (j := 0) ye; have fh1 := free_of (j := 1) ye; have fh2 := free_of (j := 2) ye; have fh3 := free_of (j := 3) ye; have fh4 := free_of (j := 4) ye; have zh0 := cell_of (j := 0) ye; have zh1 := cell_of (j := 1) ye; have zh2 := cell_of (j := 2) ye; have zh3 := cell_of (j := 3) ye; have zh4 := cell_of (j := 4) ye; have HZ := Lib.hid hz; clear hz; cases z))
    · have O4 := set5_same ye (.string ⟨#[]⟩) (.slice none 0 0) (.int .i64 0) (.int .i64 0) (.int .i64 0)
      have r0 := cell_of (j := 0) O4
      have r1 := cell_of (j := 1) O4
      have r2 := cell_of (j := 2) O4
      have r3 := cell_of (j := 3) O4
      have r4 := cell_of (j := 4) O4
      have hBw := hBa.trans (((hVW.out _ _ hB10 (.inr rfl)).1).mono hBa.size)
      try go_region
      all_goals
        go_wp2_with fail
        refine bodyPost_ret (v := .tuple #[.agg #[.string ⟨#[]⟩, .slice none 0 0, .int .i64 0, .int .i64 0, .int .i64 0], .iface 95 (.agg #[.string fn, .string xn, .string ua, .slice pa na ca, .int .i64 a1, .int .i64 a2, .int .i64 a3, .string ub, .slice pb nb cb, .int .i64 b1, .int .i64 b2, .int .i64 b3, .iface Ty uy])]) (by simp [results, Tryz.results79, go_sem, r0, r1, r2, r3, r4]) rfl ⟨?_, ?_⟩
        · refine ⟨false, HZ.out, ?_⟩
          rw [hR0]
          first
            | exact ⟨_, _, rfl, ev_keep hok HX.out (set5 hBw (by omega) _ _ _ _ _)⟩
            | exact ⟨_, _, rfl, ev_keep hok HX.out (set5 hBw (by omega) _ _ _ _ _).drew⟩
        · first
          | exact set5 hBw (by omega) _ _ _ _ _
          | exact (set5 hBw (by omega) _ _ _ _ _).drew
    · have O4 := set5_same ye (.string ⟨#[]⟩) (.slice (some ⟨r5, 0, none⟩) 3 3) (.int .i64 m1) (.int .i64 m2) (.int .i64 m3)
      have r0 := cell_of (j := 0) O4
      have r1 := cell_of (j := 1) O4
      have r2 := cell_of (j := 2) O4
      have r3 := cell_of (j := 3) O4
      have r4 := cell_of (j := 4) O4
      have hV10 := hVW.out _ _ hB10 (.inr rfl)
      have hBw := hBa.trans (hV10.1.mono hBa.size)
      refine bodyPost_ret (v := .tuple #[.agg #[.string ⟨#[]⟩, .slice (some ⟨r5, 0, none⟩) 3 3, .int .i64 m1, .int .i64 m2, .int .i64 m3], .nilIface]) (by simp [results, Tryz.results79, go_sem, r0, r1, r2, r3, r4]) rfl ⟨?_, ?_⟩
      · refine ⟨true, (by simpa using HZ.out), ?_⟩
        rw [hR1]
        obtain ⟨q1, q2, q3, q4⟩ := HT.out
        exact ty3_fin (wa := wa) hok (b := w.heap.size + 1) (by omega) (by omega) (r := .ok T) ⟨_, _, _, by rw [q1, q2, q3, q4], FV.move (fun k hk => hk.1) (fun _ _ => rfl) _ _ hV10.2⟩ _ _ _ _ _
      · exact set5 hBw (by omega) _ _ _ _ _
end Go.Proofs.YtjncmmnbdabjnaaGreatDoor
