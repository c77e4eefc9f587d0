/- The program: the type of an expression. -/
import Derived.Test.YtmgepnacjgbfhaaGreatDoorsImpl3h
namespace Go.Proofs.YtmgepnacjgbfhaaGreatDoor
open Go.RowKit Go.Proofs.Tryz
set_option maxRecDepth 8000
set_option maxHeartbeats 20000000
set_option linter.unusedVariables false
set_option linter.unusedSimpArgs false
theorem Jr {w w5 : World} {A B : Obj} (hb : Below ((w.alloc A).alloc B).heap.size ((w.alloc A).alloc B) w5) : w5.heap[w.heap.size]? = some A ∧ w5.heap[w.heap.size + 1]? = some B ∧ Below w.heap.size w w5 ∧ w.heap.size + 2 ≤ w5.heap.size :=
 ⟨Z1 hb (by simp <;> omega) (Z5 (heap_alloc_new w A)), Z1 hb (by simp <;> omega) (Z9 w A B), (Zi w A B).trans (hb.mono (by simp <;> omega)), by have := hb.size; simpa using this⟩
theorem Z68 {w w5 : World} {A B C : Obj} (hb : Below (((w.alloc A).alloc B).alloc C).heap.size (((w.alloc A).alloc B).alloc C) w5) : w5.heap[w.heap.size]? = some A ∧ w5.heap[w.heap.size + 1]? = some B ∧ w5.heap[w.heap.size + 2]? = some C ∧ Below w.heap.size w w5 ∧ w.heap.size + 3 ≤ w5.heap.size :=
 ⟨Z1 hb (by simp <;> omega) (Z5 (Z5 (heap_alloc_new w A))), Z1 hb (by simp <;> omega) (Z5 (Z9 w A B)), Z1 hb (by simp <;> omega) (by simpa using heap_alloc_new ((w.alloc A).alloc B) C), ((Zi w A B).trans ((Z4 _ C).mono (by simp <;> omega))).trans (hb.mono (by simp <;> omega)), by have := hb.size; simpa using this⟩
theorem belowT3 (w : World) (A B C : Obj) : Below w.heap.size w (((w.alloc A).alloc B).alloc C) := (Zi w A B).trans ((Z4 _ C).mono (by simp <;> omega))
theorem fv6 {w w5 w6 : World} {ok ok' : Nat → Prop} {t : Tr} {cs : List Value} {a0 a1 a2 a3 a4 : Value} (hok : ∀ k, ok k → k < w.heap.size) (hw : w6 = (((((w5.setCell ⟨w.heap.size + 1, 0, none⟩ a0).setCell ⟨w.heap.size + 1, 1, none⟩ a1).setCell ⟨w.heap.size + 1, 2, none⟩ a2).setCell ⟨w.heap.size + 1, 3, none⟩ a3).setCell ⟨w.heap.size + 1, 4, none⟩ a4)) (hk : ∀ k, ok' k → ok k ∨ (w.heap.size + 2 ≤ k ∧ k < w5.heap.size)) (hf : FV nI w5 ok' t cs) : FV nI w6 (fun k => ok k ∨ (w.heap.size + 2 ≤ k ∧ k < w6.heap.size)) t cs := by
 have hs : w6.heap.size = w5.heap.size := by rw [hw]; simp
 refine FV.move (fun k h => (hk k h).imp id (fun q => ⟨q.1, by omega⟩)) (fun k h => ?_) _ _ hf
 rw [hw]
 exact Y2 (by rcases hk k h with q | q; have := hok k q; omega; omega) _ _ _ _ _
theorem Z67 {w w6 : World} {ok : Nat → Prop} {t : Tr} {cs : List Value} (hok : ∀ k, ok k → k < w.heap.size) (hf : FV nI w6 (fun k => ok k ∨ (w.heap.size + 2 ≤ k ∧ k < w6.heap.size)) t cs) (b0 b1 b2 b3 b4 : Value) :
 FV nI (((((w6.setCell ⟨w.heap.size, 0, none⟩ b0).setCell ⟨w.heap.size, 1, none⟩ b1).setCell ⟨w.heap.size, 2, none⟩ b2).setCell ⟨w.heap.size, 3, none⟩ b3).setCell ⟨w.heap.size, 4, none⟩ b4) (okN w (((((w6.setCell ⟨w.heap.size, 0, none⟩ b0).setCell ⟨w.heap.size, 1, none⟩ b1).setCell ⟨w.heap.size, 2, none⟩ b2).setCell ⟨w.heap.size, 3, none⟩ b3).setCell ⟨w.heap.size, 4, none⟩ b4) ok) t cs := by
 refine FV.move (fun k h => h.imp id (fun q => ⟨by omega, by simpa using q.2⟩)) (fun k h => ?_) _ _ hf
 exact Y2 (by rcases h with q | q; have := hok k q; omega; omega) _ _ _ _ _
theorem ev_fin {w w5 : World} {ok ok' : Nat → Prop} {x : Ex} {v : Value} (hok : ∀ k, ok k → k < w.heap.size) (hk : ∀ k, ok' k → ok k ∨ (w.heap.size + 2 ≤ k ∧ k < w5.heap.size)) (hf : EV w5 ok' x v) (b0 b1 b2 b3 b4 : Value) :
 EV (((((w5.setCell ⟨w.heap.size, 0, none⟩ b0).setCell ⟨w.heap.size, 1, none⟩ b1).setCell ⟨w.heap.size, 2, none⟩ b2).setCell ⟨w.heap.size, 3, none⟩ b3).setCell ⟨w.heap.size, 4, none⟩ b4) (okN w (((((w5.setCell ⟨w.heap.size, 0, none⟩ b0).setCell ⟨w.heap.size, 1, none⟩ b1).setCell ⟨w.heap.size, 2, none⟩ b2).setCell ⟨w.heap.size, 3, none⟩ b3).setCell ⟨w.heap.size, 4, none⟩ b4) ok) x v := by
 refine EV.move (fun k h => ?_) (fun k h => ?_) _ _ hf
 · exact (hk k h).imp id (fun q => ⟨by omega, by simpa using q.2⟩)
 · have hne : k ≠ w.heap.size := by
    rcases hk k h with q | q
    · have := hok k q; omega
    · omega
   exact Y2 hne _ _ _ _ _
theorem Z17 {w w5 : World} {ok : Nat → Prop} {x : Ex} {v : Value} (hok : ∀ k, ok k → k < w.heap.size) (hf : EV w ok x v) (hb : Below w.heap.size w w5) : EV w5 (okN w w5 ok) x v := hf.move (fun k h => .inl h) (fun k h => hb.block k (hok k h))
theorem ty_name (s : Nm) : TyC (.name s) := by
 intro ok env pe v w henv hty hok hfr hv
 simp only [EV] at hv
 subst hv
 have CL : Hid (∀ W, Below w.heap.size w W → Calls prog 26 #[.pointer pe, .string (bs s)] W fun e w' => LoPostO ok (Yu env s) e w' ∧ Below W.heap.size W w') := H_ (fun W hW => lookO_c ok env _ s W (fun k hk => Nat.lt_of_lt_of_le (hok k hk) hW.size) (hfr.below hW hok))
 cases hl : Yu env s with
 | none =>
   rw [hl] at CL
   rw [show tyR env (.name s) = .error (.name s) by simp [tyR, Ka, hl]]
   have HV := H_ (show ∀ W ok', EV W ok' (.name s) (.iface 82 (.agg #[.string (bs s)])) from fun W ok' => rfl)
   clear hl hfr henv hty
   go_enter func19, ntmps19
   go_upto_region 21 with (go_at_call 26; go_must (refine (CL.out _ (belowT3 w _ _ _)).mono ?_; rintro e w5 ⟨rfl, hb5⟩; obtain ⟨y4, y6, y12, hB, hsz⟩ := Z68 hb5; obtain ⟨fa0, fa1, fa2, fa3, fa4⟩ := Zf y6; obtain ⟨za0, za1, za2, za3, za4⟩ := Zb y6))
   obtain ⟨w6, hw6⟩ : ∃ w6, w6 = (((((w5.setCell ⟨(w.heap.size + 1), 0, none⟩ (.string ⟨#[]⟩)).setCell ⟨(w.heap.size + 1), 1, none⟩ (.slice none 0 0)).setCell ⟨(w.heap.size + 1), 2, none⟩ (.int .i64 0)).setCell ⟨(w.heap.size + 1), 3, none⟩ (.int .i64 0)).setCell ⟨(w.heap.size + 1), 4, none⟩ (.int .i64 0)) := ⟨_, rfl⟩
   rw [← hw6]
   have y6b : w6.heap[w.heap.size + 1]? = some (.cells #[.string ⟨#[]⟩, .slice none 0 0, .int .i64 0, .int .i64 0, .int .i64 0] 49 (0, 0)) := by rw [hw6]; exact Zg y6 (.string ⟨#[]⟩) (.slice none 0 0) (.int .i64 0) (.int .i64 0) (.int .i64 0)
   have y4b : w6.heap[w.heap.size]? = some (.cells #[.string ⟨#[]⟩, .slice none 0 0, .int .i64 0, .int .i64 0, .int .i64 0] 49 (0, 0)) := by rw [hw6]; exact (Y2 (by omega) (.string ⟨#[]⟩) (.slice none 0 0) (.int .i64 0) (.int .i64 0) (.int .i64 0)).trans y4
   have hB6 : Below w.heap.size w w6 := by rw [hw6]; exact Ym hB (by omega) (.string ⟨#[]⟩) (.slice none 0 0) (.int .i64 0) (.int .i64 0) (.int .i64 0)
   clear y4 y6 hw6
   obtain ⟨fb0, fb1, fb2, fb3, fb4⟩ := Zf y4b; obtain ⟨zb0, zb1, zb2, zb3, zb4⟩ := Zb y4b
   obtain ⟨s0, s1, s2, s3, s4⟩ := Zb y6b
   have O4 := Zg y4b (.string ⟨#[]⟩) (.slice none 0 0) (.int .i64 0) (.int .i64 0) (.int .i64 0)
   obtain ⟨r0, r1, r2, r3, r4⟩ := Zb O4
   go_wp2_with fail
   refine bodyPost_ret (v := .tuple #[.agg #[.string ⟨#[]⟩, .slice none 0 0, .int .i64 0, .int .i64 0, .int .i64 0], .iface 82 (.agg #[.string (bs s)])]) (by simp [results, results19, go_sem, r0, r1, r2, r3, r4]) rfl ⟨?_, ?_⟩
   · exact ⟨_, _, rfl, HV.out _ _⟩
   · exact Ym hB6 (Nat.le_refl _) _ _ _ _ _
 | some t =>
   rw [hl] at CL
   rw [show tyR env (.name s) = .ok t by simp [tyR, Ka, hl]]
   obtain ⟨u, t1, t2, t3, hu, ht1, ht2, ht3, hq⟩ := Zm t
   have CL2 : Hid (∀ W, Below w.heap.size w W → Calls prog 26 #[.pointer pe, .string (bs s)] W fun e w' => (∃ p m c, e = .returned (.tuple #[.agg #[.string u, .slice p m c, .int .i64 t1, .int .i64 t2, .int .i64 t3], .bool true]) ∧ FV nI w' ok t (nI t (.slice p m c))) ∧ Below W.heap.size W w') := by rw [hu, ht1, ht2, ht3]; exact CL
   have HU := H_ (And.intro hu (And.intro ht1 (And.intro ht2 ht3)))
   clear hl hfr henv hty CL hu ht1 ht2 ht3 hq
   go_enter func19, ntmps19
   go_upto_region 21 with (go_at_call 26; go_must (refine (CL2.out _ (belowT3 w _ _ _)).mono ?_; rintro e w5 ⟨⟨p, m, c, rfl, hf⟩, hb5⟩; obtain ⟨y4, y6, y12, hB, hsz⟩ := Z68 hb5; obtain ⟨fa0, fa1, fa2, fa3, fa4⟩ := Zf y6; obtain ⟨za0, za1, za2, za3, za4⟩ := Zb y6))
   obtain ⟨w6, hw6⟩ : ∃ w6, w6 = (((((w5.setCell ⟨(w.heap.size + 1), 0, none⟩ (.string u)).setCell ⟨(w.heap.size + 1), 1, none⟩ (.slice p m c)).setCell ⟨(w.heap.size + 1), 2, none⟩ (.int .i64 t1)).setCell ⟨(w.heap.size + 1), 3, none⟩ (.int .i64 t2)).setCell ⟨(w.heap.size + 1), 4, none⟩ (.int .i64 t3)) := ⟨_, rfl⟩
   rw [← hw6]
   have y6b : w6.heap[w.heap.size + 1]? = some (.cells #[.string u, .slice p m c, .int .i64 t1, .int .i64 t2, .int .i64 t3] 49 (0, 0)) := by rw [hw6]; exact Zg y6 (.string u) (.slice p m c) (.int .i64 t1) (.int .i64 t2) (.int .i64 t3)
   have y4b : w6.heap[w.heap.size]? = some (.cells #[.string ⟨#[]⟩, .slice none 0 0, .int .i64 0, .int .i64 0, .int .i64 0] 49 (0, 0)) := by rw [hw6]; exact (Y2 (by omega) (.string u) (.slice p m c) (.int .i64 t1) (.int .i64 t2) (.int .i64 t3)).trans y4
   have hB6 : Below w.heap.size w w6 := by rw [hw6]; exact Ym hB (by omega) (.string u) (.slice p m c) (.int .i64 t1) (.int .i64 t2) (.int .i64 t3)
   have hf6 := H_ (fv6 hok hw6 (fun k h => .inl h) hf)
   clear y4 y6 hw6
   obtain ⟨fb0, fb1, fb2, fb3, fb4⟩ := Zf y4b; obtain ⟨zb0, zb1, zb2, zb3, zb4⟩ := Zb y4b
   obtain ⟨s0, s1, s2, s3, s4⟩ := Zb y6b
   have O4 := Zg y4b (.string u) (.slice p m c) (.int .i64 t1) (.int .i64 t2) (.int .i64 t3)
   obtain ⟨r0, r1, r2, r3, r4⟩ := Zb O4
   go_wp2_with fail
   refine bodyPost_ret (v := .tuple #[.agg #[.string u, .slice p m c, .int .i64 t1, .int .i64 t2, .int .i64 t3], .nilIface]) (by simp [results, results19, go_sem, r0, r1, r2, r3, r4]) rfl ⟨?_, ?_⟩
   · obtain ⟨q1, q2, q3, q4⟩ := HU.out
     exact ⟨p, m, c, by rw [q1, q2, q3, q4], Z67 hok hf6.out _ _ _ _ _⟩
   · exact Ym hB6 (Nat.le_refl _) _ _ _ _ _
theorem tp_number2 (w : World) (u : Value) (v : Value) : Calls prog 44 #[.iface 111 u, v] w fun e w' => (∃ p m c, e = .returned (.tuple #[.agg #[.string (bs (Z0 tI)), .slice p m c, .int .i64 tI.bytes, .int .i64 tI.size, .int .i64 tI.depth], .bool true]) ∧ FV nI w' (okN w w' (fun _ => False)) tI (nI tI (.slice p m c))) ∧ Below w.heap.size w w' := tp_number w (fun _ => False) u v
theorem ty_num (n : Int) : TyC (.num n) := by
 intro ok env pe v w henv hty hok hfr hv
 simp only [EV] at hv
 subst hv
 obtain ⟨u, t1, t2, t3, hu, ht1, ht2, ht3, hq⟩ := Zm tI
 have CT := H_ (fun W => tp_number2 W (.agg #[.int .i64 n]) (.slice none 0 0))
 rw [← hu, ← ht1, ← ht2, ← ht3] at CT
 have HU := H_ (And.intro hu (And.intro ht1 (And.intro ht2 ht3)))
 rw [show tyR env (.num n) = .ok tI by simp only [tyR]]
 clear hfr henv hty hu ht1 ht2 ht3 hq
 go_enter func19, ntmps19
 go_upto_region 21 with (first | (go_at_call 180; go_must (refine (Z08 _ _).mono ?_; rintro e w1 ⟨rfl, hb1⟩)) | (go_at_call 43; go_must (refine (typesOf_nil pe _).mono ?_; rintro e w2 ⟨rfl, hb2⟩)) | (go_at_call 44; go_must (refine (CT.out _).mono ?_; rintro e w5 ⟨⟨p, m, c, rfl, hf⟩, hb5⟩; have hb12 := hb1.trans (hb2.mono hb1.size); have hb15 := hb12.trans (hb5.mono hb12.size); obtain ⟨y4, y6, hB, hsz⟩ := Jr hb15; have hs2 := hb12.size; obtain ⟨fa0, fa1, fa2, fa3, fa4⟩ := Zf y6; obtain ⟨za0, za1, za2, za3, za4⟩ := Zb y6)))
 obtain ⟨w6, hw6⟩ : ∃ w6, w6 = (((((w5.setCell ⟨(w.heap.size + 1), 0, none⟩ (.string u)).setCell ⟨(w.heap.size + 1), 1, none⟩ (.slice p m c)).setCell ⟨(w.heap.size + 1), 2, none⟩ (.int .i64 t1)).setCell ⟨(w.heap.size + 1), 3, none⟩ (.int .i64 t2)).setCell ⟨(w.heap.size + 1), 4, none⟩ (.int .i64 t3)) := ⟨_, rfl⟩
 rw [← hw6]
 have y6b : w6.heap[w.heap.size + 1]? = some (.cells #[.string u, .slice p m c, .int .i64 t1, .int .i64 t2, .int .i64 t3] 49 (0, 0)) := by rw [hw6]; exact Zg y6 (.string u) (.slice p m c) (.int .i64 t1) (.int .i64 t2) (.int .i64 t3)
 have y4b : w6.heap[w.heap.size]? = some (.cells #[.string ⟨#[]⟩, .slice none 0 0, .int .i64 0, .int .i64 0, .int .i64 0] 49 (0, 0)) := by rw [hw6]; exact (Y2 (by omega) (.string u) (.slice p m c) (.int .i64 t1) (.int .i64 t2) (.int .i64 t3)).trans y4
 have hB6 : Below w.heap.size w w6 := by rw [hw6]; exact Ym hB (by omega) (.string u) (.slice p m c) (.int .i64 t1) (.int .i64 t2) (.int .i64 t3)
 have hf6 := H_ (fv6 hok hw6 (fun k h => .inr (by rcases h with h | h; exact h.elim; simp at hs2; omega)) hf)
 clear y4 y6 hw6
 obtain ⟨fb0, fb1, fb2, fb3, fb4⟩ := Zf y4b; obtain ⟨zb0, zb1, zb2, zb3, zb4⟩ := Zb y4b
 obtain ⟨s0, s1, s2, s3, s4⟩ := Zb y6b
 have O4 := Zg y4b (.string u) (.slice p m c) (.int .i64 t1) (.int .i64 t2) (.int .i64 t3)
 obtain ⟨r0, r1, r2, r3, r4⟩ := Zb O4
 go_wp2_with fail
 refine bodyPost_ret (v := .tuple #[.agg #[.string u, .slice p m c, .int .i64 t1, .int .i64 t2, .int .i64 t3], .nilIface]) (by simp [results, results19, go_sem, r0, r1, r2, r3, r4]) rfl ⟨?_, ?_⟩
 · obtain ⟨q1, q2, q3, q4⟩ := HU.out
   exact ⟨p, m, c, by rw [q1, q2, q3, q4], Z67 hok hf6.out _ _ _ _ _⟩
 · exact Ym hB6 (Nat.le_refl _) _ _ _ _ _
abbrev valT {w : World} {ok : Nat → Prop} {x : Ex} {v : Value} (_ : Hid (EV w ok x v)) : Value := v
theorem Z66 (T : TypeId) (hT : T = 127 ∨ T = 128 ∨ T = 129 ∨ T = 132 ∨ T = 109) (ok : Nat → Prop) (pe : Option Addr) (w : World) (Tx Ty : TypeId) (ux uy : Value) (f : Ex) (hok : ∀ k, ok k → k < w.heap.size) (CT : Hid (∀ w1 b, Below w.heap.size w w1 → w1.heap[b]? = some (.cells #[.iface Tx ux, .iface Ty uy] 44 (0, 0)) → Calls prog 43 #[.pointer pe, .slice (some ⟨b, 0, none⟩) 2 2] w1 fun e w' => Tys3 w1 ok (.error f) e w' ∧ Below w1.heap.size w1 w')) :
 Calls prog 19 #[.pointer pe, .iface T (.agg #[.iface Tx ux, .iface Ty uy])] w fun e w' => Ty3 w ok (.error f) e w' ∧ Below w.heap.size w w' := by
 rcases hT with rfl | rfl | rfl | rfl | rfl
 all_goals
  go_enter func19, ntmps19
  go_wp2_with (first | (go_at_call 175; go_must (refine (Yo Tx Ty ux uy _).mono ?_; rintro e w1 ⟨⟨b, rfl, hbB, hbl, hblk⟩, hb1⟩; have hb01 := (Zi w _ _).trans (hb1.mono (by simp; omega)))) | (go_at_call 43; go_must (refine (CT.out _ _ hb01 hblk).mono ?_; rintro e w5 ⟨⟨T5, u5, rfl, hf⟩, hb5⟩; have hb15 := hb1.trans (hb5.mono hb1.size); obtain ⟨y4, y6, hB, hsz⟩ := Jr hb15; have hs1 := hb1.size; obtain ⟨fb0, fb1, fb2, fb3, fb4⟩ := Zf y4; obtain ⟨zb0, zb1, zb2, zb3, zb4⟩ := Zb y4; have O4 := Zg y4 (.string ⟨#[]⟩) (.slice none 0 0) (.int .i64 0) (.int .i64 0) (.int .i64 0); obtain ⟨r0, r1, r2, r3, r4⟩ := Zb O4)))
  refine bodyPost_ret (v := .tuple #[.agg #[.string ⟨#[]⟩, .slice none 0 0, .int .i64 0, .int .i64 0, .int .i64 0], .iface T5 u5]) (by simp [results, results19, go_sem, r0, r1, r2, r3, r4]) rfl ⟨?_, ?_⟩
  · exact ⟨T5, u5, rfl, ev_fin hok (fun k h => h.imp id (fun q => by simp at hs1; omega)) hf _ _ _ _ _⟩
  · exact Ym hB (Nat.le_refl _) _ _ _ _ _
theorem ty_two_ok (T : TypeId) (hT : T = 127 ∨ T = 128 ∨ T = 129 ∨ T = 132 ∨ T = 109) (ok : Nat → Prop) (pe : Option Addr) (w : World) (Tx Ty : TypeId) (ux uy : Value) (X : Ex) (ts : List Tr) (J : Option Tr) (hok : ∀ k, ok k → k < w.heap.size) (CT : Hid (∀ w1 b, Below w.heap.size w w1 → w1.heap[b]? = some (.cells #[.iface Tx ux, .iface Ty uy] 44 (0, 0)) → Calls prog 43 #[.pointer pe, .slice (some ⟨b, 0, none⟩) 2 2] w1 fun e w' => Tys3 w1 ok (.ok ts) e w' ∧ Below w1.heap.size w1 w'))
 (CP : Hid (∀ w5 v ok5, (∀ k, ok5 k → k < w5.heap.size) → Z0h w5 ok5 ts v → Calls prog 44 #[.iface T (.agg #[.iface Tx ux, .iface Ty uy]), v] w5 fun e w' => J0 w5 ok5 J e w' ∧ Below w5.heap.size w5 w')) (HX : Hid (EV w ok X (.iface T (.agg #[.iface Tx ux, .iface Ty uy])))) :
 Calls prog 19 #[.pointer pe, .iface T (.agg #[.iface Tx ux, .iface Ty uy])] w fun e w' => Ty3 w ok (Ka X J) e w' ∧ Below w.heap.size w w' := by
 have CV : Hid (∀ w1 w5 v, Below w.heap.size w w1 → Below w1.heap.size w1 w5 → Z0h w5 (okN w1 w5 ok) ts v → Calls prog 44 #[.iface T (.agg #[.iface Tx ux, .iface Ty uy]), v] w5 fun e w' => J0 w5 (okN w1 w5 ok) J e w' ∧ Below w5.heap.size w5 w') := H_ (fun w1 w5 v h1 h2 h3 => CP.out w5 v _ (fun k hk => by have e1 := h1.size; have e2 := h2.size; rcases hk with hk | hk; have := hok k hk; omega; omega) h3)
 clear CP
 cases J with
 | none =>
   rcases hT with rfl | rfl | rfl | rfl | rfl
   all_goals
    go_enter func19, ntmps19
    go_upto_region 21 with (first | (go_at_call 175; go_must (refine (Yo Tx Ty ux uy _).mono ?_; rintro e w1 ⟨⟨b, rfl, hbB, hbl, hblk⟩, hb1⟩; have hb01 := (Zi w _ _).trans (hb1.mono (by simp; omega)))) | (go_at_call 43; go_must (refine (CT.out _ _ hb01 hblk).mono ?_; rintro e w3 ⟨⟨v3, rfl, hv3⟩, hb3⟩)) | (go_at_call 44; go_must (refine (CV.out _ _ _ hb01 hb3 hv3).mono ?_; rintro e w5 ⟨⟨g, p, m, c, i1, i2, i3, rfl⟩, hb5⟩; have hb13 := hb1.trans (hb3.mono hb1.size); have hb15 := hb13.trans (hb5.mono hb13.size); obtain ⟨y4, y6, hB, hsz⟩ := Jr hb15; obtain ⟨fa0, fa1, fa2, fa3, fa4⟩ := Zf y6; obtain ⟨za0, za1, za2, za3, za4⟩ := Zb y6)))
    obtain ⟨w6, hw6⟩ : ∃ w6, w6 = (((((w5.setCell ⟨(w.heap.size + 1), 0, none⟩ (.string g)).setCell ⟨(w.heap.size + 1), 1, none⟩ (.slice p m c)).setCell ⟨(w.heap.size + 1), 2, none⟩ (.int .i64 i1)).setCell ⟨(w.heap.size + 1), 3, none⟩ (.int .i64 i2)).setCell ⟨(w.heap.size + 1), 4, none⟩ (.int .i64 i3)) := ⟨_, rfl⟩
    rw [← hw6]
    have y6b : w6.heap[w.heap.size + 1]? = some (.cells #[.string g, .slice p m c, .int .i64 i1, .int .i64 i2, .int .i64 i3] 49 (0, 0)) := by rw [hw6]; exact Zg y6 (.string g) (.slice p m c) (.int .i64 i1) (.int .i64 i2) (.int .i64 i3)
    have y4b : w6.heap[w.heap.size]? = some (.cells #[.string ⟨#[]⟩, .slice none 0 0, .int .i64 0, .int .i64 0, .int .i64 0] 49 (0, 0)) := by rw [hw6]; exact (Y2 (by omega) (.string g) (.slice p m c) (.int .i64 i1) (.int .i64 i2) (.int .i64 i3)).trans y4
    have hB6 : Below w.heap.size w w6 := by rw [hw6]; exact Ym hB (by omega) (.string g) (.slice p m c) (.int .i64 i1) (.int .i64 i2) (.int .i64 i3)
    clear y4 y6 hw6
    obtain ⟨fb0, fb1, fb2, fb3, fb4⟩ := Zf y4b; obtain ⟨zb0, zb1, zb2, zb3, zb4⟩ := Zb y4b
    obtain ⟨s0, s1, s2, s3, s4⟩ := Zb y6b
    have O4 := Zg y4b (.string ⟨#[]⟩) (.slice none 0 0) (.int .i64 0) (.int .i64 0) (.int .i64 0)
    obtain ⟨r0, r1, r2, r3, r4⟩ := Zb O4
    go_wp2_with fail
    refine bodyPost_ret (v := .tuple #[.agg #[.string ⟨#[]⟩, .slice none 0 0, .int .i64 0, .int .i64 0, .int .i64 0], valT HX]) (by simp [valT, results, results19, go_sem, r0, r1, r2, r3, r4]) rfl ⟨?_, ?_⟩
    · exact ⟨_, _, rfl, Z17 hok HX.out (Ym hB6 (Nat.le_refl _) _ _ _ _ _)⟩
    · exact Ym hB6 (Nat.le_refl _) _ _ _ _ _
 | some t =>
   obtain ⟨u, t1, t2, t3, hu, ht1, ht2, ht3, hq⟩ := Zm t
   have CV2 : Hid (∀ w1 w5 v, Below w.heap.size w w1 → Below w1.heap.size w1 w5 → Z0h w5 (okN w1 w5 ok) ts v → Calls prog 44 #[.iface T (.agg #[.iface Tx ux, .iface Ty uy]), v] w5 fun e w' => (∃ p m c, e = .returned (.tuple #[.agg #[.string u, .slice p m c, .int .i64 t1, .int .i64 t2, .int .i64 t3], .bool true]) ∧ FV nI w' (okN w5 w' (okN w1 w5 ok)) t (nI t (.slice p m c))) ∧ Below w5.heap.size w5 w') := by rw [hu, ht1, ht2, ht3]; exact CV
   have HU := H_ (And.intro hu (And.intro ht1 (And.intro ht2 ht3)))
   clear CV hu ht1 ht2 ht3 hq
   rcases hT with rfl | rfl | rfl | rfl | rfl
   all_goals
    go_enter func19, ntmps19
    go_upto_region 21 with (first | (go_at_call 175; go_must (refine (Yo Tx Ty ux uy _).mono ?_; rintro e w1 ⟨⟨b, rfl, hbB, hbl, hblk⟩, hb1⟩; have hb01 := (Zi w _ _).trans (hb1.mono (by simp; omega)))) | (go_at_call 43; go_must (refine (CT.out _ _ hb01 hblk).mono ?_; rintro e w3 ⟨⟨v3, rfl, hv3⟩, hb3⟩)) | (go_at_call 44; go_must (refine (CV2.out _ _ _ hb01 hb3 hv3).mono ?_; rintro e w5 ⟨⟨p, m, c, rfl, hf⟩, hb5⟩; have hb13 := hb1.trans (hb3.mono hb1.size); have hb15 := hb13.trans (hb5.mono hb13.size); obtain ⟨y4, y6, hB, hsz⟩ := Jr hb15; have hs1 := hb1.size; have hs3 := hb3.size; have hs5 := hb5.size; obtain ⟨fa0, fa1, fa2, fa3, fa4⟩ := Zf y6; obtain ⟨za0, za1, za2, za3, za4⟩ := Zb y6)))
    obtain ⟨w6, hw6⟩ : ∃ w6, w6 = (((((w5.setCell ⟨(w.heap.size + 1), 0, none⟩ (.string u)).setCell ⟨(w.heap.size + 1), 1, none⟩ (.slice p m c)).setCell ⟨(w.heap.size + 1), 2, none⟩ (.int .i64 t1)).setCell ⟨(w.heap.size + 1), 3, none⟩ (.int .i64 t2)).setCell ⟨(w.heap.size + 1), 4, none⟩ (.int .i64 t3)) := ⟨_, rfl⟩
    rw [← hw6]
    have y6b : w6.heap[w.heap.size + 1]? = some (.cells #[.string u, .slice p m c, .int .i64 t1, .int .i64 t2, .int .i64 t3] 49 (0, 0)) := by rw [hw6]; exact Zg y6 (.string u) (.slice p m c) (.int .i64 t1) (.int .i64 t2) (.int .i64 t3)
    have y4b : w6.heap[w.heap.size]? = some (.cells #[.string ⟨#[]⟩, .slice none 0 0, .int .i64 0, .int .i64 0, .int .i64 0] 49 (0, 0)) := by rw [hw6]; exact (Y2 (by omega) (.string u) (.slice p m c) (.int .i64 t1) (.int .i64 t2) (.int .i64 t3)).trans y4
    have hB6 : Below w.heap.size w w6 := by rw [hw6]; exact Ym hB (by omega) (.string u) (.slice p m c) (.int .i64 t1) (.int .i64 t2) (.int .i64 t3)
    have hf6 := H_ (fv6 hok hw6 (fun k h => by simp at hs1; rcases h with (h | h) | h; exact .inl h; exact .inr (by omega); exact .inr (by omega)) hf)
    clear y4 y6 hw6
    obtain ⟨fb0, fb1, fb2, fb3, fb4⟩ := Zf y4b; obtain ⟨zb0, zb1, zb2, zb3, zb4⟩ := Zb y4b
    obtain ⟨s0, s1, s2, s3, s4⟩ := Zb y6b
    have O4 := Zg y4b (.string u) (.slice p m c) (.int .i64 t1) (.int .i64 t2) (.int .i64 t3)
    obtain ⟨r0, r1, r2, r3, r4⟩ := Zb O4
    go_wp2_with fail
    refine bodyPost_ret (v := .tuple #[.agg #[.string u, .slice p m c, .int .i64 t1, .int .i64 t2, .int .i64 t3], .nilIface]) (by simp [results, results19, go_sem, r0, r1, r2, r3, r4]) rfl ⟨?_, ?_⟩
    · obtain ⟨q1, q2, q3, q4⟩ := HU.out
      exact ⟨p, m, c, by rw [q1, q2, q3, q4], Z67 hok hf6.out _ _ _ _ _⟩
    · exact Ym hB6 (Nat.le_refl _) _ _ _ _ _
theorem ty_one_err (T : TypeId) (hT : T = 136 ∨ T = 137) (ok : Nat → Prop) (pe : Option Addr) (w : World) (Tx : TypeId) (ux : Value) (f : Ex) (hok : ∀ k, ok k → k < w.heap.size) (CT : Hid (∀ w1 b, Below w.heap.size w w1 → w1.heap[b]? = some (.cells #[.iface Tx ux] 44 (0, 0)) → Calls prog 43 #[.pointer pe, .slice (some ⟨b, 0, none⟩) 1 1] w1 fun e w' => Tys3 w1 ok (.error f) e w' ∧ Below w1.heap.size w1 w')) :
 Calls prog 19 #[.pointer pe, .iface T (.agg #[.iface Tx ux])] w fun e w' => Ty3 w ok (.error f) e w' ∧ Below w.heap.size w w' := by
 rcases hT with rfl | rfl
 all_goals
  go_enter func19, ntmps19
  go_wp2_with (first | (go_at_call 193; go_must (refine (Qq Tx ux _).mono ?_; rintro e w1 ⟨⟨b, rfl, hbB, hbl, hblk⟩, hb1⟩; have hb01 := (Zi w _ _).trans (hb1.mono (by simp; omega)))) | (go_at_call 43; go_must (refine (CT.out _ _ hb01 hblk).mono ?_; rintro e w5 ⟨⟨T5, u5, rfl, hf⟩, hb5⟩; have hb15 := hb1.trans (hb5.mono hb1.size); obtain ⟨y4, y6, hB, hsz⟩ := Jr hb15; have hs1 := hb1.size; obtain ⟨fb0, fb1, fb2, fb3, fb4⟩ := Zf y4; obtain ⟨zb0, zb1, zb2, zb3, zb4⟩ := Zb y4; have O4 := Zg y4 (.string ⟨#[]⟩) (.slice none 0 0) (.int .i64 0) (.int .i64 0) (.int .i64 0); obtain ⟨r0, r1, r2, r3, r4⟩ := Zb O4)))
  refine bodyPost_ret (v := .tuple #[.agg #[.string ⟨#[]⟩, .slice none 0 0, .int .i64 0, .int .i64 0, .int .i64 0], .iface T5 u5]) (by simp [results, results19, go_sem, r0, r1, r2, r3, r4]) rfl ⟨?_, ?_⟩
  · exact ⟨T5, u5, rfl, ev_fin hok (fun k h => h.imp id (fun q => by simp at hs1; omega)) hf _ _ _ _ _⟩
  · exact Ym hB (Nat.le_refl _) _ _ _ _ _
theorem ty_one_ok (T : TypeId) (hT : T = 136 ∨ T = 137) (ok : Nat → Prop) (pe : Option Addr) (w : World) (Tx : TypeId) (ux : Value) (X : Ex) (ts : List Tr) (J : Option Tr) (hok : ∀ k, ok k → k < w.heap.size) (CT : Hid (∀ w1 b, Below w.heap.size w w1 → w1.heap[b]? = some (.cells #[.iface Tx ux] 44 (0, 0)) → Calls prog 43 #[.pointer pe, .slice (some ⟨b, 0, none⟩) 1 1] w1 fun e w' => Tys3 w1 ok (.ok ts) e w' ∧ Below w1.heap.size w1 w'))
 (CP : Hid (∀ w5 v ok5, (∀ k, ok5 k → k < w5.heap.size) → Z0h w5 ok5 ts v → Calls prog 44 #[.iface T (.agg #[.iface Tx ux]), v] w5 fun e w' => J0 w5 ok5 J e w' ∧ Below w5.heap.size w5 w')) (HX : Hid (EV w ok X (.iface T (.agg #[.iface Tx ux])))) :
 Calls prog 19 #[.pointer pe, .iface T (.agg #[.iface Tx ux])] w fun e w' => Ty3 w ok (Ka X J) e w' ∧ Below w.heap.size w w' := by
 have CV : Hid (∀ w1 w5 v, Below w.heap.size w w1 → Below w1.heap.size w1 w5 → Z0h w5 (okN w1 w5 ok) ts v → Calls prog 44 #[.iface T (.agg #[.iface Tx ux]), v] w5 fun e w' => J0 w5 (okN w1 w5 ok) J e w' ∧ Below w5.heap.size w5 w') := H_ (fun w1 w5 v h1 h2 h3 => CP.out w5 v _ (fun k hk => by have e1 := h1.size; have e2 := h2.size; rcases hk with hk | hk; have := hok k hk; omega; omega) h3)
 clear CP
 cases J with
 | none =>
   rcases hT with rfl | rfl
   all_goals
    go_enter func19, ntmps19
    go_upto_region 21 with (first | (go_at_call 193; go_must (refine (Qq Tx ux _).mono ?_; rintro e w1 ⟨⟨b, rfl, hbB, hbl, hblk⟩, hb1⟩; have hb01 := (Zi w _ _).trans (hb1.mono (by simp; omega)))) | (go_at_call 43; go_must (refine (CT.out _ _ hb01 hblk).mono ?_; rintro e w3 ⟨⟨v3, rfl, hv3⟩, hb3⟩)) | (go_at_call 44; go_must (refine (CV.out _ _ _ hb01 hb3 hv3).mono ?_; rintro e w5 ⟨⟨g, p, m, c, i1, i2, i3, rfl⟩, hb5⟩; have hb13 := hb1.trans (hb3.mono hb1.size); have hb15 := hb13.trans (hb5.mono hb13.size); obtain ⟨y4, y6, hB, hsz⟩ := Jr hb15; obtain ⟨fa0, fa1, fa2, fa3, fa4⟩ := Zf y6; obtain ⟨za0, za1, za2, za3, za4⟩ := Zb y6)))
    obtain ⟨w6, hw6⟩ : ∃ w6, w6 = (((((w5.setCell ⟨(w.heap.size + 1), 0, none⟩ (.string g)).setCell ⟨(w.heap.size + 1), 1, none⟩ (.slice p m c)).setCell ⟨(w.heap.size + 1), 2, none⟩ (.int .i64 i1)).setCell ⟨(w.heap.size + 1), 3, none⟩ (.int .i64 i2)).setCell ⟨(w.heap.size + 1), 4, none⟩ (.int .i64 i3)) := ⟨_, rfl⟩
    rw [← hw6]
    have y6b : w6.heap[w.heap.size + 1]? = some (.cells #[.string g, .slice p m c, .int .i64 i1, .int .i64 i2, .int .i64 i3] 49 (0, 0)) := by rw [hw6]; exact Zg y6 (.string g) (.slice p m c) (.int .i64 i1) (.int .i64 i2) (.int .i64 i3)
    have y4b : w6.heap[w.heap.size]? = some (.cells #[.string ⟨#[]⟩, .slice none 0 0, .int .i64 0, .int .i64 0, .int .i64 0] 49 (0, 0)) := by rw [hw6]; exact (Y2 (by omega) (.string g) (.slice p m c) (.int .i64 i1) (.int .i64 i2) (.int .i64 i3)).trans y4
    have hB6 : Below w.heap.size w w6 := by rw [hw6]; exact Ym hB (by omega) (.string g) (.slice p m c) (.int .i64 i1) (.int .i64 i2) (.int .i64 i3)
    clear y4 y6 hw6
    obtain ⟨fb0, fb1, fb2, fb3, fb4⟩ := Zf y4b; obtain ⟨zb0, zb1, zb2, zb3, zb4⟩ := Zb y4b
    obtain ⟨s0, s1, s2, s3, s4⟩ := Zb y6b
    have O4 := Zg y4b (.string ⟨#[]⟩) (.slice none 0 0) (.int .i64 0) (.int .i64 0) (.int .i64 0)
    obtain ⟨r0, r1, r2, r3, r4⟩ := Zb O4
    go_wp2_with fail
    refine bodyPost_ret (v := .tuple #[.agg #[.string ⟨#[]⟩, .slice none 0 0, .int .i64 0, .int .i64 0, .int .i64 0], valT HX]) (by simp [valT, results, results19, go_sem, r0, r1, r2, r3, r4]) rfl ⟨?_, ?_⟩
    · exact ⟨_, _, rfl, Z17 hok HX.out (Ym hB6 (Nat.le_refl _) _ _ _ _ _)⟩
    · exact Ym hB6 (Nat.le_refl _) _ _ _ _ _
 | some t =>
   obtain ⟨u, t1, t2, t3, hu, ht1, ht2, ht3, hq⟩ := Zm t
   have CV2 : Hid (∀ w1 w5 v, Below w.heap.size w w1 → Below w1.heap.size w1 w5 → Z0h w5 (okN w1 w5 ok) ts v → Calls prog 44 #[.iface T (.agg #[.iface Tx ux]), v] w5 fun e w' => (∃ p m c, e = .returned (.tuple #[.agg #[.string u, .slice p m c, .int .i64 t1, .int .i64 t2, .int .i64 t3], .bool true]) ∧ FV nI w' (okN w5 w' (okN w1 w5 ok)) t (nI t (.slice p m c))) ∧ Below w5.heap.size w5 w') := by rw [hu, ht1, ht2, ht3]; exact CV
   have HU := H_ (And.intro hu (And.intro ht1 (And.intro ht2 ht3)))
   clear CV hu ht1 ht2 ht3 hq
   rcases hT with rfl | rfl
   all_goals
    go_enter func19, ntmps19
    go_upto_region 21 with (first | (go_at_call 193; go_must (refine (Qq Tx ux _).mono ?_; rintro e w1 ⟨⟨b, rfl, hbB, hbl, hblk⟩, hb1⟩; have hb01 := (Zi w _ _).trans (hb1.mono (by simp; omega)))) | (go_at_call 43; go_must (refine (CT.out _ _ hb01 hblk).mono ?_; rintro e w3 ⟨⟨v3, rfl, hv3⟩, hb3⟩)) | (go_at_call 44; go_must (refine (CV2.out _ _ _ hb01 hb3 hv3).mono ?_; rintro e w5 ⟨⟨p, m, c, rfl, hf⟩, hb5⟩; have hb13 := hb1.trans (hb3.mono hb1.size); have hb15 := hb13.trans (hb5.mono hb13.size); obtain ⟨y4, y6, hB, hsz⟩ := Jr hb15; have hs1 := hb1.size; have hs3 := hb3.size; have hs5 := hb5.size; obtain ⟨fa0, fa1, fa2, fa3, fa4⟩ := Zf y6; obtain ⟨za0, za1, za2, za3, za4⟩ := Zb y6)))
    obtain ⟨w6, hw6⟩ : ∃ w6, w6 = (((((w5.setCell ⟨(w.heap.size + 1), 0, none⟩ (.string u)).setCell ⟨(w.heap.size + 1), 1, none⟩ (.slice p m c)).setCell ⟨(w.heap.size + 1), 2, none⟩ (.int .i64 t1)).setCell ⟨(w.heap.size + 1), 3, none⟩ (.int .i64 t2)).setCell ⟨(w.heap.size + 1), 4, none⟩ (.int .i64 t3)) := ⟨_, rfl⟩
    rw [← hw6]
    have y6b : w6.heap[w.heap.size + 1]? = some (.cells #[.string u, .slice p m c, .int .i64 t1, .int .i64 t2, .int .i64 t3] 49 (0, 0)) := by rw [hw6]; exact Zg y6 (.string u) (.slice p m c) (.int .i64 t1) (.int .i64 t2) (.int .i64 t3)
    have y4b : w6.heap[w.heap.size]? = some (.cells #[.string ⟨#[]⟩, .slice none 0 0, .int .i64 0, .int .i64 0, .int .i64 0] 49 (0, 0)) := by rw [hw6]; exact (Y2 (by omega) (.string u) (.slice p m c) (.int .i64 t1) (.int .i64 t2) (.int .i64 t3)).trans y4
    have hB6 : Below w.heap.size w w6 := by rw [hw6]; exact Ym hB (by omega) (.string u) (.slice p m c) (.int .i64 t1) (.int .i64 t2) (.int .i64 t3)
    have hf6 := H_ (fv6 hok hw6 (fun k h => by simp at hs1; rcases h with (h | h) | h; exact .inl h; exact .inr (by omega); exact .inr (by omega)) hf)
    clear y4 y6 hw6
    obtain ⟨fb0, fb1, fb2, fb3, fb4⟩ := Zf y4b; obtain ⟨zb0, zb1, zb2, zb3, zb4⟩ := Zb y4b
    obtain ⟨s0, s1, s2, s3, s4⟩ := Zb y6b
    have O4 := Zg y4b (.string u) (.slice p m c) (.int .i64 t1) (.int .i64 t2) (.int .i64 t3)
    obtain ⟨r0, r1, r2, r3, r4⟩ := Zb O4
    go_wp2_with fail
    refine bodyPost_ret (v := .tuple #[.agg #[.string u, .slice p m c, .int .i64 t1, .int .i64 t2, .int .i64 t3], .nilIface]) (by simp [results, results19, go_sem, r0, r1, r2, r3, r4]) rfl ⟨?_, ?_⟩
    · obtain ⟨q1, q2, q3, q4⟩ := HU.out
      exact ⟨p, m, c, by rw [q1, q2, q3, q4], Z67 hok hf6.out _ _ _ _ _⟩
    · exact Ym hB6 (Nat.le_refl _) _ _ _ _ _
theorem Z4d (ok : Nat → Prop) (pe : Option Addr) (w : World) (Tx Ty Tz : TypeId) (ux uy uz : Value) (f : Ex) (hok : ∀ k, ok k → k < w.heap.size) (CT : Hid (∀ w1 b, Below w.heap.size w w1 → w1.heap[b]? = some (.cells #[.iface Tx ux, .iface Ty uy, .iface Tz uz] 44 (0, 0)) → Calls prog 43 #[.pointer pe, .slice (some ⟨b, 0, none⟩) 3 3] w1 fun e w' => Tys3 w1 ok (.error f) e w' ∧ Below w1.heap.size w1 w')) :
 Calls prog 19 #[.pointer pe, .iface 131 (.agg #[.iface Tx ux, .iface Ty uy, .iface Tz uz])] w fun e w' => Ty3 w ok (.error f) e w' ∧ Below w.heap.size w w' := by
 go_enter func19, ntmps19
 go_wp2_with (first | (go_at_call 189; go_must (refine (Jt Tx Ty Tz ux uy uz _).mono ?_; rintro e w1 ⟨⟨b, rfl, hbB, hbl, hblk⟩, hb1⟩; have hb01 := (Zi w _ _).trans (hb1.mono (by simp; omega)))) | (go_at_call 43; go_must (refine (CT.out _ _ hb01 hblk).mono ?_; rintro e w5 ⟨⟨T5, u5, rfl, hf⟩, hb5⟩; have hb15 := hb1.trans (hb5.mono hb1.size); obtain ⟨y4, y6, hB, hsz⟩ := Jr hb15; have hs1 := hb1.size; obtain ⟨fb0, fb1, fb2, fb3, fb4⟩ := Zf y4; obtain ⟨zb0, zb1, zb2, zb3, zb4⟩ := Zb y4; have O4 := Zg y4 (.string ⟨#[]⟩) (.slice none 0 0) (.int .i64 0) (.int .i64 0) (.int .i64 0); obtain ⟨r0, r1, r2, r3, r4⟩ := Zb O4)))
 refine bodyPost_ret (v := .tuple #[.agg #[.string ⟨#[]⟩, .slice none 0 0, .int .i64 0, .int .i64 0, .int .i64 0], .iface T5 u5]) (by simp [results, results19, go_sem, r0, r1, r2, r3, r4]) rfl ⟨?_, ?_⟩
 · exact ⟨T5, u5, rfl, ev_fin hok (fun k h => h.imp id (fun q => by simp at hs1; omega)) hf _ _ _ _ _⟩
 · exact Ym hB (Nat.le_refl _) _ _ _ _ _
theorem ty_if_ok (ok : Nat → Prop) (pe : Option Addr) (w : World) (Tx Ty Tz : TypeId) (ux uy uz : Value) (X : Ex) (ts : List Tr) (J : Option Tr) (hok : ∀ k, ok k → k < w.heap.size) (CT : Hid (∀ w1 b, Below w.heap.size w w1 → w1.heap[b]? = some (.cells #[.iface Tx ux, .iface Ty uy, .iface Tz uz] 44 (0, 0)) → Calls prog 43 #[.pointer pe, .slice (some ⟨b, 0, none⟩) 3 3] w1 fun e w' => Tys3 w1 ok (.ok ts) e w' ∧ Below w1.heap.size w1 w'))
 (CP : Hid (∀ w5 v ok5, (∀ k, ok5 k → k < w5.heap.size) → Z0h w5 ok5 ts v → Calls prog 44 #[.iface 131 (.agg #[.iface Tx ux, .iface Ty uy, .iface Tz uz]), v] w5 fun e w' => J0 w5 ok5 J e w' ∧ Below w5.heap.size w5 w')) (HX : Hid (EV w ok X (.iface 131 (.agg #[.iface Tx ux, .iface Ty uy, .iface Tz uz])))) :
 Calls prog 19 #[.pointer pe, .iface 131 (.agg #[.iface Tx ux, .iface Ty uy, .iface Tz uz])] w fun e w' => Ty3 w ok (Ka X J) e w' ∧ Below w.heap.size w w' := by
 have CV : Hid (∀ w1 w5 v, Below w.heap.size w w1 → Below w1.heap.size w1 w5 → Z0h w5 (okN w1 w5 ok) ts v → Calls prog 44 #[.iface 131 (.agg #[.iface Tx ux, .iface Ty uy, .iface Tz uz]), v] w5 fun e w' => J0 w5 (okN w1 w5 ok) J e w' ∧ Below w5.heap.size w5 w') := H_ (fun w1 w5 v h1 h2 h3 => CP.out w5 v _ (fun k hk => by have e1 := h1.size; have e2 := h2.size; rcases hk with hk | hk; have := hok k hk; omega; omega) h3)
 clear CP
 cases J with
 | none =>
   go_enter func19, ntmps19
   go_upto_region 21 with (first | (go_at_call 189; go_must (refine (Jt Tx Ty Tz ux uy uz _).mono ?_; rintro e w1 ⟨⟨b, rfl, hbB, hbl, hblk⟩, hb1⟩; have hb01 := (Zi w _ _).trans (hb1.mono (by simp; omega)))) | (go_at_call 43; go_must (refine (CT.out _ _ hb01 hblk).mono ?_; rintro e w3 ⟨⟨v3, rfl, hv3⟩, hb3⟩)) | (go_at_call 44; go_must (refine (CV.out _ _ _ hb01 hb3 hv3).mono ?_; rintro e w5 ⟨⟨g, p, m, c, i1, i2, i3, rfl⟩, hb5⟩; have hb13 := hb1.trans (hb3.mono hb1.size); have hb15 := hb13.trans (hb5.mono hb13.size); obtain ⟨y4, y6, hB, hsz⟩ := Jr hb15; obtain ⟨fa0, fa1, fa2, fa3, fa4⟩ := Zf y6; obtain ⟨za0, za1, za2, za3, za4⟩ := Zb y6)))
   obtain ⟨w6, hw6⟩ : ∃ w6, w6 = (((((w5.setCell ⟨(w.heap.size + 1), 0, none⟩ (.string g)).setCell ⟨(w.heap.size + 1), 1, none⟩ (.slice p m c)).setCell ⟨(w.heap.size + 1), 2, none⟩ (.int .i64 i1)).setCell ⟨(w.heap.size + 1), 3, none⟩ (.int .i64 i2)).setCell ⟨(w.heap.size + 1), 4, none⟩ (.int .i64 i3)) := ⟨_, rfl⟩
   rw [← hw6]
   have y6b : w6.heap[w.heap.size + 1]? = some (.cells #[.string g, .slice p m c, .int .i64 i1, .int .i64 i2, .int .i64 i3] 49 (0, 0)) := by rw [hw6]; exact Zg y6 (.string g) (.slice p m c) (.int .i64 i1) (.int .i64 i2) (.int .i64 i3)
   have y4b : w6.heap[w.heap.size]? = some (.cells #[.string ⟨#[]⟩, .slice none 0 0, .int .i64 0, .int .i64 0, .int .i64 0] 49 (0, 0)) := by rw [hw6]; exact (Y2 (by omega) (.string g) (.slice p m c) (.int .i64 i1) (.int .i64 i2) (.int .i64 i3)).trans y4
   have hB6 : Below w.heap.size w w6 := by rw [hw6]; exact Ym hB (by omega) (.string g) (.slice p m c) (.int .i64 i1) (.int .i64 i2) (.int .i64 i3)
   clear y4 y6 hw6
   obtain ⟨fb0, fb1, fb2, fb3, fb4⟩ := Zf y4b; obtain ⟨zb0, zb1, zb2, zb3, zb4⟩ := Zb y4b
   obtain ⟨s0, s1, s2, s3, s4⟩ := Zb y6b
   have O4 := Zg y4b (.string ⟨#[]⟩) (.slice none 0 0) (.int .i64 0) (.int .i64 0) (.int .i64 0)
   obtain ⟨r0, r1, r2, r3, r4⟩ := Zb O4
   go_wp2_with fail
   refine bodyPost_ret (v := .tuple #[.agg #[.string ⟨#[]⟩, .slice none 0 0, .int .i64 0, .int .i64 0, .int .i64 0], .iface 131 (.agg #[.iface Tx ux, .iface Ty uy, .iface Tz uz])]) (by simp [results, results19, go_sem, r0, r1, r2, r3, r4]) rfl ⟨?_, ?_⟩
   · exact ⟨_, _, rfl, Z17 hok HX.out (Ym hB6 (Nat.le_refl _) _ _ _ _ _)⟩
   · exact Ym hB6 (Nat.le_refl _) _ _ _ _ _
 | some t =>
   obtain ⟨u, t1, t2, t3, hu, ht1, ht2, ht3, hq⟩ := Zm t
   have CV2 : Hid (∀ w1 w5 v, Below w.heap.size w w1 → Below w1.heap.size w1 w5 → Z0h w5 (okN w1 w5 ok) ts v → Calls prog 44 #[.iface 131 (.agg #[.iface Tx ux, .iface Ty uy, .iface Tz uz]), v] w5 fun e w' => (∃ p m c, e = .returned (.tuple #[.agg #[.string u, .slice p m c, .int .i64 t1, .int .i64 t2, .int .i64 t3], .bool true]) ∧ FV nI w' (okN w5 w' (okN w1 w5 ok)) t (nI t (.slice p m c))) ∧ Below w5.heap.size w5 w') := by rw [hu, ht1, ht2, ht3]; exact CV
   have HU := H_ (And.intro hu (And.intro ht1 (And.intro ht2 ht3)))
   clear CV hu ht1 ht2 ht3 hq
   go_enter func19, ntmps19
   go_upto_region 21 with (first | (go_at_call 189; go_must (refine (Jt Tx Ty Tz ux uy uz _).mono ?_; rintro e w1 ⟨⟨b, rfl, hbB, hbl, hblk⟩, hb1⟩; have hb01 := (Zi w _ _).trans (hb1.mono (by simp; omega)))) | (go_at_call 43; go_must (refine (CT.out _ _ hb01 hblk).mono ?_; rintro e w3 ⟨⟨v3, rfl, hv3⟩, hb3⟩)) | (go_at_call 44; go_must (refine (CV2.out _ _ _ hb01 hb3 hv3).mono ?_; rintro e w5 ⟨⟨p, m, c, rfl, hf⟩, hb5⟩; have hb13 := hb1.trans (hb3.mono hb1.size); have hb15 := hb13.trans (hb5.mono hb13.size); obtain ⟨y4, y6, hB, hsz⟩ := Jr hb15; have hs1 := hb1.size; have hs3 := hb3.size; have hs5 := hb5.size; obtain ⟨fa0, fa1, fa2, fa3, fa4⟩ := Zf y6; obtain ⟨za0, za1, za2, za3, za4⟩ := Zb y6)))
   obtain ⟨w6, hw6⟩ : ∃ w6, w6 = (((((w5.setCell ⟨(w.heap.size + 1), 0, none⟩ (.string u)).setCell ⟨(w.heap.size + 1), 1, none⟩ (.slice p m c)).setCell ⟨(w.heap.size + 1), 2, none⟩ (.int .i64 t1)).setCell ⟨(w.heap.size + 1), 3, none⟩ (.int .i64 t2)).setCell ⟨(w.heap.size + 1), 4, none⟩ (.int .i64 t3)) := ⟨_, rfl⟩
   rw [← hw6]
   have y6b : w6.heap[w.heap.size + 1]? = some (.cells #[.string u, .slice p m c, .int .i64 t1, .int .i64 t2, .int .i64 t3] 49 (0, 0)) := by rw [hw6]; exact Zg y6 (.string u) (.slice p m c) (.int .i64 t1) (.int .i64 t2) (.int .i64 t3)
   have y4b : w6.heap[w.heap.size]? = some (.cells #[.string ⟨#[]⟩, .slice none 0 0, .int .i64 0, .int .i64 0, .int .i64 0] 49 (0, 0)) := by rw [hw6]; exact (Y2 (by omega) (.string u) (.slice p m c) (.int .i64 t1) (.int .i64 t2) (.int .i64 t3)).trans y4
   have hB6 : Below w.heap.size w w6 := by rw [hw6]; exact Ym hB (by omega) (.string u) (.slice p m c) (.int .i64 t1) (.int .i64 t2) (.int .i64 t3)
   have hf6 := H_ (fv6 hok hw6 (fun k h => by simp at hs1; rcases h with (h | h) | h; exact .inl h; exact .inr (by omega); exact .inr (by omega)) hf)
   clear y4 y6 hw6
   obtain ⟨fb0, fb1, fb2, fb3, fb4⟩ := Zf y4b; obtain ⟨zb0, zb1, zb2, zb3, zb4⟩ := Zb y4b
   obtain ⟨s0, s1, s2, s3, s4⟩ := Zb y6b
   have O4 := Zg y4b (.string u) (.slice p m c) (.int .i64 t1) (.int .i64 t2) (.int .i64 t3)
   obtain ⟨r0, r1, r2, r3, r4⟩ := Zb O4
   go_wp2_with fail
   refine bodyPost_ret (v := .tuple #[.agg #[.string u, .slice p m c, .int .i64 t1, .int .i64 t2, .int .i64 t3], .nilIface]) (by simp [results, results19, go_sem, r0, r1, r2, r3, r4]) rfl ⟨?_, ?_⟩
   · obtain ⟨q1, q2, q3, q4⟩ := HU.out
     exact ⟨p, m, c, by rw [q1, q2, q3, q4], Z67 hok hf6.out _ _ _ _ _⟩
   · exact Ym hB6 (Nat.le_refl _) _ _ _ _ _
end Go.Proofs.YtmgepnacjgbfhaaGreatDoor
