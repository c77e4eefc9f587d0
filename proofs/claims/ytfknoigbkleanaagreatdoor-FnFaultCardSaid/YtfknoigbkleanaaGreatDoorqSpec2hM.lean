/- The first fault of a text, the plain mathematics. The program's ExprFault. The reference model: the free names of a text, and whether it is closed. -/
import Derived.Test.YtfknoigbkleanaaGreatDoorqPureT
import Derived.Test.YtfknoigbkleanaaGreatDoorqImpl2vM
import Derived.Test.YtfknoigbkleanaaGreatDoorqImpl3y
import Derived.Test.YtfknoigbkleanaaGreatDoorqBuildM
import Derived.Test.YtfknoigbkleanaaGreatDoorqS2f
namespace Go.Proofs.YtfknoigbkleanaaGreatDoor
open Go.RowKit Go.Proofs.Tryz
set_option maxRecDepth 8000
set_option maxHeartbeats 20000000
set_option linter.unusedVariables false
set_option linter.unusedSimpArgs false
def Z7n (l : List UInt8) : Option Nm :=
 match X4 l with
 | none => none
 | some x => match tyR [] x with
   | .ok _ => none
   | .error f => some (Z2 f).text
theorem Z4e {l : List UInt8} (h : X4 l = none) : Z7n l = none := by simp [Z7n, h]
theorem Z7w {l : List UInt8} {x : Ex} {t : Tr} (h : X4 l = some x) (ht : tyR [] x = .ok t) : Z7n l = none := by simp [Z7n, h, ht]
theorem Z9g {l : List UInt8} {x f : Ex} (h : X4 l = some x) (ht : tyR [] x = .error f) : Z7n l = some (Z2 f).text := by simp [Z7n, h, ht]
theorem Z1j {l : List UInt8} {x : Ex} (h : X4 l = some x) : Yb l = some x ∧ Ze x = [] := by
 unfold X4 at h
 simp only [Option.filter_eq_some_iff] at h
 exact ⟨h.1, by simpa using h.2⟩
theorem Z28 {x f : Ex} {o : Option Tr} (h : Jw x o = .error f) : f = x := by cases o <;> simp [Jw] at h; exact h.symm
theorem Z04 : ∀ (x : Ex) (env : List (Nm × Tr)) (f : Ex), tyR env x = .error f → (Z2 x).wf ∧ Qg x → ((Z2 f).wf ∧ Qg f) ∧ (Z2 f).bytes ≤ (Z2 x).bytes
 | .name s, env, f, h, hw => by simp only [tyR] at h; rw [Z28 h]; exact ⟨hw, Nat.le_refl _⟩
 | .num n, env, f, h, hw => by simp [tyR] at h
 | .two o a b, env, f, h, hw => by
   have hw' := hw
   simp only [Z2, Tr.wf, wfs, Qg] at hw
   have e1 : (Z2 (.two o a b)).bytes = (Z2 (.two o a b)).bytes := rfl
   simp only [tyR] at h
   split at h
   · rename_i g h1; simp only [Except.error.injEq] at h; subst h
     obtain ⟨q1, q2⟩ := Z04 a env _ h1 ⟨hw.1.2.2.1, hw.2.1⟩
     exact ⟨q1, by simp only [Z2, Tr.bytes, Zk]; omega⟩
   · split at h
     · rename_i g h1; simp only [Except.error.injEq] at h; subst h
       obtain ⟨q1, q2⟩ := Z04 b env _ h1 ⟨hw.1.2.2.2.1, hw.2.2⟩
       exact ⟨q1, by simp only [Z2, Tr.bytes, Zk]; omega⟩
     · rw [Z28 h]; exact ⟨hw', Nat.le_refl _⟩
 | .one o a, env, f, h, hw => by
   have hw' := hw
   simp only [Z2, Tr.wf, wfs, Qg] at hw
   simp only [tyR] at h
   split at h
   · rename_i g h1; simp only [Except.error.injEq] at h; subst h
     obtain ⟨q1, q2⟩ := Z04 a env _ h1 ⟨hw.1.2.2.1, hw.2⟩
     exact ⟨q1, by simp only [Z2, Tr.bytes, Zk]; omega⟩
   · rw [Z28 h]; exact ⟨hw', Nat.le_refl _⟩
 | .cond a b c, env, f, h, hw => by
   have hw' := hw
   simp only [Z2, Tr.wf, wfs, Qg] at hw
   simp only [tyR] at h
   split at h
   · rename_i g h1; simp only [Except.error.injEq] at h; subst h
     obtain ⟨q1, q2⟩ := Z04 a env _ h1 ⟨hw.1.2.2.1, hw.2.1⟩
     exact ⟨q1, by simp only [Z2, Tr.bytes, Zk]; omega⟩
   · split at h
     · rename_i g h1; simp only [Except.error.injEq] at h; subst h
       obtain ⟨q1, q2⟩ := Z04 b env _ h1 ⟨hw.1.2.2.2.1, hw.2.2.1⟩
       exact ⟨q1, by simp only [Z2, Tr.bytes, Zk]; omega⟩
     · split at h
       · rename_i g h1; simp only [Except.error.injEq] at h; subst h
         obtain ⟨q1, q2⟩ := Z04 c env _ h1 ⟨hw.1.2.2.2.2.1, hw.2.2.2⟩
         exact ⟨q1, by simp only [Z2, Tr.bytes, Zk]; omega⟩
       · rw [Z28 h]; exact ⟨hw', Nat.le_refl _⟩
 | .lete s e b, env, f, h, hw => by
   simp only [Z2, Tr.wf, wfs, Qg] at hw
   simp only [tyR] at h
   split at h
   · rename_i g h1; simp only [Except.error.injEq] at h; subst h
     obtain ⟨q1, q2⟩ := Z04 e env _ h1 ⟨hw.1.2.2.2.1, hw.2.2.1⟩
     exact ⟨q1, by simp only [Z2, Tr.bytes, Zk]; omega⟩
   · obtain ⟨q1, q2⟩ := Z04 b _ f h ⟨hw.1.2.2.2.2.1, hw.2.2.2⟩
     exact ⟨q1, by simp only [Z2, Tr.bytes, Zk]; omega⟩
 | .func n s A B e, env, f, h, hw => by
   have hw' := hw
   simp only [Z2, Tr.wf, wfs, Qg] at hw
   simp only [tyR] at h
   split at h
   · simp only [Except.error.injEq] at h; subst h; exact ⟨hw', Nat.le_refl _⟩
   · split at h
     · rename_i g h1; simp only [Except.error.injEq] at h; subst h
       obtain ⟨q1, q2⟩ := Z04 e _ _ h1 ⟨hw.1.2.2.2.2.2.2.1, hw.2.2.2⟩
       exact ⟨q1, by simp only [Z2, Tr.bytes, Zk]; omega⟩
     · rw [Z28 h]; exact ⟨hw', Nat.le_refl _⟩
theorem closedF_none {s : ByteArray} (hs : s.size ≤ 1048576) (hp : X4 s.data.toList = none) (W : World) : Calls prog 58 #[.string s] W fun e w' => (∃ v, e = .returned (.tuple #[v, .bool false])) ∧ Below W.heap.size W w' :=
 (Vh s hs W).mono fun e w' ⟨h1, h2⟩ => ⟨by rw [hp] at h1; exact Z0q h1, h2⟩
theorem closedF_some {s : ByteArray} (hs : s.size ≤ 1048576) {x : Ex} (hp : X4 s.data.toList = some x) (W : World) : Calls prog 58 #[.string s] W fun e w' => (∃ T u, e = .returned (.tuple #[.iface T u, .bool true]) ∧ EV w' (fun k => W.heap.size ≤ k ∧ k < w'.heap.size) x (.iface T u)) ∧ Below W.heap.size W w' :=
 (Vh s hs W).mono fun e w' ⟨h1, h2⟩ => ⟨by rw [hp] at h1; obtain ⟨v, q1, q2⟩ := h1; obtain ⟨T, u, rfl⟩ := q2.iface; exact ⟨T, u, q1, q2⟩, h2⟩
theorem tyTop {x : Ex} (hty : Kn x) (W : World) (T : TypeId) (z : Value) (B : Nat) (hv : EV W (fun k => B ≤ k ∧ k < W.heap.size) x (.iface T z)) :
 Calls prog 47 #[.pointer none, .iface T z] W fun e w' => Ty3 W (fun k => k < W.heap.size) (tyR [] x) e w' ∧ Below W.heap.size W w' :=
 J8 x _ [] none _ W Z4f hty (fun k hk => hk) (by simp only [FrO]) (hv.move (fun k hk => hk.2) (fun _ _ => rfl))
theorem Z0n (s : ByteArray) (hs : s.size ≤ 1048576) (w : World) (hT : Tab w) :
 Calls prog 20 #[.string s] w fun e w' => Z5j (Z7n s.data.toList) e ∧ Below w.heap.size w w' := by
 cases hc : X4 s.data.toList with
 | none =>
   have HR := H_ (Z4e hc)
   have C := H_ (closedF_none hs hc)
   clear hc hT
   go_enter func20, ntmps20
   go_wp2_with (go_at_call 58; go_must (refine (C.out _).mono ?_; rintro e w1 ⟨⟨v, rfl⟩, hb1⟩))
   go_ret2
   exact ⟨by rw [HR.out]; rfl, hb1⟩
 | some x =>
   have C := H_ (closedF_some hs hc)
   obtain ⟨hx1, hx2⟩ := Z1j hc
   have hty := Z3j hx1
   obtain ⟨hwf, hby, hex⟩ := Z6y hx1
   cases hr : tyR [] x with
   | ok t =>
     have HR := H_ (Z7w hc hr)
     obtain ⟨u, t1, t2, t3, hu, ht1, ht2, ht3, hq⟩ := Zq t
     have CT : Hid (∀ W T z B, EV W (fun k => B ≤ k ∧ k < W.heap.size) x (.iface T z) → Calls prog 47 #[.pointer none, .iface T z] W fun e w' => (∃ p m c, e = .returned (.tuple #[.agg #[.string u, .slice p m c, .int .i64 t1, .int .i64 t2, .int .i64 t3], .nilIface])) ∧ Below W.heap.size W w') := H_ (fun W T z B hv => by
      have h := tyTop hty W T z B hv
      rw [hr] at h
      exact h.mono fun e w' ⟨⟨p, m, c, q1, q2⟩, h2⟩ => ⟨⟨p, m, c, by rw [q1, hu, ht1, ht2, ht3]⟩, h2⟩)
     clear hc hx1 hx2 hty hwf hby hex hr hu ht1 ht2 ht3 hq hT
     go_enter func20, ntmps20
     go_wp2_with (first | (go_at_call 58; go_must (refine (C.out _).mono ?_; rintro e w1 ⟨⟨T1, u1, rfl, hv1⟩, hb1⟩)) | (go_at_call 47; go_must (refine (CT.out _ _ _ _ hv1).mono ?_; rintro e w2 ⟨⟨p, m, c, rfl⟩, hb2⟩)))
     all_goals
      go_ret2
      exact ⟨by rw [HR.out]; rfl, by first | exact hb1.trans (hb2.mono hb1.size) | exact (hb1.trans (hb2.mono hb1.size)).trans ((Z4 w2 _).mono (by have := hb1.size; have := hb2.size; omega))⟩
   | error f =>
     have HR := H_ (Z9g hc hr)
     obtain ⟨⟨k1, k2⟩, k3⟩ := Z04 x [] f hr ⟨hwf, hex⟩
     have CT : Hid (∀ W T z B, EV W (fun k => B ≤ k ∧ k < W.heap.size) x (.iface T z) → Calls prog 47 #[.pointer none, .iface T z] W fun e w' => (∃ T5 u5, e = .returned (.tuple #[.agg #[.string ⟨#[]⟩, .slice none 0 0, .int .i64 0, .int .i64 0, .int .i64 0], .iface T5 u5]) ∧ EV w' (fun k => k < w'.heap.size) f (.iface T5 u5)) ∧ Below W.heap.size W w') := H_ (fun W T z B hv => by
      have h := tyTop hty W T z B hv
      rw [hr] at h
      exact h.mono fun e w' ⟨⟨T5, u5, q1, q2⟩, h2⟩ => ⟨⟨T5, u5, q1, q2.move (fun k hk => by rcases hk with hk | hk; have := h2.size; omega; exact hk.2) (fun _ _ => rfl)⟩, h2⟩)
     obtain ⟨FT, hFT⟩ : ∃ q, q = bs (Z2 f).text := ⟨_, rfl⟩
     have CF : Hid (∀ w2 T5 u5, Below w.heap.size w w2 → EV w2 (fun k => k < w2.heap.size) f (.iface T5 u5) → Calls prog 55 #[.iface T5 u5] (w2.alloc (.cells #[.string ⟨#[]⟩, .slice none 0 0, .int .i64 0, .int .i64 0, .int .i64 0] 56)) fun e w' => e = .returned (.string FT) ∧ Below w2.heap.size w2 w') := H_ (fun w2 T5 u5 hB hv => by
      have hb := Z4 w2 (.cells #[.string ⟨#[]⟩, .slice none 0 0, .int .i64 0, .int .i64 0, .int .i64 0] 56)
      rw [hFT]
      exact (Z9h f (.iface T5 u5) w2.heap.size _ k2 k1 (by omega) (hv.below hb (fun _ h => h)) hb.size ((hT.below hB).below hb)).mono fun e w' ⟨h1, h2⟩ => ⟨h1, hb.trans (h2.mono hb.size)⟩)
     have HF := H_ hFT
     clear hc hx1 hx2 hty hwf hby hex hr hT k1 k2 k3 hFT
     go_enter func20, ntmps20
     go_wp2_with (first | (go_at_call 58; go_must (refine (C.out _).mono ?_; rintro e w1 ⟨⟨T1, u1, rfl, hv1⟩, hb1⟩)) | (go_at_call 47; go_must (refine (CT.out _ _ _ _ hv1).mono ?_; rintro e w2 ⟨⟨T5, u5, rfl, hv5⟩, hb2⟩; have HB2 := H_ (hb1.trans (hb2.mono hb1.size)))) | (go_at_call 55; go_must (refine (CF.out _ _ _ HB2.out hv5).mono ?_; rintro e w3 ⟨rfl, hb3⟩)))
     all_goals
      go_ret2
      exact ⟨by rw [HR.out, HF.out]; rfl, HB2.out.trans (hb3.mono HB2.out.size)⟩
theorem Z8b (s : ByteArray) (hs : s.size ≤ 1048576) (w : World) :
 Calls prog 108 #[.string s] w fun e w' => PartsPost w.heap.size (Z1d s.data.toList) e w' ∧ Below w.heap.size w w' := by
 cases hp : Qp s.data.toList with
 | none =>
   have C := H_ (Z2u hs hp)
   have HR := H_ (freeE_none (Z2n hp))
   clear hp
   go_enter func108, ntmps108
   go_wp2_with (go_at_call 49; go_must (refine (C.out _).mono ?_; rintro e w1 ⟨⟨a, p, m, c, rfl, hnl⟩, hb1⟩))
   go_ret2
   exact ⟨by rw [HR.out]; exact ⟨_, rfl, made_none hb1⟩, (hb1.alloc hb1.size _).alloc (by have := hb1.size; simp; omega) _⟩
 | some t =>
   have C := H_ (Z2t hs hp)
   obtain ⟨x, hx1, hx2⟩ := Z2o hp
   have hg := Yt (Z2p hp).1
   have hst := (Q8 t hg.1).1
   have HR := H_ (Z5f hx1)
   have CR : Hid (∀ (w1 : World) (B0 : Nat) p m c, FV nS w1 (fun k => B0 ≤ k ∧ k < w1.heap.size) t (nS t (.slice p m c)) → Calls prog 156 #[.agg #[.string (bs (Z0 t)), .slice p m c], .slice (some ⟨w1.heap.size + 1, 0, none⟩) 0 0, .slice (some ⟨w1.heap.size + 1 + 1, 0, none⟩) 0 0] (((w1.alloc (.cells #[.string (bs (Z0 t)), .slice p m c] 62)).alloc (.cells #[] 9)).alloc (.cells #[] 9)) fun e w' => Z20 w1.heap.size (w1.heap.size + 3) (.slice (some ⟨w1.heap.size + 1 + 1, 0, none⟩) 0 0) ((Ze x).foldl Jr []) (((w1.alloc (.cells #[.string (bs (Z0 t)), .slice p m c] 62)).alloc (.cells #[] 9)).alloc (.cells #[] 9)) e w') := H_ (fun w1 B0 p m c hv => by
    obtain ⟨W, hW⟩ : ∃ W, W = (((w1.alloc (.cells #[.string (bs (Z0 t)), .slice p m c] 62)).alloc (.cells #[] 9)).alloc (.cells #[] 9)) := ⟨_, rfl⟩
    have hbW : Below w1.heap.size w1 W := by rw [hW]; exact Kk _ _ _ _
    have hsW : W.heap.size = w1.heap.size + 3 := by rw [hW]; simp
    have hq1 : W.heap[w1.heap.size + 1]? = some (.cells #[] 9 (0, 0)) := by rw [hW]; exact Z8 (Z9 _ _ _)
    have hq2 : W.heap[w1.heap.size + 1 + 1]? = some (.cells #[] 9 (0, 0)) := by rw [hW]; have := Z9 (w1.alloc (.cells #[.string (bs (Z0 t)), .slice p m c] 62)) (.cells #[] 9) (.cells #[] 9); simpa using this
    rw [← hW]
    have h := Z8w (t.depth + 1) t x (nS t (.slice p m c)) w1.heap.size [] [] (.slice (some ⟨w1.heap.size + 1 + 1, 0, none⟩) 0 0) (.slice (some ⟨w1.heap.size + 1, 0, none⟩) 0 0) W (by omega) hg.1 (by have := hg.2; omega) (by have := hg.2; simp; omega) (by have := hg.2; simp; omega) hx2 ((FV.move (fun k hk => hk.2) (fun k hk => hbW.block k hk.2) _ _ hv)) (by omega) (V7 hq2 (by omega)) ⟨_, 0, rfl, by simp, fun hne => absurd rfl hne⟩ (fun k hk => by simp [Value.ownBlock] at hk; subst hk; exact ⟨by simp [Value.ownBlock], by omega⟩)
    rw [hsW] at h
    have e : Vy [] [] (Ze x) = (Ze x).foldl Jr [] := by rw [Vy, Vg]
    rw [e] at h
    exact h)
   clear hp hx1 hx2 hst
   go_enter func108, ntmps108
   go_wp2_with (first | (go_at_call 49; go_must (refine (C.out _).mono ?_; rintro e w1 ⟨⟨p, m, c, rfl, hv⟩, hb1⟩)) | (go_at_call 156; go_must (refine (CR.out w1 _ p m c hv).mono ?_; rintro e w2 ⟨v2, rfl, ho2, hg2, hv2⟩)))
   go_ret2
   exact ⟨by rw [HR.out]; exact ⟨_, rfl, Z0w ho2 hb1.size⟩, Yw hb1 (Kk _ _ _ _) hg2 (fun k hk => by simp [Value.ownBlock] at hk; have := hb1.size; omega)⟩
theorem closed_eq (l : List UInt8) : ((Z1d l).isSome && decide (((Z1d l).getD []).length = 0)) = (X4 l).isSome := by
 cases h : Yb l with
 | none => simp [Z1d, X4, h]
 | some x =>
   rw [Z5f h]
   by_cases hf : Ze x = []
   · rw [Z0b h hf, hf]; rfl
   · rw [Z6b h hf]
     have : (Ze x).foldl Jr [] ≠ [] := fun e => hf ((foldA_nil _).1 e)
     simp [this]
theorem Z23 (s : ByteArray) (hs : s.size ≤ 1048576) (w : World) :
 Calls prog 59 #[.string s] w fun e w' => e = .returned (.bool (X4 s.data.toList).isSome) ∧ Below w.heap.size w w' := by
 have C : Hid (∀ W, Calls prog 108 #[.string s] W fun e w' => (∃ p n c, e = .returned (.tuple #[.slice p n c, .bool (Z1d s.data.toList).isSome]) ∧ n = ((Z1d s.data.toList).getD []).length) ∧ Below W.heap.size W w') := H_ (fun W => (Z8b s hs W).mono fun e w' ⟨⟨v, h1, h2⟩, h3⟩ => by
  obtain ⟨p, c, rfl⟩ := Zs h2
  exact ⟨⟨p, _, c, h1, rfl⟩, h3⟩)
 have HE := H_ (closed_eq s.data.toList)
 have hn : ((Z1d s.data.toList).getD []).length ≤ 120 := freeE_len
 generalize ((Z1d s.data.toList).getD []).length = N at *
 generalize (Z1d s.data.toList).isSome = z at *
 cases z with
 | false =>
   go_enter func59, ntmps59
   go_wp2_with (go_at_call 108; go_must (refine (C.out _).mono ?_; rintro e w1 ⟨⟨p, n, c, rfl, rfl⟩, hb1⟩))
   go_ret
   exact ⟨Zh (by rw [← HE.out]; rfl), hb1⟩
 | true =>
   by_cases h0 : N = 0
   · subst h0
     go_enter func59, ntmps59
     go_wp2_with (go_at_call 108; go_must (refine (C.out _).mono ?_; rintro e w1 ⟨⟨p, n, c, rfl, rfl⟩, hb1⟩))
     go_ret
     exact ⟨Zh (by rw [← HE.out]; rfl), hb1⟩
   · have hz : ((N : Int) == 0) = false := by simp; omega
     have hz2 : ¬ (N : Int) = 0 := by omega
     go_enter func59, ntmps59
     go_wp2_with (go_at_call 108; go_must (refine (C.out _).mono ?_; rintro e w1 ⟨⟨p, n, c, rfl, rfl⟩, hb1⟩))
     go_ret
     exact ⟨Zh (by rw [← HE.out]; simp [h0]), hb1⟩
end Go.Proofs.YtfknoigbkleanaaGreatDoor
