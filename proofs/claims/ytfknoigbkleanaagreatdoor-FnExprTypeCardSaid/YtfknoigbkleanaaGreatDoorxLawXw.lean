/- The law FnExprType: its walk, over the contracts of what it calls. Types do not lean on names that are not free. -/
import Derived.Test.YtfknoigbkleanaaGreatDoorxAssertsM
import Derived.Test.YtfknoigbkleanaaGreatDoorxSpec2hM
import Derived.Test.YtfknoigbkleanaaGreatDoorxS2fM
import Derived.OwnWalk
namespace Go.Proofs.YtfknoigbkleanaaGreatDoor
open Go.RowKit Go.Proofs.Tryz
set_option maxRecDepth 8000
set_option maxHeartbeats 20000000
set_option linter.unusedVariables false
set_option linter.unusedSimpArgs false
theorem hasTX_c (v : Value) (l : List (List UInt8)) (a : List UInt8) (w : World) (h : Zl w v l) :
 Calls prog 15 #[v, .string (bs a)] w fun e w' => e = .returned (.bool (decide (a ∈ l))) ∧ w' = w := by
 obtain ⟨p, c, rfl, h1, h2⟩ := h
 by_cases hz : l = []
 · subst hz
   clear h2
   go_enter func15, ntmps15
   go_wp2_with fail
   refine wp_loop_rounds 1 ?_
   rw [rounds_succ]
   go_wp2_with fail
   go_ret
   exact ⟨Zg (by simp), rfl⟩
 · obtain ⟨r, off, rfl, h3⟩ := h2 hz
   obtain ⟨F, hF⟩ : ∃ F, F = decide (a ∈ l) := ⟨_, rfl⟩
   rw [← hF]
   have HF := H_ hF
   clear h2 hF
   go_enter func15, ntmps15
   go_wp2_with fail
   go_loop [5] (fun i => ∃ k : Nat, k ≤ l.length ∧ i = .int .i64 k ∧ Hid (a ∉ l.take k)) (fun i => l.length - (intOf i).toNat)
   case atStart => exact ⟨0, Nat.zero_le _, rfl, H_ (by simp)⟩
   case round =>
    obtain ⟨k, hk, rfl, hno⟩ := hrel
    by_cases hlt : k < l.length
    · have c1 : w.cell? ⟨r, off + k, none⟩ = some (.string (bs l[k])) := Zl.cell h3 hlt
      have hk0 : (0 : Int) ≤ (k : Int) := by omega
      by_cases hx : l[k] = a
      · have hx2 : ((bs l[k]).toList == (bs a).toList) = true := by rw [Z5, Z5]; simpa using hx
        have hx3 : (bs l[k]).toList = (bs a).toList := by rw [Z5, Z5]; exact hx
        have HX := H_ hx
        obtain ⟨s, hs⟩ : ∃ s, s = bs l[k] := ⟨_, rfl⟩
        rw [← hs] at c1 hx2 hx3
        clear hx hs
        go_wp2_with fail
        go_ret
        exact ⟨Zg (by rw [HF.out]; symm; rw [decide_eq_true_eq, ← HX.out]; exact List.getElem_mem hlt), rfl⟩
      · have hx2 : ((bs l[k]).toList == (bs a).toList) = false := by rw [Z5, Z5]; simpa using hx
        have hx3 : ¬ (bs l[k]).toList = (bs a).toList := by rw [Z5, Z5]; exact hx
        have HX := H_ hx
        obtain ⟨s, hs⟩ : ∃ s, s = bs l[k] := ⟨_, rfl⟩
        rw [← hs] at c1 hx2 hx3
        clear hx hs
        go_wp2_with fail
        exact ⟨⟨k + 1, by omega, by go_num, H_ (by rw [List.take_succ_eq_append_getElem hlt]; simp only [List.mem_append, List.mem_singleton, not_or]; exact ⟨hno.out, fun e => HX.out e.symm⟩)⟩, by simp [intOf]; omega⟩
    · have : k = l.length := by omega
      subst this
      have hn := hno.out
      rw [List.take_length] at hn
      have HN := H_ hn
      clear hn
      go_wp2_with fail
      go_ret
      exact ⟨Zg (by rw [HF.out]; simp [HN.out]), rfl⟩
def z9 : List UInt8 := [122, 57]
def tII : List UInt8 := [40, 42, 32, 105, 32, 105, 41]
theorem Z6j {w : World} {p : Option Addr} {n c : Nat} {l : List Nm} (h : Zl w (.slice p n c) l) : n = l.length := by
 obtain ⟨_, _, e, -, -⟩ := h
 injection e
theorem walk_of (pl : List UInt8 → Option Nm) (a : Option Addr) (L c : Nat) (zs : List Int) (w : World) (hr : Z2u w a L c zs)
 (HI : ∀ v1 v2 ns ts (s : ByteArray) W, Zl W v1 ns → Zl W v2 ts → (∀ x ∈ ns, x.length ≤ 7) → (∀ x ∈ ts, x.length ≤ 7) → s.size ≤ 1000010 → Calls prog 11 #[v1, v2, .string s] W fun e w' => Z5b (Vg ns ts s.data.toList) e ∧ Below W.heap.size W w')
 (HS : ∀ v1 v2 ns ts (s : ByteArray) W, Zl W v1 ns → Zl W v2 ts → (∀ x ∈ ns, x.length ≤ 7) → (∀ x ∈ ts, x.length ≤ 7) → s.size ≤ 1000010 → Calls prog 12 #[v1, v2, .string s] W fun e w' => Z5b (Vg ns ts s.data.toList) e ∧ Below W.heap.size W w')
 (HP : ∀ (s : ByteArray) W, s.size ≤ 1000010 → Below w.heap.size w W → Calls prog 14 #[.string s] W fun e w' => e = .returned (.tuple #[.string (bs ((pl s.data.toList).getD [])), .bool (pl s.data.toList).isSome]) ∧ Below W.heap.size W w')
 (HV : ∀ (s : ByteArray) W, s.size ≤ 1000010 → Calls prog 16 #[.string s] W fun e w' => e = .returned (.bool (Y0 s.data.toList).isSome) ∧ Below W.heap.size W w')
 (HL : ∀ (ns ts : List Nm) (l X : List UInt8), Vg ns ts l = some X → ∃ (FL : List Nm) (P : List UInt8), Z4c l = some FL ∧ FL.length ≤ 120 ∧ (∀ s ∈ FL, s ∈ ns) ∧ pl l = some P ∧ P.length ≤ 12000 ∧ Vg ns ts P = some X ∧ (Y0 X).isSome = true ∧ X.length ≤ 12000 ∧ (ns.length ≤ 7 → z9 ∉ FL → Vg (ns ++ [z9]) (ts ++ [tII]) l = some X)) :
 Calls prog 3 #[.slice a L c] w fun e w' => e = .returned (.bool true) ∧ Below w.heap.size w w' := by
 by_cases h0 : L ≤ 1048576
 · have hd0 : decide (1048576 < (L : Int)) = false := by simp; omega
   have C := H_ (Z7j a L c zs w hr)
   have HI := H_ HI
   have HS := H_ HS
   have HP := H_ HP
   have HV := H_ HV
   have HL := H_ HL
   clear hr
   obtain ⟨i0, hi0, hz0, hz1, hz2⟩ := info_parts Tryz.infoStrD
   go_enter func3, ntmps3
   go_wp2_with fail
   refine (C.out).mono ?_
   rintro e w1 ⟨v1, v2, ns, ts, s, rfl, ⟨hs1, hs2, ⟨hn4, ht4, hn7, ht7⟩, hb1⟩, hs⟩
   have HB := H_ hb1
   have H1 : Hid (∀ W, Below w1.heap.size w1 W → Zl W v1 ns) := H_ (fun W hW => Yw hs1 hW)
   have H2 : Hid (∀ W, Below w1.heap.size w1 W → Zl W v2 ts) := H_ (fun W hW => Yw hs2 hW)
   have HW := H_ hb1.size
   obtain ⟨p1, m1, c1, rfl⟩ := hs1.shape
   obtain ⟨p2, m2, c2, rfl⟩ := hs2.shape
   obtain rfl := Z6j hs1
   obtain rfl := Z6j hs2
   clear hb1 C hs1 hs2
   have CI := H_ (fun W (hW : Below w1.heap.size w1 W) => HI.out _ _ ns ts s W (H1.out W hW) (H2.out W hW) hn7 ht7 hs)
   have CS := H_ (fun W (hW : Below w1.heap.size w1 W) => HS.out _ _ ns ts s W (H1.out W hW) (H2.out W hW) hn7 ht7 hs)
   cases hty : Vg ns ts s.data.toList with
   | none =>
     unfold Hid at CI CS
     rw [hty] at CI CS
     have CI := H_ CI
     have CS := H_ CS
     have HB1 := H_ (Below.refl w1.heap.size w1)
     clear hty HI HS HP HV HL
     generalize bs [] = E at *
     go_wp2_with fail
     refine (CI.out _ (Below.refl _ _)).mono ?_
     rintro e w2 ⟨hp2, hb2⟩
     obtain rfl := hp2
     have HB2 := H_ hb2
     clear hb2
     go_wp2_with fail
     refine (CS.out _ HB2.out).mono ?_
     rintro e w3 ⟨hp3, hb3⟩
     obtain rfl := hp3
     have HB3 := H_ (HB.out.trans ((HB2.out.trans (hb3.mono HB2.out.size)).mono HW.out))
     clear hb3
     go_wp2_with fail
     go_ret
     exact ⟨Zg (by simp), HB3.out⟩
   | some X =>
     obtain ⟨FL, P, q1, q2, q3, q4, q5, q6, q7, q8, q9⟩ := HL.out ns ts _ X hty
     unfold Hid at CI CS
     rw [hty] at CI CS
     have CI := H_ CI
     have CS := H_ CS
     obtain ⟨XT, hXT⟩ : ∃ XT, XT = bs X := ⟨_, rfl⟩
     obtain ⟨PT, hPT⟩ : ∃ PT, PT = bs P := ⟨_, rfl⟩
     have CF : Hid (∀ W, Calls prog 13 #[.string s] W fun e w' => (∃ v, e = .returned (.tuple #[v, .bool true]) ∧ Zl w' v FL) ∧ Below W.heap.size W w') := H_ (fun W => (Z7f s (by omega) W).mono fun e w' ⟨⟨v, h1, h2⟩, h3⟩ => ⟨by
      rw [q1] at h1 h2
      exact ⟨v, h1, Qs h2 (by omega)⟩, h3⟩)
     have CP : Hid (∀ W, Below w.heap.size w W → Calls prog 14 #[.string s] W fun e w' => e = .returned (.tuple #[.string PT, .bool true]) ∧ Below W.heap.size W w') := H_ (fun W hW => (HP.out s W hs hW).mono fun e w' ⟨h1, h2⟩ => ⟨by rw [q4] at h1; rw [hPT]; exact h1, h2⟩)
     have CY : Hid (∀ W, Below w1.heap.size w1 W → Calls prog 11 #[.slice p1 ns.length c1, .slice p2 ts.length c2, .string PT] W fun e w' => e = .returned (.tuple #[.string XT, .bool true]) ∧ Below W.heap.size W w') := H_ (fun W hW => (HI.out _ _ ns ts PT W (H1.out W hW) (H2.out W hW) hn7 ht7 (by rw [hPT, Y3]; omega)).mono fun e w' ⟨h1, h2⟩ => ⟨by rw [hPT, Ql, q6] at h1; rw [hXT]; exact h1, h2⟩)
     have CV : Hid (∀ W, Calls prog 16 #[.string XT] W fun e w' => e = .returned (.bool true) ∧ Below W.heap.size W w') := H_ (fun W => (HV.out XT W (by rw [hXT, Y3]; omega)).mono fun e w' ⟨h1, h2⟩ => ⟨by rw [hXT, Ql, q7] at h1; exact h1, h2⟩)
     have CH : Hid (∀ j (hj : j < FL.length) W, Below w1.heap.size w1 W → Calls prog 15 #[.slice p1 ns.length c1, .string (bs FL[j])] W fun e w' => e = .returned (.bool true) ∧ w' = W) := H_ (fun j hj W hW => (hasTX_c _ ns FL[j] W (H1.out W hW)).mono fun e w' ⟨h1, h2⟩ => ⟨by rw [h1, decide_eq_true (q3 _ (List.getElem_mem hj))], h2⟩)
     have CZ : Hid (∀ W v, Zl W v FL → Calls prog 15 #[v, .string ⟨#[122, 57]⟩] W fun e w' => e = .returned (.bool (decide (z9 ∈ FL))) ∧ w' = W) := H_ (fun W v hv => hasTX_c v FL z9 W hv)
     obtain ⟨RX, hRX⟩ : ∃ RX, RX = Vg (ns ++ [z9]) (ts ++ [tII]) s.data.toList := ⟨_, rfl⟩
     have CX : Hid (∀ W u1 u2, Zl W u1 (ns ++ [z9]) → Zl W u2 (ts ++ [tII]) → Calls prog 11 #[u1, u2, .string s] W fun e w' => (e = .returned (.tuple #[.string (bs (RX.getD [])), .bool RX.isSome])) ∧ Below W.heap.size W w') := H_ (fun W u1 u2 k1 k2 => by
      have h := HI.out u1 u2 _ _ s W k1 k2 (fun x hx => by rcases List.mem_append.1 hx with hx | hx; exact hn7 x hx; simp at hx; subst hx; decide) (fun x hx => by rcases List.mem_append.1 hx with hx | hx; exact ht7 x hx; simp at hx; subst hx; decide) hs
      rw [← hRX] at h
      exact h)
     have HRX : Hid (z9 ∉ FL → RX = some X) := H_ (fun hz => by rw [hRX]; exact q9 (by omega) hz)
     have CI2 : Hid (∀ W, Below w1.heap.size w1 W → Calls prog 11 #[.slice p1 ns.length c1, .slice p2 ts.length c2, .string s] W fun e w' => e = .returned (.tuple #[.string XT, .bool true]) ∧ Below W.heap.size W w') := H_ (fun W hW => (CI.out W hW).mono fun e w' ⟨h1, h2⟩ => ⟨by rw [hXT]; exact h1, h2⟩)
     have CS2 : Hid (∀ W, Below w1.heap.size w1 W → Calls prog 12 #[.slice p1 ns.length c1, .slice p2 ts.length c2, .string s] W fun e w' => e = .returned (.tuple #[.string XT, .bool true]) ∧ Below W.heap.size W w') := H_ (fun W hW => (CS.out W hW).mono fun e w' ⟨h1, h2⟩ => ⟨by rw [hXT]; exact h1, h2⟩)
     have hX2 : RX = some X → bs (RX.getD []) = XT := fun e => by rw [e, hXT]; rfl
     have HX2 := H_ hX2
     clear hty q1 q3 q4 q5 q6 q7 q8 q9 hXT hPT hRX hX2 CI CS HI HS HP HV HL
     go_wp2_with fail
     refine (CI2.out _ (Below.refl _ _)).mono ?_
     rintro e w2 ⟨rfl, hb2⟩
     have HB2 := H_ hb2
     clear hb2
     go_wp2_with fail
     refine (CS2.out _ HB2.out).mono ?_
     rintro e w3 ⟨rfl, hb3⟩
     have HB3 := H_ (HB2.out.trans (hb3.mono HB2.out.size))
     clear hb3
     go_wp2_with fail
     refine (CF.out _).mono ?_
     rintro e w4 ⟨⟨v3, rfl, hv3⟩, hb4⟩
     obtain ⟨p3, m3, c3, rfl⟩ := hv3.shape
     obtain rfl := Z6j hv3
     have HB4 := H_ (HB3.out.trans (hb4.mono HB3.out.size))
     clear hb4
     have HV3 := H_ hv3
     clear hv3
     go_wp2_with fail
     refine (CP.out _ (HB.out.trans (HB4.out.mono HW.out))).mono ?_
     rintro e w5 ⟨rfl, hb5⟩
     have HV5 := H_ (Yw HV3.out hb5)
     have HB5 := H_ (HB4.out.trans (hb5.mono HB4.out.size))
     clear hb5 HV3
     go_wp2_with fail
     go_loop [14] (fun i => ∃ k : Nat, k ≤ FL.length ∧ i = .int .i64 k) (fun i => FL.length - (intOf i).toNat)
     case atStart => exact ⟨0, Nat.zero_le _, rfl⟩
     case round =>
      obtain ⟨k, hk, rfl⟩ := hrel
      by_cases hlt : k < FL.length
      · obtain ⟨rr, off, c9, he, hrr, hcell⟩ := Zl.rows HV5.out (fun e => by rw [e] at hlt; simp at hlt)
        simp only [Value.slice.injEq] at he
        obtain ⟨rfl, -, rfl⟩ := he
        have x0 : w5.cell? ⟨rr, off + k, none⟩ = some (.string (bs FL[k])) := by rw [hcell k hlt, List.getD_eq_getElem?_getD, List.getElem?_eq_getElem hlt]; rfl
        have CHk := H_ (CH.out k hlt)
        generalize bs FL[k] = KT at *
        have hkI : (k : Int) < (FL.length : Int) := by omega
        clear hcell
        go_wp2_with (go_at_call 15; go_must (refine (CHk.out _ HB5.out).mono ?_; rintro e w6 ⟨rfl, rfl⟩))
        exact ⟨⟨k + 1, by omega, by go_num⟩, by simp [intOf]; omega⟩
      · have : k = FL.length := by omega
        subst this
        clear CH
        have HE1 : Hid ((w5.alloc (.cells #[] 9)).ownsRow w5.heap.size 9 1 (.slice (some ⟨w5.heap.size, 0, none⟩) 0 0) ([] : List Nm).length (([] : List Nm).map Yc)) := H_ (Jn (heap_alloc_new w5 _) (Nat.le_refl _))
        have hne8 : ((ns.length : Int) == 8) = false := by simp; omega
        have hne9 : ¬ (ns.length : Int) = 8 := by omega
        have HV5B := H_ (fun W (hW : Below w5.heap.size w5 W) => Yw HV5.out hW)
        obtain ⟨b9, hb9⟩ : ∃ b, b = decide (z9 ∈ FL) := ⟨_, rfl⟩
        rw [← hb9] at CZ
        cases b9 with
        | true =>
          obtain ⟨r9, hr9⟩ : ∃ r, r = RX.isSome := ⟨_, rfl⟩
          obtain ⟨t9, ht9⟩ : ∃ t, t = bs (RX.getD []) := ⟨_, rfl⟩
          rw [← hr9, ← ht9] at CX
          clear hb9 hr9 ht9 HRX HX2
          go_wp2_with (first | (clear tk8; (at_builtin; go_must (refine Zk _ rfl _ _ 23 rfl w7.heap.size 9 i0 underlying23 hi0 hz0 hz1 hz2 _ ts rfl (ho8.alloc _) _ [tII] rfl (Z0a (s := tII)) (by simp; omega) (by have := hB8.size; simp; omega) ?_; intro v9 w9 ho9 hg9 hv_v9; have hB9 := Xh hB8 (Z4 w8 _) hg9 (fun k hk => (Kc ho8 hk).1); have hst9 := Qs ho9 (by simp; omega); have hst79 := Yw hst7 hB9; have HC9 := H_ (hB7.trans (hB9.mono hB7.size)); clear ho8; have tk9 : True := trivial))) | (clear tk7; (at_builtin; go_must (refine Zk _ rfl _ _ 23 rfl w7.heap.size 9 i0 underlying23 hi0 hz0 hz1 hz2 _ [] rfl (Jn (heap_alloc_new w7 _) (Nat.le_refl _)) _ ts rfl (H2.out _ (HB5.out.trans ((hB7.trans ((Z4 w7 _).mono hB7.size)).mono HB5.out.size))) (by simp; omega) (by simp) ?_; intro v8 w8 ho8 hg8 hv_v8; have hB8 := Xh (Below.refl _ w7) (Z4 w7 _) hg8 (fun k hk => (Kc (Jn (heap_alloc_new w7 _) (Nat.le_refl _)) hk).1); simp only [List.nil_append] at ho8; have tk8 : True := trivial))) | (clear tk6; (at_builtin; go_must (refine Zk _ rfl _ _ 23 rfl w5.heap.size 9 i0 underlying23 hi0 hz0 hz1 hz2 _ ns rfl (ho6.alloc _) _ [z9] rfl (Z0a (s := z9)) (by simp; omega) (by have := hB6.size; simp; omega) ?_; intro v7 w7 ho7 hg7 hv_v7; have hB7 := Xh hB6 (Z4 w6 _) hg7 (fun k hk => (Kc ho6 hk).1); have hst7 := Qs ho7 (by simp; omega); clear ho6; have tk7 : True := trivial))) | (at_builtin; go_must (refine Zk _ rfl _ _ 23 rfl w5.heap.size 9 i0 underlying23 hi0 hz0 hz1 hz2 _ [] rfl HE1.out _ ns rfl (H1.out _ (HB5.out.trans ((Z4 w5 _).mono HB5.out.size))) (by simp; omega) (by simp) ?_; intro v6 w6 ho6 hg6 hv_v6; have hB6 := Xh (Below.refl _ w5) (Z4 w5 _) hg6 (fun k hk => (Kc HE1.out hk).1); simp only [List.nil_append] at ho6; have tk6 : True := trivial)) | (go_at_call 11; first | (clear tk9; go_must (refine (CX.out _ _ _ hst79 hst9).mono ?_; rintro e w10 ⟨rfl, hb10⟩; have HC10 := H_ (HC9.out.trans (hb10.mono HC9.out.size)); clear hb10)) | go_must (refine (CY.out _ (HB5.out.trans (HC10.out.mono HB5.out.size))).mono ?_; rintro e w11 ⟨rfl, hb11⟩; have HC11 := H_ (HC10.out.trans (hb11.mono HC10.out.size)); clear hb11)) | (go_at_call 16; go_must (refine (CV.out _).mono ?_; rintro e w12 ⟨rfl, hb12⟩; have HC12 := H_ (HC11.out.trans (hb12.mono HC11.out.size)); clear hb12)) | (go_at_call 15; go_must (refine (CZ.out _ _ (HV5B.out _ HC12.out)).mono ?_; rintro e w13 ⟨rfl, rfl⟩)))
          go_ret
          exact ⟨Zg (by simp), HB.out.trans ((HB5.out.trans (HC12.out.mono HB5.out.size)).mono HW.out)⟩
        | false =>
          have hno : z9 ∉ FL := by simpa using hb9.symm
          have e9 := HRX.out hno
          have e8 := HX2.out e9
          rw [e8, e9] at CX
          simp only [Option.isSome_some] at CX
          clear hb9 hno e9 e8 HRX HX2
          go_wp2_with (first | (clear tk8; (at_builtin; go_must (refine Zk _ rfl _ _ 23 rfl w7.heap.size 9 i0 underlying23 hi0 hz0 hz1 hz2 _ ts rfl (ho8.alloc _) _ [tII] rfl (Z0a (s := tII)) (by simp; omega) (by have := hB8.size; simp; omega) ?_; intro v9 w9 ho9 hg9 hv_v9; have hB9 := Xh hB8 (Z4 w8 _) hg9 (fun k hk => (Kc ho8 hk).1); have hst9 := Qs ho9 (by simp; omega); have hst79 := Yw hst7 hB9; have HC9 := H_ (hB7.trans (hB9.mono hB7.size)); clear ho8; have tk9 : True := trivial))) | (clear tk7; (at_builtin; go_must (refine Zk _ rfl _ _ 23 rfl w7.heap.size 9 i0 underlying23 hi0 hz0 hz1 hz2 _ [] rfl (Jn (heap_alloc_new w7 _) (Nat.le_refl _)) _ ts rfl (H2.out _ (HB5.out.trans ((hB7.trans ((Z4 w7 _).mono hB7.size)).mono HB5.out.size))) (by simp; omega) (by simp) ?_; intro v8 w8 ho8 hg8 hv_v8; have hB8 := Xh (Below.refl _ w7) (Z4 w7 _) hg8 (fun k hk => (Kc (Jn (heap_alloc_new w7 _) (Nat.le_refl _)) hk).1); simp only [List.nil_append] at ho8; have tk8 : True := trivial))) | (clear tk6; (at_builtin; go_must (refine Zk _ rfl _ _ 23 rfl w5.heap.size 9 i0 underlying23 hi0 hz0 hz1 hz2 _ ns rfl (ho6.alloc _) _ [z9] rfl (Z0a (s := z9)) (by simp; omega) (by have := hB6.size; simp; omega) ?_; intro v7 w7 ho7 hg7 hv_v7; have hB7 := Xh hB6 (Z4 w6 _) hg7 (fun k hk => (Kc ho6 hk).1); have hst7 := Qs ho7 (by simp; omega); clear ho6; have tk7 : True := trivial))) | (at_builtin; go_must (refine Zk _ rfl _ _ 23 rfl w5.heap.size 9 i0 underlying23 hi0 hz0 hz1 hz2 _ [] rfl HE1.out _ ns rfl (H1.out _ (HB5.out.trans ((Z4 w5 _).mono HB5.out.size))) (by simp; omega) (by simp) ?_; intro v6 w6 ho6 hg6 hv_v6; have hB6 := Xh (Below.refl _ w5) (Z4 w5 _) hg6 (fun k hk => (Kc HE1.out hk).1); simp only [List.nil_append] at ho6; have tk6 : True := trivial)) | (go_at_call 11; first | (clear tk9; go_must (refine (CX.out _ _ _ hst79 hst9).mono ?_; rintro e w10 ⟨rfl, hb10⟩; have HC10 := H_ (HC9.out.trans (hb10.mono HC9.out.size)); clear hb10)) | go_must (refine (CY.out _ (HB5.out.trans (HC10.out.mono HB5.out.size))).mono ?_; rintro e w11 ⟨rfl, hb11⟩; have HC11 := H_ (HC10.out.trans (hb11.mono HC10.out.size)); clear hb11)) | (go_at_call 16; go_must (refine (CV.out _).mono ?_; rintro e w12 ⟨rfl, hb12⟩; have HC12 := H_ (HC11.out.trans (hb12.mono HC11.out.size)); clear hb12)) | (go_at_call 15; go_must (refine (CZ.out _ _ (HV5B.out _ HC12.out)).mono ?_; rintro e w13 ⟨rfl, rfl⟩)))
          go_ret
          exact ⟨Zg (by simp), HB.out.trans ((HB5.out.trans (HC12.out.mono HB5.out.size)).mono HW.out)⟩
 · have hd0 : decide (1048576 < (L : Int)) = true := by simp; omega
   have hm0 : L ≤ 9223372036854775807 := hr.bound
   go_enter func3, ntmps3
   go_wp2_with fail
   go_ret
   exact ⟨rfl, Below.refl _ _⟩
end Go.Proofs.YtfknoigbkleanaaGreatDoor
