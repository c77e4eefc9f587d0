/- The program's ExprType. The program's ExprTyped. The law FnSubstitute: its walk. What has the type of a name can be put for it. -/
import Derived.Test.YtmgepnacjgbfhaaGreatDoorsImpl3y
import Derived.Test.YtmgepnacjgbfhaaGreatDoorsImpl3cM
import Derived.Test.YtmgepnacjgbfhaaGreatDoorsPureT
import Derived.Test.YtmgepnacjgbfhaaGreatDoorsDrawYM
import Derived.Test.YtmgepnacjgbfhaaGreatDoorsPureSM
import Derived.Test.YtmgepnacjgbfhaaGreatDoorsImpl1rM
import Derived.Test.YtmgepnacjgbfhaaGreatDoorsSpec3hM
import Derived.Test.YtmgepnacjgbfhaaGreatDoorsImpl3o
import Derived.OwnWalk
namespace Go.Proofs.YtmgepnacjgbfhaaGreatDoor
open Go.RowKit Go.Proofs.Tryz
set_option maxRecDepth 8000
set_option maxHeartbeats 20000000
set_option linter.unusedVariables false
set_option linter.unusedSimpArgs false
theorem tyW {env : List (Nm × Tr)} {x : Ex} (henv : Qu env) (hty : Kf x) (W : World) (q : Option Addr) (T : TypeId) (z : Value) (B : Nat) (hq : FrV W env (.pointer q)) (hv : EV W (fun k => B ≤ k ∧ k < W.heap.size) x (.iface T z)) :
 Calls prog 19 #[.pointer q, .iface T z] W fun e w' => Ty3 W (fun k => k < W.heap.size) (tyR env x) e w' ∧ Below W.heap.size W w' :=
 J2 x _ env q _ W henv hty (fun k hk => hk) hq.toO (hv.move (fun k hk => hk.2) (fun _ _ => rfl))
theorem Z1x (v1 v2 : Value) (ns : List Nm) (ts : List (List UInt8)) (s : ByteArray) (w : World) (h1 : Zo w v1 ns) (h2 : Zo w v2 ts) (hn : ∀ k (h : k < ns.length), ns[k].length ≤ 1048576) (ht : ∀ k (h : k < ts.length), ts[k].length ≤ 1048576) (hs : s.size ≤ 1048576) :
 Calls prog 5 #[v1, v2, .string s] w fun e w' => Z3j (Vs ns ts s.data.toList) e ∧ Below w.heap.size w w' := by
 have C := H_ (readEnv_c v1 v2 ns ts w h1 h2 hn ht)
 obtain ⟨p1, c1, rfl, -, -⟩ := h1
 obtain ⟨p2, c2, rfl, -, -⟩ := h2
 cases he : Q7 ns ts with
 | none =>
   have HR := H_ (tyOf_env (l := s.data.toList) he)
   rw [he] at C
   clear hn ht he
   go_enter func5, ntmps5
   go_wp2_with (go_at_call 17; go_must (refine (C.out).mono ?_; rintro e w1 ⟨rfl, hb1⟩))
   go_ret2
   exact ⟨by rw [HR.out]; rfl, hb1⟩
 | some env =>
   have hok := Z21 he
   rw [he] at C
   cases hx : Yf s.data.toList with
   | none =>
     have HR := H_ (tyOf_ex (ns := ns) (ts := ts) hx)
     have CX := H_ (Ku hs hx)
     clear hn ht he hx hok
     go_enter func5, ntmps5
     go_wp2_with (first | (go_at_call 17; go_must (refine (C.out).mono ?_; rintro e w1 ⟨⟨q, rfl, hq⟩, hb1⟩)) | (go_at_call 18; go_must (refine (CX.out _).mono ?_; rintro e w2 ⟨⟨v, rfl⟩, hb2⟩)))
     go_ret2
     exact ⟨by rw [HR.out]; rfl, (Yb (Xp hb1) hb2).1⟩
   | some x =>
     have CX := H_ (Kt hs hx)
     have hty := Z1k hx
     cases hr : tyR env x with
     | error f =>
       have HR := H_ (tyOf_bad he hx hr)
       have CT : Hid (∀ W q T z B, FrV W env (.pointer q) → EV W (fun k => B ≤ k ∧ k < W.heap.size) x (.iface T z) → Calls prog 19 #[.pointer q, .iface T z] W fun e w' => (∃ T2 z2, e = .returned (.tuple #[.agg #[.string ⟨#[]⟩, .slice none 0 0, .int .i64 0, .int .i64 0, .int .i64 0], .iface T2 z2])) ∧ Below W.heap.size W w') := H_ (fun W q T z B k1 k2 => by
        have h := tyW hok hty W q T z B k1 k2
        rw [hr] at h
        exact h.mono fun e w' ⟨⟨T2, z2, h1, _⟩, h3⟩ => ⟨⟨T2, z2, h1⟩, h3⟩)
       clear hn ht he hx hok hty hr
       go_enter func5, ntmps5
       go_wp2_with (first | (go_at_call 17; go_must (refine (C.out).mono ?_; rintro e w1 ⟨⟨q, rfl, hq⟩, hb1⟩)) | (go_at_call 18; go_must (refine (CX.out _).mono ?_; rintro e w2 ⟨⟨v, rfl, hv⟩, hb2⟩; obtain ⟨T, z, rfl⟩ := hv.iface; have hq2 := hq.below hb2; clear hq)) | (go_at_call 19; go_must (refine (CT.out _ _ _ _ _ hq2 hv).mono ?_; rintro e w3 ⟨⟨T2, z2, rfl⟩, hb3⟩)))
       go_ret2
       exact ⟨by rw [HR.out]; rfl, (Yb (Yb (Yb (Xp hb1) hb2) hb3) (Z4 _ _)).1⟩
     | ok t =>
       have HR := H_ (Z2e he hx hr)
       obtain ⟨k1, k2, k3, k4, k5⟩ := Ze (Q8 x env t hok hty hr)
       obtain ⟨u, t1, t2, t3, hu, ht1, ht2, ht3, hqq⟩ := Zm t
       have CT : Hid (∀ W q T z B, FrV W env (.pointer q) → EV W (fun k => B ≤ k ∧ k < W.heap.size) x (.iface T z) → Calls prog 19 #[.pointer q, .iface T z] W fun e w' => (∃ p m c, e = .returned (.tuple #[.agg #[.string u, .slice p m c, .int .i64 t1, .int .i64 t2, .int .i64 t3], .nilIface]) ∧ FV nI w' (fun k => k < w'.heap.size) t (nI t (.slice p m c))) ∧ Below W.heap.size W w') := H_ (fun W q T z B k1 k2 => by
        have h := tyW hok hty W q T z B k1 k2
        rw [hr] at h
        rw [hu, ht1, ht2, ht3]
        exact h.mono fun e w' ⟨⟨p, m, c, h1, h2⟩, h3⟩ => ⟨⟨p, m, c, h1, h2.move (fun k hk => by have := h3.size; rcases hk with hk | hk <;> omega) (fun _ _ => rfl) _ _⟩, h3⟩)
       have TX : Hid (∀ (W : World) p m c, FV nI W (fun k => k < W.heap.size) t (nI t (.slice p m c)) → Calls prog 20 #[.agg #[.string u, .slice p m c, .int .i64 t1, .int .i64 t2, .int .i64 t3]] W fun e w' => e = .returned (.string (bs t.text)) ∧ Below W.heap.size W w') :=
        H_ (fun W p m c h1 => by rw [hu, ht1, ht2, ht3]; exact text_c t p m c _ W k1 (by omega) h1 (fun k hk => hk))
       clear hn ht he hx hok hty hr k1 k2 k3 k4 k5 hu ht1 ht2 ht3 hqq
       go_enter func5, ntmps5
       go_wp2_with (first | (go_at_call 17; go_must (refine (C.out).mono ?_; rintro e w1 ⟨⟨q, rfl, hq⟩, hb1⟩)) | (go_at_call 18; go_must (refine (CX.out _).mono ?_; rintro e w2 ⟨⟨v, rfl, hv⟩, hb2⟩; obtain ⟨T, z, rfl⟩ := hv.iface; have hq2 := hq.below hb2; clear hq)) | (go_at_call 19; go_must (refine (CT.out _ _ _ _ _ hq2 hv).mono ?_; rintro e w3 ⟨⟨p, m, c, rfl, hf⟩, hb3⟩; have V2 := H_ (hf.on (Z4 w3 (.cells #[.string u, .slice p m c, .int .i64 t1, .int .i64 t2, .int .i64 t3] 49))); clear hf)) | (go_at_call 20; go_must (refine (TX.out _ _ _ _ V2.out).mono ?_; rintro e w4 ⟨rfl, hb4⟩)))
       go_ret2
       exact ⟨by rw [HR.out]; rfl, (Yb (Yb (Yb (Yb (Xp hb1) hb2) hb3) (Z4 _ _)) hb4).1⟩
theorem Z5y (s : ByteArray) (hs : s.size ≤ 1048576) (w : World) :
 Calls prog 8 #[.string s] w fun e w' => e = .returned (.bool (Z60 s.data.toList)) ∧ Below w.heap.size w w' := by
 have C : Hid (∀ W, Calls prog 5 #[.slice none 0 0, .slice none 0 0, .string s] W fun e w' => Z3j (Vs [] [] s.data.toList) e ∧ Below W.heap.size W w') := H_ (fun W => Z1x _ _ [] [] s W ⟨none, 0, rfl, by simp, fun h => absurd rfl h⟩ ⟨none, 0, rfl, by simp, fun h => absurd rfl h⟩ (fun k h => by simp at h) (fun k h => by simp at h) hs)
 obtain ⟨R, hR⟩ : ∃ R, R = Vs [] [] s.data.toList := ⟨_, rfl⟩
 have HR := H_ hR
 rw [← hR] at C
 clear hR
 go_enter func8, ntmps8
 go_wp2_with (go_at_call 5; go_must (refine (C.out _).mono ?_; rintro e w1 ⟨hp, hb1⟩; obtain rfl := hp))
 go_ret
 exact ⟨by rw [Z60, ← HR.out]; rfl, hb1⟩
theorem Z4f {w : World} {p : Option Addr} {n c : Nat} {l : List Nm} (h : Zo w (.slice p n c) l) : n = l.length := by
 obtain ⟨_, _, e, -, -⟩ := h
 injection e
theorem readCl_nil : Jm [] = none := by decide
theorem tyOf_nil (ns ts : List Nm) : Vs ns ts [] = none := by unfold Vs; cases Q7 ns ts <;> rfl
theorem Z3k (a : Option Addr) (L c : Nat) (zs : List Int) (a' : Option Addr) (L' c' : Nat) (zs' : List Int) (w : World) (hr : Z2a w a L c zs) (hr' : Z2a w a' L' c' zs') (hT : Tab w) :
 Calls prog 3 #[.slice a L c, .slice a' L' c'] w fun e w' => e = .returned (.bool true) ∧ Below w.heap.size w w' := by
 by_cases h0 : L ≤ 1048576
 · have hd0 : decide (1048576 < (L : Int)) = false := by simp; omega
   by_cases h1 : L' ≤ 1048576
   · have hd1 : decide (1048576 < (L' : Int)) = false := by simp; omega
     have C := H_ (Z7a a L c zs w hr)
     have HT := H_ hT
     clear hr hr' hT
     go_enter func3, ntmps3
     go_wp2_with fail
     refine (C.out).mono ?_
     rintro e w1 ⟨v1, v2, ns, ts, s, rfl, ⟨hs1, hs2, ⟨hn4, ht4, hn7, ht7⟩, hb1⟩, hs⟩
     have HB := H_ hb1
     have H1 : Hid (∀ W, Below w1.heap.size w1 W → Zo W v1 ns) := H_ (fun W hW => Xv hs1 hW)
     have H2 : Hid (∀ W, Below w1.heap.size w1 W → Zo W v2 ts) := H_ (fun W hW => Xv hs2 hW)
     have HW := H_ hb1.size
     have HT1 : Hid (∀ W, Below w1.heap.size w1 W → Tab W) := H_ (fun W hW => HT.out.below (hb1.trans (hW.mono hb1.size)))
     obtain ⟨p1, m1, c1, rfl⟩ := hs1.shape
     obtain ⟨p2, m2, c2, rfl⟩ := hs2.shape
     obtain rfl := Z4f hs1
     obtain rfl := Z4f hs2
     clear hb1 C hs1 hs2
     have LN : ∀ k (hk : k < ns.length), ns[k].length ≤ 1048576 := fun k hk => by have := hn7 _ (List.getElem_mem hk); omega
     have LT : ∀ k (hk : k < ts.length), ts[k].length ≤ 1048576 := fun k hk => by have := ht7 _ (List.getElem_mem hk); omega
     have HI := H_ (fun (q : ByteArray) (hq : q.size ≤ 1048576) W (hW : Below w1.heap.size w1 W) => Z1x _ _ ns ts q W (H1.out W hW) (H2.out W hW) LN LT hq)
     have HS := H_ (fun W (hW : Below w1.heap.size w1 W) => Z6d _ _ ns ts s W (H1.out W hW) (H2.out W hW) LN LT (by omega))
     cases hty : Vs ns ts s.data.toList with
     | none =>
       have CI : Hid (∀ W, Below w1.heap.size w1 W → Calls prog 5 #[.slice p1 ns.length c1, .slice p2 ts.length c2, .string s] W fun e w' => e = .returned (.tuple #[.string (bs []), .bool false]) ∧ Below W.heap.size W w') := H_ (fun W hW => (HI.out s (by omega) W hW).mono fun e w' ⟨h1, h2⟩ => ⟨by rw [hty] at h1; exact h1, h2⟩)
       have CS : Hid (∀ W, Below w1.heap.size w1 W → Calls prog 6 #[.slice p1 ns.length c1, .slice p2 ts.length c2, .string s] W fun e w' => e = .returned (.tuple #[.string (bs []), .bool false]) ∧ Below W.heap.size W w') := H_ (fun W hW => (HS.out W hW).mono fun e w' ⟨h1, h2⟩ => ⟨by rw [hty] at h1; exact h1, h2⟩)
       clear hty HI HS LN LT
       generalize bs [] = E at *
       go_wp2_with fail
       refine (CI.out _ (Below.refl _ _)).mono ?_
       rintro e w2 ⟨rfl, hb2⟩
       have HB2 := H_ hb2
       clear hb2
       go_wp2_with fail
       refine (CS.out _ HB2.out).mono ?_
       rintro e w3 ⟨rfl, hb3⟩
       have HB3 := H_ (HB.out.trans ((HB2.out.trans (hb3.mono HB2.out.size)).mono HW.out))
       clear hb3
       go_wp2_with fail
       go_ret
       exact ⟨Zh (by simp), HB3.out⟩
     | some X =>
       obtain ⟨FL, q1, q2, q3, q4, q5⟩ := subst_law hty
       obtain ⟨XT, hXT⟩ : ∃ XT, XT = bs X := ⟨_, rfl⟩
       have CI : Hid (∀ W, Below w1.heap.size w1 W → Calls prog 5 #[.slice p1 ns.length c1, .slice p2 ts.length c2, .string s] W fun e w' => e = .returned (.tuple #[.string XT, .bool true]) ∧ Below W.heap.size W w') := H_ (fun W hW => (HI.out s (by omega) W hW).mono fun e w' ⟨h1, h2⟩ => ⟨by rw [hty] at h1; rw [hXT]; exact h1, h2⟩)
       have CS : Hid (∀ W, Below w1.heap.size w1 W → Calls prog 6 #[.slice p1 ns.length c1, .slice p2 ts.length c2, .string s] W fun e w' => e = .returned (.tuple #[.string XT, .bool true]) ∧ Below W.heap.size W w') := H_ (fun W hW => (HS.out W hW).mono fun e w' ⟨h1, h2⟩ => ⟨by rw [hty] at h1; rw [hXT]; exact h1, h2⟩)
       have CF : Hid (∀ W, Calls prog 7 #[.string s] W fun e w' => (∃ v, e = .returned (.tuple #[v, .bool true]) ∧ Zo w' v FL) ∧ Below W.heap.size W w') := H_ (fun W => (Z76 s (by omega) W).mono fun e w' ⟨⟨v, h1, h2⟩, h3⟩ => ⟨by
        rw [q1] at h1 h2
        exact ⟨v, h1, V5 h2 (by omega)⟩, h3⟩)
       have HXT := H_ hXT
       clear HS hXT
       go_wp2_with fail
       refine (CI.out _ (Below.refl _ _)).mono ?_
       rintro e w2 ⟨rfl, hb2⟩
       have HB2 := H_ hb2
       clear hb2
       go_wp2_with fail
       refine (CS.out _ HB2.out).mono ?_
       rintro e w3 ⟨rfl, hb3⟩
       have HB3 := H_ (HB2.out.trans (hb3.mono HB2.out.size))
       clear hb3
       go_wp2_with fail
       refine (CF.out _).mono ?_
       rintro e w4 ⟨⟨v3, rfl, hv3⟩, hb4⟩
       obtain ⟨p3, m3, c3, rfl⟩ := hv3.shape
       obtain rfl := Z4f hv3
       have HB4 := H_ (HB3.out.trans (hb4.mono HB3.out.size))
       clear hb4 CI CS CF
       by_cases hnil : FL = []
       · have hty2 := q4 hnil
         subst hnil
         have CT : Hid (∀ W, Calls prog 8 #[.string s] W fun e w' => e = .returned (.bool true) ∧ Below W.heap.size W w') := H_ (fun W => (Z5y s (by omega) W).mono fun e w' ⟨h1, h2⟩ => ⟨by rw [hty2] at h1; exact h1, h2⟩)
         clear hv3 q1 q2 q3 q4 q5 hty hty2 HI LN LT
         simp only [List.length_nil] at *
         go_wp2_with fail
         refine (CT.out _).mono ?_
         rintro e w5 ⟨rfl, hb5⟩
         have HB5 := H_ (HB.out.trans ((HB4.out.trans (hb5.mono HB4.out.size)).mono HW.out))
         clear hb5
         go_wp2_with fail
         go_ret
         exact ⟨Zh (by simp), HB5.out⟩
       · have hpos : 0 < FL.length := List.length_pos_iff.2 hnil
         obtain ⟨k, hk0⟩ : ∃ k, k = L' % FL.length := ⟨_, rfl⟩
         have hk : k < FL.length := by rw [hk0]; exact Nat.mod_lt _ hpos
         have hmod : Int.tmod (L' : Int) (FL.length : Int) = (k : Int) := by rw [hk0, Int.ofNat_tmod]
         have hne0 : ((FL.length : Int) == 0) = false := by simp; omega
         have hne1 : ¬ (FL.length : Int) = 0 := by omega
         obtain ⟨rr, off, c9, he, hrr, hcell⟩ := Zo.rows hv3 hnil
         simp only [Value.slice.injEq] at he
         obtain ⟨rfl, -, rfl⟩ := he
         obtain ⟨KX, k1, k2, k3, k4⟩ := q5 FL[k] (List.getElem_mem hk)
         obtain ⟨NT, hNT⟩ : ∃ NT, NT = bs FL[k] := ⟨_, rfl⟩
         have hNs : NT.size ≤ 1048576 := by rw [hNT, Y1]; omega
         have hNd : NT.data.toList = FL[k] := by rw [hNT, Q4]
         have x0 : w4.cell? ⟨rr, off + k, none⟩ = some (.string NT) := by rw [hcell k hk, hNT, List.getD_eq_getElem?_getD, List.getElem?_eq_getElem hk]; rfl
         have CE : Hid (∀ W, Below w1.heap.size w1 W → Calls prog 9 #[.slice p1 ns.length c1, .slice p2 ts.length c2, .string NT] W fun e w' => e = .returned (.tuple #[.string (bs KX), .bool true]) ∧ Below W.heap.size W w') := H_ (fun W hW => (implEnvLook_c _ _ ns ts NT W (H1.out W hW) (H2.out W hW) LN LT).mono fun e w' ⟨h1, h2⟩ => ⟨by rw [hNd, k1] at h1; exact h1, h2⟩)
         obtain ⟨VT, tb, PX, pu, YT, vb, CO, CQ, CY, hfin⟩ : ∃ (VT : ByteArray) (tb : Bool) (PX : ByteArray) (pu : Bool) (YT : ByteArray) (vb : Bool),
          Hid (∀ W, Below w1.heap.size w1 W → Calls prog 10 #[.string (bs KX)] W fun e w' => e = .returned (.tuple #[.string VT, .bool tb]) ∧ Below W.heap.size W w') ∧
          Hid (∀ W, Below w1.heap.size w1 W → Calls prog 11 #[.string s, .string NT, .string VT] W fun e w' => e = .returned (.tuple #[.string PX, .bool pu]) ∧ Below W.heap.size W w') ∧
          Hid (∀ W, Below w1.heap.size w1 W → Calls prog 5 #[.slice p1 ns.length c1, .slice p2 ts.length c2, .string PX] W fun e w' => e = .returned (.tuple #[.string YT, .bool vb]) ∧ Below W.heap.size W w') ∧ (tb = true → pu = true → vb = true ∧ YT = XT) := by
          have CO : ∀ W, Below w1.heap.size w1 W → Calls prog 10 #[.string (bs KX)] W fun e w' => Kl (Z5x KX) e ∧ Below W.heap.size W w' := fun W hW => (implExprOf_c (bs KX) (by rw [Y1]; omega) W (HT1.out W hW)).mono fun e w' ⟨h1, h2⟩ => ⟨by rw [Q4] at h1; exact h1, h2⟩
          have CQ : ∀ (V : List UInt8), V.length ≤ 12000 → ∀ W, Below w1.heap.size w1 W → Calls prog 11 #[.string s, .string NT, .string (bs V)] W fun e w' => Kl (Vu s.data.toList FL[k] V) e ∧ Below W.heap.size W w' := fun V hV W hW => (implExprPut_c s NT (bs V) (by omega) hNs (by rw [Y1]; omega) W (HT1.out W hW)).mono fun e w' ⟨h1, h2⟩ => ⟨by rw [Q4, hNd] at h1; exact h1, h2⟩
          have CY : ∀ (Y : List UInt8), Y.length ≤ 12000 → ∀ W, Below w1.heap.size w1 W → Calls prog 5 #[.slice p1 ns.length c1, .slice p2 ts.length c2, .string (bs Y)] W fun e w' => Z3j (Vs ns ts Y) e ∧ Below W.heap.size W w' := fun Y hY W hW => (HI.out (bs Y) (by rw [Y1]; omega) W hW).mono fun e w' ⟨h1, h2⟩ => ⟨by rw [Q4] at h1; exact h1, h2⟩
          have hz : ([] : List UInt8).length ≤ 12000 := by simp
          cases hov : Z5x KX with
          | none =>
            rw [hov] at CO
            have hpn : Vu s.data.toList FL[k] [] = none := by
             unfold Vu
             cases Yf s.data.toList with
             | none => rfl
             | some x => simp only [readCl_nil]; split <;> rfl
            have C1 := CQ [] hz
            rw [hpn] at C1
            have C2 := CY [] hz
            rw [tyOf_nil] at C2
            exact ⟨bs [], false, bs [], false, bs [], false, H_ CO, H_ C1, H_ C2, fun h => by cases h⟩
          | some V =>
            rw [hov] at CO
            obtain ⟨g1, g2⟩ := k4 V hov
            have C1 := CQ V g1
            cases hpv : Vu s.data.toList FL[k] V with
            | none =>
              rw [hpv] at C1
              have C2 := CY [] hz
              rw [tyOf_nil] at C2
              exact ⟨bs V, true, bs [], false, bs [], false, H_ CO, H_ C1, H_ C2, fun _ h => by cases h⟩
            | some Y =>
              rw [hpv] at C1
              obtain ⟨g3, g4⟩ := g2 Y hpv
              have C2 := CY Y g3
              rw [g4] at C2
              exact ⟨bs V, true, bs Y, true, bs X, true, H_ CO, H_ C1, H_ C2, fun _ _ => ⟨rfl, HXT.out.symm⟩⟩
         have hkI : (k : Int) < (FL.length : Int) := by omega
         have hLb : (L' : Int) ≤ 1048576 := by omega
         have hFb : (FL.length : Int) ≤ 120 := by omega
         have HF9 := H_ hfin
         clear q1 q2 q3 q4 q5 k1 k2 k3 k4 hty HXT hNT hNs hNd HI hcell hv3 hnil hk0 hfin LN LT
         generalize FL.length = FK at *
         generalize bs KX = KT at *
         cases tb <;> cases pu
         case true.true =>
          obtain ⟨rfl, rfl⟩ := HF9.out rfl rfl
          go_wp2_with fail
          refine (CE.out _ HB4.out).mono ?_
          rintro e w5 ⟨rfl, hb5⟩
          have HB5 := H_ (HB4.out.trans (hb5.mono HB4.out.size))
          clear hb5
          go_wp2_with fail
          refine (CO.out _ HB5.out).mono ?_
          rintro e w6 ⟨rfl, hb6⟩
          have HB6 := H_ (HB5.out.trans (hb6.mono HB5.out.size))
          clear hb6
          go_wp2_with fail
          refine (CQ.out _ HB6.out).mono ?_
          rintro e w7 ⟨rfl, hb7⟩
          have HB7 := H_ (HB6.out.trans (hb7.mono HB6.out.size))
          clear hb7
          go_wp2_with fail
          refine (CY.out _ HB7.out).mono ?_
          rintro e w8 ⟨rfl, hb8⟩
          have HB8 := H_ (HB.out.trans ((HB7.out.trans (hb8.mono HB7.out.size)).mono HW.out))
          clear hb8
          go_wp2_with fail
          go_ret
          exact ⟨Zh (by simp), HB8.out⟩
         all_goals
          clear HF9
          go_wp2_with fail
          refine (CE.out _ HB4.out).mono ?_
          rintro e w5 ⟨rfl, hb5⟩
          have HB5 := H_ (HB4.out.trans (hb5.mono HB4.out.size))
          clear hb5
          go_wp2_with fail
          refine (CO.out _ HB5.out).mono ?_
          rintro e w6 ⟨rfl, hb6⟩
          have HB6 := H_ (HB5.out.trans (hb6.mono HB5.out.size))
          clear hb6
          go_wp2_with fail
          refine (CQ.out _ HB6.out).mono ?_
          rintro e w7 ⟨rfl, hb7⟩
          have HB7 := H_ (HB6.out.trans (hb7.mono HB6.out.size))
          clear hb7
          go_wp2_with fail
          refine (CY.out _ HB7.out).mono ?_
          rintro e w8 ⟨rfl, hb8⟩
          have HB8 := H_ (HB.out.trans ((HB7.out.trans (hb8.mono HB7.out.size)).mono HW.out))
          clear hb8
          go_wp2_with fail
          go_ret
          exact ⟨Zh (by simp), HB8.out⟩
   · have hd1 : decide (1048576 < (L' : Int)) = true := by simp; omega
     have hm0 : L' ≤ 9223372036854775807 := hr'.bound
     clear hr hr'
     go_enter func3, ntmps3
     go_wp2_with fail
     go_ret
     exact ⟨rfl, Below.refl _ _⟩
 · have hd0 : decide (1048576 < (L : Int)) = true := by simp; omega
   have hm0 : L ≤ 9223372036854775807 := hr.bound
   have hm1 : L' ≤ 9223372036854775807 := hr'.bound
   clear hr hr'
   go_enter func3, ntmps3
   go_wp2_with fail
   go_ret
   exact ⟨rfl, Below.refl _ _⟩
end Go.Proofs.YtmgepnacjgbfhaaGreatDoor
