/- The program's ExprType. -/
import Derived.Test.YtjncmmnbdabjnaaGreatDoorImpl3y
import Derived.Test.YtjncmmnbdabjnaaGreatDoorImpl3c
import Derived.Test.YtjncmmnbdabjnaaGreatDoorPureT
namespace Go.Proofs.YtjncmmnbdabjnaaGreatDoor
open Go.RowKit
set_option maxRecDepth 8000
set_option linter.unusedSimpArgs false
set_option linter.unusedVariables false
theorem tyW {env : List (Nm × Tr)} {x : Ex} (henv : envOK env) (hty : tyEx x) (W : World) (q : Option Addr) (T : TypeId) (z : Value) (B : Nat) (hq : FrV W env (.pointer q)) (hv : EV W (fun k => B ≤ k ∧ k < W.heap.size) x (.iface T z)) :
    Calls Tryz.prog 47 #[.pointer q, .iface T z] W fun e w' => Ty3 W (fun k => k < W.heap.size) (tyR env x) e w' ∧ Below W.heap.size W w' :=
  ty_all x _ env q _ W henv hty (fun k hk => hk) hq.toO (hv.move (fun k hk => hk.2) (fun _ _ => rfl))
set_option maxHeartbeats 2000000 in
theorem implExprType_c (v1 v2 : Value) (ns : List Nm) (ts : List (List UInt8)) (s : ByteArray) (w : World) (h1 : StrS w v1 ns) (h2 : StrS w v2 ts) (hn : ∀ k (h : k < ns.length), ns[k].length ≤ 1048576) (ht : ∀ k (h : k < ts.length), ts[k].length ≤ 1048576) (hs : s.size ≤ 1048576) :
    Calls Tryz.prog 12 #[v1, v2, .string s] w fun e w' => LkPost (tyOf ns ts s.data.toList) e ∧ Below w.heap.size w w' := by
  have C := Lib.hid (readEnv_c v1 v2 ns ts w h1 h2 hn ht)
  obtain ⟨p1, c1, rfl, -, -⟩ := h1
  obtain ⟨p2, c2, rfl, -, -⟩ := h2
  cases he : envOf ns ts with
  | none =>
    have HR := Lib.hid (tyOf_env (l := s.data.toList) he)
    rw [he] at C
    clear hn ht he
    go_enter Tryz.func12, Tryz.ntmps12
    go_wp2_with (go_at_call 41; go_must (refine (C.out).mono ?_; rintro e w1 ⟨rfl, hb1⟩))
    go_ret2
    exact ⟨by rw [HR.out]; rfl, hb1⟩
  | some env =>
    have hok := envOf_ok he
    rw [he] at C
    cases hx : readEx s.data.toList with
    | none =>
      have HR := Lib.hid (tyOf_ex (ns := ns) (ts := ts) hx)
      have CX := Lib.hid (readExpr_none hs hx)
      clear hn ht he hx hok
      go_enter Tryz.func12, Tryz.ntmps12
      go_wp2_with (first | (go_at_call 41; go_must (refine (C.out).mono ?_; rintro e w1 ⟨⟨q, rfl, hq⟩, hb1⟩)) | (go_at_call 46; go_must (refine (CX.out _).mono ?_; rintro e w2 ⟨⟨v, rfl⟩, hb2⟩)))
      go_ret2
      exact ⟨by rw [HR.out]; rfl, (nextB (firstB hb1) hb2).1⟩
    | some x =>
      have CX := Lib.hid (readExpr_some hs hx)
      have hty := readEx_tyEx hx
      cases hr : tyR env x with
      | error f =>
        have HR := Lib.hid (tyOf_bad he hx hr)
        have CT : Hid (∀ W q T z B, FrV W env (.pointer q) → EV W (fun k => B ≤ k ∧ k < W.heap.size) x (.iface T z) → Calls Tryz.prog 47 #[.pointer q, .iface T z] W fun e w' => (∃ T2 z2, e = .returned (.tuple #[.agg #[.string ⟨#[]⟩, .slice none 0 0, .int .i64 0, .int .i64 0, .int .i64 0], .iface T2 z2])) ∧ Below W.heap.size W w') := Lib.hid (fun W q T z B k1 k2 => by
          have h := tyW hok hty W q T z B k1 k2
          rw [hr] at h
          exact h.mono fun e w' ⟨⟨T2, z2, h1, _⟩, h3⟩ => ⟨⟨T2, z2, h1⟩, h3⟩)
        clear hn ht he hx hok hty hr
        go_enter Tryz.func12, Tryz.ntmps12
        go_wp2_with (first | (go_at_call 41; go_must (refine (C.out).mono ?_; rintro e w1 ⟨⟨q, rfl, hq⟩, hb1⟩)) | (go_at_call 46; go_must (refine (CX.out _).mono ?_; rintro e w2 ⟨⟨v, rfl, hv⟩, hb2⟩; obtain ⟨T, z, rfl⟩ := hv.iface; have hq2 := hq.below hb2; clear hq)) | (go_at_call 47; go_must (refine (CT.out _ _ _ _ _ hq2 hv).mono ?_; rintro e w3 ⟨⟨T2, z2, rfl⟩, hb3⟩)))
        go_ret2
        exact ⟨by rw [HR.out]; rfl, (nextB (nextB (nextB (firstB hb1) hb2) hb3) (below1 _ _)).1⟩
      | ok t =>
        have HR := Lib.hid (tyOf_good he hx hr)
        obtain ⟨k1, k2, k3, k4, k5⟩ := isTyL_small (tyR_ok x env t hok hty hr)
        obtain ⟨u, t1, t2, t3, hu, ht1, ht2, ht3, hqq⟩ := nI_named t
        have CT : Hid (∀ W q T z B, FrV W env (.pointer q) → EV W (fun k => B ≤ k ∧ k < W.heap.size) x (.iface T z) → Calls Tryz.prog 47 #[.pointer q, .iface T z] W fun e w' => (∃ p m c, e = .returned (.tuple #[.agg #[.string u, .slice p m c, .int .i64 t1, .int .i64 t2, .int .i64 t3], .nilIface]) ∧ FV nI w' (fun k => k < w'.heap.size) t (nI t (.slice p m c))) ∧ Below W.heap.size W w') := Lib.hid (fun W q T z B k1 k2 => by
          have h := tyW hok hty W q T z B k1 k2
          rw [hr] at h
          rw [hu, ht1, ht2, ht3]
          exact h.mono fun e w' ⟨⟨p, m, c, h1, h2⟩, h3⟩ => ⟨⟨p, m, c, h1, h2.move (fun k hk => by have := h3.size; rcases hk with hk | hk <;> omega) (fun _ _ => rfl) _ _⟩, h3⟩)
        have TX : Hid (∀ (W : World) p m c, FV nI W (fun k => k < W.heap.size) t (nI t (.slice p m c)) → Calls Tryz.prog 43 #[.agg #[.string u, .slice p m c, .int .i64 t1, .int .i64 t2, .int .i64 t3]] W fun e w' => e = .returned (.string (bs t.text)) ∧ Below W.heap.size W w') :=
          Lib.hid (fun W p m c h1 => by rw [hu, ht1, ht2, ht3]; exact text_c t p m c _ W k1 (by omega) h1 (fun k hk => hk))
        clear hn ht he hx hok hty hr k1 k2 k3 k4 k5 hu ht1 ht2 ht3 hqq
        go_enter Tryz.func12, Tryz.ntmps12
        go_wp2_with (first | (go_at_call 41; go_must (refine (C.out).mono ?_; rintro e w1 ⟨⟨q, rfl, hq⟩, hb1⟩)) | (go_at_call 46; go_must (refine (CX.out _).mono ?_; rintro e w2 ⟨⟨v, rfl, hv⟩, hb2⟩; obtain ⟨T, z, rfl⟩ := hv.iface; have hq2 := hq.below hb2; clear hq)) | (go_at_call 47; go_must (refine (CT.out _ _ _ _ _ hq2 hv).mono ?_; rintro e w3 ⟨⟨p, m, c, rfl, hf⟩, hb3⟩; have V2 := Lib.hid (hf.on (below1 w3 (.cells #[.string u, .slice p m c, .int .i64 t1, .int .i64 t2, .int .i64 t3] 50))); clear hf)) | (go_at_call 43; go_must (refine (TX.out _ _ _ _ V2.out).mono ?_; rintro e w4 ⟨rfl, hb4⟩)))
        go_ret2
        exact ⟨by rw [HR.out]; rfl, (nextB (nextB (nextB (nextB (firstB hb1) hb2) hb3) (below1 _ _)) hb4).1⟩
end Go.Proofs.YtjncmmnbdabjnaaGreatDoor
