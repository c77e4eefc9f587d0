/- The program's EnvValid and EnvLook. -/
import Derived.Test.YtgliggljegghhaaImpl3b
import Derived.Test.YtgliggljegghhaaSpec3b
namespace Go.Proofs.Ytgliggljegghhaa
open Go.RowKit
set_option linter.unusedSimpArgs false
set_option linter.unusedVariables false
theorem rePost_shape {r : Option (List (Nm × Tr))} {e : Ending} {w' : World} (h : RePost r e w') : ∃ q, e = .returned (.tuple #[.pointer q, .bool r.isSome]) := by
  cases r with
  | none => exact ⟨none, h⟩
  | some env => obtain ⟨q, h1, _⟩ := h; exact ⟨q, h1⟩
set_option maxHeartbeats 1000000 in
theorem implEnvValid_c (v1 v2 : Value) (ns : List Nm) (ts : List (List UInt8)) (w : World) (h1 : StrS w v1 ns) (h2 : StrS w v2 ts) (hn : ∀ k (h : k < ns.length), ns[k].length ≤ 1048576) (ht : ∀ k (h : k < ts.length), ts[k].length ≤ 1048576) :
    Calls Try.prog 17 #[v1, v2] w fun e w' => e = .returned (.bool (envOf ns ts).isSome) ∧ Below w.heap.size w w' := by
  have C := Lib.hid (readEnv_c v1 v2 ns ts w h1 h2 hn ht)
  obtain ⟨p1, c1, rfl, -, -⟩ := h1
  obtain ⟨p2, c2, rfl, -, -⟩ := h2
  clear hn ht
  go_enter Try.func17, Try.ntmps17
  go_wp2_with (go_at_call 28; go_must (refine (C.out).mono ?_; rintro e w1 ⟨hr, hb1⟩; obtain ⟨q, rfl⟩ := rePost_shape hr; clear hr))
  go_ret
  exact ⟨rfl, hb1⟩
set_option maxHeartbeats 2000000 in
theorem implEnvLook_c (v1 v2 : Value) (ns : List Nm) (ts : List (List UInt8)) (s : ByteArray) (w : World) (h1 : StrS w v1 ns) (h2 : StrS w v2 ts) (hn : ∀ k (h : k < ns.length), ns[k].length ≤ 1048576) (ht : ∀ k (h : k < ts.length), ts[k].length ≤ 1048576) :
    Calls Try.prog 20 #[v1, v2, .string s] w fun e w' => LkPost (lookOf ns ts s.data.toList) e ∧ Below w.heap.size w w' := by
  have C := Lib.hid (readEnv_c v1 v2 ns ts w h1 h2 hn ht)
  obtain ⟨p1, c1, rfl, -, -⟩ := h1
  obtain ⟨p2, c2, rfl, -, -⟩ := h2
  cases he : envOf ns ts with
  | none =>
    have HR := Lib.hid (lookOf_none s.data.toList he)
    rw [he] at C
    clear hn ht he
    go_enter Try.func20, Try.ntmps20
    go_wp2_with (go_at_call 28; go_must (refine (C.out).mono ?_; rintro e w1 ⟨rfl, hb1⟩))
    go_ret2
    exact ⟨by rw [HR.out]; rfl, hb1⟩
  | some env =>
    have hR0 := lookOf_some s.data.toList he
    have hok := envOf_ok he
    rw [he] at C
    have CL : Hid (∀ W q, FrV W env (.pointer q) → Calls Try.prog 30 #[.pointer q, .string s] W fun e w' => LoPost (lookE env s.data.toList) e w' ∧ Below W.heap.size W w') := Lib.hid (fun W q hv => by
      have h := look_c env (.pointer q) s.data.toList W hv
      rw [show bs s.data.toList = s from (bs_ext rfl).symm] at h
      exact h)
    cases hL : lookE env s.data.toList with
    | none =>
      rw [hL] at CL
      have HR := Lib.hid (show lookOf ns ts s.data.toList = none by rw [hR0, hL]; rfl)
      clear he hn ht hL hR0 hok
      go_enter Try.func20, Try.ntmps20
      go_wp2_with (first | (go_at_call 28; go_must (refine (C.out).mono ?_; rintro e w1 ⟨⟨q, rfl, hq⟩, hb1⟩)) | (go_at_call 30; go_must (refine (CL.out _ _ hq).mono ?_; rintro e w2 ⟨rfl, hb2⟩)))
      go_ret2
      exact ⟨by rw [HR.out]; rfl, (nextB (nextB (firstB hb1) hb2) (below1 _ _)).1⟩
    | some t =>
      rw [hL] at CL
      have HR := Lib.hid (show lookOf ns ts s.data.toList = some t.text by rw [hR0, hL]; rfl)
      obtain ⟨k1, k2, k3, k4, k5⟩ := isTyL_small (lookE_ok hok hL)
      obtain ⟨u, t1, t2, t3, hu, ht1, ht2, ht3, hq⟩ := nI_named t
      have CL2 : Hid (∀ W q, FrV W env (.pointer q) → Calls Try.prog 30 #[.pointer q, .string s] W fun e w' => (∃ p m c, e = .returned (.tuple #[.agg #[.string u, .slice p m c, .int .i64 t1, .int .i64 t2, .int .i64 t3], .bool true]) ∧ FV nI w' (fun k => k < w'.heap.size) t (nI t (.slice p m c))) ∧ Below W.heap.size W w') := by rw [hu, ht1, ht2, ht3]; exact CL
      have TX : Hid (∀ (W : World) p m c, FV nI W (fun k => k < W.heap.size) t (nI t (.slice p m c)) → Calls Try.prog 26 #[.agg #[.string u, .slice p m c, .int .i64 t1, .int .i64 t2, .int .i64 t3]] W fun e w' => e = .returned (.string (bs t.text)) ∧ Below W.heap.size W w') :=
        Lib.hid (fun W p m c h1 => by rw [hu, ht1, ht2, ht3]; exact text_c t p m c _ W k1 (by omega) h1 (fun k hk => hk))
      clear he hn ht hL hR0 hok CL k1 k2 k3 k4 k5 hu ht1 ht2 ht3 hq
      go_enter Try.func20, Try.ntmps20
      go_wp2_with (first | (go_at_call 28; go_must (refine (C.out).mono ?_; rintro e w1 ⟨⟨q, rfl, hq⟩, hb1⟩)) | (go_at_call 30; go_must (refine (CL2.out _ _ hq).mono ?_; rintro e w2 ⟨⟨p, m, c, rfl, hf⟩, hb2⟩; have V2 := Lib.hid (hf.on (below1 w2 (.cells #[.string u, .slice p m c, .int .i64 t1, .int .i64 t2, .int .i64 t3] 37))); clear hf)) | (go_at_call 26; go_must (refine (TX.out _ _ _ _ V2.out).mono ?_; rintro e w3 ⟨rfl, hb3⟩)))
      go_ret2
      exact ⟨by rw [HR.out]; rfl, (nextB (nextB (nextB (firstB hb1) hb2) (below1 _ _)) hb3).1⟩
end Go.Proofs.Ytgliggljegghhaa
