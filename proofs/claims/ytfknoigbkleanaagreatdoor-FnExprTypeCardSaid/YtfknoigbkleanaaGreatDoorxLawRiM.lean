/- The reference model's environments. The program's EnvValid and EnvLook. The program's ExprType. -/
import Derived.Test.YtfknoigbkleanaaGreatDoorxS2fM
import Derived.Test.YtfknoigbkleanaaGreatDoorxPureT
import Derived.Test.YtfknoigbkleanaaGreatDoorxSpec2aM
import Derived.Test.YtfknoigbkleanaaGreatDoorxS1z
import Derived.Test.YtfknoigbkleanaaGreatDoorxImpl3bM
import Derived.Test.YtfknoigbkleanaaGreatDoorxImpl3y
namespace Go.Proofs.YtfknoigbkleanaaGreatDoor
open Go.RowKit Go.Proofs.Tryz
set_option maxRecDepth 8000
set_option maxHeartbeats 20000000
set_option linter.unusedVariables false
set_option linter.unusedSimpArgs false
theorem envOf_bad1 {ns : List Nm} (ts : List (List UInt8)) {k : Nat} (hk : k < ns.length) (h : Yi ns[k] = false) : (Qf ns ts).isSome = false := by
 rw [Vn]
 have : ns.all Yi = false := by
  rw [List.all_eq_false]
  exact ⟨ns[k], List.getElem_mem hk, by rw [h]; simp⟩
 rw [this]; simp
theorem envOf_bad2 (ns : List Nm) {ts : List (List UInt8)} {k : Nat} (hk : k < ts.length) (h : (Y0 ts[k]).isSome = false) : (Qf ns ts).isSome = false := by
 rw [Vn]
 have : ts.all (fun t => (Y0 t).isSome) = false := by
  rw [List.all_eq_false]
  exact ⟨ts[k], List.getElem_mem hk, by rw [h]; simp⟩
 rw [this]; simp
theorem all_step3 {α : Type} (p : α → Bool) (l : List α) (k : Nat) (hk : k < l.length) (h : (l.take k).all p = true) (hp : p l[k] = true) : (l.take (k + 1)).all p = true := by
 rw [List.take_succ_eq_append_getElem hk, List.all_append, h]; simp [hp]
theorem Z6n (v1 v2 : Value) (ns : List Nm) (ts : List (List UInt8)) (w : World) (h1 : Zl w v1 ns) (h2 : Zl w v2 ts) (hn : ∀ k (h : k < ns.length), ns[k].length ≤ 1048576) (ht : ∀ k (h : k < ts.length), ts[k].length ≤ 1048576) :
 Calls prog 50 #[v1, v2] w fun e w' => e = .returned (.bool (Qf ns ts).isSome) ∧ Below w.heap.size w w' := by
 obtain ⟨R, hR⟩ : ∃ R, R = (Qf ns ts).isSome := ⟨_, rfl⟩
 rw [← hR]
 have HR := H_ hR
 have HN := H_ hn
 have HT := H_ ht
 obtain ⟨p1, c1, rfl, l1, hrow1⟩ := h1
 obtain ⟨p2, c2, rfl, l2, hrow2⟩ := h2
 have HS1 := H_ hrow1
 have HS2 := H_ hrow2
 clear hR hn ht hrow1 hrow2
 go_enter func50, ntmps50
 go_wp2_with fail
 go_loop [5] (fun i => ∃ k : Nat, k ≤ ns.length ∧ i = .int .i64 k ∧ Hid ((ns.take k).all Yi = true)) (fun i => ns.length - (intOf i).toNat)
 case atStart => exact ⟨0, Nat.zero_le _, rfl, H_ rfl⟩
 case round =>
  obtain ⟨k, hk, rfl, hA⟩ := hrel
  by_cases hlt : k < ns.length
  · obtain ⟨r, off, rfl, h3⟩ := HS1.out (by intro e; rw [e] at hlt; simp at hlt)
    have x1 : w.cell? ⟨r, off + k, none⟩ = some (.string (bs ns[k])) := Zl.cell h3 hlt
    have C : Hid (∀ W, Calls prog 76 #[.string (bs ns[k])] W fun e w' => e = .returned (.bool (Yi ns[k])) ∧ w' = W) := H_ (fun W => Vu _ (HN.out k hlt) W)
    have hk0 : (0 : Int) ≤ (k : Int) := by omega
    cases hx : Yi ns[k] with
    | false =>
      have HF := H_ (envOf_bad1 ts hlt hx)
      rw [hx] at C
      generalize bs ns[k] = s at *
      clear hx h3
      go_wp2_with (go_at_call 76; go_must (refine (C.out _).mono ?_; rintro e w1 ⟨rfl, rfl⟩))
      go_ret
      exact ⟨Zg (by rw [HR.out, HF.out]), Below.refl _ _⟩
    | true =>
      have HF := H_ (all_step3 Yi ns k hlt hA.out hx)
      rw [hx] at C
      generalize bs ns[k] = s at *
      clear hx h3
      go_wp2_with (go_at_call 76; go_must (refine (C.out _).mono ?_; rintro e w1 ⟨rfl, rfl⟩))
      exact ⟨⟨k + 1, by omega, by go_num, HF⟩, by simp [intOf]; omega⟩
  · have hkL : k = ns.length := by omega
    have hA' := hA.out
    rw [List.take_of_length_le (by omega)] at hA'
    have HA := H_ hA'
    clear hA hA'
    subst hkL
    go_wp2_with fail
    go_loopw [6] (fun i wr => ∃ k : Nat, k ≤ ts.length ∧ i = .int .i64 k ∧ Hid ((ts.take k).all (fun t => (Y0 t).isSome) = true) ∧ Below w.heap.size w wr) (fun i _ => ts.length - (intOf i).toNat)
    case atStart => exact ⟨0, Nat.zero_le _, rfl, H_ rfl, Below.refl _ _⟩
    case round =>
     obtain ⟨k, hk, rfl, hA, hb⟩ := hrel
     by_cases hlt : k < ts.length
     · obtain ⟨r, off, rfl, h3⟩ := HS2.out (by intro e; rw [e] at hlt; simp at hlt)
       have hrl : r < w.heap.size := World.block_lt_of_cell? w ⟨r, off + k, none⟩ (Zl.cell h3 hlt)
       have x1 : wr.cell? ⟨r, off + k, none⟩ = some (.string (bs ts[k])) := (hb.cell (p := ⟨r, off + k, none⟩) hrl).trans (Zl.cell h3 hlt)
       have C : Hid (∀ W, Calls prog 98 #[.string (bs ts[k])] W fun e w' => e = .returned (.bool (Y0 ts[k]).isSome) ∧ Below W.heap.size W w') := H_ (fun W => Ym _ (by rw [Y3]; exact HT.out k hlt) W)
       have hk0 : (0 : Int) ≤ (k : Int) := by omega
       cases hx : (Y0 ts[k]).isSome with
       | false =>
         have HF := H_ (envOf_bad2 ns hlt hx)
         rw [hx] at C
         generalize bs ts[k] = s at *
         clear hx h3
         go_wp2_with (go_at_call 98; go_must (refine (C.out _).mono ?_; rintro e w1 ⟨rfl, hb1⟩))
         go_ret
         exact ⟨Zg (by rw [HR.out, HF.out]), hb.trans (hb1.mono hb.size)⟩
       | true =>
         have HF := H_ (all_step3 (fun t => (Y0 t).isSome) ts k hlt hA.out hx)
         rw [hx] at C
         generalize bs ts[k] = s at *
         clear hx h3
         go_wp2_with (go_at_call 98; go_must (refine (C.out _).mono ?_; rintro e w1 ⟨rfl, hb1⟩))
         go_roundw
         case rel => exact ⟨k + 1, by omega, by go_num, HF, hb.trans (hb1.mono hb.size)⟩
         case measure => simp [intOf]; omega
     · have hkL : k = ts.length := by omega
       have hA' := hA.out
       rw [List.take_of_length_le (by omega)] at hA'
       have HF : Hid (R = (decide (ns.length = ts.length) && decide (ns.length ≤ 8))) := H_ (by rw [HR.out, Vn, HA.out, hA']; simp)
       clear hA hA'
       subst hkL
       by_cases he : ns.length = ts.length
       · have he2 : ((ns.length : Int) == (ts.length : Int)) = true := by simp; omega
         have he3 : (ns.length : Int) = (ts.length : Int) := by omega
         by_cases h8 : ns.length ≤ 8
         · have h82 : decide ((ns.length : Int) ≤ 8) = true := decide_eq_true (by omega)
           have HG := H_ (show R = true by rw [HF.out, decide_eq_true he, decide_eq_true h8]; rfl)
           have h9 : ts.length ≤ 8 := by omega
           have h92 : decide ((ts.length : Int) ≤ 8) = true := decide_eq_true (by omega)
           clear HF he h8 HR
           go_wp2_with fail
           go_ret
           exact ⟨Zg (by rw [HG.out]; first | done | rfl | (simp; done) | (simp; omega)), hb⟩
         · have h82 : decide ((ns.length : Int) ≤ 8) = false := decide_eq_false (by omega)
           have HG := H_ (show R = false by rw [HF.out, decide_eq_false h8]; simp)
           have h9 : ¬ ts.length ≤ 8 := by omega
           have h92 : decide ((ts.length : Int) ≤ 8) = false := decide_eq_false (by omega)
           clear HF he h8 HR
           go_wp2_with fail
           go_ret
           exact ⟨Zg (by rw [HG.out]; first | done | rfl | (simp; done) | (simp; omega)), hb⟩
       · have he2 : ((ns.length : Int) == (ts.length : Int)) = false := by simp; omega
         have he3 : ¬ (ns.length : Int) = (ts.length : Int) := by omega
         have HG := H_ (show R = false by rw [HF.out]; simp [he])
         clear HF he HR
         go_wp2_with fail
         go_ret
         exact ⟨Zg (by rw [HG.out]; first | done | rfl | (simp; done) | (simp; omega)), hb⟩
theorem tyW {env : List (Nm × Tr)} {x : Ex} (henv : J6 env) (hty : Ko x) (W : World) (q : Option Addr) (T : TypeId) (z : Value) (B : Nat) (hq : FrV W env (.pointer q)) (hv : EV W (fun k => B ≤ k ∧ k < W.heap.size) x (.iface T z)) :
 Calls prog 47 #[.pointer q, .iface T z] W fun e w' => Ty3 W (fun k => k < W.heap.size) (tyR env x) e w' ∧ Below W.heap.size W w' :=
 Jc x _ env q _ W henv hty (fun k hk => hk) hq.toO (hv.move (fun k hk => hk.2) (fun _ _ => rfl))
theorem Z7e (v1 v2 : Value) (ns : List Nm) (ts : List (List UInt8)) (s : ByteArray) (w : World) (h1 : Zl w v1 ns) (h2 : Zl w v2 ts) (hn : ∀ k (h : k < ns.length), ns[k].length ≤ 1048576) (ht : ∀ k (h : k < ts.length), ts[k].length ≤ 1048576) (hs : s.size ≤ 1048576) :
 Calls prog 11 #[v1, v2, .string s] w fun e w' => Z5b (Vg ns ts s.data.toList) e ∧ Below w.heap.size w w' := by
 have C := H_ (readEnv_c v1 v2 ns ts w h1 h2 hn ht)
 obtain ⟨p1, c1, rfl, -, -⟩ := h1
 obtain ⟨p2, c2, rfl, -, -⟩ := h2
 cases he : Qf ns ts with
 | none =>
   have HR := H_ (tyOf_env (l := s.data.toList) he)
   rw [he] at C
   clear hn ht he
   go_enter func11, ntmps11
   go_wp2_with (go_at_call 45; go_must (refine (C.out).mono ?_; rintro e w1 ⟨rfl, hb1⟩))
   go_ret2
   exact ⟨by rw [HR.out]; rfl, hb1⟩
 | some env =>
   have hok := Z4f he
   rw [he] at C
   cases hx : Yf s.data.toList with
   | none =>
     have HR := H_ (tyOf_ex (ns := ns) (ts := ts) hx)
     have CX := H_ (Z0j hs hx)
     clear hn ht he hx hok
     go_enter func11, ntmps11
     go_wp2_with (first | (go_at_call 45; go_must (refine (C.out).mono ?_; rintro e w1 ⟨⟨q, rfl, hq⟩, hb1⟩)) | (go_at_call 46; go_must (refine (CX.out _).mono ?_; rintro e w2 ⟨⟨v, rfl⟩, hb2⟩)))
     go_ret2
     exact ⟨by rw [HR.out]; rfl, (Xm (K5 hb1) hb2).1⟩
   | some x =>
     have CX := H_ (Z0i hs hx)
     have hty := Z1s hx
     cases hr : tyR env x with
     | error f =>
       have HR := H_ (tyOf_bad he hx hr)
       have CT : Hid (∀ W q T z B, FrV W env (.pointer q) → EV W (fun k => B ≤ k ∧ k < W.heap.size) x (.iface T z) → Calls prog 47 #[.pointer q, .iface T z] W fun e w' => (∃ T2 z2, e = .returned (.tuple #[.agg #[.string ⟨#[]⟩, .slice none 0 0, .int .i64 0, .int .i64 0, .int .i64 0], .iface T2 z2])) ∧ Below W.heap.size W w') := H_ (fun W q T z B k1 k2 => by
        have h := tyW hok hty W q T z B k1 k2
        rw [hr] at h
        exact h.mono fun e w' ⟨⟨T2, z2, h1, _⟩, h3⟩ => ⟨⟨T2, z2, h1⟩, h3⟩)
       clear hn ht he hx hok hty hr
       go_enter func11, ntmps11
       go_wp2_with (first | (go_at_call 45; go_must (refine (C.out).mono ?_; rintro e w1 ⟨⟨q, rfl, hq⟩, hb1⟩)) | (go_at_call 46; go_must (refine (CX.out _).mono ?_; rintro e w2 ⟨⟨v, rfl, hv⟩, hb2⟩; obtain ⟨T, z, rfl⟩ := hv.iface; have hq2 := hq.below hb2; clear hq)) | (go_at_call 47; go_must (refine (CT.out _ _ _ _ _ hq2 hv).mono ?_; rintro e w3 ⟨⟨T2, z2, rfl⟩, hb3⟩)))
       go_ret2
       exact ⟨by rw [HR.out]; rfl, (Xm (Xm (Xm (K5 hb1) hb2) hb3) (Z4 _ _)).1⟩
     | ok t =>
       have HR := H_ (Z2j he hx hr)
       obtain ⟨k1, k2, k3, k4, k5⟩ := Zf (Qa x env t hok hty hr)
       obtain ⟨u, t1, t2, t3, hu, ht1, ht2, ht3, hqq⟩ := Zx t
       have CT : Hid (∀ W q T z B, FrV W env (.pointer q) → EV W (fun k => B ≤ k ∧ k < W.heap.size) x (.iface T z) → Calls prog 47 #[.pointer q, .iface T z] W fun e w' => (∃ p m c, e = .returned (.tuple #[.agg #[.string u, .slice p m c, .int .i64 t1, .int .i64 t2, .int .i64 t3], .nilIface]) ∧ FV nI w' (fun k => k < w'.heap.size) t (nI t (.slice p m c))) ∧ Below W.heap.size W w') := H_ (fun W q T z B k1 k2 => by
        have h := tyW hok hty W q T z B k1 k2
        rw [hr] at h
        rw [hu, ht1, ht2, ht3]
        exact h.mono fun e w' ⟨⟨p, m, c, h1, h2⟩, h3⟩ => ⟨⟨p, m, c, h1, h2.move (fun k hk => by have := h3.size; rcases hk with hk | hk <;> omega) (fun _ _ => rfl) _ _⟩, h3⟩)
       have TX : Hid (∀ (W : World) p m c, FV nI W (fun k => k < W.heap.size) t (nI t (.slice p m c)) → Calls prog 48 #[.agg #[.string u, .slice p m c, .int .i64 t1, .int .i64 t2, .int .i64 t3]] W fun e w' => e = .returned (.string (bs t.text)) ∧ Below W.heap.size W w') :=
        H_ (fun W p m c h1 => by rw [hu, ht1, ht2, ht3]; exact text_c t p m c _ W k1 (by omega) h1 (fun k hk => hk))
       clear hn ht he hx hok hty hr k1 k2 k3 k4 k5 hu ht1 ht2 ht3 hqq
       go_enter func11, ntmps11
       go_wp2_with (first | (go_at_call 45; go_must (refine (C.out).mono ?_; rintro e w1 ⟨⟨q, rfl, hq⟩, hb1⟩)) | (go_at_call 46; go_must (refine (CX.out _).mono ?_; rintro e w2 ⟨⟨v, rfl, hv⟩, hb2⟩; obtain ⟨T, z, rfl⟩ := hv.iface; have hq2 := hq.below hb2; clear hq)) | (go_at_call 47; go_must (refine (CT.out _ _ _ _ _ hq2 hv).mono ?_; rintro e w3 ⟨⟨p, m, c, rfl, hf⟩, hb3⟩; have V2 := H_ (hf.on (Z4 w3 (.cells #[.string u, .slice p m c, .int .i64 t1, .int .i64 t2, .int .i64 t3] 56))); clear hf)) | (go_at_call 48; go_must (refine (TX.out _ _ _ _ V2.out).mono ?_; rintro e w4 ⟨rfl, hb4⟩)))
       go_ret2
       exact ⟨by rw [HR.out]; rfl, (Xm (Xm (Xm (Xm (K5 hb1) hb2) hb3) (Z4 _ _)) hb4).1⟩
end Go.Proofs.YtfknoigbkleanaaGreatDoor
