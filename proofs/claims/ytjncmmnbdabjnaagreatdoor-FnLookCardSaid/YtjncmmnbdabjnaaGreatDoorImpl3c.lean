/- The reference model's environments. The program's EnvValid and EnvLook. -/
import Derived.Test.YtjncmmnbdabjnaaGreatDoorLook3M
import Derived.Test.YtjncmmnbdabjnaaGreatDoorPureT
import Derived.Test.YtjncmmnbdabjnaaGreatDoorS1z
import Derived.Test.YtjncmmnbdabjnaaGreatDoorImpl3b
namespace Go.Proofs.YtjncmmnbdabjnaaGreatDoor
open Go.RowKit
set_option maxRecDepth 8000
set_option linter.unusedSimpArgs false
set_option linter.unusedVariables false
theorem envOf_bad1 {ns : List Nm} (ts : List (List UInt8)) {k : Nat} (hk : k < ns.length) (h : isNm ns[k] = false) : (envOf ns ts).isSome = false := by
  rw [envOf_isSome]
  have : ns.all isNm = false := by
    rw [List.all_eq_false]
    exact ⟨ns[k], List.getElem_mem hk, by rw [h]; simp⟩
  rw [this]; simp
theorem envOf_bad2 (ns : List Nm) {ts : List (List UInt8)} {k : Nat} (hk : k < ts.length) (h : (readTy ts[k]).isSome = false) : (envOf ns ts).isSome = false := by
  rw [envOf_isSome]
  have : ts.all (fun t => (readTy t).isSome) = false := by
    rw [List.all_eq_false]
    exact ⟨ts[k], List.getElem_mem hk, by rw [h]; simp⟩
  rw [this]; simp
theorem all_step3 {α : Type} (p : α → Bool) (l : List α) (k : Nat) (hk : k < l.length) (h : (l.take k).all p = true) (hp : p l[k] = true) : (l.take (k + 1)).all p = true := by
  rw [List.take_succ_eq_append_getElem hk, List.all_append, h]; simp [hp]
set_option maxHeartbeats 2000000 in
theorem specEnvValid_c (v1 v2 : Value) (ns : List Nm) (ts : List (List UInt8)) (w : World) (h1 : StrS w v1 ns) (h2 : StrS w v2 ts) (hn : ∀ k (h : k < ns.length), ns[k].length ≤ 1048576) (ht : ∀ k (h : k < ts.length), ts[k].length ≤ 1048576) :
    Calls Tryz.prog 44 #[v1, v2] w fun e w' => e = .returned (.bool (envOf ns ts).isSome) ∧ Below w.heap.size w w' := by
  obtain ⟨R, hR⟩ : ∃ R, R = (envOf ns ts).isSome := ⟨_, rfl⟩
  rw [← hR]
  have HR := Lib.hid hR
  have HN := Lib.hid hn
  have HT := Lib.hid ht
  obtain ⟨p1, c1, rfl, l1, hrow1⟩ := h1
  obtain ⟨p2, c2, rfl, l2, hrow2⟩ := h2
  have HS1 := Lib.hid hrow1
  have HS2 := Lib.hid hrow2
  clear hR hn ht hrow1 hrow2
  go_enter Tryz.func44, Tryz.ntmps44
  go_wp2_with fail
  go_loop [5] (fun i => ∃ k : Nat, k ≤ ns.length ∧ i = .int .i64 k ∧ Hid ((ns.take k).all isNm = true)) (fun i => ns.length - (intOf i).toNat)
  case atStart => exact ⟨0, Nat.zero_le _, rfl, Lib.hid rfl⟩
  case round =>
    obtain ⟨k, hk, rfl, hA⟩ := hrel
    by_cases hlt : k < ns.length
    · obtain ⟨r, off, rfl, h3⟩ := HS1.out (by intro e; rw [e] at hlt; simp at hlt)
      have x1 : w.cell? ⟨r, off + k, none⟩ = some (.string (bs ns[k])) := StrS.cell h3 hlt
      have C : Hid (∀ W, Calls Tryz.prog 76 #[.string (bs ns[k])] W fun e w' => e = .returned (.bool (isNm ns[k])) ∧ w' = W) := Lib.hid (fun W => l2Name_bs _ (HN.out k hlt) W)
      have hk0 : (0 : Int) ≤ (k : Int) := by omega
      cases hx : isNm ns[k] with
      | false =>
        have HF := Lib.hid (envOf_bad1 ts hlt hx)
        rw [hx] at C
        generalize bs ns[k] = s at *
        clear hx h3
        go_wp2_with (go_at_call 76; go_must (refine (C.out _).mono ?_; rintro e w1 ⟨rfl, rfl⟩))
        go_ret
        exact ⟨ret_bool (by rw [HR.out, HF.out]), Below.refl _ _⟩
      | true =>
        have HF := Lib.hid (all_step3 isNm ns k hlt hA.out hx)
        rw [hx] at C
        generalize bs ns[k] = s at *
        clear hx h3
        go_wp2_with (go_at_call 76; go_must (refine (C.out _).mono ?_; rintro e w1 ⟨rfl, rfl⟩))
        exact ⟨⟨k + 1, by omega, by go_num, HF⟩, by simp [intOf]; omega⟩
    · have hkL : k = ns.length := by omega
      have hA' := hA.out
      rw [List.take_of_length_le (by omega)] at hA'
      have HA := Lib.hid hA'
      clear hA hA'
      subst hkL
      go_wp2_with fail
      go_loopw [6] (fun i wr => ∃ k : Nat, k ≤ ts.length ∧ i = .int .i64 k ∧ Hid ((ts.take k).all (fun t => (readTy t).isSome) = true) ∧ Below w.heap.size w wr) (fun i _ => ts.length - (intOf i).toNat)
      case atStart => exact ⟨0, Nat.zero_le _, rfl, Lib.hid rfl, Below.refl _ _⟩
      case round =>
        obtain ⟨k, hk, rfl, hA, hb⟩ := hrel
        by_cases hlt : k < ts.length
        · obtain ⟨r, off, rfl, h3⟩ := HS2.out (by intro e; rw [e] at hlt; simp at hlt)
          have hrl : r < w.heap.size := World.block_lt_of_cell? w ⟨r, off + k, none⟩ (StrS.cell h3 hlt)
          have x1 : wr.cell? ⟨r, off + k, none⟩ = some (.string (bs ts[k])) := (hb.cell (p := ⟨r, off + k, none⟩) hrl).trans (StrS.cell h3 hlt)
          have C : Hid (∀ W, Calls Tryz.prog 77 #[.string (bs ts[k])] W fun e w' => e = .returned (.bool (readTy ts[k]).isSome) ∧ Below W.heap.size W w') := Lib.hid (fun W => specTypeValid_c _ (by rw [bs_size]; exact HT.out k hlt) W)
          have hk0 : (0 : Int) ≤ (k : Int) := by omega
          cases hx : (readTy ts[k]).isSome with
          | false =>
            have HF := Lib.hid (envOf_bad2 ns hlt hx)
            rw [hx] at C
            generalize bs ts[k] = s at *
            clear hx h3
            go_wp2_with (go_at_call 77; go_must (refine (C.out _).mono ?_; rintro e w1 ⟨rfl, hb1⟩))
            go_ret
            exact ⟨ret_bool (by rw [HR.out, HF.out]), hb.trans (hb1.mono hb.size)⟩
          | true =>
            have HF := Lib.hid (all_step3 (fun t => (readTy t).isSome) ts k hlt hA.out hx)
            rw [hx] at C
            generalize bs ts[k] = s at *
            clear hx h3
            go_wp2_with (go_at_call 77; go_must (refine (C.out _).mono ?_; rintro e w1 ⟨rfl, hb1⟩))
            go_roundw
            case rel => exact ⟨k + 1, by omega, by go_num, HF, hb.trans (hb1.mono hb.size)⟩
            case measure => simp [intOf]; omega
        · have hkL : k = ts.length := by omega
          have hA' := hA.out
          rw [List.take_of_length_le (by omega)] at hA'
          have HF : Hid (R = (decide (ns.length = ts.length) && decide (ns.length ≤ 8))) := Lib.hid (by rw [HR.out, envOf_isSome, HA.out, hA']; simp)
          clear hA hA'
          subst hkL
          by_cases he : ns.length = ts.length
          · have he2 : ((ns.length : Int) == (ts.length : Int)) = true := by simp; omega
            have he3 : (ns.length : Int) = (ts.length : Int) := by omega
            by_cases h8 : ns.length ≤ 8
            · have h82 : decide ((ns.length : Int) ≤ 8) = true := decide_eq_true (by omega)
              have HG := Lib.hid (show R = true by rw [HF.out, decide_eq_true he, decide_eq_true h8]; rfl)
              have h9 : ts.length ≤ 8 := by omega
              have h92 : decide ((ts.length : Int) ≤ 8) = true := decide_eq_true (by omega)
              clear HF he h8 HR
              go_wp2_with fail
              go_ret
              exact ⟨ret_bool (by rw [HG.out]; first | done | rfl | (simp; done) | (simp; omega)), hb⟩
            · have h82 : decide ((ns.length : Int) ≤ 8) = false := decide_eq_false (by omega)
              have HG := Lib.hid (show R = false by rw [HF.out, decide_eq_false h8]; simp)
              have h9 : ¬ ts.length ≤ 8 := by omega
              have h92 : decide ((ts.length : Int) ≤ 8) = false := decide_eq_false (by omega)
              clear HF he h8 HR
              go_wp2_with fail
              go_ret
              exact ⟨ret_bool (by rw [HG.out]; first | done | rfl | (simp; done) | (simp; omega)), hb⟩
          · have he2 : ((ns.length : Int) == (ts.length : Int)) = false := by simp; omega
            have he3 : ¬ (ns.length : Int) = (ts.length : Int) := by omega
            have HG := Lib.hid (show R = false by rw [HF.out]; simp [he])
            clear HF he HR
            go_wp2_with fail
            go_ret
            exact ⟨ret_bool (by rw [HG.out]; first | done | rfl | (simp; done) | (simp; omega)), hb⟩
set_option maxHeartbeats 2000000 in
theorem specEnvLook_c (v1 v2 : Value) (ns : List Nm) (ts : List (List UInt8)) (s : ByteArray) (w : World) (h1 : StrS w v1 ns) (h2 : StrS w v2 ts) (hn : ∀ k (h : k < ns.length), ns[k].length ≤ 1048576) (ht : ∀ k (h : k < ts.length), ts[k].length ≤ 1048576) :
    Calls Tryz.prog 11 #[v1, v2, .string s] w fun e w' => LkPost (lookOf ns ts s.data.toList) e ∧ Below w.heap.size w w' := by
  have CV := Lib.hid (specEnvValid_c v1 v2 ns ts w h1 h2 hn ht)
  cases he : envOf ns ts with
  | none =>
    have HR := Lib.hid (lookOf_none s.data.toList he)
    rw [he] at CV
    obtain ⟨p1, c1, rfl, l1, hrow1⟩ := h1
    obtain ⟨p2, c2, rfl, l2, hrow2⟩ := h2
    clear he hrow1 hrow2 hn ht
    go_enter Tryz.func11, Tryz.ntmps11
    go_wp2_with (go_at_call 44; go_must (refine (CV.out).mono ?_; rintro e w1 ⟨rfl, hb1⟩))
    go_ret2
    exact ⟨by rw [HR.out]; rfl, hb1⟩
  | some env =>
    obtain ⟨hns, hts, hl, h8⟩ := envOf_lists he
    have hR0 := lookOf_some s.data.toList he
    have hlk := lookK_env s.data.toList env
    rw [← hns, ← hts, show env.length = ns.length by rw [hns, envN_len]] at hlk
    have CL : Hid (∀ W, Below w.heap.size w W → Calls Tryz.prog 45 #[v1, v2, .string s] W fun e w' => e = .returned (.string (bs (((lookE env s.data.toList).map Tr.text).getD []))) ∧ w' = W) := Lib.hid (fun W hW => by
      have h := l3Look_c v1 v2 ns ts s.data.toList W (h1.below hW) (h2.below hW) hl (by omega)
      rw [hlk, show bs s.data.toList = s from (bs_ext rfl).symm] at h
      exact h)
    have hok := envOf_ok he
    rw [he] at CV
    cases hL : lookE env s.data.toList with
    | none =>
      rw [hL] at CL
      have HR := Lib.hid (show lookOf ns ts s.data.toList = none by rw [hR0, hL]; rfl)
      simp only [Option.map_none, Option.getD_none] at CL
      rw [show bs [] = ⟨#[]⟩ from rfl] at CL
      obtain ⟨p1, c1, rfl, l1, hrow1⟩ := h1
      obtain ⟨p2, c2, rfl, l2, hrow2⟩ := h2
      clear he hrow1 hrow2 hn ht hL hR0 hlk hns hts hok hl
      go_enter Tryz.func11, Tryz.ntmps11
      go_wp2_with (first | (go_at_call 44; go_must (refine (CV.out).mono ?_; rintro e w1 ⟨rfl, hb1⟩)) | (go_at_call 45; go_must (refine (CL.out _ hb1).mono ?_; rintro e w2 ⟨rfl, rfl⟩)))
      go_ret2
      exact ⟨by rw [HR.out]; rfl, hb1⟩
    | some t =>
      rw [hL] at CL
      have HR := Lib.hid (show lookOf ns ts s.data.toList = some t.text by rw [hR0, hL]; rfl)
      simp only [Option.map_some, Option.getD_some] at CL
      have hne := text_ne (isTyL_small (lookE_ok hok hL)).1
      have hx2 : ((bs t.text).toList == []) = false := by rw [bs_toList]; simpa using hne
      have hx3 : ¬ (bs t.text).toList = [] := by rw [bs_toList]; exact hne
      obtain ⟨p1, c1, rfl, l1, hrow1⟩ := h1
      obtain ⟨p2, c2, rfl, l2, hrow2⟩ := h2
      obtain ⟨T, hT⟩ : ∃ T, T = bs t.text := ⟨_, rfl⟩
      rw [← hT] at CL hx2 hx3
      have HT := Lib.hid hT
      clear he hrow1 hrow2 hn ht hL hR0 hlk hns hts hok hl hne hT
      go_enter Tryz.func11, Tryz.ntmps11
      go_wp2_with (first | (go_at_call 44; go_must (refine (CV.out).mono ?_; rintro e w1 ⟨rfl, hb1⟩)) | (go_at_call 45; go_must (refine (CL.out _ hb1).mono ?_; rintro e w2 ⟨rfl, rfl⟩)))
      go_ret2
      exact ⟨by rw [HR.out, HT.out]; rfl, hb1⟩
end Go.Proofs.YtjncmmnbdabjnaaGreatDoor
namespace Go.Proofs.YtjncmmnbdabjnaaGreatDoor
open Go.RowKit
set_option maxRecDepth 8000
set_option linter.unusedSimpArgs false
set_option linter.unusedVariables false
theorem rePost_shape {r : Option (List (Nm × Tr))} {e : Ending} {w' : World} (h : RePost r e w') : ∃ q, e = .returned (.tuple #[.pointer q, .bool r.isSome]) := by
  cases r with
  | none => exact ⟨none, h⟩
  | some env => obtain ⟨q, h1, _⟩ := h; exact ⟨q, h1⟩
set_option maxHeartbeats 2000000 in
theorem implEnvLook_c (v1 v2 : Value) (ns : List Nm) (ts : List (List UInt8)) (s : ByteArray) (w : World) (h1 : StrS w v1 ns) (h2 : StrS w v2 ts) (hn : ∀ k (h : k < ns.length), ns[k].length ≤ 1048576) (ht : ∀ k (h : k < ts.length), ts[k].length ≤ 1048576) :
    Calls Tryz.prog 10 #[v1, v2, .string s] w fun e w' => LkPost (lookOf ns ts s.data.toList) e ∧ Below w.heap.size w w' := by
  have C := Lib.hid (readEnv_c v1 v2 ns ts w h1 h2 hn ht)
  obtain ⟨p1, c1, rfl, -, -⟩ := h1
  obtain ⟨p2, c2, rfl, -, -⟩ := h2
  cases he : envOf ns ts with
  | none =>
    have HR := Lib.hid (lookOf_none s.data.toList he)
    rw [he] at C
    clear hn ht he
    go_enter Tryz.func10, Tryz.ntmps10
    go_wp2_with (go_at_call 41; go_must (refine (C.out).mono ?_; rintro e w1 ⟨rfl, hb1⟩))
    go_ret2
    exact ⟨by rw [HR.out]; rfl, hb1⟩
  | some env =>
    have hR0 := lookOf_some s.data.toList he
    have hok := envOf_ok he
    rw [he] at C
    have CL : Hid (∀ W q, FrV W env (.pointer q) → Calls Tryz.prog 42 #[.pointer q, .string s] W fun e w' => LoPost (lookE env s.data.toList) e w' ∧ Below W.heap.size W w') := Lib.hid (fun W q hv => by
      have h := look_c env (.pointer q) s.data.toList W hv
      rw [show bs s.data.toList = s from (bs_ext rfl).symm] at h
      exact h)
    cases hL : lookE env s.data.toList with
    | none =>
      rw [hL] at CL
      have HR := Lib.hid (show lookOf ns ts s.data.toList = none by rw [hR0, hL]; rfl)
      clear he hn ht hL hR0 hok
      go_enter Tryz.func10, Tryz.ntmps10
      go_wp2_with (first | (go_at_call 41; go_must (refine (C.out).mono ?_; rintro e w1 ⟨⟨q, rfl, hq⟩, hb1⟩)) | (go_at_call 42; go_must (refine (CL.out _ _ hq).mono ?_; rintro e w2 ⟨rfl, hb2⟩)))
      go_ret2
      exact ⟨by rw [HR.out]; rfl, (nextB (nextB (firstB hb1) hb2) (below1 _ _)).1⟩
    | some t =>
      rw [hL] at CL
      have HR := Lib.hid (show lookOf ns ts s.data.toList = some t.text by rw [hR0, hL]; rfl)
      obtain ⟨k1, k2, k3, k4, k5⟩ := isTyL_small (lookE_ok hok hL)
      obtain ⟨u, t1, t2, t3, hu, ht1, ht2, ht3, hq⟩ := nI_named t
      have CL2 : Hid (∀ W q, FrV W env (.pointer q) → Calls Tryz.prog 42 #[.pointer q, .string s] W fun e w' => (∃ p m c, e = .returned (.tuple #[.agg #[.string u, .slice p m c, .int .i64 t1, .int .i64 t2, .int .i64 t3], .bool true]) ∧ FV nI w' (fun k => k < w'.heap.size) t (nI t (.slice p m c))) ∧ Below W.heap.size W w') := by rw [hu, ht1, ht2, ht3]; exact CL
      have TX : Hid (∀ (W : World) p m c, FV nI W (fun k => k < W.heap.size) t (nI t (.slice p m c)) → Calls Tryz.prog 43 #[.agg #[.string u, .slice p m c, .int .i64 t1, .int .i64 t2, .int .i64 t3]] W fun e w' => e = .returned (.string (bs t.text)) ∧ Below W.heap.size W w') :=
        Lib.hid (fun W p m c h1 => by rw [hu, ht1, ht2, ht3]; exact text_c t p m c _ W k1 (by omega) h1 (fun k hk => hk))
      clear he hn ht hL hR0 hok CL k1 k2 k3 k4 k5 hu ht1 ht2 ht3 hq
      go_enter Tryz.func10, Tryz.ntmps10
      go_wp2_with (first | (go_at_call 41; go_must (refine (C.out).mono ?_; rintro e w1 ⟨⟨q, rfl, hq⟩, hb1⟩)) | (go_at_call 42; go_must (refine (CL2.out _ _ hq).mono ?_; rintro e w2 ⟨⟨p, m, c, rfl, hf⟩, hb2⟩; have V2 := Lib.hid (hf.on (below1 w2 (.cells #[.string u, .slice p m c, .int .i64 t1, .int .i64 t2, .int .i64 t3] 50))); clear hf)) | (go_at_call 43; go_must (refine (TX.out _ _ _ _ V2.out).mono ?_; rintro e w3 ⟨rfl, hb3⟩)))
      go_ret2
      exact ⟨by rw [HR.out]; rfl, (nextB (nextB (nextB (firstB hb1) hb2) (below1 _ _)) hb3).1⟩
end Go.Proofs.YtjncmmnbdabjnaaGreatDoor
