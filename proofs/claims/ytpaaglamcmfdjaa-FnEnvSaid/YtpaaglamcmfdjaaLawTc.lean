/- The law FnEnv: its walk. The last one of a name hides those before it. -/
import Derived.Test.YtpaaglamcmfdjaaDrawE
import Derived.Test.YtpaaglamcmfdjaaImpl3c
import Derived.Test.YtpaaglamcmfdjaaSame
import Derived.OwnWalk
import Derived.BigQuiet
namespace Go.Proofs.Ytpaaglamcmfdjaa
open Go.RowKit
set_option maxRecDepth 8000
set_option linter.unusedSimpArgs false
set_option linter.unusedVariables false
theorem lookE_mem {s : Nm} : ∀ {env : List (Nm × Tr)}, s ∈ envN env → (lookE env s).isSome = true
  | [], h => by simp [envN] at h
  | (n, t) :: env, h => by
    rw [envN_cons, List.mem_append, List.mem_singleton] at h
    simp only [lookE]
    by_cases hn : n = s
    · rw [if_pos hn]; rfl
    · rw [if_neg hn]
      exact lookE_mem (h.resolve_right (fun e => hn e.symm))
theorem lookE_back {s : Nm} : ∀ {env : List (Nm × Tr)}, (lookE env s).isSome = true → s ∈ envN env
  | [], h => by simp [lookE] at h
  | (n, t) :: env, h => by
    rw [envN_cons, List.mem_append, List.mem_singleton]
    simp only [lookE] at h
    by_cases hn : n = s
    · exact .inr hn.symm
    · rw [if_neg hn] at h
      exact .inl (lookE_back h)
/-- What is looked up, of an environment that is one. -/
theorem look_env {ns : List Nm} {ts : List (List UInt8)} {env : List (Nm × Tr)} (he : envOf ns ts = some env) (s : Nm) : (lookOf ns ts s).getD [] = lookK ns ts s ns.length ∧ ((lookOf ns ts s).isSome = true ↔ s ∈ ns) := by
  obtain ⟨h1, h2, h3, -⟩ := envOf_lists he
  have hl : env.length = ns.length := by rw [h1, envN_len]
  have hk := lookK_env s env
  rw [← h1, ← h2, hl] at hk
  rw [lookOf_some s he]
  refine ⟨hk.symm, ?_⟩
  rw [Option.isSome_map, h1]
  exact ⟨lookE_back, lookE_mem⟩
theorem lookK_yes {ns : List Nm} {ts : List (List UInt8)} {s : Nm} {k : Nat} (h1 : k < ns.length) (h2 : k < ts.length) (h : ns[k] = s) : lookK ns ts s (k + 1) = ts[k] := by
  simp only [lookK]
  rw [List.getD_eq_getElem?_getD, List.getElem?_eq_getElem h1, Option.getD_some, if_pos h, List.getD_eq_getElem?_getD, List.getElem?_eq_getElem h2, Option.getD_some]
theorem lookK_no {ns : List Nm} {ts : List (List UInt8)} {s : Nm} {k : Nat} (h1 : k < ns.length) (h : ¬ ns[k] = s) : lookK ns ts s (k + 1) = lookK ns ts s k := by
  simp only [lookK]
  rw [List.getD_eq_getElem?_getD, List.getElem?_eq_getElem h1, Option.getD_some, if_neg h]
theorem rowsE {w : World} {v : Value} {l : List Nm} (h : StrS w v l) (hl : l ≠ []) : ∃ rr off c, v = .slice (some ⟨rr, off, none⟩) l.length c ∧ rr < w.heap.size ∧ ∀ i : Nat, i < l.length → w.cell? ⟨rr, off + i, none⟩ = some (.string (bs (l.getD i []))) := by
  obtain ⟨p, c, rfl, h1, h2⟩ := h
  obtain ⟨r, off, rfl, h3⟩ := h2 hl
  have hc : ∀ i : Nat, i < l.length → w.cell? ⟨r, off + i, none⟩ = some (.string (bs (l.getD i []))) := fun i hi => by
    rw [StrS.cell h3 hi, List.getD_eq_getElem?_getD, List.getElem?_eq_getElem hi]; rfl
  exact ⟨r, off, c, rfl, World.block_lt_of_cell? _ _ (hc 0 (List.length_pos_iff.2 hl)), hc⟩
theorem belowN {b : Nat} {w w' : World} (h : Below b w w') (n : Nat) : Below b w (w'.drewN n) := ⟨h.os, h.tape, h.output, h.size, h.block⟩
set_option maxHeartbeats 8000000 in
theorem walk_FnEnv (a : Option Addr) (L c : Nat) (zs : List Int) (w : World) (hr : BRow w a L c zs) :
    Calls Try.prog 3 #[.slice a L c] w fun e w' => e = .returned (.bool true) ∧ Below w.heap.size w w' := by
  by_cases h0 : L ≤ 1048576
  · have hd0 : decide (1048576 < (L : Int)) = false := by simp; omega
    have C := Lib.hid (drawEnvValid_c a L c zs w hr)
    clear hr
    go_enter Try.func3, Try.ntmps3
    go_wp2_with fail
    refine (C.out).mono ?_
    rintro e w1 ⟨v1, v2, ns, ts, rfl, h1, h2, ⟨l1, l2, l3, l4⟩, hb1⟩
    have HB := Lib.hid hb1
    have hn : ∀ k (h : k < ns.length), ns[k].length ≤ 1048576 := fun k h => by have := l3 _ (List.getElem_mem h); omega
    have ht : ∀ k (h : k < ts.length), ts[k].length ≤ 1048576 := fun k h => by have := l4 _ (List.getElem_mem h); omega
    obtain ⟨p1, c1, rfl, -, -⟩ := id h1
    obtain ⟨p2, c2, rfl, -, -⟩ := id h2
    have H1 := Lib.hid h1
    have H2 := Lib.hid h2
    obtain ⟨L1, hL1⟩ : ∃ L1, L1 = ns.length := ⟨_, rfl⟩
    obtain ⟨L2, hL2⟩ : ∃ L2, L2 = ts.length := ⟨_, rfl⟩
    rw [← hL1] at H1 ⊢
    rw [← hL2] at H2 ⊢
    obtain ⟨Z, hZ⟩ : ∃ Z, Z = (envOf ns ts).isSome := ⟨_, rfl⟩
    have CI : Hid (∀ W, Below w1.heap.size w1 W → Calls Try.prog 5 #[.slice p1 L1 c1, .slice p2 L2 c2] W fun e w' => e = .returned (.bool Z) ∧ Below W.heap.size W w') := Lib.hid (fun W hW => by
      rw [hZ]; exact implEnvValid_c _ _ ns ts W (strS_keep2D H1.out hW) (strS_keep2D H2.out hW) hn ht)
    have CS : Hid (∀ W, Below w1.heap.size w1 W → Calls Try.prog 6 #[.slice p1 L1 c1, .slice p2 L2 c2] W fun e w' => e = .returned (.bool Z) ∧ Below W.heap.size W w') := Lib.hid (fun W hW => by
      rw [hZ]; exact specEnvValid_c _ _ ns ts W (strS_keep2D H1.out hW) (strS_keep2D H2.out hW) hn ht)
    have CL : Hid (∀ (s : ByteArray) W, Below w1.heap.size w1 W → Calls Try.prog 7 #[.slice p1 L1 c1, .slice p2 L2 c2, .string s] W fun e w' => LkPost (lookOf ns ts s.data.toList) e ∧ Below W.heap.size W w') := Lib.hid (fun s W hW => implEnvLook_c _ _ ns ts s W (strS_keep2D H1.out hW) (strS_keep2D H2.out hW) hn ht)
    cases he : envOf ns ts with
    | none =>
      have hz : Z = false := by rw [hZ, he]; rfl
      subst hz
      clear he hZ h1 h2 hn ht l1 l2 l3 l4 hL1 hL2 hb1 C CL
      go_wp2_with (first | (go_at_call 5; go_must (refine (CI.out _ (Below.refl _ _)).mono ?_; rintro e w2 ⟨rfl, hb2⟩)) | (go_at_call 6; go_must (refine (CS.out _ hb2).mono ?_; rintro e w3 ⟨rfl, hb3⟩)))
      go_ret
      exact ⟨ret_bool (by simp), (HB.out.trans ((hb2.trans (hb3.mono hb2.size)).mono HB.out.size))⟩
    | some env =>
      have hz : Z = true := by rw [hZ, he]; rfl
      subst hz
      have hlen : ns.length = ts.length := (envOf_lists he).2.2.1
      have HK : Hid (∀ i (hi : i < ns.length) W, Below w1.heap.size w1 W → Calls Try.prog 7 #[.slice p1 L1 c1, .slice p2 L2 c2, .string (bs ns[i])] W fun e w' => e = .returned (.tuple #[.string (bs (lookK ns ts ns[i] L1)), .bool true]) ∧ Below W.heap.size W w') := Lib.hid (fun i hi W hW => (CL.out (bs ns[i]) W hW).mono fun e w' ⟨k1, k2⟩ => ⟨by
        have q := look_env he ns[i]
        have e1 : (bs ns[i]).data.toList = ns[i] := by simp [bs]
        rw [e1] at k1
        unfold LkPost at k1
        rw [k1, q.1, q.2.2 (List.getElem_mem hi), hL1], k2⟩)
      obtain ⟨Q, hQ⟩ : ∃ Q, Q = (lookOf ns ts [122, 57, 57]).isSome := ⟨_, rfl⟩
      obtain ⟨X9, hX9⟩ : ∃ X9, X9 = bs ((lookOf ns ts [122, 57, 57]).getD []) := ⟨_, rfl⟩
      have CZ : Hid (∀ W, Below w1.heap.size w1 W → Calls Try.prog 7 #[.slice p1 L1 c1, .slice p2 L2 c2, .string ⟨#[122, 57, 57]⟩] W fun e w' => e = .returned (.tuple #[.string X9, .bool Q]) ∧ Below W.heap.size W w') := Lib.hid (fun W hW => (CL.out ⟨#[122, 57, 57]⟩ W hW).mono fun e w' ⟨k1, k2⟩ => ⟨by rw [hQ, hX9]; exact k1, k2⟩)
      have HQ : Hid (Q = true → [122, 57, 57] ∈ ns) := Lib.hid (fun h => (look_env he [122, 57, 57]).2.1 (by rw [← hQ]; exact h))
      have CT : Hid (∀ W, Below w1.heap.size w1 W → Calls Try.prog 8 #[.slice p1 L1 c1, .string ⟨#[122, 57, 57]⟩] W fun e w' => e = .returned (.bool (decide (([122, 57, 57] : Nm) ∈ ns))) ∧ w' = W) := Lib.hid (fun W hW => hasT_c _ ns [122, 57, 57] W (strS_keep2D H1.out hW))
      have HL1 := Lib.hid hL1
      have HL2 := Lib.hid (show L1 = ts.length by rw [hL1]; exact hlen)
      have hLb : L1 ≤ 4 := by omega
      clear he hZ h1 h2 hn ht l1 l2 l3 l4 hb1 C CL hQ hX9 hlen
      have hL12 : L2 = L1 := by rw [hL2, HL2.out]
      clear hL1 hL2
      subst hL12
      go_wp2_with (first | (go_at_call 5; go_must (refine (CI.out _ (Below.refl _ _)).mono ?_; rintro e w2 ⟨rfl, hb2⟩)) | (go_at_call 6; go_must (refine (CS.out _ hb2).mono ?_; rintro e w3 ⟨rfl, hb3⟩)))
      have HB3 : Hid (Below w1.heap.size w1 w3) := Lib.hid (hb2.trans (hb3.mono hb2.size))
      clear hb2 hb3 CI CS
      go_loopw [7] (fun i wr => ∃ j : Nat, j ≤ L2 ∧ i = .int .i64 j ∧ Hid (Below w1.heap.size w1 wr)) (fun i _ => L2 - (intOf i).toNat)
      case atStart => exact ⟨0, Nat.zero_le _, rfl, HB3⟩
      case round =>
        obtain ⟨j, hj, rfl, hB⟩ := hrel
        by_cases hlt : j < L2
        · have hjn : j < ns.length := by have := HL1.out; omega
          have CK := Lib.hid (HK.out j hjn)
          obtain ⟨r1, o1, k1, he1, hr1, hcell1⟩ := rowsE H1.out (fun e => by rw [e] at hjn; simp at hjn)
          obtain ⟨r2, o2, k2, he2, hr2, hcell2⟩ := rowsE H2.out (fun e => by have := HL2.out; rw [e] at this; simp at this; omega)
          simp only [Value.slice.injEq] at he1 he2
          obtain ⟨rfl, -, rfl⟩ := he1
          obtain ⟨rfl, -, rfl⟩ := he2
          have HC1 : Hid (∀ W, Below w1.heap.size w1 W → ∀ k (hk : k < ns.length), W.cell? ⟨r1, o1 + k, none⟩ = some (.string (bs ns[k]))) := Lib.hid (fun W hW k hk => (hW.cell (p := ⟨r1, o1 + k, none⟩) hr1).trans (by rw [hcell1 k hk, List.getD_eq_getElem?_getD, List.getElem?_eq_getElem hk]; rfl))
          have HC2 : Hid (∀ W, Below w1.heap.size w1 W → ∀ k (hk : k < ts.length), W.cell? ⟨r2, o2 + k, none⟩ = some (.string (bs ts[k]))) := Lib.hid (fun W hW k hk => (hW.cell (p := ⟨r2, o2 + k, none⟩) hr2).trans (by rw [hcell2 k hk, List.getD_eq_getElem?_getD, List.getElem?_eq_getElem hk]; rfl))
          have x0 := HC1.out wr hB.out j hjn
          obtain ⟨nj, hnj⟩ : ∃ nj, nj = ns[j] := ⟨_, rfl⟩
          rw [← hnj] at x0 CK
          have HNj := Lib.hid hnj
          have hj0 : (0 : Int) ≤ (j : Int) := by omega
          have hjI : (j : Int) < (L2 : Int) := by omega
          clear hcell1 hcell2 hnj
          go_wp2_with (go_at_call 7; go_must (refine (CK.out _ hB.out).mono ?_; rintro e w7 ⟨rfl, hb7⟩))
          have hB7 := Lib.hid (hB.out.trans (hb7.mono hB.out.size))
          obtain ⟨XX, hXX⟩ : ∃ XX, XX = bs (lookK ns ts nj L2) := ⟨_, rfl⟩
          rw [← hXX]
          have HXX := Lib.hid hXX
          clear hXX x0 CK hb7
          go_loopw [10, 11] (fun v i wr => ∃ m : Nat, m ≤ L2 ∧ i = .int .i64 m ∧ (∃ y, v = .string y ∧ Hid (y = bs (lookK ns ts nj m))) ∧ Hid (Below w1.heap.size w1 wr)) (fun _ i _ => L2 - (intOf i).toNat)
          case atStart => exact ⟨0, Nat.zero_le _, rfl, ⟨_, rfl, Lib.hid rfl⟩, hB7⟩
          case round =>
            obtain ⟨m, hm, rfl, ⟨y, rfl, HY⟩, hBm⟩ := hrel
            by_cases hlt2 : m < L2
            · have hmn : m < ns.length := by have := HL1.out; omega
              have hmt : m < ts.length := by have := HL2.out; omega
              have x1 := HC1.out _ hBm.out m hmn
              have x2 := HC2.out _ hBm.out m hmt
              have x3 := HC1.out _ hBm.out j hjn
              have hm0 : (0 : Int) ≤ (m : Int) := by omega
              have hmI : (m : Int) < (L2 : Int) := by omega
              rw [← HNj.out] at x3
              by_cases hx : ns[m] = nj
              · have HS := Lib.hid (lookK_yes (ts := ts) hmn hmt hx)
                rw [hx] at x1
                have hx2 : ((bs nj).toList == (bs nj).toList) = true := by simp
                generalize bs nj = NJ at *
                generalize hTT : bs ts[m] = TT at *
                have HTT := Lib.hid hTT
                clear hx hTT
                go_wp2_with fail
                go_quiet (fail)
                go_wp2_with fail
                go_roundw
                case rel => exact ⟨m + 1, by omega, by go_num, ⟨_, rfl, Lib.hid (by rw [HS.out, HTT.out])⟩, Lib.hid (belowN hBm.out _)⟩
                case measure => simp [intOf]; omega
              · have HS := Lib.hid (lookK_no (ts := ts) hmn hx)
                have hx2 : ((bs ns[m]).toList == (bs nj).toList) = false := by rw [bs_toList, bs_toList]; simpa using hx
                have hx3 : ¬ (bs ns[m]).toList = (bs nj).toList := by rw [bs_toList, bs_toList]; exact hx
                generalize bs nj = NJ at *
                generalize bs ns[m] = NM at *
                clear hx
                go_wp2_with fail
                go_quiet (fail)
                go_wp2_with fail
                go_roundw
                case rel => exact ⟨m + 1, by omega, by go_num, ⟨_, rfl, Lib.hid (by rw [HS.out, HY.out])⟩, Lib.hid (belowN hBm.out _)⟩
                case measure => simp [intOf]; omega
            · have : m = L2 := by omega
              subst this
              have hyx : y = XX := by rw [HY.out, HXX.out]
              subst hyx
              have hx2 : (y.toList == y.toList) = true := by simp
              clear HY HXX
              go_wp2_with fail
              go_roundw
              case rel => exact ⟨j + 1, by omega, by go_num, hBm⟩
              case measure => simp [intOf]; omega
        · have : j = L2 := by omega
          subst this
          cases Q with
          | false =>
            clear HQ HK
            go_wp2_with (go_at_call 7; go_must (refine (CZ.out _ hB.out).mono ?_; rintro e w7 ⟨rfl, hb7⟩))
            go_ret
            exact ⟨ret_bool (by simp), (HB.out.trans ((hB.out.trans (hb7.mono hB.out.size)).mono HB.out.size))⟩
          | true =>
            have hmem := HQ.out rfl
            have hd : decide (([122, 57, 57] : Nm) ∈ ns) = true := by simpa using hmem
            rw [hd] at CT
            clear HQ HK hmem hd
            go_wp2_with (first | (go_at_call 7; go_must (refine (CZ.out _ hB.out).mono ?_; rintro e w7 ⟨rfl, hb7⟩; have hB7 := hB.out.trans (hb7.mono hB.out.size))) | (go_at_call 8; go_must (refine (CT.out _ hB7).mono ?_; rintro e w8 ⟨rfl, rfl⟩)))
            go_ret
            exact ⟨ret_bool (by simp), HB.out.trans (hB7.mono HB.out.size)⟩
  · have hd0 : decide (1048576 < (L : Int)) = true := by simp; omega
    have hm0 : L ≤ 9223372036854775807 := hr.bound
    go_enter Try.func3, Try.ntmps3
    go_wp2_with fail
    go_ret
    exact ⟨rfl, Below.refl _ _⟩
end Go.Proofs.Ytpaaglamcmfdjaa
