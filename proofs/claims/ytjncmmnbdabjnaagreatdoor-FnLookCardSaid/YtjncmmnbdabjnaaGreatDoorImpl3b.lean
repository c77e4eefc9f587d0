/- The program's environments: linked frames. -/
import Derived.Test.YtjncmmnbdabjnaaGreatDoorPureT
import Derived.Test.YtjncmmnbdabjnaaGreatDoorImpl1k
import Derived.Test.YtjncmmnbdabjnaaGreatDoorI2a
import Derived.Test.YtjncmmnbdabjnaaGreatDoorLook3M
import Derived.Deep.LoopGhost
namespace Go.Proofs.YtjncmmnbdabjnaaGreatDoor
open Go.RowKit
set_option maxRecDepth 8000
set_option linter.unusedSimpArgs false
set_option linter.unusedVariables false
/-- An environment where it lies. -/
def FrV (w : World) : List (Nm × Tr) → Value → Prop
  | [], v => v = .pointer none
  | (n, t) :: env, v => ∃ b p m c o, v = .pointer (some ⟨b, 0, none⟩) ∧ w.heap[b]? = some (.cells #[.string (bs n), .string (bs (atomOf t)), .slice p m c, .int .i64 t.bytes, .int .i64 t.size, .int .i64 t.depth, o] 85 (0, 0)) ∧ FV nI w (fun k => k < w.heap.size) t (nI t (.slice p m c)) ∧ FrV w env o
theorem FV.on {w w' : World} {t : Tr} {cs : List Value} (h : FV nI w (fun k => k < w.heap.size) t cs) (hb : Below w.heap.size w w') : FV nI w' (fun k => k < w'.heap.size) t cs := (h.below hb (fun _ h => h)).wide (fun k hk => Nat.lt_of_lt_of_le hk hb.size)
theorem FrV.below {w w' : World} (hb : Below w.heap.size w w') : ∀ {env : List (Nm × Tr)} {v : Value}, FrV w env v → FrV w' env v
  | [], v, h => h
  | (n, t) :: env, v, h => by
    obtain ⟨b, p, m, c, o, rfl, h1, h2, h3⟩ := h
    exact ⟨b, p, m, c, o, rfl, below_blk hb (lt_of_block h1) h1, h2.on hb, h3.below hb⟩
theorem FrV.shape {w : World} : ∀ {env : List (Nm × Tr)} {v : Value}, FrV w env v → ∃ p, v = .pointer p
  | [], v, h => ⟨_, h⟩
  | (n, t) :: env, v, h => by obtain ⟨b, p, m, c, o, rfl, _⟩ := h; exact ⟨_, rfl⟩
theorem with_c (v : Value) (hp : ∃ p, v = .pointer p) (s ua : ByteArray) (p1 : Option Addr) (n1 c1 : Nat) (a1 a2 a3 : Int) (w : World) :
    Calls Tryz.prog 72 #[v, .string s, .agg #[.string ua, .slice p1 n1 c1, .int .i64 a1, .int .i64 a2, .int .i64 a3]] w fun e w' => e = .returned (.pointer (some ⟨w.heap.size + 1, 0, none⟩)) ∧ w' = (w.alloc (.cells #[.string ua, .slice p1 n1 c1, .int .i64 a1, .int .i64 a2, .int .i64 a3] 50)).alloc (.cells #[.string s, .string ua, .slice p1 n1 c1, .int .i64 a1, .int .i64 a2, .int .i64 a3, v] 85) := by
  obtain ⟨p, rfl⟩ := hp
  go_enter Tryz.func72, Tryz.ntmps72
  go_wp2_with fail
  go_ret
  exact ⟨rfl, rfl⟩
/-- 'with' makes the environment with a name. -/
theorem with_env (env : List (Nm × Tr)) (n : Nm) (t : Tr) (v : Value) (p : Option Addr) (m c : Nat) (w : World) (hv : FrV w env v) (hf : FV nI w (fun k => k < w.heap.size) t (nI t (.slice p m c))) :
    Calls Tryz.prog 72 #[v, .string (bs n), .agg #[.string (bs (atomOf t)), .slice p m c, .int .i64 t.bytes, .int .i64 t.size, .int .i64 t.depth]] w fun e w' => (∃ q, e = .returned (.pointer q) ∧ FrV w' ((n, t) :: env) (.pointer q)) ∧ Below w.heap.size w w' := by
  refine (with_c v hv.shape (bs n) _ p m c _ _ _ w).mono ?_
  rintro e w' ⟨rfl, rfl⟩
  have hb := below2 w (.cells #[.string (bs (atomOf t)), .slice p m c, .int .i64 t.bytes, .int .i64 t.size, .int .i64 t.depth] 50) (.cells #[.string (bs n), .string (bs (atomOf t)), .slice p m c, .int .i64 t.bytes, .int .i64 t.size, .int .i64 t.depth, v] 85)
  exact ⟨⟨_, rfl, _, p, m, c, v, rfl, heap_alloc_new2 _ _ _, hf.on hb, hv.below hb⟩, hb⟩
/-- What a look-up hands back. -/
def LoPost (r : Option Tr) (e : Ending) (w' : World) : Prop :=
  match r with
  | none => e = .returned (.tuple #[.agg #[.string ⟨#[]⟩, .slice none 0 0, .int .i64 0, .int .i64 0, .int .i64 0], .bool false])
  | some t => ∃ p m c, e = .returned (.tuple #[.agg #[.string (bs (atomOf t)), .slice p m c, .int .i64 t.bytes, .int .i64 t.size, .int .i64 t.depth], .bool true]) ∧ FV nI w' (fun k => k < w'.heap.size) t (nI t (.slice p m c))
set_option maxHeartbeats 4000000 in
theorem look_c (env : List (Nm × Tr)) (v : Value) (s : Nm) (w : World) (hv : FrV w env v) :
    Calls Tryz.prog 42 #[v, .string (bs s)] w fun e w' => LoPost (lookE env s) e w' ∧ Below w.heap.size w w' := by
  obtain ⟨R, hR⟩ : ∃ R, R = lookE env s := ⟨_, rfl⟩
  rw [← hR]
  have HR := Lib.hid hR
  have HV := Lib.hid hv
  obtain ⟨p0, rfl⟩ := hv.shape
  obtain ⟨L, hL⟩ : ∃ L, L = env.length := ⟨_, rfl⟩
  have HL := Lib.hid hL
  clear hR hv hL
  go_enter Tryz.func42, Tryz.ntmps42
  go_wp2_with fail
  go_loopg [0] L (fun q v wr => ∃ env', env'.length = q ∧ Hid (FrV w env' v) ∧ Hid (lookE env s = lookE env' s) ∧ wr = w.alloc (.cells #[.string ⟨#[]⟩, .slice none 0 0, .int .i64 0, .int .i64 0, .int .i64 0] 50))
  case atStart => exact ⟨env, HL.out.symm, HV, Lib.hid rfl, rfl⟩
  case round =>
    obtain ⟨env', hlen, hfr, hlk, rfl⟩ := hrel
    have y := heap_alloc_new w (.cells #[.string ⟨#[]⟩, .slice none 0 0, .int .i64 0, .int .i64 0, .int .i64 0] 50)
    have z0 := cell_of (j := 0) y
    have z1 := cell_of (j := 1) y
    have z2 := cell_of (j := 2) y
    have z3 := cell_of (j := 3) y
    have z4 := cell_of (j := 4) y
    have f0 := free_of (j := 0) y
    have f1 := free_of (j := 1) y
    have f2 := free_of (j := 2) y
    have f3 := free_of (j := 3) y
    have f4 := free_of (j := 4) y
    cases env' with
    | nil =>
      obtain rfl := hfr.out
      have HF := Lib.hid (show R = none by rw [HR.out, hlk.out]; rfl)
      have O := set5_same y (.string ⟨#[]⟩) (.slice none 0 0) (.int .i64 0) (.int .i64 0) (.int .i64 0)
      have r0 := cell_of (j := 0) O
      have r1 := cell_of (j := 1) O
      have r2 := cell_of (j := 2) O
      have r3 := cell_of (j := 3) O
      have r4 := cell_of (j := 4) O
      go_wp2_with fail
      refine bodyPost_ret (v := .tuple #[.agg #[.string ⟨#[]⟩, .slice none 0 0, .int .i64 0, .int .i64 0, .int .i64 0], .bool false]) (by simp [results, Tryz.results42, go_sem, r0, r1, r2, r3, r4]) rfl ⟨by rw [HF.out]; rfl, ?_⟩
      exact below1 w _
    | cons nt rest =>
      obtain ⟨n, t⟩ := nt
      obtain ⟨b, p, m, c, o, rfl, h1, h2, h3⟩ := hfr.out
      obtain ⟨po, rfl⟩ := h3.shape
      have hbl := lt_of_block h1
      have h1' := blk_alloc (o' := .cells #[.string ⟨#[]⟩, .slice none 0 0, .int .i64 0, .int .i64 0, .int .i64 0] 50) h1
      have hbne : b ≠ w.heap.size := by omega
      have hbne2 := hbne.symm
      have H3 := Lib.hid h3
      have H2 := Lib.hid h2
      have x0 := cell_of (j := 0) h1'
      have x1 := cell_of (j := 1) h1'
      have x2 := cell_of (j := 2) h1'
      have x3 := cell_of (j := 3) h1'
      have x4 := cell_of (j := 4) h1'
      have x5 := cell_of (j := 5) h1'
      have x6 := cell_of (j := 6) h1'
      by_cases he : n = s
      · have HF := Lib.hid (show R = some t by rw [HR.out, hlk.out]; simp [lookE, he])
        have hx2 : ((bs n).toList == (bs s).toList) = true := by rw [bs_toList, bs_toList]; simpa using he
        have hx3 : (bs n).toList = (bs s).toList := by rw [bs_toList, bs_toList]; exact he
        obtain ⟨u, t1, t2, t3, hu, ht1, ht2, ht3, hq⟩ := nI_named t
        rw [← hu] at x1
        rw [← ht1] at x3
        rw [← ht2] at x4
        rw [← ht3] at x5
        have O := set5_same y (.string u) (.slice p m c) (.int .i64 t1) (.int .i64 t2) (.int .i64 t3)
        have r0 := cell_of (j := 0) O
        have r1 := cell_of (j := 1) O
        have r2 := cell_of (j := 2) O
        have r3 := cell_of (j := 3) O
        have r4 := cell_of (j := 4) O
        have HU := Lib.hid (And.intro hu (And.intro ht1 (And.intro ht2 ht3)))
        clear h1 h2 h3 h1' hlk hfr he hu ht1 ht2 ht3 hq
        generalize bs n = sn at *
        go_wp2_with fail
        try go_region
        all_goals
          go_wp2_with fail
          refine bodyPost_ret (v := .tuple #[.agg #[.string u, .slice p m c, .int .i64 t1, .int .i64 t2, .int .i64 t3], .bool true]) (by simp [results, Tryz.results42, go_sem, r0, r1, r2, r3, r4]) rfl ⟨?_, ?_⟩
          · rw [HF.out]
            obtain ⟨q1, q2, q3, q4⟩ := HU.out
            refine ⟨p, m, c, by rw [q1, q2, q3, q4], ?_⟩
            exact H2.out.on (below1 w _)
          · exact below1 w _
      · have HF := Lib.hid (show lookE env s = lookE rest s by rw [hlk.out]; simp [lookE, he])
        have hx2 : ((bs n).toList == (bs s).toList) = false := by rw [bs_toList, bs_toList]; simpa using he
        have hx3 : ¬ (bs n).toList = (bs s).toList := by rw [bs_toList, bs_toList]; exact he
        clear h1 h2 h3 h1' hlk hfr he
        generalize bs n = sn at *
        go_wp2_with fail
        go_roundg rest.length
        case measure => simp at hlen; omega
        case rel => exact ⟨rest, rfl, H3, HF, rfl⟩
/-- What reading an environment hands back. -/
def RePost (r : Option (List (Nm × Tr))) (e : Ending) (w' : World) : Prop :=
  match r with
  | none => e = .returned (.tuple #[.pointer none, .bool false])
  | some env => ∃ q, e = .returned (.tuple #[.pointer q, .bool true]) ∧ FrV w' env (.pointer q)
theorem envOf_bad {ns : List Nm} {ts : List (List UInt8)} {k : Nat} (h1 : k < ns.length) (h2 : k < ts.length) (h : readTy ts[k] = none ∨ isNm ns[k] = false) : envOf ns ts = none := by
  have : (envOf ns ts).isSome = false := by
    rw [envOf_isSome]
    rcases h with h | h
    · have : ts.all (fun t => (readTy t).isSome) = false := by rw [List.all_eq_false]; exact ⟨ts[k], List.getElem_mem h2, by rw [h]; simp⟩
      rw [this]; simp
    · have : ns.all isNm = false := by rw [List.all_eq_false]; exact ⟨ns[k], List.getElem_mem h1, by rw [h]; simp⟩
      rw [this]; simp
  cases hx : envOf ns ts with
  | none => rfl
  | some e => rw [hx] at this; cases this
theorem envAdd_step {ns : List Nm} {ts : List (List UInt8)} {k : Nat} (hl : ns.length = ts.length) (h1 : k < ns.length) (h2 : k < ts.length) {e : List (Nm × Tr)} {t : Tr} (he : envAdd [] (ns.take k) (ts.take k) = some e) (ht : readTy ts[k] = some t) (hn : isNm ns[k] = true) : envAdd [] (ns.take (k + 1)) (ts.take (k + 1)) = some ((ns[k], t) :: e) := by
  rw [List.take_succ_eq_append_getElem h1, List.take_succ_eq_append_getElem h2, envAdd_snoc _ _ _ _ _ (by simp; omega), he]
  simp [ht, hn]
set_option maxHeartbeats 4000000 in
theorem readEnv_c (v1 v2 : Value) (ns : List Nm) (ts : List (List UInt8)) (w : World) (h1 : StrS w v1 ns) (h2 : StrS w v2 ts) (hn : ∀ k (h : k < ns.length), ns[k].length ≤ 1048576) (ht : ∀ k (h : k < ts.length), ts[k].length ≤ 1048576) :
    Calls Tryz.prog 41 #[v1, v2] w fun e w' => RePost (envOf ns ts) e w' ∧ Below w.heap.size w w' := by
  obtain ⟨R, hR⟩ : ∃ R, R = envOf ns ts := ⟨_, rfl⟩
  rw [← hR]
  have HR := Lib.hid hR
  have HN := Lib.hid hn
  have HT := Lib.hid ht
  obtain ⟨p1, c1, rfl, l1, hrow1⟩ := h1
  obtain ⟨p2, c2, rfl, l2, hrow2⟩ := h2
  have HS1 := Lib.hid hrow1
  have HS2 := Lib.hid hrow2
  clear hR hn ht hrow1 hrow2
  by_cases h8 : ns.length ≤ 8
  · have h83 : ¬ (8 : Int) < (ns.length : Int) := by omega
    have h82 : decide ((8 : Int) < (ns.length : Int)) = false := decide_eq_false h83
    by_cases hl : ns.length = ts.length
    · have hl2 : (ns.length : Int) = (ts.length : Int) := by omega
      have HL := Lib.hid hl
      have H8 := Lib.hid h8
      rw [← hl] at l2 ⊢
      have HO := Lib.hid (show envOf ns ts = envAdd [] ns ts by rw [envOf, if_pos ⟨h8, hl⟩])
      clear h82 hl2 hl
      go_enter Tryz.func41, Tryz.ntmps41
      go_wp2_with fail
      go_loopw [6, 23] (fun v i wr => ∃ (k : Nat) (env : List (Nm × Tr)) (q : Option Addr), k ≤ ns.length ∧ i = .int .i64 k ∧ v = .pointer q ∧ Hid (FrV wr env (.pointer q)) ∧ Hid (envAdd [] (ns.take k) (ts.take k) = some env) ∧ Below w.heap.size w wr) (fun _ i _ => ns.length - (intOf i).toNat)
      case atStart => exact ⟨0, [], none, Nat.zero_le _, rfl, rfl, Lib.hid rfl, Lib.hid rfl, Below.refl _ _⟩
      case round =>
        obtain ⟨k, env, q, hk, rfl, rfl, hfr, hA, hb⟩ := hrel
        by_cases hlt : k < ns.length
        · have hlt2 : k < ts.length := by rw [← HL.out]; exact hlt
          obtain ⟨r, off, rfl, h3⟩ := HS1.out (by intro e; rw [e] at hlt; simp at hlt)
          obtain ⟨r2, off2, rfl, h4⟩ := HS2.out (by intro e; rw [e] at hlt2; simp at hlt2)
          have hrl : r < w.heap.size := World.block_lt_of_cell? w ⟨r, off + k, none⟩ (StrS.cell h3 hlt)
          have hrl2 : r2 < w.heap.size := World.block_lt_of_cell? w ⟨r2, off2 + k, none⟩ (StrS.cell h4 hlt2)
          have x1 : wr.cell? ⟨r, off + k, none⟩ = some (.string (bs ns[k])) := (hb.cell (p := ⟨r, off + k, none⟩) hrl).trans (StrS.cell h3 hlt)
          have x2 : wr.cell? ⟨r2, off2 + k, none⟩ = some (.string (bs ts[k])) := (hb.cell (p := ⟨r2, off2 + k, none⟩) hrl2).trans (StrS.cell h4 hlt2)
          have hk0 : (0 : Int) ≤ (k : Int) := by omega
          have hsT : (bs ts[k]).size ≤ 1048576 := by rw [bs_size]; exact HT.out k hlt2
          have hdT : (bs ts[k]).data.toList = ts[k] := bs_data _
          have CN : Hid (∀ W, Calls Tryz.prog 64 #[.string (bs ns[k])] W fun e w' => e = .returned (.bool (isNm ns[k])) ∧ w' = W) := Lib.hid (fun W => isName_bs _ (HN.out k hlt) W)
          cases hx : readTy ts[k] with
          | none =>
            have HF := Lib.hid (show R = none by rw [HR.out]; exact envOf_bad hlt hlt2 (.inl hx))
            have C := Lib.hid (readType_none hsT (by rw [hdT]; exact hx))
            generalize bs ts[k] = st at *
            generalize bs ns[k] = sn at *
            clear hx h3 h4 hdT hsT
            go_wp2_with (go_at_call 48; go_must (refine (C.out _).mono ?_; rintro e w1 ⟨rfl, hb1⟩))
            go_ret2
            exact ⟨by rw [HF.out]; rfl, (nextB (nextB (firstB hb) hb1) (below1 _ _)).1⟩
          | some t =>
            have C := Lib.hid (readType_some hsT (t := t) (by rw [hdT]; exact hx))
            obtain ⟨u, t1, t2, t3, hu, ht1, ht2, ht3, hq⟩ := nI_named t
            rw [← hu, ← ht1, ← ht2, ← ht3] at C
            cases hy : isNm ns[k] with
            | false =>
              have HF := Lib.hid (show R = none by rw [HR.out]; exact envOf_bad hlt hlt2 (.inr hy))
              rw [hy] at CN
              generalize bs ts[k] = st at *
              generalize bs ns[k] = sn at *
              clear hx hy h3 h4 hdT hsT hu ht1 ht2 ht3 hq
              go_wp2_with (first | (go_at_call 48; go_must (refine (C.out _).mono ?_; rintro e w1 ⟨⟨p, m, c, rfl, hv⟩, hb1⟩)) | (go_at_call 64; go_must (refine (CN.out _).mono ?_; rintro e w2 ⟨rfl, rfl⟩)))
              go_ret2
              exact ⟨by rw [HF.out]; rfl, (nextB (nextB (firstB hb) hb1) (below1 _ _)).1⟩
            | true =>
              have HF := Lib.hid (envAdd_step HL.out hlt hlt2 hA.out hx hy)
              rw [hy] at CN
              have CW : Hid (∀ (W : World) p m c, FrV W env (.pointer q) → FV nI W (fun k => k < W.heap.size) t (nI t (.slice p m c)) → Calls Tryz.prog 72 #[.pointer q, .string (bs ns[k]), .agg #[.string u, .slice p m c, .int .i64 t1, .int .i64 t2, .int .i64 t3]] W fun e w' => (∃ q', e = .returned (.pointer q') ∧ FrV w' ((ns[k], t) :: env) (.pointer q')) ∧ Below W.heap.size W w') := Lib.hid (fun W p m c k1 k2 => by rw [hu, ht1, ht2, ht3]; exact with_env env ns[k] t _ p m c W k1 k2)
              generalize bs ts[k] = st at *
              generalize bs ns[k] = sn at *
              clear hx hy h3 h4 hdT hsT hu ht1 ht2 ht3 hq
              go_wp2_with (first | (go_at_call 48; go_must (refine (C.out _).mono ?_; rintro e w1 ⟨⟨p, m, c, rfl, hv⟩, hb1⟩; have V1 := Lib.hid ((hv.below (below1 w1 (.cells #[.string u, .slice p m c, .int .i64 t1, .int .i64 t2, .int .i64 t3] 50)) (fun k hk => hk.2)).wide (ok' := fun j => j < (w1.alloc (.cells #[.string u, .slice p m c, .int .i64 t1, .int .i64 t2, .int .i64 t3] 50)).heap.size) (fun j hj => by simp; omega)); have B1 := Lib.hid (nextB (nextB (firstB hb) hb1) (below1 w1 (.cells #[.string u, .slice p m c, .int .i64 t1, .int .i64 t2, .int .i64 t3] 50))); have E1 := Lib.hid ((hfr.out.below hb1).below (below1 w1 (.cells #[.string u, .slice p m c, .int .i64 t1, .int .i64 t2, .int .i64 t3] 50))); clear hv hb1)) | (go_at_call 64; go_must (refine (CN.out _).mono ?_; rintro e w2 ⟨rfl, rfl⟩)) | (go_at_call 72; go_must (refine (CW.out _ _ _ _ E1.out V1.out).mono ?_; rintro e w3 ⟨⟨q', rfl, hq'⟩, hb3⟩)))
              go_roundw
              case rel => exact ⟨k + 1, _, q', by omega, by go_num, rfl, Lib.hid hq', HF, (nextB B1.out hb3).1⟩
              case measure => simp [intOf]; omega
        · have hkL : k = ns.length := by omega
          have hA' := hA.out
          rw [List.take_of_length_le (by omega), List.take_of_length_le (by rw [← HL.out]; omega)] at hA'
          have HF := Lib.hid (show R = some env by rw [HR.out, HO.out, hA'])
          clear hA hA'
          subst hkL
          go_wp2_with fail
          go_ret2
          exact ⟨by rw [HF.out]; exact ⟨q, rfl, hfr.out⟩, hb⟩
    · have hl2 : ¬ (ns.length : Int) = (ts.length : Int) := by omega
      have hl3 : ((ns.length : Int) == (ts.length : Int)) = false := by simp; omega
      have HF := Lib.hid (show R = none by rw [HR.out, envOf, if_neg (fun h => hl h.2)])
      clear h82 hl
      go_enter Tryz.func41, Tryz.ntmps41
      go_wp2_with fail
      go_ret2
      exact ⟨by rw [HF.out]; rfl, Below.refl _ _⟩
  · have h83 : (8 : Int) < (ns.length : Int) := by omega
    have h82 : decide ((8 : Int) < (ns.length : Int)) = true := decide_eq_true h83
    have HF := Lib.hid (show R = none by rw [HR.out, envOf, if_neg (fun h => h8 h.1)])
    clear h8
    go_enter Tryz.func41, Tryz.ntmps41
    go_wp2_with fail
    go_ret2
    exact ⟨by rw [HF.out]; rfl, Below.refl _ _⟩
end Go.Proofs.YtjncmmnbdabjnaaGreatDoor
