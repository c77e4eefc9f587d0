/- The program's environments: linked frames. The reference model's environments. The program's EnvValid and EnvLook. -/
import Derived.Test.YtmgepnacjgbfhaaGreatDoorsPureT
import Derived.Test.YtmgepnacjgbfhaaGreatDoorsImpl1k
import Derived.Test.YtmgepnacjgbfhaaGreatDoorsI2a
import Derived.Test.YtmgepnacjgbfhaaGreatDoorsImpl1rM
import Derived.Deep.LoopGhost
import Derived.Test.YtmgepnacjgbfhaaGreatDoorsNumIM
import Derived.Test.YtmgepnacjgbfhaaGreatDoorsS1z
namespace Go.Proofs.YtmgepnacjgbfhaaGreatDoor
open Go.RowKit Go.Proofs.Tryz
set_option maxRecDepth 8000
set_option maxHeartbeats 20000000
set_option linter.unusedVariables false
set_option linter.unusedSimpArgs false
def FrV (w : World) : List (Nm × Tr) → Value → Prop
 | [], v => v = .pointer none
 | (n, t) :: env, v => ∃ b p m c o, v = .pointer (some ⟨b, 0, none⟩) ∧ w.heap[b]? = some (.cells #[.string (bs n), .string (bs (Z0 t)), .slice p m c, .int .i64 t.bytes, .int .i64 t.size, .int .i64 t.depth, o] 101 (0, 0)) ∧ FV nI w (fun k => k < w.heap.size) t (nI t (.slice p m c)) ∧ FrV w env o
theorem FV.on {w w' : World} {t : Tr} {cs : List Value} (h : FV nI w (fun k => k < w.heap.size) t cs) (hb : Below w.heap.size w w') : FV nI w' (fun k => k < w'.heap.size) t cs := (h.below hb (fun _ h => h)).wide (fun k hk => Nat.lt_of_lt_of_le hk hb.size)
theorem FrV.below {w w' : World} (hb : Below w.heap.size w w') : ∀ {env : List (Nm × Tr)} {v : Value}, FrV w env v → FrV w' env v
 | [], v, h => h
 | (n, t) :: env, v, h => by
   obtain ⟨b, p, m, c, o, rfl, h1, h2, h3⟩ := h
   exact ⟨b, p, m, c, o, rfl, Z1 hb (lt_of_block h1) h1, h2.on hb, h3.below hb⟩
theorem FrV.shape {w : World} : ∀ {env : List (Nm × Tr)} {v : Value}, FrV w env v → ∃ p, v = .pointer p
 | [], v, h => ⟨_, h⟩
 | (n, t) :: env, v, h => by obtain ⟨b, p, m, c, o, rfl, _⟩ := h; exact ⟨_, rfl⟩
theorem with_c (v : Value) (hp : ∃ p, v = .pointer p) (s ua : ByteArray) (p1 : Option Addr) (n1 c1 : Nat) (a1 a2 a3 : Int) (w : World) :
 Calls prog 39 #[v, .string s, .agg #[.string ua, .slice p1 n1 c1, .int .i64 a1, .int .i64 a2, .int .i64 a3]] w fun e w' => e = .returned (.pointer (some ⟨w.heap.size + 1, 0, none⟩)) ∧ w' = (w.alloc (.cells #[.string ua, .slice p1 n1 c1, .int .i64 a1, .int .i64 a2, .int .i64 a3] 49)).alloc (.cells #[.string s, .string ua, .slice p1 n1 c1, .int .i64 a1, .int .i64 a2, .int .i64 a3, v] 101) := by
 obtain ⟨p, rfl⟩ := hp
 go_enter func39, ntmps39
 go_wp2_with fail
 go_ret
 exact ⟨rfl, rfl⟩
theorem with_env (env : List (Nm × Tr)) (n : Nm) (t : Tr) (v : Value) (p : Option Addr) (m c : Nat) (w : World) (hv : FrV w env v) (hf : FV nI w (fun k => k < w.heap.size) t (nI t (.slice p m c))) :
 Calls prog 39 #[v, .string (bs n), .agg #[.string (bs (Z0 t)), .slice p m c, .int .i64 t.bytes, .int .i64 t.size, .int .i64 t.depth]] w fun e w' => (∃ q, e = .returned (.pointer q) ∧ FrV w' ((n, t) :: env) (.pointer q)) ∧ Below w.heap.size w w' := by
 refine (with_c v hv.shape (bs n) _ p m c _ _ _ w).mono ?_
 rintro e w' ⟨rfl, rfl⟩
 have hb := Zi w (.cells #[.string (bs (Z0 t)), .slice p m c, .int .i64 t.bytes, .int .i64 t.size, .int .i64 t.depth] 49) (.cells #[.string (bs n), .string (bs (Z0 t)), .slice p m c, .int .i64 t.bytes, .int .i64 t.size, .int .i64 t.depth, v] 101)
 exact ⟨⟨_, rfl, _, p, m, c, v, rfl, Z9 _ _ _, hf.on hb, hv.below hb⟩, hb⟩
def LoPost (r : Option Tr) (e : Ending) (w' : World) : Prop :=
 match r with
 | none => e = .returned (.tuple #[.agg #[.string ⟨#[]⟩, .slice none 0 0, .int .i64 0, .int .i64 0, .int .i64 0], .bool false])
 | some t => ∃ p m c, e = .returned (.tuple #[.agg #[.string (bs (Z0 t)), .slice p m c, .int .i64 t.bytes, .int .i64 t.size, .int .i64 t.depth], .bool true]) ∧ FV nI w' (fun k => k < w'.heap.size) t (nI t (.slice p m c))
theorem look_c (env : List (Nm × Tr)) (v : Value) (s : Nm) (w : World) (hv : FrV w env v) :
 Calls prog 26 #[v, .string (bs s)] w fun e w' => LoPost (Yu env s) e w' ∧ Below w.heap.size w w' := by
 obtain ⟨R, hR⟩ : ∃ R, R = Yu env s := ⟨_, rfl⟩
 rw [← hR]
 have HR := H_ hR
 have HV := H_ hv
 obtain ⟨p0, rfl⟩ := hv.shape
 obtain ⟨L, hL⟩ : ∃ L, L = env.length := ⟨_, rfl⟩
 have HL := H_ hL
 clear hR hv hL
 go_enter func26, ntmps26
 go_wp2_with fail
 go_loopg [0] L (fun q v wr => ∃ env', env'.length = q ∧ Hid (FrV w env' v) ∧ Hid (Yu env s = Yu env' s) ∧ wr = w.alloc (.cells #[.string ⟨#[]⟩, .slice none 0 0, .int .i64 0, .int .i64 0, .int .i64 0] 49))
 case atStart => exact ⟨env, HL.out.symm, HV, H_ rfl, rfl⟩
 case round =>
  obtain ⟨env', hlen, hfr, hlk, rfl⟩ := hrel
  have y := heap_alloc_new w (.cells #[.string ⟨#[]⟩, .slice none 0 0, .int .i64 0, .int .i64 0, .int .i64 0] 49)
  obtain ⟨z0, z1, z2, z3, z4⟩ := Zb y
  obtain ⟨f0, f1, f2, f3, f4⟩ := Zf y
  cases env' with
  | nil =>
    obtain rfl := hfr.out
    have HF := H_ (show R = none by rw [HR.out, hlk.out]; rfl)
    have O := Zg y (.string ⟨#[]⟩) (.slice none 0 0) (.int .i64 0) (.int .i64 0) (.int .i64 0)
    obtain ⟨r0, r1, r2, r3, r4⟩ := Zb O
    go_wp2_with fail
    refine bodyPost_ret (v := .tuple #[.agg #[.string ⟨#[]⟩, .slice none 0 0, .int .i64 0, .int .i64 0, .int .i64 0], .bool false]) (by simp [results, results26, go_sem, r0, r1, r2, r3, r4]) rfl ⟨by rw [HF.out]; rfl, ?_⟩
    exact Z4 w _
  | cons nt rest =>
    obtain ⟨n, t⟩ := nt
    obtain ⟨b, p, m, c, o, rfl, h1, h2, h3⟩ := hfr.out
    obtain ⟨po, rfl⟩ := h3.shape
    have hbl := lt_of_block h1
    have h1' := Z5 (o' := .cells #[.string ⟨#[]⟩, .slice none 0 0, .int .i64 0, .int .i64 0, .int .i64 0] 49) h1
    have hbne : b ≠ w.heap.size := by omega
    have hbne2 := hbne.symm
    have H3 := H_ h3
    have H2 := H_ h2
    obtain ⟨x0, x1, x2, x3, x4, x5, x6⟩ := cells7 h1'
    by_cases he : n = s
    · have HF := H_ (show R = some t by rw [HR.out, hlk.out]; simp [Yu, he])
      have hx2 : ((bs n).toList == (bs s).toList) = true := by rw [Z8, Z8]; simpa using he
      have hx3 : (bs n).toList = (bs s).toList := by rw [Z8, Z8]; exact he
      obtain ⟨u, t1, t2, t3, hu, ht1, ht2, ht3, hq⟩ := Zm t
      rw [← hu] at x1
      rw [← ht1] at x3
      rw [← ht2] at x4
      rw [← ht3] at x5
      have O := Zg y (.string u) (.slice p m c) (.int .i64 t1) (.int .i64 t2) (.int .i64 t3)
      obtain ⟨r0, r1, r2, r3, r4⟩ := Zb O
      have HU := H_ (And.intro hu (And.intro ht1 (And.intro ht2 ht3)))
      clear h1 h2 h3 h1' hlk hfr he hu ht1 ht2 ht3 hq
      generalize bs n = sn at *
      go_wp2_with fail
      try go_region
      all_goals
       go_wp2_with fail
       refine bodyPost_ret (v := .tuple #[.agg #[.string u, .slice p m c, .int .i64 t1, .int .i64 t2, .int .i64 t3], .bool true]) (by simp [results, results26, go_sem, r0, r1, r2, r3, r4]) rfl ⟨?_, ?_⟩
       · rw [HF.out]
         obtain ⟨q1, q2, q3, q4⟩ := HU.out
         refine ⟨p, m, c, by rw [q1, q2, q3, q4], ?_⟩
         exact H2.out.on (Z4 w _)
       · exact Z4 w _
    · have HF := H_ (show Yu env s = Yu rest s by rw [hlk.out]; simp [Yu, he])
      have hx2 : ((bs n).toList == (bs s).toList) = false := by rw [Z8, Z8]; simpa using he
      have hx3 : ¬ (bs n).toList = (bs s).toList := by rw [Z8, Z8]; exact he
      clear h1 h2 h3 h1' hlk hfr he
      generalize bs n = sn at *
      go_wp2_with fail
      go_roundg rest.length
      case measure => simp at hlen; omega
      case rel => exact ⟨rest, rfl, H3, HF, rfl⟩
def RePost (r : Option (List (Nm × Tr))) (e : Ending) (w' : World) : Prop :=
 match r with
 | none => e = .returned (.tuple #[.pointer none, .bool false])
 | some env => ∃ q, e = .returned (.tuple #[.pointer q, .bool true]) ∧ FrV w' env (.pointer q)
theorem envOf_bad {ns : List Nm} {ts : List (List UInt8)} {k : Nat} (h1 : k < ns.length) (h2 : k < ts.length) (h : Y3 ts[k] = none ∨ Yl ns[k] = false) : Q7 ns ts = none := by
 have : (Q7 ns ts).isSome = false := by
  rw [Vi]
  rcases h with h | h
  · have : ts.all (fun t => (Y3 t).isSome) = false := by rw [List.all_eq_false]; exact ⟨ts[k], List.getElem_mem h2, by rw [h]; simp⟩
    rw [this]; simp
  · have : ns.all Yl = false := by rw [List.all_eq_false]; exact ⟨ns[k], List.getElem_mem h1, by rw [h]; simp⟩
    rw [this]; simp
 cases hx : Q7 ns ts with
 | none => rfl
 | some e => rw [hx] at this; cases this
theorem envAdd_step {ns : List Nm} {ts : List (List UInt8)} {k : Nat} (hl : ns.length = ts.length) (h1 : k < ns.length) (h2 : k < ts.length) {e : List (Nm × Tr)} {t : Tr} (he : Qa [] (ns.take k) (ts.take k) = some e) (ht : Y3 ts[k] = some t) (hn : Yl ns[k] = true) : Qa [] (ns.take (k + 1)) (ts.take (k + 1)) = some ((ns[k], t) :: e) := by
 rw [List.take_succ_eq_append_getElem h1, List.take_succ_eq_append_getElem h2, Z5k _ _ _ _ _ (by simp; omega), he]
 simp [ht, hn]
theorem readEnv_c (v1 v2 : Value) (ns : List Nm) (ts : List (List UInt8)) (w : World) (h1 : Zo w v1 ns) (h2 : Zo w v2 ts) (hn : ∀ k (h : k < ns.length), ns[k].length ≤ 1048576) (ht : ∀ k (h : k < ts.length), ts[k].length ≤ 1048576) :
 Calls prog 17 #[v1, v2] w fun e w' => RePost (Q7 ns ts) e w' ∧ Below w.heap.size w w' := by
 obtain ⟨R, hR⟩ : ∃ R, R = Q7 ns ts := ⟨_, rfl⟩
 rw [← hR]
 have HR := H_ hR
 have HN := H_ hn
 have HT := H_ ht
 obtain ⟨p1, c1, rfl, l1, hrow1⟩ := h1
 obtain ⟨p2, c2, rfl, l2, hrow2⟩ := h2
 have HS1 := H_ hrow1
 have HS2 := H_ hrow2
 clear hR hn ht hrow1 hrow2
 by_cases h8 : ns.length ≤ 8
 · have h83 : ¬ (8 : Int) < (ns.length : Int) := by omega
   have h82 : decide ((8 : Int) < (ns.length : Int)) = false := decide_eq_false h83
   by_cases hl : ns.length = ts.length
   · have hl2 : (ns.length : Int) = (ts.length : Int) := by omega
     have HL := H_ hl
     have H8 := H_ h8
     rw [← hl] at l2 ⊢
     have HO := H_ (show Q7 ns ts = Qa [] ns ts by rw [Q7, if_pos ⟨h8, hl⟩])
     clear h82 hl2 hl
     go_enter func17, ntmps17
     go_wp2_with fail
     go_loopw [6, 23] (fun v i wr => ∃ (k : Nat) (env : List (Nm × Tr)) (q : Option Addr), k ≤ ns.length ∧ i = .int .i64 k ∧ v = .pointer q ∧ Hid (FrV wr env (.pointer q)) ∧ Hid (Qa [] (ns.take k) (ts.take k) = some env) ∧ Below w.heap.size w wr) (fun _ i _ => ns.length - (intOf i).toNat)
     case atStart => exact ⟨0, [], none, Nat.zero_le _, rfl, rfl, H_ rfl, H_ rfl, Below.refl _ _⟩
     case round =>
      obtain ⟨k, env, q, hk, rfl, rfl, hfr, hA, hb⟩ := hrel
      by_cases hlt : k < ns.length
      · have hlt2 : k < ts.length := by rw [← HL.out]; exact hlt
        obtain ⟨r, off, rfl, h3⟩ := HS1.out (by intro e; rw [e] at hlt; simp at hlt)
        obtain ⟨r2, off2, rfl, h4⟩ := HS2.out (by intro e; rw [e] at hlt2; simp at hlt2)
        have hrl : r < w.heap.size := World.block_lt_of_cell? w ⟨r, off + k, none⟩ (Zo.cell h3 hlt)
        have hrl2 : r2 < w.heap.size := World.block_lt_of_cell? w ⟨r2, off2 + k, none⟩ (Zo.cell h4 hlt2)
        have x1 : wr.cell? ⟨r, off + k, none⟩ = some (.string (bs ns[k])) := (hb.cell (p := ⟨r, off + k, none⟩) hrl).trans (Zo.cell h3 hlt)
        have x2 : wr.cell? ⟨r2, off2 + k, none⟩ = some (.string (bs ts[k])) := (hb.cell (p := ⟨r2, off2 + k, none⟩) hrl2).trans (Zo.cell h4 hlt2)
        have hk0 : (0 : Int) ≤ (k : Int) := by omega
        have hsT : (bs ts[k]).size ≤ 1048576 := by rw [Y1]; exact HT.out k hlt2
        have hdT : (bs ts[k]).data.toList = ts[k] := Q4 _
        have CN : Hid (∀ W, Calls prog 30 #[.string (bs ns[k])] W fun e w' => e = .returned (.bool (Yl ns[k])) ∧ w' = W) := H_ (fun W => Z0r _ (HN.out k hlt) W)
        cases hx : Y3 ts[k] with
        | none =>
          have HF := H_ (show R = none by rw [HR.out]; exact envOf_bad hlt hlt2 (.inl hx))
          have C := H_ (Z2t hsT (by rw [hdT]; exact hx))
          generalize bs ts[k] = st at *
          generalize bs ns[k] = sn at *
          clear hx h3 h4 hdT hsT
          go_wp2_with (go_at_call 27; go_must (refine (C.out _).mono ?_; rintro e w1 ⟨rfl, hb1⟩))
          go_ret2
          exact ⟨by rw [HF.out]; rfl, (Yb (Yb (Xp hb) hb1) (Z4 _ _)).1⟩
        | some t =>
          have C := H_ (Z2s hsT (t := t) (by rw [hdT]; exact hx))
          obtain ⟨u, t1, t2, t3, hu, ht1, ht2, ht3, hq⟩ := Zm t
          rw [← hu, ← ht1, ← ht2, ← ht3] at C
          cases hy : Yl ns[k] with
          | false =>
            have HF := H_ (show R = none by rw [HR.out]; exact envOf_bad hlt hlt2 (.inr hy))
            rw [hy] at CN
            generalize bs ts[k] = st at *
            generalize bs ns[k] = sn at *
            clear hx hy h3 h4 hdT hsT hu ht1 ht2 ht3 hq
            go_wp2_with (first | (go_at_call 27; go_must (refine (C.out _).mono ?_; rintro e w1 ⟨⟨p, m, c, rfl, hv⟩, hb1⟩)) | (go_at_call 30; go_must (refine (CN.out _).mono ?_; rintro e w2 ⟨rfl, rfl⟩)))
            go_ret2
            exact ⟨by rw [HF.out]; rfl, (Yb (Yb (Xp hb) hb1) (Z4 _ _)).1⟩
          | true =>
            have HF := H_ (envAdd_step HL.out hlt hlt2 hA.out hx hy)
            rw [hy] at CN
            have CW : Hid (∀ (W : World) p m c, FrV W env (.pointer q) → FV nI W (fun k => k < W.heap.size) t (nI t (.slice p m c)) → Calls prog 39 #[.pointer q, .string (bs ns[k]), .agg #[.string u, .slice p m c, .int .i64 t1, .int .i64 t2, .int .i64 t3]] W fun e w' => (∃ q', e = .returned (.pointer q') ∧ FrV w' ((ns[k], t) :: env) (.pointer q')) ∧ Below W.heap.size W w') := H_ (fun W p m c k1 k2 => by rw [hu, ht1, ht2, ht3]; exact with_env env ns[k] t _ p m c W k1 k2)
            generalize bs ts[k] = st at *
            generalize bs ns[k] = sn at *
            clear hx hy h3 h4 hdT hsT hu ht1 ht2 ht3 hq
            go_wp2_with (first | (go_at_call 27; go_must (refine (C.out _).mono ?_; rintro e w1 ⟨⟨p, m, c, rfl, hv⟩, hb1⟩; have V1 := H_ ((hv.below (Z4 w1 (.cells #[.string u, .slice p m c, .int .i64 t1, .int .i64 t2, .int .i64 t3] 49)) (fun k hk => hk.2)).wide (ok' := fun j => j < (w1.alloc (.cells #[.string u, .slice p m c, .int .i64 t1, .int .i64 t2, .int .i64 t3] 49)).heap.size) (fun j hj => by simp; omega)); have B1 := H_ (Yb (Yb (Xp hb) hb1) (Z4 w1 (.cells #[.string u, .slice p m c, .int .i64 t1, .int .i64 t2, .int .i64 t3] 49))); have E1 := H_ ((hfr.out.below hb1).below (Z4 w1 (.cells #[.string u, .slice p m c, .int .i64 t1, .int .i64 t2, .int .i64 t3] 49))); clear hv hb1)) | (go_at_call 30; go_must (refine (CN.out _).mono ?_; rintro e w2 ⟨rfl, rfl⟩)) | (go_at_call 39; go_must (refine (CW.out _ _ _ _ E1.out V1.out).mono ?_; rintro e w3 ⟨⟨q', rfl, hq'⟩, hb3⟩)))
            go_roundw
            case rel => exact ⟨k + 1, _, q', by omega, by go_num, rfl, H_ hq', HF, (Yb B1.out hb3).1⟩
            case measure => simp [intOf]; omega
      · have hkL : k = ns.length := by omega
        have hA' := hA.out
        rw [List.take_of_length_le (by omega), List.take_of_length_le (by rw [← HL.out]; omega)] at hA'
        have HF := H_ (show R = some env by rw [HR.out, HO.out, hA'])
        clear hA hA'
        subst hkL
        go_wp2_with fail
        go_ret2
        exact ⟨by rw [HF.out]; exact ⟨q, rfl, hfr.out⟩, hb⟩
   · have hl2 : ¬ (ns.length : Int) = (ts.length : Int) := by omega
     have hl3 : ((ns.length : Int) == (ts.length : Int)) = false := by simp; omega
     have HF := H_ (show R = none by rw [HR.out, Q7, if_neg (fun h => hl h.2)])
     clear h82 hl
     go_enter func17, ntmps17
     go_wp2_with fail
     go_ret2
     exact ⟨by rw [HF.out]; rfl, Below.refl _ _⟩
 · have h83 : (8 : Int) < (ns.length : Int) := by omega
   have h82 : decide ((8 : Int) < (ns.length : Int)) = true := decide_eq_true h83
   have HF := H_ (show R = none by rw [HR.out, Q7, if_neg (fun h => h8 h.1)])
   clear h8
   go_enter func17, ntmps17
   go_wp2_with fail
   go_ret2
   exact ⟨by rw [HF.out]; rfl, Below.refl _ _⟩
theorem envOf_bad1 {ns : List Nm} (ts : List (List UInt8)) {k : Nat} (hk : k < ns.length) (h : Yl ns[k] = false) : (Q7 ns ts).isSome = false := by
 rw [Vi]
 have : ns.all Yl = false := by
  rw [List.all_eq_false]
  exact ⟨ns[k], List.getElem_mem hk, by rw [h]; simp⟩
 rw [this]; simp
theorem envOf_bad2 (ns : List Nm) {ts : List (List UInt8)} {k : Nat} (hk : k < ts.length) (h : (Y3 ts[k]).isSome = false) : (Q7 ns ts).isSome = false := by
 rw [Vi]
 have : ts.all (fun t => (Y3 t).isSome) = false := by
  rw [List.all_eq_false]
  exact ⟨ts[k], List.getElem_mem hk, by rw [h]; simp⟩
 rw [this]; simp
theorem all_step3 {α : Type} (p : α → Bool) (l : List α) (k : Nat) (hk : k < l.length) (h : (l.take k).all p = true) (hp : p l[k] = true) : (l.take (k + 1)).all p = true := by
 rw [List.take_succ_eq_append_getElem hk, List.all_append, h]; simp [hp]
theorem Z6e (v1 v2 : Value) (ns : List Nm) (ts : List (List UInt8)) (w : World) (h1 : Zo w v1 ns) (h2 : Zo w v2 ts) (hn : ∀ k (h : k < ns.length), ns[k].length ≤ 1048576) (ht : ∀ k (h : k < ts.length), ts[k].length ≤ 1048576) :
 Calls prog 22 #[v1, v2] w fun e w' => e = .returned (.bool (Q7 ns ts).isSome) ∧ Below w.heap.size w w' := by
 obtain ⟨R, hR⟩ : ∃ R, R = (Q7 ns ts).isSome := ⟨_, rfl⟩
 rw [← hR]
 have HR := H_ hR
 have HN := H_ hn
 have HT := H_ ht
 obtain ⟨p1, c1, rfl, l1, hrow1⟩ := h1
 obtain ⟨p2, c2, rfl, l2, hrow2⟩ := h2
 have HS1 := H_ hrow1
 have HS2 := H_ hrow2
 clear hR hn ht hrow1 hrow2
 go_enter func22, ntmps22
 go_wp2_with fail
 go_loop [5] (fun i => ∃ k : Nat, k ≤ ns.length ∧ i = .int .i64 k ∧ Hid ((ns.take k).all Yl = true)) (fun i => ns.length - (intOf i).toNat)
 case atStart => exact ⟨0, Nat.zero_le _, rfl, H_ rfl⟩
 case round =>
  obtain ⟨k, hk, rfl, hA⟩ := hrel
  by_cases hlt : k < ns.length
  · obtain ⟨r, off, rfl, h3⟩ := HS1.out (by intro e; rw [e] at hlt; simp at hlt)
    have x1 : w.cell? ⟨r, off + k, none⟩ = some (.string (bs ns[k])) := Zo.cell h3 hlt
    have C : Hid (∀ W, Calls prog 51 #[.string (bs ns[k])] W fun e w' => e = .returned (.bool (Yl ns[k])) ∧ w' = W) := H_ (fun W => Vp _ (HN.out k hlt) W)
    have hk0 : (0 : Int) ≤ (k : Int) := by omega
    cases hx : Yl ns[k] with
    | false =>
      have HF := H_ (envOf_bad1 ts hlt hx)
      rw [hx] at C
      generalize bs ns[k] = s at *
      clear hx h3
      go_wp2_with (go_at_call 51; go_must (refine (C.out _).mono ?_; rintro e w1 ⟨rfl, rfl⟩))
      go_ret
      exact ⟨Zh (by rw [HR.out, HF.out]), Below.refl _ _⟩
    | true =>
      have HF := H_ (all_step3 Yl ns k hlt hA.out hx)
      rw [hx] at C
      generalize bs ns[k] = s at *
      clear hx h3
      go_wp2_with (go_at_call 51; go_must (refine (C.out _).mono ?_; rintro e w1 ⟨rfl, rfl⟩))
      exact ⟨⟨k + 1, by omega, by go_num, HF⟩, by simp [intOf]; omega⟩
  · have hkL : k = ns.length := by omega
    have hA' := hA.out
    rw [List.take_of_length_le (by omega)] at hA'
    have HA := H_ hA'
    clear hA hA'
    subst hkL
    go_wp2_with fail
    go_loopw [6] (fun i wr => ∃ k : Nat, k ≤ ts.length ∧ i = .int .i64 k ∧ Hid ((ts.take k).all (fun t => (Y3 t).isSome) = true) ∧ Below w.heap.size w wr) (fun i _ => ts.length - (intOf i).toNat)
    case atStart => exact ⟨0, Nat.zero_le _, rfl, H_ rfl, Below.refl _ _⟩
    case round =>
     obtain ⟨k, hk, rfl, hA, hb⟩ := hrel
     by_cases hlt : k < ts.length
     · obtain ⟨r, off, rfl, h3⟩ := HS2.out (by intro e; rw [e] at hlt; simp at hlt)
       have hrl : r < w.heap.size := World.block_lt_of_cell? w ⟨r, off + k, none⟩ (Zo.cell h3 hlt)
       have x1 : wr.cell? ⟨r, off + k, none⟩ = some (.string (bs ts[k])) := (hb.cell (p := ⟨r, off + k, none⟩) hrl).trans (Zo.cell h3 hlt)
       have C : Hid (∀ W, Calls prog 52 #[.string (bs ts[k])] W fun e w' => e = .returned (.bool (Y3 ts[k]).isSome) ∧ Below W.heap.size W w') := H_ (fun W => Yk _ (by rw [Y1]; exact HT.out k hlt) W)
       have hk0 : (0 : Int) ≤ (k : Int) := by omega
       cases hx : (Y3 ts[k]).isSome with
       | false =>
         have HF := H_ (envOf_bad2 ns hlt hx)
         rw [hx] at C
         generalize bs ts[k] = s at *
         clear hx h3
         go_wp2_with (go_at_call 52; go_must (refine (C.out _).mono ?_; rintro e w1 ⟨rfl, hb1⟩))
         go_ret
         exact ⟨Zh (by rw [HR.out, HF.out]), hb.trans (hb1.mono hb.size)⟩
       | true =>
         have HF := H_ (all_step3 (fun t => (Y3 t).isSome) ts k hlt hA.out hx)
         rw [hx] at C
         generalize bs ts[k] = s at *
         clear hx h3
         go_wp2_with (go_at_call 52; go_must (refine (C.out _).mono ?_; rintro e w1 ⟨rfl, hb1⟩))
         go_roundw
         case rel => exact ⟨k + 1, by omega, by go_num, HF, hb.trans (hb1.mono hb.size)⟩
         case measure => simp [intOf]; omega
     · have hkL : k = ts.length := by omega
       have hA' := hA.out
       rw [List.take_of_length_le (by omega)] at hA'
       have HF : Hid (R = (decide (ns.length = ts.length) && decide (ns.length ≤ 8))) := H_ (by rw [HR.out, Vi, HA.out, hA']; simp)
       clear hA hA'
       subst hkL
       by_cases he : ns.length = ts.length
       · have he2 : ((ns.length : Int) == (ts.length : Int)) = true := by simp; omega
         have he3 : (ns.length : Int) = (ts.length : Int) := by omega
         by_cases h8 : ns.length ≤ 8
         · have h82 : decide ((ns.length : Int) ≤ 8) = true := decide_eq_true (by omega)
           have HG := H_ (show R = true by rw [HF.out, decide_eq_true he, decide_eq_true h8]; rfl)
           have h9 : ts.length ≤ 8 := by omega
           have h92 : decide ((ts.length : Int) ≤ 8) = true := decide_eq_true (by omega)
           clear HF he h8 HR
           go_wp2_with fail
           go_ret
           exact ⟨Zh (by rw [HG.out]; first | done | rfl | (simp; done) | (simp; omega)), hb⟩
         · have h82 : decide ((ns.length : Int) ≤ 8) = false := decide_eq_false (by omega)
           have HG := H_ (show R = false by rw [HF.out, decide_eq_false h8]; simp)
           have h9 : ¬ ts.length ≤ 8 := by omega
           have h92 : decide ((ts.length : Int) ≤ 8) = false := decide_eq_false (by omega)
           clear HF he h8 HR
           go_wp2_with fail
           go_ret
           exact ⟨Zh (by rw [HG.out]; first | done | rfl | (simp; done) | (simp; omega)), hb⟩
       · have he2 : ((ns.length : Int) == (ts.length : Int)) = false := by simp; omega
         have he3 : ¬ (ns.length : Int) = (ts.length : Int) := by omega
         have HG := H_ (show R = false by rw [HF.out]; simp [he])
         clear HF he HR
         go_wp2_with fail
         go_ret
         exact ⟨Zh (by rw [HG.out]; first | done | rfl | (simp; done) | (simp; omega)), hb⟩
theorem implEnvLook_c (v1 v2 : Value) (ns : List Nm) (ts : List (List UInt8)) (s : ByteArray) (w : World) (h1 : Zo w v1 ns) (h2 : Zo w v2 ts) (hn : ∀ k (h : k < ns.length), ns[k].length ≤ 1048576) (ht : ∀ k (h : k < ts.length), ts[k].length ≤ 1048576) :
 Calls prog 9 #[v1, v2, .string s] w fun e w' => Z3j (Z1s ns ts s.data.toList) e ∧ Below w.heap.size w w' := by
 have C := H_ (readEnv_c v1 v2 ns ts w h1 h2 hn ht)
 obtain ⟨p1, c1, rfl, -, -⟩ := h1
 obtain ⟨p2, c2, rfl, -, -⟩ := h2
 cases he : Q7 ns ts with
 | none =>
   have HR := H_ (lookOf_none s.data.toList he)
   rw [he] at C
   clear hn ht he
   go_enter func9, ntmps9
   go_wp2_with (go_at_call 17; go_must (refine (C.out).mono ?_; rintro e w1 ⟨rfl, hb1⟩))
   go_ret2
   exact ⟨by rw [HR.out]; rfl, hb1⟩
 | some env =>
   have hR0 := Z5c s.data.toList he
   have hok := Z21 he
   rw [he] at C
   have CL : Hid (∀ W q, FrV W env (.pointer q) → Calls prog 26 #[.pointer q, .string s] W fun e w' => LoPost (Yu env s.data.toList) e w' ∧ Below W.heap.size W w') := H_ (fun W q hv => by
    have h := look_c env (.pointer q) s.data.toList W hv
    rw [show bs s.data.toList = s from (Z26 rfl).symm] at h
    exact h)
   cases hL : Yu env s.data.toList with
   | none =>
     rw [hL] at CL
     have HR := H_ (show Z1s ns ts s.data.toList = none by rw [hR0, hL]; rfl)
     clear he hn ht hL hR0 hok
     go_enter func9, ntmps9
     go_wp2_with (first | (go_at_call 17; go_must (refine (C.out).mono ?_; rintro e w1 ⟨⟨q, rfl, hq⟩, hb1⟩)) | (go_at_call 26; go_must (refine (CL.out _ _ hq).mono ?_; rintro e w2 ⟨rfl, hb2⟩)))
     go_ret2
     exact ⟨by rw [HR.out]; rfl, (Yb (Yb (Xp hb1) hb2) (Z4 _ _)).1⟩
   | some t =>
     rw [hL] at CL
     have HR := H_ (show Z1s ns ts s.data.toList = some t.text by rw [hR0, hL]; rfl)
     obtain ⟨k1, k2, k3, k4, k5⟩ := Ze (lookE_ok hok hL)
     obtain ⟨u, t1, t2, t3, hu, ht1, ht2, ht3, hq⟩ := Zm t
     have CL2 : Hid (∀ W q, FrV W env (.pointer q) → Calls prog 26 #[.pointer q, .string s] W fun e w' => (∃ p m c, e = .returned (.tuple #[.agg #[.string u, .slice p m c, .int .i64 t1, .int .i64 t2, .int .i64 t3], .bool true]) ∧ FV nI w' (fun k => k < w'.heap.size) t (nI t (.slice p m c))) ∧ Below W.heap.size W w') := by rw [hu, ht1, ht2, ht3]; exact CL
     have TX : Hid (∀ (W : World) p m c, FV nI W (fun k => k < W.heap.size) t (nI t (.slice p m c)) → Calls prog 20 #[.agg #[.string u, .slice p m c, .int .i64 t1, .int .i64 t2, .int .i64 t3]] W fun e w' => e = .returned (.string (bs t.text)) ∧ Below W.heap.size W w') :=
      H_ (fun W p m c h1 => by rw [hu, ht1, ht2, ht3]; exact text_c t p m c _ W k1 (by omega) h1 (fun k hk => hk))
     clear he hn ht hL hR0 hok CL k1 k2 k3 k4 k5 hu ht1 ht2 ht3 hq
     go_enter func9, ntmps9
     go_wp2_with (first | (go_at_call 17; go_must (refine (C.out).mono ?_; rintro e w1 ⟨⟨q, rfl, hq⟩, hb1⟩)) | (go_at_call 26; go_must (refine (CL2.out _ _ hq).mono ?_; rintro e w2 ⟨⟨p, m, c, rfl, hf⟩, hb2⟩; have V2 := H_ (hf.on (Z4 w2 (.cells #[.string u, .slice p m c, .int .i64 t1, .int .i64 t2, .int .i64 t3] 49))); clear hf)) | (go_at_call 20; go_must (refine (TX.out _ _ _ _ V2.out).mono ?_; rintro e w3 ⟨rfl, hb3⟩)))
     go_ret2
     exact ⟨by rw [HR.out]; rfl, (Yb (Yb (Yb (Xp hb1) hb2) (Z4 _ _)) hb3).1⟩
end Go.Proofs.YtmgepnacjgbfhaaGreatDoor
