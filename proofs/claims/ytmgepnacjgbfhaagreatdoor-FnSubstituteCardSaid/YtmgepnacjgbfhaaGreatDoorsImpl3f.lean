/- The program: whether two forms are equal. The program's environments in given blocks; the types of some expressions. -/
import Derived.Test.YtmgepnacjgbfhaaGreatDoorsImpl1jM
import Derived.Test.YtmgepnacjgbfhaaGreatDoorsImpl3cM
import Derived.Test.YtmgepnacjgbfhaaGreatDoorsSpec3hM
namespace Go.Proofs.YtmgepnacjgbfhaaGreatDoor
open Go.RowKit Go.Proofs.Tryz
set_option maxRecDepth 8000
set_option maxHeartbeats 20000000
set_option linter.unusedVariables false
set_option linter.unusedSimpArgs false
def Z1b (P : Prop) (e : Ending) : Prop := ∃ z, e = .returned (.bool z) ∧ (z = true ↔ P)
def EqC (n : Nat) : Prop := ∀ (t u : Tr) (p q : Option Addr) (m c m2 c2 : Nat) (w : World), t.depth < n → t.wf → u.wf → FV nI w (fun k => k < w.heap.size) t (nI t (.slice p m c)) → FV nI w (fun k => k < w.heap.size) u (nI u (.slice q m2 c2)) →
    Calls prog 82 #[.agg #[.string (bs (Z0 t)), .slice p m c, .int .i64 t.bytes, .int .i64 t.size, .int .i64 t.depth], .agg #[.string (bs (Z0 u)), .slice q m2 c2, .int .i64 u.bytes, .int .i64 u.size, .int .i64 u.depth]] w fun e w' => Z1b (t = u) e ∧ Below w.heap.size w w'
theorem eqF_nil (w : World) (f : Value) : Calls prog 111 #[.slice none 0 0, .slice none 0 0, f] w fun e w' => e = .returned (.bool true) ∧ Below w.heap.size w w' := by
 go_enter func111, ntmps111
 go_wp2_with fail
 refine wp_loop_rounds 1 ?_
 rw [rounds_succ]
 go_wp2_with fail
 go_ret
 exact ⟨rfl, Below.refl _ _⟩
theorem eqF_len (w : World) (f : Value) (p q : Option Addr) (m c m2 c2 : Nat) (h : m ≠ m2) (h1 : m ≤ maxLen) (h2 : m2 ≤ maxLen) : Calls prog 111 #[.slice p m c, .slice q m2 c2, f] w fun e w' => e = .returned (.bool false) ∧ Below w.heap.size w w' := by
 have hm := Zx h1
 have hm2 := Zx h2
 have hd : ((m : Int) == (m2 : Int)) = false := by simp; omega
 have hd2 : ¬ (m : Int) = (m2 : Int) := by omega
 go_enter func111, ntmps111
 go_wp2_with fail
 go_ret
 exact ⟨rfl, Below.refl _ _⟩
theorem take_eq_step {ts us : List Tr} {k : Nat} (h : ts.take k = us.take k) (h1 : k < ts.length) (h2 : k < us.length) (he : ts[k] = us[k]) : ts.take (k + 1) = us.take (k + 1) := by
 rw [List.take_succ_eq_append_getElem h1, List.take_succ_eq_append_getElem h2, h, he]
theorem eqF_c (n : Nat) (ih : EqC n) (ts us : List Tr) (r off cap r2 off2 cap2 L : Nat) (xs ys : List Value) (w : World) (hL : L = ts.length) (hL2 : L = us.length) (hd : X4 ts < n + 1) (hw1 : wfs ts) (hw2 : wfs us) (hc1 : L ≤ cap) (hc2 : cap ≤ maxLen)
 (h1 : r < w.heap.size) (h2 : r2 < w.heap.size) (g1 : Yc w r off xs) (g2 : Yc w r2 off2 ys) (f1 : FVs nI w (fun k => k < w.heap.size) ts xs) (f2 : FVs nI w (fun k => k < w.heap.size) us ys) :
 Calls prog 111 #[.slice (some ⟨r, off, none⟩) L cap, .slice (some ⟨r2, off2, none⟩) L cap2, .func (.func 82) #[] #[]] w fun e w' => Z1b (ts = us) e ∧ Below w.heap.size w w' := by
 have hm := Zx hc2
 have HK : Hid (∀ (wr : World), Below w.heap.size w wr → ∀ k, k < L → ∃ t u p m c q m2 c2 a1 a2 a3 a4 b1 b2 b3 b4, ts[k]? = some t ∧ us[k]? = some u ∧ wr.cell? ⟨r, off + k * 5, none⟩ = some (.string a1) ∧ wr.cell? ⟨r, off + k * 5 + 1, none⟩ = some (.slice p m c) ∧ wr.cell? ⟨r, off + k * 5 + 2, none⟩ = some (.int .i64 a2) ∧ wr.cell? ⟨r, off + k * 5 + 3, none⟩ = some (.int .i64 a3) ∧ wr.cell? ⟨r, off + k * 5 + 4, none⟩ = some (.int .i64 a4) ∧ wr.cell? ⟨r2, off2 + k * 5, none⟩ = some (.string b1) ∧ wr.cell? ⟨r2, off2 + k * 5 + 1, none⟩ = some (.slice q m2 c2) ∧ wr.cell? ⟨r2, off2 + k * 5 + 2, none⟩ = some (.int .i64 b2) ∧ wr.cell? ⟨r2, off2 + k * 5 + 3, none⟩ = some (.int .i64 b3) ∧ wr.cell? ⟨r2, off2 + k * 5 + 4, none⟩ = some (.int .i64 b4) ∧
  ∀ W, Below w.heap.size w W → Calls prog 82 #[.agg #[.string a1, .slice p m c, .int .i64 a2, .int .i64 a3, .int .i64 a4], .agg #[.string b1, .slice q m2 c2, .int .i64 b2, .int .i64 b3, .int .i64 b4]] W fun e w' => Z1b (t = u) e ∧ Below W.heap.size W w') := H_ (fun wr hb k hk => by
  have k1 : k < ts.length := by omega
  have k2 : k < us.length := by omega
  obtain ⟨cs, q1, q2⟩ := FVs.get Xz f1 g1 k k1
  obtain ⟨p, m, c, rfl⟩ := q1.node
  obtain ⟨ds, q3, q4⟩ := FVs.get Xz f2 g2 k k2
  obtain ⟨q, m2, c2, rfl⟩ := q3.node
  have e (j : Nat) (v : Value) (h : (nI ts[k] (.slice p m c))[j]? = some v) : wr.cell? ⟨r, off + k * 5 + j, none⟩ = some v := (hb.cell (p := ⟨r, off + k * 5 + j, none⟩) h1).trans (q2 j v h)
  have e2 (j : Nat) (v : Value) (h : (nI us[k] (.slice q m2 c2))[j]? = some v) : wr.cell? ⟨r2, off2 + k * 5 + j, none⟩ = some v := (hb.cell (p := ⟨r2, off2 + k * 5 + j, none⟩) h2).trans (q4 j v h)
  refine ⟨ts[k], us[k], p, m, c, q, m2, c2, bs (Z0 ts[k]), ts[k].bytes, ts[k].size, ts[k].depth, bs (Z0 us[k]), us[k].bytes, us[k].size, us[k].depth, List.getElem?_eq_getElem k1, List.getElem?_eq_getElem k2, e 0 _ rfl, e 1 _ rfl, e 2 _ rfl, e 3 _ rfl, e 4 _ rfl, e2 0 _ rfl, e2 1 _ rfl, e2 2 _ rfl, e2 3 _ rfl, e2 4 _ rfl, fun W hW => ?_⟩
  exact ih _ _ p q m c m2 c2 W (by have := Xa k1; simp only [Tr.depth] at this; omega) (Xu hw1 k1) (Xu hw2 k2) ((q1.below hW (fun _ h => h)).wide (fun j hj => Nat.lt_of_lt_of_le hj hW.size)) ((q3.below hW (fun _ h => h)).wide (fun j hj => Nat.lt_of_lt_of_le hj hW.size)))
 have HL := H_ hL
 have HL2 := H_ hL2
 clear ih hL hL2 hd hw1 hw2 f1 f2 g1 g2
 go_enter func111, ntmps111
 go_wp2_with fail
 go_loopw [17] (fun i wr => ∃ k : Nat, k ≤ L ∧ i = .int .i64 k ∧ Hid (ts.take k = us.take k) ∧ Below w.heap.size w wr) (fun i _ => L - (intOf i).toNat)
 case atStart => exact ⟨0, Nat.zero_le _, rfl, H_ rfl, Below.refl _ _⟩
 case round =>
  obtain ⟨k, hk, rfl, hT, hb⟩ := hrel
  by_cases hlt : k < L
  · obtain ⟨t, u, p, m, c, q, m2, c2, a1, a2, a3, a4, b1, b2, b3, b4, ht, hu, x0, x1, x2, x3, x4, y0, y1, y2, y3, y4, hC⟩ := HK.out wr hb k hlt
    have C := H_ hC
    have HT := H_ ht
    have HU := H_ hu
    have hk0 : (0 : Int) ≤ (k : Int) := by omega
    have hsr : r < wr.heap.size := Nat.lt_of_lt_of_le h1 hb.size
    have hsr2 : r2 < wr.heap.size := Nat.lt_of_lt_of_le h2 hb.size
    clear hC HK ht hu
    go_wp2_with (go_at_call 82; go_must (refine (C.out _ (hb.trans ((Zi wr _ _).mono hb.size))).mono ?_; rintro e w2 ⟨⟨z, rfl, hz⟩, hb2⟩; have HZ := H_ hz; clear hz; cases z))
    · go_ret
      refine ⟨⟨false, rfl, by simp; intro e; have h1 := HT.out; rw [e, HU.out] at h1; simp only [Option.some.injEq] at h1; have := HZ.out.2 h1.symm; cases this⟩, (hb.trans ((Zi wr _ _).mono hb.size)).trans (hb2.mono (by have := hb.size; simp; omega))⟩
    · go_roundw
      case rel =>
       refine ⟨k + 1, by omega, by go_num, H_ ?_, (hb.trans ((Zi wr _ _).mono hb.size)).trans (hb2.mono (by have := hb.size; simp; omega))⟩
       have k1 : k < ts.length := by rw [← HL.out]; exact hlt
       have k2 : k < us.length := by rw [← HL2.out]; exact hlt
       have e1 := HT.out
       have e2 := HU.out
       rw [List.getElem?_eq_getElem k1] at e1
       rw [List.getElem?_eq_getElem k2] at e2
       simp only [Option.some.injEq] at e1 e2
       exact take_eq_step hT.out k1 k2 (by rw [e1, e2]; exact HZ.out.1 trivial)
      case measure => simp [intOf]; omega
  · have hkL : k = L := by omega
    have hF := hT.out
    rw [List.take_of_length_le (by rw [← HL.out]; omega), List.take_of_length_le (by rw [← HL2.out]; omega)] at hF
    have HF := H_ hF
    clear hF HK hT
    go_wp2_with fail
    go_ret
    exact ⟨⟨true, rfl, by simpa using HF.out⟩, hb⟩
theorem atom_bs {a b : List UInt8} (h : a ≠ b) : ((bs a).toList == (bs b).toList) = false := by rw [Z8, Z8]; simpa using h
theorem equals_c : ∀ n, EqC n
 | 0 => fun t _ _ _ _ _ _ _ _ h => by omega
 | n + 1 => fun t u p q m c m2 c2 w hd hw1 hw2 hf hg => by
   by_cases he : Z0 t = Z0 u
   · have hbe : bs (Z0 u) = bs (Z0 t) := by rw [he]
     obtain ⟨P, hP, CF⟩ : ∃ P : Prop, (P ↔ t = u) ∧ ∀ W, Below w.heap.size w W → Calls prog 111 #[.slice p m c, .slice q m2 c2, .func (.func 82) #[] #[]] W fun e w' => Z1b P e ∧ Below W.heap.size W w' := by
      match t, u, hd, hw1, hw2, hf, hg, he with
      | .atom a, .atom b, _, _, _, hf, hg, he =>
        simp only [FV] at hf hg
        have h1 := Ji _ _ _ hf
        have h2 := Ji _ _ _ hg
        simp only [Value.slice.injEq] at h1 h2
        obtain ⟨rfl, rfl, rfl⟩ := h1
        obtain ⟨rfl, rfl, rfl⟩ := h2
        simp only [Z0] at he
        exact ⟨True, by simp [he], fun W hW => (eqF_nil W _).mono fun e w' ⟨h1, h2⟩ => ⟨⟨true, h1, by simp⟩, h2⟩⟩
      | .atom a, .list us, _, hw1, _, _, _, he => exact absurd he (by simp only [Z0]; exact hw1.1)
      | .list ts, .atom b, _, _, hw2, _, _, he => exact absurd he.symm (by simp only [Z0]; exact hw2.1)
      | .list ts, .list us, hd, hw1, hw2, hf, hg, _ =>
        obtain ⟨r, off, cap, xs, hh, k2, k3, k4, k5, k6⟩ := hf.list_cells
        have hh := Ji _ _ _ hh
        simp only [Value.slice.injEq] at hh
        obtain ⟨rfl, rfl, rfl⟩ := hh
        obtain ⟨r2, off2, cap2, ys, hh, j2, j3, j4, j5, j6⟩ := hg.list_cells
        have hh := Ji _ _ _ hh
        simp only [Value.slice.injEq] at hh
        obtain ⟨rfl, rfl, rfl⟩ := hh
        by_cases hlen : ts.length = us.length
        · refine ⟨ts = us, by simp, fun W hW => ?_⟩
          rw [← hlen]
          exact eqF_c n (equals_c n) ts us r off c r2 off2 c2 ts.length xs ys W rfl hlen (by simpa only [Tr.depth] using hd) hw1.2 hw2.2 k3 k4 (Nat.lt_of_lt_of_le k2 hW.size) (Nat.lt_of_lt_of_le j2 hW.size) (k5.move (hW.block r k2)) (j5.move (hW.block r2 j2)) (FVs.move (fun i hi => Nat.lt_of_lt_of_le hi hW.size) (fun i hi => hW.block i hi) _ _ k6) (FVs.move (fun i hi => Nat.lt_of_lt_of_le hi hW.size) (fun i hi => hW.block i hi) _ _ j6)
        · exact ⟨False, by simp; intro e; exact hlen (by rw [e]), fun W hW => (eqF_len W _ _ _ _ _ _ _ hlen (Nat.le_trans k3 k4) (Nat.le_trans j3 j4)).mono fun e w' ⟨h1, h2⟩ => ⟨⟨false, h1, by simp⟩, h2⟩⟩
     have C := H_ (CF _ (Zi w (.cells #[.string (bs (Z0 t)), .slice p m c, .int .i64 t.bytes, .int .i64 t.size, .int .i64 t.depth] 49) (.cells #[.string (bs (Z0 u)), .slice q m2 c2, .int .i64 u.bytes, .int .i64 u.size, .int .i64 u.depth] 49)))
     have HP := H_ hP
     clear CF hP hf hg hw1 hw2 hd
     rw [hbe] at C ⊢
     have hx2 : ((bs (Z0 t)).toList == (bs (Z0 t)).toList) = true := by simp
     generalize bs (Z0 t) = A at *
     obtain ⟨n1, hn1⟩ : ∃ x : Int, x = t.bytes := ⟨_, rfl⟩
     obtain ⟨n2, hn2⟩ : ∃ x : Int, x = t.size := ⟨_, rfl⟩
     obtain ⟨n3, hn3⟩ : ∃ x : Int, x = t.depth := ⟨_, rfl⟩
     obtain ⟨n4, hn4⟩ : ∃ x : Int, x = u.bytes := ⟨_, rfl⟩
     obtain ⟨n5, hn5⟩ : ∃ x : Int, x = u.size := ⟨_, rfl⟩
     obtain ⟨n6, hn6⟩ : ∃ x : Int, x = u.depth := ⟨_, rfl⟩
     rw [← hn1, ← hn2, ← hn3, ← hn4, ← hn5, ← hn6] at C ⊢
     clear hn1 hn2 hn3 hn4 hn5 hn6 he hbe
     go_enter func82, ntmps82
     go_wp2_with (go_at_call 111; go_must (refine (C.out).mono ?_; rintro e w2 ⟨⟨z, rfl, hz⟩, hb2⟩))
     go_ret
     exact ⟨⟨z, rfl, hz.trans HP.out⟩, (Zi w _ _).trans (hb2.mono (by simp; omega))⟩
   · have hx2 := atom_bs he
     have hx3 : ¬ (bs (Z0 t)).toList = (bs (Z0 u)).toList := by rw [Z8, Z8]; exact he
     have HN := H_ (show ¬ t = u from fun e => he (by rw [e]))
     generalize bs (Z0 t) = A1 at *
     generalize bs (Z0 u) = A2 at *
     clear he hf hg hw1 hw2 hd
     go_enter func82, ntmps82
     go_wp2_with fail
     go_ret
     exact ⟨⟨false, rfl, by simpa using HN.out⟩, Zi w _ _⟩
def FrO (w : World) (ok : Nat → Prop) : List (Nm × Tr) → Value → Prop
 | [], v => v = .pointer none
 | (n, t) :: env, v => ∃ b p m c o, v = .pointer (some ⟨b, 0, none⟩) ∧ ok b ∧ w.heap[b]? = some (.cells #[.string (bs n), .string (bs (Z0 t)), .slice p m c, .int .i64 t.bytes, .int .i64 t.size, .int .i64 t.depth, o] 101 (0, 0)) ∧ FV nI w ok t (nI t (.slice p m c)) ∧ FrO w ok env o
theorem FrO.move {w w' : World} {ok ok' : Nat → Prop} (hk : ∀ k, ok k → ok' k) (hb : ∀ k, ok k → w'.heap[k]? = w.heap[k]?) : ∀ {env : List (Nm × Tr)} {v : Value}, FrO w ok env v → FrO w' ok' env v
 | [], v, h => h
 | (n, t) :: env, v, h => by
   obtain ⟨b, p, m, c, o, rfl, h0, h1, h2, h3⟩ := h
   exact ⟨b, p, m, c, o, rfl, hk b h0, (hb b h0).trans h1, FV.move hk hb _ _ h2, FrO.move hk hb h3⟩
theorem FrO.below {w w' : World} {ok : Nat → Prop} {B : Nat} {env : List (Nm × Tr)} {v : Value} (h : FrO w ok env v) (hb : Below B w w') (hok : ∀ k, ok k → k < B) : FrO w' ok env v := h.move (fun _ h => h) (fun k hk => hb.block k (hok k hk))
theorem FrO.shape {w : World} {ok : Nat → Prop} : ∀ {env : List (Nm × Tr)} {v : Value}, FrO w ok env v → ∃ p, v = .pointer p
 | [], v, h => ⟨_, h⟩
 | (n, t) :: env, v, h => by obtain ⟨b, p, m, c, o, rfl, _⟩ := h; exact ⟨_, rfl⟩
theorem FrV.toO {w : World} : ∀ {env : List (Nm × Tr)} {v : Value}, FrV w env v → FrO w (fun k => k < w.heap.size) env v
 | [], v, h => h
 | (n, t) :: env, v, h => by
   obtain ⟨b, p, m, c, o, rfl, h1, h2, h3⟩ := h
   exact ⟨b, p, m, c, o, rfl, lt_of_block h1, h1, h2, h3.toO⟩
theorem withO_c (ok ok' : Nat → Prop) (env : List (Nm × Tr)) (n : Nm) (t : Tr) (v : Value) (p : Option Addr) (m c : Nat) (w : World) (hok : ∀ k, ok k → k < w.heap.size) (hv : FrO w ok env v) (hf : FV nI w ok' t (nI t (.slice p m c))) (hok' : ∀ k, ok' k → k < w.heap.size) :
 Calls prog 39 #[v, .string (bs n), .agg #[.string (bs (Z0 t)), .slice p m c, .int .i64 t.bytes, .int .i64 t.size, .int .i64 t.depth]] w fun e w' => (∃ q, e = .returned (.pointer q) ∧ FrO w' (fun k => (ok k ∨ ok' k) ∨ (w.heap.size ≤ k ∧ k < w'.heap.size)) ((n, t) :: env) (.pointer q)) ∧ Below w.heap.size w w' := by
 refine (with_c v hv.shape (bs n) _ p m c _ _ _ w).mono ?_
 rintro e w' ⟨rfl, rfl⟩
 have hb := Zi w (.cells #[.string (bs (Z0 t)), .slice p m c, .int .i64 t.bytes, .int .i64 t.size, .int .i64 t.depth] 49) (.cells #[.string (bs n), .string (bs (Z0 t)), .slice p m c, .int .i64 t.bytes, .int .i64 t.size, .int .i64 t.depth, v] 101)
 refine ⟨⟨_, rfl, _, p, m, c, v, rfl, .inr ⟨by omega, by simp⟩, Z9 _ _ _, ?_, ?_⟩, hb⟩
 · exact FV.move (fun k hk => .inl (.inr hk)) (fun k hk => hb.block k (hok' k hk)) _ _ hf
 · exact hv.move (fun k hk => .inl (.inl hk)) (fun k hk => hb.block k (hok k hk))
def LoPostO (ok : Nat → Prop) (r : Option Tr) (e : Ending) (w' : World) : Prop :=
 match r with
 | none => e = .returned (.tuple #[.agg #[.string ⟨#[]⟩, .slice none 0 0, .int .i64 0, .int .i64 0, .int .i64 0], .bool false])
 | some t => ∃ p m c, e = .returned (.tuple #[.agg #[.string (bs (Z0 t)), .slice p m c, .int .i64 t.bytes, .int .i64 t.size, .int .i64 t.depth], .bool true]) ∧ FV nI w' ok t (nI t (.slice p m c))
theorem lookO_c (ok : Nat → Prop) (env : List (Nm × Tr)) (v : Value) (s : Nm) (w : World) (hok : ∀ k, ok k → k < w.heap.size) (hv : FrO w ok env v) :
 Calls prog 26 #[v, .string (bs s)] w fun e w' => LoPostO ok (Yu env s) e w' ∧ Below w.heap.size w w' := by
 obtain ⟨R, hR⟩ : ∃ R, R = Yu env s := ⟨_, rfl⟩
 rw [← hR]
 have HR := H_ hR
 have HV := H_ hv
 obtain ⟨p0, rfl⟩ := hv.shape
 obtain ⟨L, hL⟩ : ∃ L, L = env.length := ⟨_, rfl⟩
 have HL := H_ hL
 clear hR hv hL
 go_enter func26, ntmps26
 go_wp2_with fail
 go_loopg [0] L (fun q v wr => ∃ env', env'.length = q ∧ Hid (FrO w ok env' v) ∧ Hid (Yu env s = Yu env' s) ∧ wr = w.alloc (.cells #[.string ⟨#[]⟩, .slice none 0 0, .int .i64 0, .int .i64 0, .int .i64 0] 49))
 case atStart => exact ⟨env, HL.out.symm, HV, H_ rfl, rfl⟩
 case round =>
  obtain ⟨env', hlen, hfr, hlk, rfl⟩ := hrel
  have y := heap_alloc_new w (.cells #[.string ⟨#[]⟩, .slice none 0 0, .int .i64 0, .int .i64 0, .int .i64 0] 49)
  obtain ⟨z0, z1, z2, z3, z4⟩ := Zb y
  obtain ⟨f0, f1, f2, f3, f4⟩ := Zf y
  cases env' with
  | nil =>
    obtain rfl := hfr.out
    have HF := H_ (show R = none by rw [HR.out, hlk.out]; rfl)
    have O := Zg y (.string ⟨#[]⟩) (.slice none 0 0) (.int .i64 0) (.int .i64 0) (.int .i64 0)
    obtain ⟨r0, r1, r2, r3, r4⟩ := Zb O
    go_wp2_with fail
    refine bodyPost_ret (v := .tuple #[.agg #[.string ⟨#[]⟩, .slice none 0 0, .int .i64 0, .int .i64 0, .int .i64 0], .bool false]) (by simp [results, results26, go_sem, r0, r1, r2, r3, r4]) rfl ⟨by rw [HF.out]; rfl, ?_⟩
    exact Z4 w _
  | cons nt rest =>
    obtain ⟨n, t⟩ := nt
    obtain ⟨b, p, m, c, o, rfl, hbo, h1, h2, h3⟩ := hfr.out
    obtain ⟨po, rfl⟩ := h3.shape
    have hbl := lt_of_block h1
    have h1' := Z5 (o' := .cells #[.string ⟨#[]⟩, .slice none 0 0, .int .i64 0, .int .i64 0, .int .i64 0] 49) h1
    have hbne : b ≠ w.heap.size := by omega
    have hbne2 := hbne.symm
    have H3 := H_ h3
    have H2 := H_ h2
    obtain ⟨x0, x1, x2, x3, x4, x5, x6⟩ := cells7 h1'
    by_cases he : n = s
    · have HF := H_ (show R = some t by rw [HR.out, hlk.out]; simp [Yu, he])
      have hx2 : ((bs n).toList == (bs s).toList) = true := by rw [Z8, Z8]; simpa using he
      have hx3 : (bs n).toList = (bs s).toList := by rw [Z8, Z8]; exact he
      obtain ⟨u, t1, t2, t3, hu, ht1, ht2, ht3, hq⟩ := Zm t
      rw [← hu] at x1
      rw [← ht1] at x3
      rw [← ht2] at x4
      rw [← ht3] at x5
      have O := Zg y (.string u) (.slice p m c) (.int .i64 t1) (.int .i64 t2) (.int .i64 t3)
      obtain ⟨r0, r1, r2, r3, r4⟩ := Zb O
      have HU := H_ (And.intro hu (And.intro ht1 (And.intro ht2 ht3)))
      clear h1 h2 h3 h1' hlk hfr he hu ht1 ht2 ht3 hq
      generalize bs n = sn at *
      go_wp2_with fail
      try go_region
      all_goals
       go_wp2_with fail
       refine bodyPost_ret (v := .tuple #[.agg #[.string u, .slice p m c, .int .i64 t1, .int .i64 t2, .int .i64 t3], .bool true]) (by simp [results, results26, go_sem, r0, r1, r2, r3, r4]) rfl ⟨?_, ?_⟩
       · rw [HF.out]
         obtain ⟨q1, q2, q3, q4⟩ := HU.out
         refine ⟨p, m, c, by rw [q1, q2, q3, q4], ?_⟩
         exact H2.out.below (Z4 w _) hok
       · exact Z4 w _
    · have HF := H_ (show Yu env s = Yu rest s by rw [hlk.out]; simp [Yu, he])
      have hx2 : ((bs n).toList == (bs s).toList) = false := by rw [Z8, Z8]; simpa using he
      have hx3 : ¬ (bs n).toList = (bs s).toList := by rw [Z8, Z8]; exact he
      clear h1 h2 h3 h1' hlk hfr he
      generalize bs n = sn at *
      go_wp2_with fail
      go_roundg rest.length
      case measure => simp at hlen; omega
      case rel => exact ⟨rest, rfl, H3, HF, rfl⟩
def okN (w w' : World) (ok : Nat → Prop) : Nat → Prop := fun k => ok k ∨ (w.heap.size ≤ k ∧ k < w'.heap.size)
def Ty3 (w : World) (ok : Nat → Prop) (r : Except Ex Tr) (e : Ending) (w' : World) : Prop :=
 match r with
 | .ok t => ∃ p m c, e = .returned (.tuple #[.agg #[.string (bs (Z0 t)), .slice p m c, .int .i64 t.bytes, .int .i64 t.size, .int .i64 t.depth], .nilIface]) ∧ FV nI w' (okN w w' ok) t (nI t (.slice p m c))
 | .error f => ∃ T u, e = .returned (.tuple #[.agg #[.string ⟨#[]⟩, .slice none 0 0, .int .i64 0, .int .i64 0, .int .i64 0], .iface T u]) ∧ EV w' (okN w w' ok) f (.iface T u)
def TyC (x : Ex) : Prop := ∀ (ok : Nat → Prop) (env : List (Nm × Tr)) (pe : Option Addr) (v : Value) (w : World), Qu env → Kf x → (∀ k, ok k → k < w.heap.size) → FrO w ok env (.pointer pe) → EV w ok x v →
    Calls prog 19 #[.pointer pe, v] w fun e w' => Ty3 w ok (tyR env x) e w' ∧ Below w.heap.size w w'
def Jc (env : List (Nm × Tr)) : List Ex → Except Ex (List Tr)
 | [] => .ok []
 | k :: ks => match tyR env k with | .error f => .error f | .ok t => match Jc env ks with | .error f => .error f | .ok ts => .ok (t :: ts)
theorem tysR_snoc (env : List (Nm × Tr)) (k : Ex) : ∀ ks : List Ex, Jc env (ks ++ [k]) = match Jc env ks with | .error f => .error f | .ok ts => match tyR env k with | .error f => .error f | .ok t => .ok (ts ++ [t])
 | [] => by simp only [List.nil_append, Jc]
 | k' :: ks => by
   simp only [List.cons_append, Jc, tysR_snoc env k ks]
   cases tyR env k' with
   | error f => rfl
   | ok t' =>
     cases Jc env ks with
     | error f => rfl
     | ok ts => cases tyR env k <;> rfl
theorem tysR_bad (env : List (Nm × Tr)) {f : Ex} : ∀ (ks : List Ex) (j : Nat), Jc env (ks.take j) = .error f → Jc env ks = .error f
 | [], j, h => by simp [Jc] at h
 | k :: ks, 0, h => by simp [Jc] at h
 | k :: ks, j + 1, h => by
   simp only [List.take_succ_cons, Jc] at h ⊢
   cases hk : tyR env k with
   | error g => rw [hk] at h; exact h
   | ok t =>
     rw [hk] at h
     simp only at h ⊢
     cases hj : Jc env (ks.take j) with
     | error g => rw [hj] at h; simp only [Except.error.injEq] at h; subst h; rw [tysR_bad env ks j hj]
     | ok ts => rw [hj] at h; cases h
def Z0h (w : World) (ok : Nat → Prop) (ts : List Tr) (v : Value) : Prop :=
 (ts = [] ∧ v = .slice none 0 0) ∨ ∃ r off cap ys, v = .slice (some ⟨r, off, none⟩) ts.length cap ∧ ts.length ≤ cap ∧ cap ≤ maxLen ∧ r < w.heap.size ∧ Yc w r off ys ∧ FVs nI w ok ts ys
def Tys3 (w : World) (ok : Nat → Prop) (r : Except Ex (List Tr)) (e : Ending) (w' : World) : Prop :=
 match r with
 | .ok ts => ∃ v, e = .returned (.tuple #[v, .nilIface]) ∧ Z0h w' (okN w w' ok) ts v
 | .error f => ∃ T u, e = .returned (.tuple #[.slice none 0 0, .iface T u]) ∧ EV w' (okN w w' ok) f (.iface T u)
structure TsInv (w : World) (ok : Nat → Prop) (ts : List Tr) (ys : List Value) (v1 : Value) (wr : World) : Prop where
 own : wr.ownsRow w.heap.size 49 5 v1 ts.length ys
 fv : FVs nI wr (fun q => (ok q ∨ w.heap.size ≤ q) ∧ q < wr.heap.size ∧ v1.ownBlock ≠ some q) ts ys
 below : Below w.heap.size w wr
theorem TsInv.step {w wr w2 w3 : World} {ok : Nat → Prop} (hok : ∀ k, ok k → k < w.heap.size) {ts : List Tr} {ys : List Value} {v1 : Value} {t : Tr} {cs : List Value} {o : Obj} {g' c' : Nat} (h : TsInv w ok ts ys v1 wr) (h2 : Below wr.heap.size wr w2)
 (hf : FV nI w2 (okN wr w2 ok) t cs) (hg : (w2.alloc o).grownBy w3 v1.ownBlock)
 (ho : w3.ownsRow w.heap.size 49 5 (.slice (some ⟨g', 0, none⟩) (ts.length + 1) c') (ts.length + 1) (ys ++ cs)) (hv : v1.ownBlock = some g' ∨ g' = (w2.alloc o).heap.size) : TsInv w ok (ts ++ [t]) (ys ++ cs) (.slice (some ⟨g', 0, none⟩) (ts.length + 1) c') w3 := by
 have hs2 := h2.size
 have hsg := hg.size
 have hbs := h.below.size
 simp only [Yy] at hsg hv
 have hold : ∀ q, v1.ownBlock = some q → w.heap.size ≤ q ∧ q < wr.heap.size := fun q hq => Xn h.own hq
 have hmv : ∀ q, q < wr.heap.size → v1.ownBlock ≠ some q → w3.heap[q]? = wr.heap[q]? := fun q hq hne => by
  rw [hg.block q (by simp; omega) (fun e => hne e.symm), heap_alloc_old _ _ (by omega), h2.block q hq]
 have hnew : ∀ q, (q < wr.heap.size ∧ v1.ownBlock ≠ some q) → (Value.slice (some ⟨g', 0, none⟩) (ts.length + 1) c').ownBlock ≠ some q := fun q hq e => by
  simp only [Value.ownBlock, Option.some.injEq] at e
  subst e
  rcases hv with hv | hv
  · exact hq.2 hv
  · omega
 refine ⟨by simpa using ho, ?_, ?_⟩
 · refine FVs.snoc (FV.move ?_ ?_ _ _ hf) (FVs.move ?_ ?_ _ _ h.fv)
   · intro q hq
     have hq2 : ok q ∨ (wr.heap.size ≤ q ∧ q < w2.heap.size) := hq
     refine ⟨hq2.imp id (fun h => by omega), by rcases hq2 with h | h; have := hok q h; omega; omega, ?_⟩
     intro e
     simp only [Value.ownBlock, Option.some.injEq] at e
     subst e
     rcases hv with hv | hv
     · have := hold _ hv; rcases hq2 with h | h; have := hok _ h; omega; omega
     · rcases hq2 with h | h; have := hok _ h; omega; omega
   · intro q hq
     have hq2 : ok q ∨ (wr.heap.size ≤ q ∧ q < w2.heap.size) := hq
     have hqlt : q < w2.heap.size := by rcases hq2 with h | h; have := hok q h; omega; omega
     rw [hg.block q (by simp; omega) (fun e => by have := hold q e.symm; rcases hq2 with h | h; have := hok q h; omega; omega), heap_alloc_old _ _ hqlt]
   · rintro q ⟨q1, q2, q3⟩
     exact ⟨q1, by omega, hnew q ⟨q2, q3⟩⟩
   · rintro q ⟨q1, q2, q3⟩
     exact hmv q q2 q3
 · exact Xt h.below (h2.alloc hs2 o) hg (fun k hk => by have := hold k hk; omega)
theorem TsInv.fin {w wr : World} {ok : Nat → Prop} (hok : ∀ k, ok k → k < w.heap.size) {ts : List Tr} {ys : List Value} {v1 : Value} (h : TsInv w ok ts ys v1 wr) : Z0h wr (okN w wr ok) ts v1 := by
 rcases h.own.2 with ⟨e1, e2⟩ | ⟨g, cap', cur, e1, _⟩
 · exact .inl ⟨List.eq_nil_of_length_eq_zero e2, by rw [e1]⟩
 · subst e1
   have hcap := Xm h.own
   have hlt := Xn h.own (k := g) rfl
   refine .inr ⟨g, 0, cap', ys, rfl, hcap.1, hcap.2, hlt.2, Yv h.own, FVs.move (fun q hq => ?_) (fun _ _ => rfl) _ _ h.fv⟩
   rcases hq.1 with h | h
   · exact .inl h
   · exact .inr ⟨h, hq.2.1⟩
theorem typesOf_nil (pe : Option Addr) (w : World) : Calls prog 43 #[.pointer pe, .slice none 0 0] w fun e w' => e = .returned (.tuple #[.slice none 0 0, .nilIface]) ∧ Below w.heap.size w w' := by
 go_enter func43, ntmps43
 go_wp2_with fail
 refine wp_loop_rounds 1 ?_
 rw [rounds_succ]
 go_wp2_with fail
 go_ret2
 exact ⟨rfl, Below.refl _ _⟩
def KidT (w : World) (ok : Nat → Prop) (env : List (Nm × Tr)) (pe : Option Addr) (ks : List Ex) (kvs : List Value) : Prop := ∀ j (hj : j < ks.length), ∃ T u, kvs[j]? = some (.iface T u) ∧ ∀ W, Below w.heap.size w W → Calls prog 19 #[.pointer pe, .iface T u] W fun e w' => Ty3 W ok (tyR env ks[j]) e w' ∧ Below W.heap.size W w'
theorem Z4b (ok : Nat → Prop) (env : List (Nm × Tr)) (pe : Option Addr) (ks : List Ex) (kvs : List Value) (b L : Nat) (w : World) (hok : ∀ k, ok k → k < w.heap.size) (hL : L = ks.length) (hL3 : L ≤ 100) (hK : KidT w ok env pe ks kvs) (hb : w.heap[b]? = some (.cells kvs.toArray 44 (0, 0))) :
 Calls prog 43 #[.pointer pe, .slice (some ⟨b, 0, none⟩) L L] w fun e w' => Tys3 w ok (Jc env ks) e w' ∧ Below w.heap.size w w' := by
 obtain ⟨R, hR⟩ : ∃ R, R = Jc env ks := ⟨_, rfl⟩
 rw [← hR]
 have HR := H_ hR
 have HK := H_ hK
 have HL := H_ hL
 have HB := H_ hb
 have hbl := lt_of_block hb
 obtain ⟨i0, hi0, hz0, hz1, hz2⟩ := info_parts Tryz.infoI
 clear hR hK hL hb
 go_enter func43, ntmps43
 go_wp2_with fail
 go_loopw [6, 13] (fun v1 i wr => ∃ (j : Nat) (ts : List Tr) (ys : List Value), j ≤ L ∧ i = .int .i64 j ∧ Hid (ts.length = j) ∧ ts.length ≤ 100 ∧ Hid (Jc env (ks.take j) = .ok ts) ∧ Hid (TsInv w ok ts ys v1 wr)) (fun _ i _ => L - (intOf i).toNat)
 case atStart => exact ⟨0, [], [], Nat.zero_le _, rfl, H_ rfl, Nat.zero_le _, H_ rfl, H_ ⟨World.ownsRow_nil _ _ _ _, by simp only [FVs], Below.refl _ _⟩⟩
 case round =>
  obtain ⟨j, ts, ys, hj, rfl, htl, htl9, hts, hI⟩ := hrel
  have HO := H_ hI.out.own
  obtain ⟨p1, c1, rfl⟩ := Zv HO.out
  have hbel := hI.out.below.size
  by_cases hlt : j < L
  · have hjl : j < ks.length := by rw [← HL.out]; exact hlt
    obtain ⟨T, u, hkv, HC⟩ := HK.out j hjl
    have hblk := Z1 hI.out.below hbl HB.out
    have c0 : wr.cell? ⟨b, j, none⟩ = some (.iface T u) := by rw [Z2 hblk]; simpa using hkv
    have hsn := tysR_snoc env ks[j] (ks.take j)
    rw [← List.take_succ_eq_append_getElem hjl, hts.out] at hsn
    have C0 := HC wr hI.out.below
    have hj0 : (0 : Int) ≤ (j : Int) := by omega
    cases hx : tyR env ks[j] with
    | error f =>
      rw [hx] at C0 hsn
      have C := H_ C0
      have HF := H_ (show R = .error f by rw [HR.out]; exact tysR_bad env ks (j + 1) hsn)
      clear C0 hsn HC hkv HK hx hblk
      go_wp2_with (go_at_call 19; go_must (refine (C.out).mono ?_; rintro e w5 ⟨⟨T5, u5, rfl, hv5⟩, hb5⟩; have hs5 := hb5.size))
      go_ret2
      refine ⟨by rw [HF.out]; exact ⟨T5, u5, rfl, hv5.move (fun k hk => hk.imp id (fun h => ⟨by omega, by simp; omega⟩)) (fun k hk => heap_alloc_old _ _ (by rcases hk with h | h; have := hok k h; omega; omega))⟩, (Yb (Yb (Xp hI.out.below) hb5) (Z4 _ _)).1⟩
    | ok t =>
      rw [hx] at C0 hsn
      obtain ⟨s, o1, o2, o3, hs, ho1, ho2, ho3, hq⟩ := Zm t
      have C : Hid (Calls prog 19 #[.pointer pe, .iface T u] wr fun e w' => (∃ p m c, e = .returned (.tuple #[.agg #[.string s, .slice p m c, .int .i64 o1, .int .i64 o2, .int .i64 o3], .nilIface]) ∧ FV nI w' (okN wr w' ok) t [.string s, .slice p m c, .int .i64 o1, .int .i64 o2, .int .i64 o3]) ∧ Below wr.heap.size wr w') := H_ (C0.mono fun e w' ⟨⟨p, m, c, k1, k2⟩, k3⟩ => ⟨⟨p, m, c, by rw [k1, hs, ho1, ho2, ho3], by rw [← hq]; exact k2⟩, k3⟩)
      have HS := H_ (show Jc env (ks.take (j + 1)) = .ok (ts ++ [t]) from hsn)
      have HV : Hid (∀ (w5 : World) p5 m5 c5, Below wr.heap.size wr w5 → FV nI w5 (okN wr w5 ok) t [.string s, .slice p5 m5 c5, .int .i64 o1, .int .i64 o2, .int .i64 o3] → Hid (FV nI (w5.alloc (.cells #[.string s, .slice p5 m5 c5, .int .i64 o1, .int .i64 o2, .int .i64 o3] 49)) (okN wr (w5.alloc (.cells #[.string s, .slice p5 m5 c5, .int .i64 o1, .int .i64 o2, .int .i64 o3] 49)) ok) t [.string s, .slice p5 m5 c5, .int .i64 o1, .int .i64 o2, .int .i64 o3])) := H_ (fun w5 p5 m5 c5 h5 hv => H_ (FV.move (fun k hk => hk.imp id (fun h => ⟨h.1, by simp; omega⟩)) (fun k hk => heap_alloc_old _ _ (by have := h5.size; rcases hk with h | h; have := hok k h; omega; omega)) _ _ hv))
      clear C0 hsn HC hkv HK hx hblk hs ho1 ho2 ho3 hq
      go_wp2_with (first | (go_at_call 19; go_must (refine (C.out).mono ?_; rintro e w5 ⟨⟨p5, m5, c5, rfl, hv5⟩, hb5⟩; have hs5 := hb5.size; have hb5' := H_ (hb5.alloc hb5.size (.cells #[.string s, .slice p5 m5 c5, .int .i64 o1, .int .i64 o2, .int .i64 o3] 49)); have hv6 := HV.out w5 p5 m5 c5 hb5 hv5)) | (at_builtin; go_must (refine Zl _ rfl _ _ 47 rfl (w.heap.size) 49 i0 (.agg #[.string ⟨#[]⟩, .slice none 0 0, .int .i64 0, .int .i64 0, .int .i64 0]) 5 64 underlying47 hi0 hz0 hz1 hz2 rfl (by decide) (.slice p1 ts.length c1) ts.length ys rfl (((Y9 HO.out hb5).alloc _).alloc _) ⟨w5.heap.size + 1, 0, none⟩ [.string s, .slice p5 m5 c5, .int .i64 o1, .int .i64 o2, .int .i64 o3] rfl rfl (Xg (Z9 _ _ _)) (by intro u hu; simp at hu; rcases hu with rfl | rfl | rfl | rfl | rfl <;> rfl) (by unfold maxLen; omega) (by omega) (by simp; omega) ?_; intro g' c' w6 hown' hgrow hgg)))
      go_roundw
      case rel => exact ⟨j + 1, ts ++ [t], _, by omega, by go_num, H_ (by rw [List.length_append, htl.out]; rfl), by rw [List.length_append, htl.out]; simp; omega, HS, H_ (hI.out.step hok hb5'.out hv6.out hgrow hown' hgg)⟩
      case measure => simp [intOf]; omega
  · have hjL : j = L := by omega
    have hts2 := hts.out
    rw [List.take_of_length_le (by rw [← HL.out]; omega)] at hts2
    have HF := H_ (show R = .ok ts by rw [HR.out, hts2])
    have hFin := H_ (hI.out.fin hok)
    have hBel := H_ hI.out.below
    clear hts2 HK hI hts HO
    go_wp2_with fail
    go_ret2
    exact ⟨by rw [HF.out]; exact ⟨_, rfl, hFin.out⟩, hBel.out⟩
end Go.Proofs.YtmgepnacjgbfhaaGreatDoor
