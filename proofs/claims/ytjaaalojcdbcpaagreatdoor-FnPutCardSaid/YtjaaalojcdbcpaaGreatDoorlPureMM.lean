/- The reference: decimals, new names, renamed names. The reference: new names that are not free. The reference makes a binding plain: what holds within the statement that makes its body plain, whatever came up. The plain mathematics of chapter 3: how many expressions an expression has; environments, types, the first fault. -/
import Derived.Test.YtjaaalojcdbcpaaGreatDoorlS2f
import Derived.Test.YtjaaalojcdbcpaaGreatDoorlNumIM
import Derived.Test.YtjaaalojcdbcpaaGreatDoorlPureXM
import Derived.Deep.RegionHeld3
import Derived.Test.YtjaaalojcdbcpaaGreatDoorlSlotsM
import Derived.Test.YtjaaalojcdbcpaaGreatDoorlPureT
set_option maxHeartbeats 20000000
set_option linter.unusedVariables false
set_option linter.unusedSimpArgs false
namespace Go.Proofs.YtjaaalojcdbcpaaGreatDoor
open Go.RowKit Go.Proofs.Tryz
set_option maxRecDepth 8000
def Z0j (ns ts : List Nm) (s : Nm) : Nat → Nm
 | 0 => s
 | k + 1 => if ns.getD k [] = s then ts.getD k [] else Z0j ns ts s k
theorem lookD_app (ns ts : List Nm) (s n t : Nm) (h : ns.length = ts.length) : ∀ k, k ≤ ns.length → Z0j (ns ++ [n]) (ts ++ [t]) s k = Z0j ns ts s k
 | 0, _ => rfl
 | k + 1, hk => by
   simp only [Z0j]
   rw [lookD_app ns ts s n t h k (by omega)]
   rw [List.getD_eq_getElem?_getD, List.getD_eq_getElem?_getD, List.getD_eq_getElem?_getD, List.getD_eq_getElem?_getD, List.getElem?_append_left (by omega), List.getElem?_append_left (by omega)]
def J1 (m : List (Nm × Nm)) : List Nm := (m.map (fun p => p.1)).reverse
def V0 (m : List (Nm × Nm)) : List Nm := (m.map (fun p => p.2)).reverse
theorem Z35 (a b : Nm) (m : List (Nm × Nm)) : J1 ((a, b) :: m) = J1 m ++ [a] := by simp [J1]
theorem Z34 (a b : Nm) (m : List (Nm × Nm)) : V0 ((a, b) :: m) = V0 m ++ [b] := by simp [V0]
theorem Z18 (m : List (Nm × Nm)) : (J1 m).length = m.length := by simp [J1]
theorem Z4s (m : List (Nm × Nm)) : (V0 m).length = m.length := by simp [V0]
theorem lookD_map (s : Nm) : ∀ m : List (Nm × Nm), Z0j (J1 m) (V0 m) s m.length = J2 m s
 | [] => rfl
 | (a, b) :: m => by
   have h1 := Z18 m
   have h2 := Z4s m
   rw [Z35, Z34, List.length_cons]
   simp only [Z0j]
   rw [lookD_app _ _ _ _ _ (by omega) _ (by omega), lookD_map s m]
   rw [List.getD_eq_getElem?_getD, List.getD_eq_getElem?_getD, List.getElem?_append_right (by omega), List.getElem?_append_right (by omega), h1, h2]
   simp only [Nat.sub_self, List.getElem?_cons_zero, Option.getD_some, J2]
theorem l2Look_c (v1 v2 : Value) (ns : List Nm) (ts : List (List UInt8)) (s : Nm) (w : World) (h1 : Zw w v1 ns) (h2 : Zw w v2 ts) (hl : ns.length = ts.length) (hsz : ns.length ≤ 1000000) :
 Calls prog 111 #[v1, v2, .string (bs s)] w fun e w' => e = .returned (.string (bs (Z0j ns ts s ns.length))) ∧ w' = w := by
 obtain ⟨R, hR⟩ : ∃ R, R = bs (Z0j ns ts s ns.length) := ⟨_, rfl⟩
 rw [← hR]
 have HR := H_ hR
 obtain ⟨p1, c1, rfl, l1, hrow1⟩ := h1
 obtain ⟨p2, c2, rfl, l2, hrow2⟩ := h2
 have HS1 := H_ hrow1
 have HS2 := H_ hrow2
 have HL := H_ hl
 clear hR hrow1 hrow2 hl
 go_enter func111, ntmps111
 go_wp2_with fail
 go_loop [7] (fun i => ∃ (k : Nat) (n : Int), k ≤ ns.length ∧ i = .int .i64 n ∧ n + 1 = k ∧ Hid (Z0j ns ts s ns.length = Z0j ns ts s k)) (fun i => ((intOf i) + 1).toNat)
 case atStart => exact ⟨ns.length, _, Nat.le_refl _, rfl, by omega, H_ rfl⟩
 case round =>
  obtain ⟨k, n, hk, rfl, hn, hA⟩ := hrel
  cases k with
  | zero =>
    obtain rfl : n = -1 := by omega
    have HF := H_ (show R = bs s by rw [HR.out, hA.out]; rfl)
    clear hA
    go_wp2_with fail
    go_ret
    exact ⟨by rw [HF.out]; rfl, rfl⟩
  | succ k =>
    obtain rfl : n = (k : Int) := by omega
    have hlt : k < ns.length := by omega
    have hlt2 : k < ts.length := by rw [← HL.out]; exact hlt
    obtain ⟨r, off, rfl, h3⟩ := HS1.out (by intro e; rw [e] at hlt; simp at hlt)
    obtain ⟨r2, off2, rfl, h4⟩ := HS2.out (by intro e; rw [e] at hlt2; simp at hlt2)
    have x1 : w.cell? ⟨r, off + k, none⟩ = some (.string (bs ns[k])) := Zw.cell h3 hlt
    have x2 : w.cell? ⟨r2, off2 + k, none⟩ = some (.string (bs ts[k])) := Zw.cell h4 hlt2
    have hk0 : (0 : Int) ≤ (k : Int) := by omega
    have hltI : (k : Int) < (ns.length : Int) := by omega
    have hltI2 : (k : Int) < (ts.length : Int) := by omega
    have HG := H_ (show Z0j ns ts s (k + 1) = if ns[k] = s then ts[k] else Z0j ns ts s k by simp [Z0j, hlt, hlt2])
    by_cases he : ns[k] = s
    · have hx2 : ((bs ns[k]).toList == (bs s).toList) = true := by rw [Z9, Z9]; simpa using he
      have hx3 : (bs ns[k]).toList = (bs s).toList := by rw [Z9, Z9]; exact he
      have HF := H_ (show R = bs ts[k] by rw [HR.out, hA.out, HG.out, if_pos he])
      generalize bs ns[k] = sa at *
      generalize bs ts[k] = sb at *
      clear hA HG he h3 h4
      go_wp2_with fail
      go_ret
      exact ⟨by rw [HF.out]; rfl, rfl⟩
    · have hx2 : ((bs ns[k]).toList == (bs s).toList) = false := by rw [Z9, Z9]; simpa using he
      have hx3 : ¬ (bs ns[k]).toList = (bs s).toList := by rw [Z9, Z9]; exact he
      have HF := H_ (show Z0j ns ts s ns.length = Z0j ns ts s k by rw [hA.out, HG.out, if_neg he])
      generalize bs ns[k] = sa at *
      generalize bs ts[k] = sb at *
      clear hA HG he h3 h4
      go_wp2_with fail
      exact ⟨⟨k, _, by omega, rfl, by omega, HF⟩, by first | (simp [intOf]; done) | (simp [intOf]; omega)⟩
def RN (w : World) (b : Nat) (vf : Value) (k : Nat) : Prop := w.heap[b]? = some (.cells #[vf, .int .i64 k] 90 (0, 0))
theorem Zw.only {w w' : World} {b : Nat} {v : Value} {l : List Nm} (h : Zw w v l) (ho : Only b w w') (hne : ∀ q, v.ownBlock = some q → q ≠ b ∧ q < w.heap.size) : Zw w' v l := Zw.move h (fun q hq => ho.block q (hne q hq).2 (hne q hq).1)
theorem Z5f (b : Nat) (vf : Value) (free : List Nm) (k : Nat) (w : World) (hr : RN w b vf k) (hf : Zw w vf free) (hne : ∀ q, vf.ownBlock = some q → q ≠ b ∧ q < w.heap.size) (hl : free.length ≤ 1000) (hk : k ≤ 1000) :
 Calls prog 112 #[.pointer (some ⟨b, 0, none⟩)] w fun e w' => e = .returned (.string (bs (Zd (Zk free k)))) ∧ RN w' b vf (Zk free k + 1) ∧ Only b w w' := by
 have hfl := Qe free k
 obtain ⟨K, hK⟩ : ∃ K, K = Zk free k := ⟨_, rfl⟩
 rw [← hK] at hfl ⊢
 have HK := H_ hK
 obtain ⟨pf, cf, hvf, hlf, hrowf⟩ := id hf
 have HR := H_ hr
 have HF := H_ hf
 have HNE := H_ hne
 clear hK hr hf hrowf hne
 subst hvf
 go_enter func112, ntmps112
 go_wp2_with fail
 go_loopg [3] (K + 1 - k) (fun q s wr => ∃ j : Nat, q + j = K + 1 ∧ k ≤ j ∧ j ≤ K ∧ Hid (Zk free j = K) ∧ Hid (RN wr b (.slice pf free.length cf) j) ∧ Hid (Only b w wr))
 case atStart => exact ⟨k, by omega, Nat.le_refl _, by omega, H_ HK.out.symm, HR, H_ (Only.refl b w)⟩
 case round =>
  obtain ⟨j, hq, hj1, hj2, hfr, hrn, hon⟩ := hrel
  have hblk : wr.heap[b]? = some (.cells #[.slice pf free.length cf, .int .i64 j] 90 (0, 0)) := hrn.out
  obtain ⟨r0, r1⟩ := Zh hblk
  have CD := H_ (Z6p (j + 1) j (by omega) (by omega))
  have hlen : (bs (Lib.decDigits j)).size ≤ 100 := by rw [Y0]; exact Z50 _ (by omega)
  have hxn : Hid (bs (Zd j) = ⟨#[120]⟩ ++ bs (Lib.decDigits j)) := H_ (by
   have e : Zd j = [120] ++ Lib.decDigits j := by unfold Zd Lib.itoa; rw [if_neg (by omega)]; simp
   rw [e, ← Xl]; rfl)
  have hwrap : IntKind.i64.wrap ((j : Int) + 1) = (j : Int) + 1 := by rw [IntKind.wrap_i64]; omega
  have CH : Hid (∀ W : World, Zw W (.slice pf free.length cf) free → Calls prog 99 #[.slice pf free.length cf, .string (⟨#[120]⟩ ++ bs (Lib.decDigits j))] W fun e w' => e = .returned (.bool (decide (Zd j ∈ free))) ∧ w' = W) := H_ (fun W hv => by rw [← hxn.out]; exact Z7u _ free (Zd j) W hv)
  have HOA : Hid (∀ W, Below wr.heap.size wr W → RN (W.setCell ⟨b, 1, none⟩ (.int .i64 ((j : Int) + 1))) b (.slice pf free.length cf) (j + 1) ∧ Only b w (W.setCell ⟨b, 1, none⟩ (.int .i64 ((j : Int) + 1))) ∧ Zw (W.setCell ⟨b, 1, none⟩ (.int .i64 ((j : Int) + 1))) (.slice pf free.length cf) free) := H_ (fun W hW => by
   have h1 := Z2 hW (lt_of_block hblk) hblk
   have h2 := (hon.out.next hW).set (p := ⟨b, 1, none⟩) rfl (.int .i64 ((j : Int) + 1))
   exact ⟨by have := Yu (j := 1) h1 (.int .i64 ((j : Int) + 1)); exact this, h2, HF.out.only h2 HNE.out⟩)
  have KC : Hid (∀ W, Below wr.heap.size wr W → W.cell? ⟨b, 1, none⟩ = some (.int .i64 j) ∧ W.frozen? ⟨b, 1, none⟩ = false ∧ (W.setCell ⟨b, 1, none⟩ (.int .i64 ((j : Int) + 1))).cell? ⟨b, 0, none⟩ = some (.slice pf free.length cf)) := H_ (fun W hW => by
   have h1 := Z2 hW (lt_of_block hblk) hblk
   have h2 := Yu (j := 1) h1 (.int .i64 ((j : Int) + 1))
   exact ⟨Z4 h1, Yf h1, Z4 h2⟩)
  have hx2 : Hid (Zd j ∈ free → Zk free (j + 1) = K ∧ j < K) := H_ (fun hm => by
   have h1 := Z7w hm
   rw [hfr.out] at h1
   have := (Qe free (j + 1)).1
   exact ⟨h1.symm, by omega⟩)
  have hx3 : Hid (¬ Zd j ∈ free → j = K) := H_ (fun hm => by have h1 := Z7x hm; rw [hfr.out] at h1; exact h1.symm)
  clear hblk hrn
  by_cases hmem : Zd j ∈ free
  · have hdm : decide (Zd j ∈ free) = true := by simpa using hmem
    rw [hdm] at CH
    obtain ⟨y1, y2⟩ := hx2.out hmem
    have Y1 := H_ y1
    clear hx2 hx3 hmem hdm y1
    clear hxn
    generalize bs (Lib.decDigits j) = DG at *
    go_wp2_with (first | (go_at_call 140; go_must (refine (CD.out _).mono ?_; rintro e w1 ⟨rfl, hb1⟩; obtain ⟨c1, c2, c3⟩ := KC.out _ hb1; obtain ⟨d1, d2, d3⟩ := HOA.out _ hb1)) | (go_at_call 99; go_must (refine (CH.out _ d3).mono ?_; rintro e w3 ⟨rfl, rfl⟩)))
    go_roundg (gk - 1)
    case measure => omega
    case rel => exact ⟨j + 1, by omega, by omega, by omega, Y1, H_ d1, H_ d2⟩
  · have hdm : decide (Zd j ∈ free) = false := by simpa using hmem
    rw [hdm] at CH
    obtain rfl := hx3.out hmem
    have HXN := H_ hxn.out
    clear hx2 hx3 hmem hdm hxn
    generalize bs (Lib.decDigits j) = DG at *
    go_wp2_with (first | (go_at_call 140; go_must (refine (CD.out _).mono ?_; rintro e w1 ⟨rfl, hb1⟩; obtain ⟨c1, c2, c3⟩ := KC.out _ hb1; obtain ⟨d1, d2, d3⟩ := HOA.out _ hb1)) | (go_at_call 99; go_must (refine (CH.out _ d3).mono ?_; rintro e w3 ⟨rfl, rfl⟩)))
    go_ret
    exact ⟨by rw [HXN.out]; rfl, d1, d2⟩
def upL (L : Nat → Bool) (i : Nat) : Nat → Bool := fun j => if j = i then true else L j
theorem Z4d (L : Nat → Bool) (i : Nat) : upL L i i = true := by simp [upL]
theorem Zj {L : Nat → Bool} {i j : Nat} (h : j ≠ i) : upL L i j = L j := by simp [upL, h]
structure LtS (mN mT : List Nm) (s X : Nm) (L : Nat → Bool) (a : Act) (S : Nat → Option (Value × List Nm)) : Prop where
 c0 : L 6 = true → L 8 = false → S 0 = some (a.eval (.tmp 73), [])
 c1 : L 8 = true → L 15 = false → S 0 = some (a.eval (.tmp 75), mN)
 c2 : L 15 = true → S 0 = some (a.eval (.tmp 82), mN ++ [s])
 c3 : L 14 = true → S 1 = some (a.eval (.tmp 81), [s])
 c4 : L 16 = true → L 18 = false → S 2 = some (a.eval (.tmp 83), [])
 c5 : L 18 = true → L 21 = false → S 2 = some (a.eval (.tmp 85), mT)
 c6 : L 21 = true → S 2 = some (a.eval (.tmp 88), mT ++ [X])
 c7 : L 20 = true → S 3 = some (a.eval (.tmp 87), [X])
structure LtI (a0 : Act) (V : Nat → Option Value) (b : Nat) (vf : Value) (k1 : Nat) (W0 : World) (mN mT : List Nm) (s X : Nm) (Mid : Value → World → Prop) (Fin : World → Prop) (L : Nat → Bool) (a : Act) (w : World) : Prop where
 sz : a.tmps.size = a0.tmps.size
 keep : ∀ t : Nat, t < 67 → a.eval (.tmp t) = a0.eval (.tmp t)
 dfr : a.defers = a0.defers
 vals : ∀ j v, V j = some v → L j = true → a.eval (.tmp (67 + j)) = v
 core : L 25 = false → Only b W0 w
 rn : L 23 = false → RN w b vf k1
 slots : L 23 = false → ∃ S, Slots w W0.heap.size S ∧ LtS mN mT s X L a S
 mid : L 23 = true → L 25 = false → Mid (a.eval (.tmp 90)) w
 fin : L 25 = true → Fin w
section
variable {a0 : Act} {V : Nat → Option Value} {b : Nat} {vf : Value} {k1 : Nat} {W0 : World} {mN mT : List Nm} {s X : Nm} {Mid : Value → World → Prop} {Fin : World → Prop} {L : Nat → Bool} {a : Act} {w w' : World} {S : Nat → Option (Value × List Nm)}
def memI (i : Nat) : Bool := [6, 8, 14, 15, 16, 18, 20, 21, 23, 25].contains i
theorem Vq {i j : Nat} (h : memI i = false) (hj : memI j = true) : j ≠ i := fun e => by subst e; rw [h] at hj; cases hj
theorem LtI.pure (h : LtI a0 V b vf k1 W0 mN mT s X Mid Fin L a w) (i : Nat) (hm : memI i = false) (hi : i < 25) (hz : 92 ≤ a0.tmps.size) (v : Value) (hv : ∀ v', V i = some v' → v = v') : LtI a0 V b vf k1 W0 mN mT s X Mid Fin (upL L i) (a.put (some (67 + i)) v) w := by
 have n6 := Vq hm (j := 6) rfl
 have n8 := Vq hm (j := 8) rfl
 have n14 := Vq hm (j := 14) rfl
 have n15 := Vq hm (j := 15) rfl
 have n16 := Vq hm (j := 16) rfl
 have n18 := Vq hm (j := 18) rfl
 have n20 := Vq hm (j := 20) rfl
 have n21 := Vq hm (j := 21) rfl
 have n23 := Vq hm (j := 23) rfl
 have n25 := Vq hm (j := 25) rfl
 have hsz : 67 + i < a.tmps.size := by have := h.sz; omega
 have hne : ∀ t : Nat, t ≠ 67 + i → (a.put (some (67 + i)) v).eval (.tmp t) = a.eval (.tmp t) := fun t ht => by rw [Jr hsz, if_neg ht]
 have hkp : ∀ t : Nat, t < 67 → (a.put (some (67 + i)) v).eval (.tmp t) = a0.eval (.tmp t) := fun t ht => (hne t (by omega)).trans (h.keep t ht)
 refine ⟨by rw [Z77]; exact h.sz, hkp, by rw [Z40]; exact h.dfr, fun j u hj hL => ?_, ?_, ?_, ?_, ?_, ?_⟩
 · by_cases e : j = i
   · subst e
     rw [Jr hsz, if_pos rfl]
     exact hv u hj
   · rw [Zj e] at hL
     rw [hne (67 + j) (by omega)]
     exact h.vals j u hj hL
 · rw [Zj n25]; exact h.core
 · rw [Zj n23]; exact h.rn
 · rw [Zj n23]
   intro h23
   obtain ⟨S, q1, q2⟩ := h.slots h23
   refine ⟨S, q1, ?_⟩
   constructor
   · rw [Zj n6, Zj n8, hne _ (by omega)]; exact q2.c0
   · rw [Zj n8, Zj n15, hne _ (by omega)]; exact q2.c1
   · rw [Zj n15, hne _ (by omega)]; exact q2.c2
   · rw [Zj n14, hne _ (by omega)]; exact q2.c3
   · rw [Zj n16, Zj n18, hne _ (by omega)]; exact q2.c4
   · rw [Zj n18, Zj n21, hne _ (by omega)]; exact q2.c5
   · rw [Zj n21, hne _ (by omega)]; exact q2.c6
   · rw [Zj n20, hne _ (by omega)]; exact q2.c7
 · rw [Zj n23, Zj n25, hne _ (by omega)]; exact h.mid
 · rw [Zj n25]; exact h.fin
theorem LtI.row (h : LtI a0 V b vf k1 W0 mN mT s X Mid Fin L a w) (i : Nat) (hi : i < 22) (hz : 92 ≤ a0.tmps.size) (hV : V i = none) (h23 : L 23 = false) (h25 : L 25 = false) (v : Value) (ho : Only b W0 w') (hr : RN w' b vf k1)
 (hS : ∃ S, Slots w' W0.heap.size S ∧ LtS mN mT s X (upL L i) (a.put (some (67 + i)) v) S) : LtI a0 V b vf k1 W0 mN mT s X Mid Fin (upL L i) (a.put (some (67 + i)) v) w' := by
 have hsz : 67 + i < a.tmps.size := by have := h.sz; omega
 have hne : ∀ t : Nat, t ≠ 67 + i → (a.put (some (67 + i)) v).eval (.tmp t) = a.eval (.tmp t) := fun t ht => by rw [Jr hsz, if_neg ht]
 have hkp : ∀ t : Nat, t < 67 → (a.put (some (67 + i)) v).eval (.tmp t) = a0.eval (.tmp t) := fun t ht => (hne t (by omega)).trans (h.keep t ht)
 refine ⟨by rw [Z77]; exact h.sz, hkp, by rw [Z40]; exact h.dfr, fun j u hj hL => ?_, fun _ => ho, fun _ => hr, fun _ => hS, fun e => ?_, fun e => ?_⟩
 · by_cases e : j = i
   · subst e; rw [hV] at hj; cases hj
   · rw [Zj e] at hL
     rw [hne (67 + j) (by omega)]
     exact h.vals j u hj hL
 · rw [Zj (by omega), h23] at e; cases e
 · rw [Zj (by omega), h25] at e; cases e
theorem RN.of_stay {k : Nat} (h : RN w b vf k) (hs : w'.heap[b]? = w.heap[b]?) : RN w' b vf k := by unfold RN; rw [hs]; exact h
theorem LtS.made (q : LtS mN mT s X L a S) (i n : Nat) (v : Value) (l : List Nm) (hsz : 67 + i < a.tmps.size)
 (g0 : upL L i 6 = true → upL L i 8 = false → (n = 0 ∧ l = [] ∧ i = 6) ∨ (n ≠ 0 ∧ i ≠ 6 ∧ L 6 = true ∧ L 8 = false))
 (g1 : upL L i 8 = true → upL L i 15 = false → (n = 0 ∧ l = mN ∧ i = 8) ∨ (n ≠ 0 ∧ i ≠ 8 ∧ L 8 = true ∧ L 15 = false))
 (g2 : upL L i 15 = true → (n = 0 ∧ l = mN ++ [s] ∧ i = 15) ∨ (n ≠ 0 ∧ i ≠ 15 ∧ L 15 = true))
 (g3 : upL L i 14 = true → (n = 1 ∧ l = [s] ∧ i = 14) ∨ (n ≠ 1 ∧ i ≠ 14 ∧ L 14 = true))
 (g4 : upL L i 16 = true → upL L i 18 = false → (n = 2 ∧ l = [] ∧ i = 16) ∨ (n ≠ 2 ∧ i ≠ 16 ∧ L 16 = true ∧ L 18 = false))
 (g5 : upL L i 18 = true → upL L i 21 = false → (n = 2 ∧ l = mT ∧ i = 18) ∨ (n ≠ 2 ∧ i ≠ 18 ∧ L 18 = true ∧ L 21 = false))
 (g6 : upL L i 21 = true → (n = 2 ∧ l = mT ++ [X] ∧ i = 21) ∨ (n ≠ 2 ∧ i ≠ 21 ∧ L 21 = true))
 (g7 : upL L i 20 = true → (n = 3 ∧ l = [X] ∧ i = 20) ∨ (n ≠ 3 ∧ i ≠ 20 ∧ L 20 = true)) : LtS mN mT s X (upL L i) (a.put (some (67 + i)) v) (Vn S n (v, l)) := by
 have heq : (a.put (some (67 + i)) v).eval (.tmp (67 + i)) = v := by rw [Jr hsz, if_pos rfl]
 have hne : ∀ t : Nat, t ≠ 67 + i → (a.put (some (67 + i)) v).eval (.tmp t) = a.eval (.tmp t) := fun t ht => by rw [Jr hsz, if_neg ht]
 constructor
 · intro e1 e2
   rcases g0 e1 e2 with ⟨rfl, rfl, rfl⟩ | ⟨h1, h2, h3, h4⟩
   · rw [Xp]; exact congrArg some (Prod.ext heq.symm rfl)
   · rw [Q4 _ (fun e => h1 e.symm), hne _ (by omega)]; exact q.c0 h3 h4
 · intro e1 e2
   rcases g1 e1 e2 with ⟨rfl, rfl, rfl⟩ | ⟨h1, h2, h3, h4⟩
   · rw [Xp]; exact congrArg some (Prod.ext heq.symm rfl)
   · rw [Q4 _ (fun e => h1 e.symm), hne _ (by omega)]; exact q.c1 h3 h4
 · intro e1
   rcases g2 e1 with ⟨rfl, rfl, rfl⟩ | ⟨h1, h2, h3⟩
   · rw [Xp]; exact congrArg some (Prod.ext heq.symm rfl)
   · rw [Q4 _ (fun e => h1 e.symm), hne _ (by omega)]; exact q.c2 h3
 · intro e1
   rcases g3 e1 with ⟨rfl, rfl, rfl⟩ | ⟨h1, h2, h3⟩
   · rw [Xp]; exact congrArg some (Prod.ext heq.symm rfl)
   · rw [Q4 _ (fun e => h1 e.symm), hne _ (by omega)]; exact q.c3 h3
 · intro e1 e2
   rcases g4 e1 e2 with ⟨rfl, rfl, rfl⟩ | ⟨h1, h2, h3, h4⟩
   · rw [Xp]; exact congrArg some (Prod.ext heq.symm rfl)
   · rw [Q4 _ (fun e => h1 e.symm), hne _ (by omega)]; exact q.c4 h3 h4
 · intro e1 e2
   rcases g5 e1 e2 with ⟨rfl, rfl, rfl⟩ | ⟨h1, h2, h3, h4⟩
   · rw [Xp]; exact congrArg some (Prod.ext heq.symm rfl)
   · rw [Q4 _ (fun e => h1 e.symm), hne _ (by omega)]; exact q.c5 h3 h4
 · intro e1
   rcases g6 e1 with ⟨rfl, rfl, rfl⟩ | ⟨h1, h2, h3⟩
   · rw [Xp]; exact congrArg some (Prod.ext heq.symm rfl)
   · rw [Q4 _ (fun e => h1 e.symm), hne _ (by omega)]; exact q.c6 h3
 · intro e1
   rcases g7 e1 with ⟨rfl, rfl, rfl⟩ | ⟨h1, h2, h3⟩
   · rw [Xp]; exact congrArg some (Prod.ext heq.symm rfl)
   · rw [Q4 _ (fun e => h1 e.symm), hne _ (by omega)]; exact q.c7 h3
theorem LtI.make (h : LtI a0 V b vf k1 W0 mN mT s X Mid Fin L a w) (i n : Nat) (l : List Nm) (hi : i < 22) (hz : 92 ≤ a0.tmps.size) (hb : b < W0.heap.size) (hV : V i = none) (h23 : L 23 = false) (h25 : L 25 = false) (hl : l.length ≤ 1000000)
 (hS : ∀ S, LtS mN mT s X L a S → LtS mN mT s X (upL L i) (a.put (some (67 + i)) (.slice (some ⟨w.heap.size, 0, none⟩) l.length l.length)) (Vn S n (.slice (some ⟨w.heap.size, 0, none⟩) l.length l.length, l))) :
 LtI a0 V b vf k1 W0 mN mT s X Mid Fin (upL L i) (a.put (some (67 + i)) (.slice (some ⟨w.heap.size, 0, none⟩) l.length l.length)) (w.alloc (.cells (l.map Y3).toArray 9)) := by
 have hc := h.core h25
 obtain ⟨S, q1, q2⟩ := h.slots h23
 exact h.row i hi hz hV h23 h25 _ (hc.alloc _) ((h.rn h23).of_stay (heap_alloc_old _ _ (lt_of_block (h.rn h23)))) ⟨_, q1.make hc.size n l hl, hS S q2⟩
theorem LtI.grow (h : LtI a0 V b vf k1 W0 mN mT s X Mid Fin L a w) (i n : Nat) (v v' : Value) (l l' : List Nm) (hi : i < 22) (hz : 92 ≤ a0.tmps.size) (hb : b < W0.heap.size) (hV : V i = none) (h23 : L 23 = false) (h25 : L 25 = false)
 (ho : w'.ownsRow W0.heap.size 9 1 v' l'.length (l'.map Y3)) (hg : w.grownBy w' v.ownBlock) (hv : v'.ownBlock = v.ownBlock ∨ v'.ownBlock = some w.heap.size) (hown : ∀ q, v.ownBlock = some q → W0.heap.size ≤ q)
 (hS : ∀ S, LtS mN mT s X L a S → S n = some (v, l) ∧ LtS mN mT s X (upL L i) (a.put (some (67 + i)) v') (Vn S n (v', l'))) :
 LtI a0 V b vf k1 W0 mN mT s X Mid Fin (upL L i) (a.put (some (67 + i)) v') w' := by
 have hc := h.core h25
 obtain ⟨S, q1, q2⟩ := h.slots h23
 obtain ⟨e, q3⟩ := hS S q2
 have hrn := h.rn h23
 exact h.row i hi hz hV h23 h25 _ (hc.grown hg hown) (hrn.of_stay (hg.block b (lt_of_block hrn) (fun q => by have := hown b q.symm; omega))) ⟨_, q1.grow e ho hg hv, q3⟩
end
def Z2i : Ex → Nat
 | .name _ => 1
 | .num _ => 1
 | .two _ a b => 1 + Z2i a + Z2i b
 | .one _ a => 1 + Z2i a
 | .cond a b c => 1 + Z2i a + Z2i b + Z2i c
 | .lete _ e b => 1 + Z2i e + Z2i b
 | .func _ _ _ _ e => 1 + Z2i e
def sumM : List Ex → Nat
 | [] => 0
 | k :: ks => Z2i k + sumM ks
def manyOf (l : List UInt8) : Int := match Zp l with | none => -1 | some x => (Z2i x : Nat)
end Go.Proofs.YtjaaalojcdbcpaaGreatDoor
