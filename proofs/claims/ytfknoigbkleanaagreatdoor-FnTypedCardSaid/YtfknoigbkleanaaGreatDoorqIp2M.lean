/- The program: new names. The program: an expression's kids are made plain, one after the other. -/
import Derived.Test.YtfknoigbkleanaaGreatDoorqPureXM
import Derived.Test.YtfknoigbkleanaaGreatDoorqImpl2r
import Derived.Test.YtfknoigbkleanaaGreatDoorqI2j
import Derived.Test.YtfknoigbkleanaaGreatDoorqImpl1rM
import Derived.Deep.RegionHeld3
import Derived.Test.YtfknoigbkleanaaGreatDoorqLawRtM
import Derived.Deep.RegionHeldLaw
namespace Go.Proofs.YtfknoigbkleanaaGreatDoor
open Go.RowKit Go.Proofs.Tryz
set_option maxRecDepth 8000
set_option maxHeartbeats 20000000
set_option linter.unusedVariables false
set_option linter.unusedSimpArgs false
def NMr (w : World) (b : Nat) (vf : Value) (k g : Nat) : Prop := w.heap[b]? = some (.cells #[.string ⟨#[120]⟩, vf, .int .i64 k, .int .i64 g] 172 (0, 0))
theorem Zn.onlyI {w w' : World} {b : Nat} {v : Value} {l : List Nm} (h : Zn w v l) (ho : Only b w w') (hne : ∀ q, v.ownBlock = some q → q ≠ b ∧ q < w.heap.size) : Zn w' v l := Zn.move h (fun q hq => ho.block q (hne q hq).2 (hne q hq).1)
def TabB (b : Nat) (w : World) : Prop := ∃ w0, Tab w0 ∧ Below w0.heap.size w0 w ∧ w0.heap.size ≤ b
theorem TabB.only {b : Nat} {w w' : World} (h : TabB b w) (ho : Only b w w') : TabB b w' := by
 obtain ⟨w0, h1, h2, h3⟩ := h
 exact ⟨w0, h1, Only.fresh h2 ho h3 h2.size, h3⟩
theorem TabB.tab {b : Nat} {w : World} (h : TabB b w) : Tab w := by
 obtain ⟨w0, h1, h2, h3⟩ := h
 exact h1.below h2
theorem give_c (b : Nat) (vf : Value) (free : List Nm) (k g : Nat) (w : World) (hr : NMr w b vf k g) (hf : Zn w vf free) (hne : ∀ q, vf.ownBlock = some q → q ≠ b ∧ q < w.heap.size) (hl : free.length ≤ 300) (hk : k ≤ 300) (hg : g ≤ 1000000) (hT : TabB b w) :
 Calls prog 184 #[.pointer (some ⟨b, 0, none⟩)] w fun e w' => e = .returned (.string (bs (Y3 (Zr free k)))) ∧ NMr w' b vf (Zr free k + 1) (g + 1) ∧ Only b w w' := by
 have hfl := K6 free k
 obtain ⟨K, hK⟩ : ∃ K, K = Zr free k := ⟨_, rfl⟩
 rw [← hK] at hfl ⊢
 have HK := H_ hK
 obtain ⟨pf, cf, hvf, hlf, hrowf⟩ := id hf
 have HR := H_ hr
 have HF := H_ hf
 have HNE := H_ hne
 have HT := H_ hT
 clear hK hr hf hrowf hne hT
 subst hvf
 go_enter func184, ntmps184
 go_wp2_with fail
 go_loopg [3] (K + 1 - k) (fun q s wr => ∃ j : Nat, q + j = K + 1 ∧ k ≤ j ∧ j ≤ K ∧ Hid (Zr free j = K) ∧ Hid (NMr wr b (.slice pf free.length cf) j g) ∧ Hid (Only b w wr))
 case atStart => exact ⟨k, by omega, Nat.le_refl _, by omega, H_ HK.out.symm, HR, H_ (Only.refl b w)⟩
 case round =>
  obtain ⟨j, hq, hj1, hj2, hfr, hrn, hon⟩ := hrel
  have hblk : wr.heap[b]? = some (.cells #[.string ⟨#[120]⟩, .slice pf free.length cf, .int .i64 j, .int .i64 g] 172 (0, 0)) := hrn.out
  have CD := H_ (fun W (hW : Below wr.heap.size wr W) => itoa_b (j : Int) (by omega) W ((HT.out.only (hon.out.next hW)).tab))
  have hlen : (bs (Lib.itoa (j : Int))).size ≤ 100 := by
   rw [Yf]
   unfold Lib.itoa
   rw [if_neg (by omega)]
   exact Z7y _ (by omega)
  have hxn : Hid (bs (Y3 j) = ⟨#[120]⟩ ++ bs (Lib.itoa (j : Int))) := H_ (by
   have e : Y3 j = [120] ++ Lib.itoa (j : Int) := rfl
   rw [e, ← Q0]; rfl)
  have hwrap : IntKind.i64.wrap ((j : Int) + 1) = (j : Int) + 1 := by rw [IntKind.wrap_i64]; omega
  have hwrg : IntKind.i64.wrap ((g : Int) + 1) = (g : Int) + 1 := by rw [IntKind.wrap_i64]; omega
  have CH : Hid (∀ W : World, Zn W (.slice pf free.length cf) free → Calls prog 103 #[.slice pf free.length cf, .string (⟨#[120]⟩ ++ bs (Lib.itoa (j : Int)))] W fun e w' => e = .returned (.bool (decide (Y3 j ∈ free))) ∧ w' = W) := H_ (fun W hv => by rw [← hxn.out]; exact Z5g _ free (Y3 j) W hv)
  have HOA : Hid (∀ W, Below wr.heap.size wr W → (W.setCell ⟨b, 2, none⟩ (.int .i64 ((j : Int) + 1))).cell? ⟨b, 1, none⟩ = some (.slice pf free.length cf) ∧ (W.setCell ⟨b, 2, none⟩ (.int .i64 ((j : Int) + 1))).cell? ⟨b, 3, none⟩ = some (.int .i64 g) ∧ (W.setCell ⟨b, 2, none⟩ (.int .i64 ((j : Int) + 1))).frozen? ⟨b, 3, none⟩ = false ∧ NMr (W.setCell ⟨b, 2, none⟩ (.int .i64 ((j : Int) + 1))) b (.slice pf free.length cf) (j + 1) g ∧ NMr ((W.setCell ⟨b, 2, none⟩ (.int .i64 ((j : Int) + 1))).setCell ⟨b, 3, none⟩ (.int .i64 ((g : Int) + 1))) b (.slice pf free.length cf) (j + 1) (g + 1) ∧ Only b w (W.setCell ⟨b, 2, none⟩ (.int .i64 ((j : Int) + 1))) ∧ Only b w ((W.setCell ⟨b, 2, none⟩ (.int .i64 ((j : Int) + 1))).setCell ⟨b, 3, none⟩ (.int .i64 ((g : Int) + 1))) ∧ Zn (W.setCell ⟨b, 2, none⟩ (.int .i64 ((j : Int) + 1))) (.slice pf free.length cf) free) := H_ (fun W hW => by
   have h1 := Z1 hW (lt_of_block hblk) hblk
   have h2 := Qy (j := 2) h1 (.int .i64 ((j : Int) + 1))
   have h3 := Qy (j := 3) h2 (.int .i64 ((g : Int) + 1))
   have o2 := (hon.out.next hW).set (p := ⟨b, 2, none⟩) rfl (.int .i64 ((j : Int) + 1))
   have o3 := o2.set (p := ⟨b, 3, none⟩) rfl (.int .i64 ((g : Int) + 1))
   exact ⟨Z3 h2, Z3 h2, Xo h2, h2, h3, o2, o3, HF.out.onlyI o2 HNE.out⟩)
  have KC : Hid (∀ W, Below wr.heap.size wr W → W.cell? ⟨b, 0, none⟩ = some (.string ⟨#[120]⟩) ∧ W.cell? ⟨b, 2, none⟩ = some (.int .i64 j) ∧ W.frozen? ⟨b, 2, none⟩ = false) := H_ (fun W hW => by
   have h1 := Z1 hW (lt_of_block hblk) hblk
   exact ⟨Z3 h1, Z3 h1, Xo h1⟩)
  have hx2 : Hid (Y3 j ∈ free → Zr free (j + 1) = K ∧ j < K) := H_ (fun hm => by
   have h1 := fresh_step hm
   rw [hfr.out] at h1
   have := (K6 free (j + 1)).1
   exact ⟨h1.symm, by omega⟩)
  have hx3 : Hid (¬ Y3 j ∈ free → j = K) := H_ (fun hm => by have h1 := fresh_here hm; rw [hfr.out] at h1; exact h1.symm)
  have S0 := H_ (KC.out _ (Below.refl _ _).drew)
  clear hblk hrn
  by_cases hmem : Y3 j ∈ free
  · have hdm : decide (Y3 j ∈ free) = true := by simpa using hmem
    rw [hdm] at CH
    obtain ⟨y1, y2⟩ := hx2.out hmem
    have Y1 := H_ y1
    clear hx2 hx3 hmem hdm y1
    clear hxn
    generalize bs (Lib.itoa (j : Int)) = IT at *
    have hov : ¬ (9223372036854775807 : Nat) < 1 + IT.size := by omega
    go_wp2_with fail
    first | (go_region_held3 (fun W => W.cell? ⟨b, 0, none⟩ = some (.string ⟨#[120]⟩) ∧ W.cell? ⟨b, 2, none⟩ = some (.int .i64 j) ∧ W.frozen? ⟨b, 2, none⟩ = false) (first | exact S0.out | assumption | fail) (first | (go_at_call 153; (with_reducible refine (CD.out _ (Below.refl _ _).drew).mono ?_); rintro e w1 ⟨rfl, hb1⟩; have hB1 : Below wr.heap.size wr w1 := ((Below.refl wr.heap.size wr).drew).trans (hb1.mono (Nat.le_refl _)); have hS1 := KC.out _ hB1))) | fail
    all_goals
     obtain ⟨c1, c3, f3, n2, n3, o2, o3, s2⟩ := HOA.out _ hB1
     obtain ⟨e0, e2, ef⟩ := hS1
     go_wp2_with (go_at_call 103; go_must (refine (CH.out _ s2).mono ?_; rintro e w3 ⟨rfl, rfl⟩))
     go_roundg (gk - 1)
     case measure => omega
     case rel => exact ⟨j + 1, by omega, by omega, by omega, Y1, H_ n2, H_ o2⟩
  · have hdm : decide (Y3 j ∈ free) = false := by simpa using hmem
    rw [hdm] at CH
    obtain rfl := hx3.out hmem
    have HXN := H_ hxn.out
    clear hx2 hx3 hmem hdm hxn
    generalize bs (Lib.itoa (j : Int)) = IT at *
    have hov : ¬ (9223372036854775807 : Nat) < 1 + IT.size := by omega
    go_wp2_with fail
    first | (go_region_held3 (fun W => W.cell? ⟨b, 0, none⟩ = some (.string ⟨#[120]⟩) ∧ W.cell? ⟨b, 2, none⟩ = some (.int .i64 j) ∧ W.frozen? ⟨b, 2, none⟩ = false) (first | exact S0.out | assumption | fail) (first | (go_at_call 153; (with_reducible refine (CD.out _ (Below.refl _ _).drew).mono ?_); rintro e w1 ⟨rfl, hb1⟩; have hB1 : Below wr.heap.size wr w1 := ((Below.refl wr.heap.size wr).drew).trans (hb1.mono (Nat.le_refl _)); have hS1 := KC.out _ hB1))) | fail
    all_goals
     obtain ⟨c1, c3, f3, n2, n3, o2, o3, s2⟩ := HOA.out _ hB1
     obtain ⟨e0, e2, ef⟩ := hS1
     go_wp2_with (go_at_call 103; go_must (refine (CH.out _ s2).mono ?_; rintro e w3 ⟨rfl, rfl⟩))
     go_ret
     exact ⟨by rw [HXN.out]; rfl, n3, o3⟩
def RnL (w : World) (ok : Nat → Prop) : List (Nm × Nm) → Value → Prop
 | [], v => v = .pointer none
 | (x, y) :: m, v => ∃ r u, v = .pointer (some ⟨r, 0, none⟩) ∧ ok r ∧ w.heap[r]? = some (.cells #[.string (bs x), .string (bs y), u] 195 (0, 0)) ∧ RnL w ok m u
theorem RnL.move {w w' : World} {ok ok' : Nat → Prop} (hk : ∀ k, ok k → ok' k) (hb : ∀ k, ok k → w'.heap[k]? = w.heap[k]?) : ∀ {m : List (Nm × Nm)} {v : Value}, RnL w ok m v → RnL w' ok' m v
 | [], v, h => h
 | (x, y) :: m, v, h => by
   obtain ⟨r, u, rfl, h1, h2, h3⟩ := h
   exact ⟨r, u, rfl, hk r h1, (hb r h1).trans h2, RnL.move hk hb h3⟩
theorem of_c (m : List (Nm × Nm)) (v : Value) (s : Nm) (ok : Nat → Prop) (w : World) (h : RnL w ok m v) :
 Calls prog 183 #[v, .string (bs s)] w fun e w' => e = .returned (.string (bs (Qi m s))) ∧ w' = w := by
 obtain ⟨P, hP⟩ : ∃ P, P = Qi m s := ⟨_, rfl⟩
 rw [← hP]
 have hv0 : ∃ p, v = .pointer p := by cases m with
  | nil => exact ⟨none, h⟩
  | cons q m => obtain ⟨x, y⟩ := q; obtain ⟨r, u, rfl, -⟩ := h; exact ⟨_, rfl⟩
 obtain ⟨p, rfl⟩ := hv0
 have HI := H_ (And.intro h hP.symm)
 generalize hM : m.length = M at *
 have hML : Hid (m.length = M) := H_ hM
 clear h hP hM
 go_enter func183, ntmps183
 go_wp2_with fail
 go_loopg [0] (M + 1) (fun q v wr => wr = w ∧ ∃ m' p, v = .pointer p ∧ Hid (q = m'.length + 1) ∧ Hid (RnL w ok m' (.pointer p) ∧ Qi m' s = P))
 case atStart => exact ⟨rfl, m, p, rfl, H_ (by rw [hML.out]), HI⟩
 case round =>
  obtain ⟨rfl, m', p', rfl, hq, hI⟩ := hrel
  clear HI hML
  cases m' with
  | nil =>
    have hp : p' = none := by have h := hI.out.1; simpa [RnL] using h
    subst hp
    have hz : s = P := hI.out.2
    subst hz
    go_wp2_with fail
    go_ret
    exact ⟨rfl, rfl⟩
  | cons xy m' =>
    obtain ⟨x, y⟩ := xy
    obtain ⟨r, u, hp, h1, h2, h3⟩ := hI.out.1
    simp only [Value.pointer.injEq] at hp
    subst hp
    have hu : ∃ pu, u = .pointer pu := by cases m' with
     | nil => exact ⟨none, h3⟩
     | cons q m2 => obtain ⟨x2, y2⟩ := q; obtain ⟨r2, u2, rfl, -⟩ := h3; exact ⟨_, rfl⟩
    obtain ⟨pu, rfl⟩ := hu
    obtain ⟨c0, c1, c2⟩ := cells3 h2
    have hlk := hI.out.2
    have H3 := H_ h3
    have hqq := hq.out
    simp only [List.length_cons] at hqq
    by_cases hx : x = s
    · have hP2 : y = P := by simpa [Qi, hx] using hlk
      subst hP2
      have hs1 : ((bs x).toList == (bs s).toList) = true := by rw [hx]; simp
      have hs2 : (bs x).toList = (bs s).toList := by rw [hx]
      clear hlk h3 hI
      generalize bs x = X at *
      generalize bs s = S at *
      go_wp2_with fail
      go_ret
      exact ⟨rfl, rfl⟩
    · have hP2 : Hid (Qi m' s = P) := H_ (by simpa [Qi, hx] using hlk)
      have hs2 : ¬ (bs x).toList = (bs s).toList := by rw [Z5, Z5]; exact hx
      have hs1 : ((bs x).toList == (bs s).toList) = false := by simpa using hs2
      clear hlk h3 hI hx
      generalize bs x = X at *
      generalize bs y = Y at *
      generalize bs s = S at *
      go_wp2_with fail
      go_roundg (gk - 1)
      case measure => omega
      case rel => exact ⟨rfl, m', pu, rfl, H_ (by omega), H_ ⟨H3.out, hP2.out⟩⟩
def NMk (w : World) (b : Nat) (vf : Value) (k : Nat) : Prop := ∃ g, g ≤ k ∧ NMr w b vf k g
theorem NMk.below {w w' : World} {b : Nat} {vf : Value} {k : Nat} (h : NMk w b vf k) (hb : Below w.heap.size w w') : NMk w' b vf k := by
 obtain ⟨g, h1, h2⟩ := h
 exact ⟨g, h1, Z1 hb (lt_of_block h2) h2⟩
theorem NMk.other {w w' : World} {b : Nat} {vf : Value} {k : Nat} (h : NMk w b vf k) (hb : w'.heap[b]? = w.heap[b]?) : NMk w' b vf k := by
 obtain ⟨g, h1, h2⟩ := h
 exact ⟨g, h1, hb.trans h2⟩
theorem NMk.lt {w : World} {b : Nat} {vf : Value} {k : Nat} (h : NMk w b vf k) : b < w.heap.size := by
 obtain ⟨g, h1, h2⟩ := h
 exact lt_of_block h2
theorem EV.onlyI {B b : Nat} {w w' : World} {x : Ex} {v : Value} (h : EV w (fun k => k < B) x v) (hB : B ≤ b) (hw : B ≤ w.heap.size) (ho : Only b w w') : EV w' (fun k => k < B) x v :=
 EV.move (fun _ h => h) (fun k hk => ho.block k (by omega) (by omega)) _ _ h
def PkC (free : List Nm) (m : List (Nm × Nm)) (b B : Nat) (vf : Value) (w : World) (p1 p2 : Value) (T : TypeId) (u : Value) (x : Ex) : Prop := ∀ W k, Only b w W → NMk W b vf k → (plE free m k x).2 ≤ 200 → Calls prog 185 #[.iface T u, p1, p2] W fun e w' => (∃ S t, e = .returned (.iface S t) ∧ EV w' (fun k => k < B) (plE free m k x).1 (.iface S t)) ∧ NMk w' b vf (plE free m k x).2 ∧ Only b W w'
theorem PkC.next {free : List Nm} {m : List (Nm × Nm)} {b B : Nat} {vf : Value} {w w1 : World} {p1 p2 : Value} {T : TypeId} {u : Value} {x : Ex} (h : PkC free m b B vf w p1 p2 T u x) (ho : Only b w w1) : PkC free m b B vf w1 p1 p2 T u x := fun W k hW => h W k (ho.trans hW)
theorem Z2j (free : List Nm) (m : List (Nm × Nm)) (b B : Nat) (vf : Value) (Ta Tb : TypeId) (ua ub p1 p2 : Value) (xa xb : Ex) (k k1 k2 : Nat) (fa fb : Ex) (w : World) (hB : B ≤ b) (hn : NMk w b vf k) (h1 : plE free m k xa = (fa, k1)) (h2 : plE free m k1 xb = (fb, k2)) (hk1 : k1 ≤ 200) (hk2 : k2 ≤ 200) (K1 : PkC free m b B vf w p1 p2 Ta ua xa) (K2 : PkC free m b B vf w p1 p2 Tb ub xb) :
 Calls prog 253 #[.agg #[.iface Ta ua, .iface Tb ub], .func (.func 185) #[] #[p1, p2]] w fun e w' => (∃ S1 t1 S2 t2, e = .returned (.agg #[.iface S1 t1, .iface S2 t2]) ∧ EV w' (fun k => k < B) fa (.iface S1 t1) ∧ EV w' (fun k => k < B) fb (.iface S2 t2)) ∧ NMk w' b vf k2 ∧ Only b w w' := by
 have hbl := hn.lt
 have K1 := H_ K1
 have K2 := H_ K2
 have HN := H_ hn
 clear hn
 go_enter func253, ntmps253
 go_wp2_with fail
 generalize hwa : (w.alloc (.cells #[.iface Ta ua, .iface Tb ub] 126)).alloc (.cells #[.nilIface, .nilIface] 126) = wa
 have hbw : Below w.heap.size w wa := by rw [← hwa]; exact Zl _ _ _
 have ya : wa.heap[w.heap.size]? = some (.cells #[.iface Ta ua, .iface Tb ub] 126 (0, 0)) := by rw [← hwa]; exact Z8 (heap_alloc_new _ _)
 have yr : wa.heap[w.heap.size + 1]? = some (.cells #[.nilIface, .nilIface] 126 (0, 0)) := by rw [← hwa]; exact Z9 _ _ _
 have hNa := H_ (HN.out.below hbw)
 have C1 : Hid (∀ W, Only b wa W → NMk W b vf k → Calls prog 185 #[.iface Ta ua, p1, p2] W fun e w' => (∃ S t, e = .returned (.iface S t) ∧ EV w' (fun k => k < B) fa (.iface S t)) ∧ NMk w' b vf k1 ∧ Only b W w') := H_ (fun W hW hk => by have h := K1.out W k ((Only.of hbw).trans hW) hk (by rw [h1]; exact hk1); rw [h1] at h; exact h)
 have C2 : Hid (∀ W, Only b wa W → NMk W b vf k1 → Calls prog 185 #[.iface Tb ub, p1, p2] W fun e w' => (∃ S t, e = .returned (.iface S t) ∧ EV w' (fun k => k < B) fb (.iface S t)) ∧ NMk w' b vf k2 ∧ Only b W w') := H_ (fun W hW hk => by have h := K2.out W k1 ((Only.of hbw).trans hW) hk (by rw [h2]; exact hk2); rw [h2] at h; exact h)
 have hsz := hbw.size
 have HOw : Hid (Only b w wa) := H_ (Only.of hbw)
 generalize hB0 : w.heap.size = B0 at *
 have hne0 : B0 ≠ b := by omega
 have hne1 : B0 + 1 ≠ b := by omega
 have KS : Hid (∀ W, Only b wa W → (fun W => W.cell? ⟨B0, 0, none⟩ = some (.iface Ta ua) ∧ W.cell? ⟨B0, 1, none⟩ = some (.iface Tb ub)) W) := H_ (fun W hW => by have q := hW.blk ya hne0; exact ⟨Z3 q, Z3 q⟩)
 clear K1 K2 hwa h1 h2 hk1 hk2 HN
 have hD0 : Only b wa wa.drew := (Only.refl b wa).drew
 have hN0 : NMk wa.drew b vf k := hNa.out.other rfl
 have S0 := H_ (KS.out _ hD0)
 have HSt : Hid (∀ W, Only b wa W → ∀ v0 v1, (fun W => W.cell? ⟨B0, 0, none⟩ = some (.iface Ta ua) ∧ W.cell? ⟨B0, 1, none⟩ = some (.iface Tb ub)) ((W.setCell ⟨B0 + 1, 0, none⟩ v0).setCell ⟨B0 + 1, 1, none⟩ v1)) := H_ (fun W hW v0 v1 => by
  have q := hW.blk ya hne0
  have q2 : ((W.setCell ⟨B0 + 1, 0, none⟩ v0).setCell ⟨B0 + 1, 1, none⟩ v1).heap[B0]? = some (.cells #[.iface Ta ua, .iface Tb ub] 126 (0, 0)) := by rw [Za _ (by simp), Za _ (by simp)]; exact q
  exact ⟨Z3 q2, Z3 q2⟩)
 first | (go_region_held_law (fun W => W.cell? ⟨B0, 0, none⟩ = some (.iface Ta ua) ∧ W.cell? ⟨B0, 1, none⟩ = some (.iface Tb ub)) (first | exact S0.out | assumption | exact hSt _ _) (first | (go_at_call_of 185 (Value.iface Ta ua); (with_reducible refine (C1.out _ hD0 hN0).mono ?_); rintro e w2 ⟨⟨S1, t1, rfl, hx1⟩, hN1, hb1⟩; have h1 := Only.trans hD0 hb1; have hS1 := KS.out _ h1) | (go_at_call_of 185 (Value.iface Tb ub); (with_reducible refine (C2.out _ h1 hN1).mono ?_); rintro e w3 ⟨⟨S2, t2, rfl, hx2⟩, hN2, hb2⟩; have h2 := Only.trans h1 hb2; have hS2 := KS.out _ h2; have r3 := h2.blk yr hne1; obtain ⟨f30, f31⟩ := Ql r3; obtain ⟨r30, r31⟩ := Zm r3; have hSt := HSt.out _ h2))) | fail
 all_goals
  go_wp2_with fail
  refine bodyPost_ret (v := .agg #[.iface S1 t1, .iface S2 t2]) (by simp [results, results253, go_sem, r30, r31]) rfl ⟨⟨S1, t1, S2, t2, rfl, ?_, ?_⟩, ?_, ?_⟩
  · exact EV.move (fun _ h => h) (fun k hk => by rw [Za _ (show k ≠ B0 + 1 by omega), Za _ (show k ≠ B0 + 1 by omega)]; exact hb2.block k (by have := h1.size; omega) (by omega)) _ _ hx1
  · exact EV.move (fun _ h => h) (fun k hk => by rw [Za _ (show k ≠ B0 + 1 by omega), Za _ (show k ≠ B0 + 1 by omega)]) _ _ hx2
  · exact hN2.other (by rw [Za _ (show b ≠ B0 + 1 by omega), Za _ (show b ≠ B0 + 1 by omega)])
  · exact ((HOw.out.trans h2).setNew (show w.heap.size ≤ B0 + 1 by omega) _).setNew (show w.heap.size ≤ B0 + 1 by omega) _
theorem changed1P (free : List Nm) (m : List (Nm × Nm)) (b B : Nat) (vf : Value) (Ta : TypeId) (ua p1 p2 : Value) (xa : Ex) (k k1 : Nat) (fa : Ex) (w : World) (hB : B ≤ b) (hn : NMk w b vf k) (h1 : plE free m k xa = (fa, k1)) (hk1 : k1 ≤ 200) (K1 : PkC free m b B vf w p1 p2 Ta ua xa) :
 Calls prog 271 #[.agg #[.iface Ta ua], .func (.func 185) #[] #[p1, p2]] w fun e w' => (∃ S1 t1, e = .returned (.agg #[.iface S1 t1]) ∧ EV w' (fun k => k < B) fa (.iface S1 t1)) ∧ NMk w' b vf k1 ∧ Only b w w' := by
 have hbl := hn.lt
 have hb0 := Zl w (.cells #[.iface Ta ua] 162) (.cells #[.nilIface] 162)
 have C1 : Hid (Calls prog 185 #[.iface Ta ua, p1, p2] ((w.alloc (.cells #[.iface Ta ua] 162)).alloc (.cells #[.nilIface] 162)) fun e w' => (∃ S t, e = .returned (.iface S t) ∧ EV w' (fun k => k < B) fa (.iface S t)) ∧ NMk w' b vf k1 ∧ Only b ((w.alloc (.cells #[.iface Ta ua] 162)).alloc (.cells #[.nilIface] 162)) w') := H_ (by have h := K1 _ k (Only.of hb0) (hn.below hb0) (by rw [h1]; exact hk1); rw [h1] at h; exact h)
 have HOw : Hid (Only b w ((w.alloc (.cells #[.iface Ta ua] 162)).alloc (.cells #[.nilIface] 162))) := H_ (Only.of hb0)
 have X2 := Z9 w (.cells #[.iface Ta ua] 162) (.cells #[.nilIface] 162)
 clear K1 h1 hn hb0
 go_enter func271, ntmps271
 go_wp2_with (go_at_call 185; go_must (refine (C1.out).mono ?_; rintro e w2 ⟨⟨S1, t1, rfl, hx1⟩, hN1, hb2⟩; have r3 := hb2.blk X2 (show w.heap.size + 1 ≠ b by omega); have f30 := Xo (j := 0) r3; have r30 := Z3 (j := 0) r3))
 refine bodyPost_ret (v := .agg #[.iface S1 t1]) (by simp [results, results271, go_sem, r30]) rfl ⟨⟨S1, t1, rfl, ?_⟩, ?_, ?_⟩
 · exact EV.move (fun _ h => h) (fun k hk => by rw [Za _ (show k ≠ w.heap.size + 1 by omega)]) _ _ hx1
 · exact hN1.other (by rw [Za _ (show b ≠ w.heap.size + 1 by omega)])
 · exact (HOw.out.trans hb2).setNew (show w.heap.size ≤ w.heap.size + 1 by omega) _
theorem map_addP (free : List Nm) (m : List (Nm × Nm)) (b B : Nat) (vf : Value) (Ta Tb : TypeId) (ua ub p1 p2 : Value) (xa xb : Ex) (k k1 k2 : Nat) (fa fb : Ex) (w : World) (hB : B ≤ b) (hn : NMk w b vf k) (h1 : plE free m k xa = (fa, k1)) (h2 : plE free m k1 xb = (fb, k2)) (hk1 : k1 ≤ 200) (hk2 : k2 ≤ 200) (K1 : PkC free m b B vf w p1 p2 Ta ua xa) (K2 : PkC free m b B vf w p1 p2 Tb ub xb) :
 Calls prog 258 #[.agg #[.iface Ta ua, .iface Tb ub], .func (.func 185) #[] #[p1, p2]] w fun e w' => (∃ v', e = .returned v' ∧ EV w' (fun k => k < B) (.two .add fa fb) v') ∧ NMk w' b vf k2 ∧ Only b w w' := by
 have C := H_ (fun o => Z2j free m b B vf Ta Tb ua ub p1 p2 xa xb k k1 k2 fa fb (w.alloc o) hB (hn.below (Z4 w o)) h1 h2 hk1 hk2 (K1.next (Only.of (Z4 w o))) (K2.next (Only.of (Z4 w o))))
 clear K1 K2 hn h1 h2
 go_enter func258, ntmps258
 go_wp2_with (go_at_call 253; go_must (refine (C.out _).mono ?_; rintro e w2 ⟨⟨S1, t1, S2, t2, rfl, hx1, hx2⟩, hN, hb2⟩))
 go_ret
 exact ⟨⟨_, rfl, _, _, rfl, hx1, hx2⟩, hN, (Only.of (Z4 w _)).trans hb2⟩
theorem map_subP (free : List Nm) (m : List (Nm × Nm)) (b B : Nat) (vf : Value) (Ta Tb : TypeId) (ua ub p1 p2 : Value) (xa xb : Ex) (k k1 k2 : Nat) (fa fb : Ex) (w : World) (hB : B ≤ b) (hn : NMk w b vf k) (h1 : plE free m k xa = (fa, k1)) (h2 : plE free m k1 xb = (fb, k2)) (hk1 : k1 ≤ 200) (hk2 : k2 ≤ 200) (K1 : PkC free m b B vf w p1 p2 Ta ua xa) (K2 : PkC free m b B vf w p1 p2 Tb ub xb) :
 Calls prog 260 #[.agg #[.iface Ta ua, .iface Tb ub], .func (.func 185) #[] #[p1, p2]] w fun e w' => (∃ v', e = .returned v' ∧ EV w' (fun k => k < B) (.two .sub fa fb) v') ∧ NMk w' b vf k2 ∧ Only b w w' := by
 have C := H_ (fun o => Z2j free m b B vf Ta Tb ua ub p1 p2 xa xb k k1 k2 fa fb (w.alloc o) hB (hn.below (Z4 w o)) h1 h2 hk1 hk2 (K1.next (Only.of (Z4 w o))) (K2.next (Only.of (Z4 w o))))
 clear K1 K2 hn h1 h2
 go_enter func260, ntmps260
 go_wp2_with (go_at_call 253; go_must (refine (C.out _).mono ?_; rintro e w2 ⟨⟨S1, t1, S2, t2, rfl, hx1, hx2⟩, hN, hb2⟩))
 go_ret
 exact ⟨⟨_, rfl, _, _, rfl, hx1, hx2⟩, hN, (Only.of (Z4 w _)).trans hb2⟩
theorem map_mulP (free : List Nm) (m : List (Nm × Nm)) (b B : Nat) (vf : Value) (Ta Tb : TypeId) (ua ub p1 p2 : Value) (xa xb : Ex) (k k1 k2 : Nat) (fa fb : Ex) (w : World) (hB : B ≤ b) (hn : NMk w b vf k) (h1 : plE free m k xa = (fa, k1)) (h2 : plE free m k1 xb = (fb, k2)) (hk1 : k1 ≤ 200) (hk2 : k2 ≤ 200) (K1 : PkC free m b B vf w p1 p2 Ta ua xa) (K2 : PkC free m b B vf w p1 p2 Tb ub xb) :
 Calls prog 262 #[.agg #[.iface Ta ua, .iface Tb ub], .func (.func 185) #[] #[p1, p2]] w fun e w' => (∃ v', e = .returned v' ∧ EV w' (fun k => k < B) (.two .mul fa fb) v') ∧ NMk w' b vf k2 ∧ Only b w w' := by
 have C := H_ (fun o => Z2j free m b B vf Ta Tb ua ub p1 p2 xa xb k k1 k2 fa fb (w.alloc o) hB (hn.below (Z4 w o)) h1 h2 hk1 hk2 (K1.next (Only.of (Z4 w o))) (K2.next (Only.of (Z4 w o))))
 clear K1 K2 hn h1 h2
 go_enter func262, ntmps262
 go_wp2_with (go_at_call 253; go_must (refine (C.out _).mono ?_; rintro e w2 ⟨⟨S1, t1, S2, t2, rfl, hx1, hx2⟩, hN, hb2⟩))
 go_ret
 exact ⟨⟨_, rfl, _, _, rfl, hx1, hx2⟩, hN, (Only.of (Z4 w _)).trans hb2⟩
theorem map_callP (free : List Nm) (m : List (Nm × Nm)) (b B : Nat) (vf : Value) (Ta Tb : TypeId) (ua ub p1 p2 : Value) (xa xb : Ex) (k k1 k2 : Nat) (fa fb : Ex) (w : World) (hB : B ≤ b) (hn : NMk w b vf k) (h1 : plE free m k xa = (fa, k1)) (h2 : plE free m k1 xb = (fb, k2)) (hk1 : k1 ≤ 200) (hk2 : k2 ≤ 200) (K1 : PkC free m b B vf w p1 p2 Ta ua xa) (K2 : PkC free m b B vf w p1 p2 Tb ub xb) :
 Calls prog 267 #[.agg #[.iface Ta ua, .iface Tb ub], .func (.func 185) #[] #[p1, p2]] w fun e w' => (∃ v', e = .returned v' ∧ EV w' (fun k => k < B) (.two .call fa fb) v') ∧ NMk w' b vf k2 ∧ Only b w w' := by
 have C := H_ (fun o => Z2j free m b B vf Ta Tb ua ub p1 p2 xa xb k k1 k2 fa fb (w.alloc o) hB (hn.below (Z4 w o)) h1 h2 hk1 hk2 (K1.next (Only.of (Z4 w o))) (K2.next (Only.of (Z4 w o))))
 clear K1 K2 hn h1 h2
 go_enter func267, ntmps267
 go_wp2_with (go_at_call 253; go_must (refine (C.out _).mono ?_; rintro e w2 ⟨⟨S1, t1, S2, t2, rfl, hx1, hx2⟩, hN, hb2⟩))
 go_ret
 exact ⟨⟨_, rfl, _, _, rfl, hx1, hx2⟩, hN, (Only.of (Z4 w _)).trans hb2⟩
theorem map_pairP (free : List Nm) (m : List (Nm × Nm)) (b B : Nat) (vf : Value) (Ta Tb : TypeId) (ua ub p1 p2 : Value) (xa xb : Ex) (k k1 k2 : Nat) (fa fb : Ex) (w : World) (hB : B ≤ b) (hn : NMk w b vf k) (h1 : plE free m k xa = (fa, k1)) (h2 : plE free m k1 xb = (fb, k2)) (hk1 : k1 ≤ 200) (hk2 : k2 ≤ 200) (K1 : PkC free m b B vf w p1 p2 Ta ua xa) (K2 : PkC free m b B vf w p1 p2 Tb ub xb) :
 Calls prog 252 #[.agg #[.iface Ta ua, .iface Tb ub], .func (.func 185) #[] #[p1, p2]] w fun e w' => (∃ v', e = .returned v' ∧ EV w' (fun k => k < B) (.two .pair fa fb) v') ∧ NMk w' b vf k2 ∧ Only b w w' := by
 have C := H_ (fun o => Z2j free m b B vf Ta Tb ua ub p1 p2 xa xb k k1 k2 fa fb (w.alloc o) hB (hn.below (Z4 w o)) h1 h2 hk1 hk2 (K1.next (Only.of (Z4 w o))) (K2.next (Only.of (Z4 w o))))
 clear K1 K2 hn h1 h2
 go_enter func252, ntmps252
 go_wp2_with (go_at_call 253; go_must (refine (C.out _).mono ?_; rintro e w2 ⟨⟨S1, t1, S2, t2, rfl, hx1, hx2⟩, hN, hb2⟩))
 go_ret
 exact ⟨⟨_, rfl, _, _, rfl, hx1, hx2⟩, hN, (Only.of (Z4 w _)).trans hb2⟩
theorem map_fstP (free : List Nm) (m : List (Nm × Nm)) (b B : Nat) (vf : Value) (Ta : TypeId) (ua p1 p2 : Value) (xa : Ex) (k k1 : Nat) (fa : Ex) (w : World) (hB : B ≤ b) (hn : NMk w b vf k) (h1 : plE free m k xa = (fa, k1)) (hk1 : k1 ≤ 200) (K1 : PkC free m b B vf w p1 p2 Ta ua xa) :
 Calls prog 270 #[.agg #[.iface Ta ua], .func (.func 185) #[] #[p1, p2]] w fun e w' => (∃ v', e = .returned v' ∧ EV w' (fun k => k < B) (.one .fst fa) v') ∧ NMk w' b vf k1 ∧ Only b w w' := by
 have C := H_ (fun o => changed1P free m b B vf Ta ua p1 p2 xa k k1 fa (w.alloc o) hB (hn.below (Z4 w o)) h1 hk1 (K1.next (Only.of (Z4 w o))))
 clear K1 hn h1
 go_enter func270, ntmps270
 go_wp2_with (go_at_call 271; go_must (refine (C.out _).mono ?_; rintro e w2 ⟨⟨S1, t1, rfl, hx1⟩, hN, hb2⟩))
 go_ret
 exact ⟨⟨_, rfl, _, rfl, hx1⟩, hN, (Only.of (Z4 w _)).trans hb2⟩
theorem map_sndP (free : List Nm) (m : List (Nm × Nm)) (b B : Nat) (vf : Value) (Ta : TypeId) (ua p1 p2 : Value) (xa : Ex) (k k1 : Nat) (fa : Ex) (w : World) (hB : B ≤ b) (hn : NMk w b vf k) (h1 : plE free m k xa = (fa, k1)) (hk1 : k1 ≤ 200) (K1 : PkC free m b B vf w p1 p2 Ta ua xa) :
 Calls prog 273 #[.agg #[.iface Ta ua], .func (.func 185) #[] #[p1, p2]] w fun e w' => (∃ v', e = .returned v' ∧ EV w' (fun k => k < B) (.one .snd fa) v') ∧ NMk w' b vf k1 ∧ Only b w w' := by
 have C := H_ (fun o => changed1P free m b B vf Ta ua p1 p2 xa k k1 fa (w.alloc o) hB (hn.below (Z4 w o)) h1 hk1 (K1.next (Only.of (Z4 w o))))
 clear K1 hn h1
 go_enter func273, ntmps273
 go_wp2_with (go_at_call 271; go_must (refine (C.out _).mono ?_; rintro e w2 ⟨⟨S1, t1, rfl, hx1⟩, hN, hb2⟩))
 go_ret
 exact ⟨⟨_, rfl, _, rfl, hx1⟩, hN, (Only.of (Z4 w _)).trans hb2⟩
theorem map_ifP (free : List Nm) (m : List (Nm × Nm)) (b B : Nat) (vf : Value) (Ta Tb Tc : TypeId) (ua ub uc p1 p2 : Value) (xa xb xc : Ex) (k k1 k2 k3 : Nat) (fa fb fc : Ex) (w : World) (hB : B ≤ b) (hn : NMk w b vf k) (h1 : plE free m k xa = (fa, k1)) (h2 : plE free m k1 xb = (fb, k2)) (h3 : plE free m k2 xc = (fc, k3)) (hk1 : k1 ≤ 200) (hk2 : k2 ≤ 200) (hk3 : k3 ≤ 200) (K1 : PkC free m b B vf w p1 p2 Ta ua xa) (K2 : PkC free m b B vf w p1 p2 Tb ub xb) (K3 : PkC free m b B vf w p1 p2 Tc uc xc) :
 Calls prog 265 #[.agg #[.iface Ta ua, .iface Tb ub, .iface Tc uc], .func (.func 185) #[] #[p1, p2]] w fun e w' => (∃ v', e = .returned v' ∧ EV w' (fun k => k < B) (.cond fa fb fc) v') ∧ NMk w' b vf k3 ∧ Only b w w' := by
 have hbl := hn.lt
 have HN := H_ hn
 clear hn
 go_enter func265, ntmps265
 go_wp2_with fail
 generalize hwa : w.alloc (.cells #[.iface Ta ua, .iface Tb ub, .iface Tc uc] 159) = wa
 have hbw : Below w.heap.size w wa := by rw [← hwa]; exact Z4 _ _
 have ya : wa.heap[w.heap.size]? = some (.cells #[.iface Ta ua, .iface Tb ub, .iface Tc uc] 159 (0, 0)) := by rw [← hwa]; exact heap_alloc_new _ _
 have hNa := H_ (HN.out.below hbw)
 have C1 : Hid (∀ W, Only b wa W → NMk W b vf k → Calls prog 185 #[.iface Ta ua, p1, p2] W fun e w' => (∃ S t, e = .returned (.iface S t) ∧ EV w' (fun k => k < B) fa (.iface S t)) ∧ NMk w' b vf k1 ∧ Only b W w') := H_ (fun W hW hk => by have h := K1 W k ((Only.of hbw).trans hW) hk (by rw [h1]; exact hk1); rw [h1] at h; exact h)
 have C2 : Hid (∀ W, Only b wa W → NMk W b vf k1 → Calls prog 185 #[.iface Tb ub, p1, p2] W fun e w' => (∃ S t, e = .returned (.iface S t) ∧ EV w' (fun k => k < B) fb (.iface S t)) ∧ NMk w' b vf k2 ∧ Only b W w') := H_ (fun W hW hk => by have h := K2 W k1 ((Only.of hbw).trans hW) hk (by rw [h2]; exact hk2); rw [h2] at h; exact h)
 have C3 : Hid (∀ W, Only b wa W → NMk W b vf k2 → Calls prog 185 #[.iface Tc uc, p1, p2] W fun e w' => (∃ S t, e = .returned (.iface S t) ∧ EV w' (fun k => k < B) fc (.iface S t)) ∧ NMk w' b vf k3 ∧ Only b W w') := H_ (fun W hW hk => by have h := K3 W k2 ((Only.of hbw).trans hW) hk (by rw [h3]; exact hk3); rw [h3] at h; exact h)
 have hsz := hbw.size
 have HOw : Hid (Only b w wa) := H_ (Only.of hbw)
 have hBw : B ≤ wa.heap.size := by omega
 generalize hB0 : w.heap.size = B0 at *
 have hne0 : B0 ≠ b := by omega
 have KS : Hid (∀ W, Only b wa W → (fun W => W.cell? ⟨B0, 0, none⟩ = some (.iface Ta ua) ∧ W.cell? ⟨B0, 1, none⟩ = some (.iface Tb ub) ∧ W.cell? ⟨B0, 2, none⟩ = some (.iface Tc uc)) W) := H_ (fun W hW => by have q := hW.blk ya hne0; exact ⟨Z3 q, Z3 q, Z3 q⟩)
 clear hwa K1 K2 K3 h1 h2 h3 hk1 hk2 hk3 HN
 have hD0 : Only b wa wa.drew := (Only.refl b wa).drew
 have hN0 : NMk wa.drew b vf k := hNa.out.other rfl
 have S0 := H_ (KS.out _ hD0)
 first | (go_region_held_law (fun W => W.cell? ⟨B0, 0, none⟩ = some (.iface Ta ua) ∧ W.cell? ⟨B0, 1, none⟩ = some (.iface Tb ub) ∧ W.cell? ⟨B0, 2, none⟩ = some (.iface Tc uc)) (first | exact S0.out | assumption) (first | (go_at_call_of 185 (Value.iface Ta ua); (with_reducible refine (C1.out _ hD0 hN0).mono ?_); rintro e w2 ⟨⟨S1, t1, rfl, hx1⟩, hN1, hb1⟩; have h1 := Only.trans hD0 hb1; have hS1 := KS.out _ h1) | (go_at_call_of 185 (Value.iface Tb ub); (with_reducible refine (C2.out _ h1 hN1).mono ?_); rintro e w3 ⟨⟨S2, t2, rfl, hx2⟩, hN2, hb2⟩; have h2 := Only.trans h1 hb2; have hS2 := KS.out _ h2) | (go_at_call_of 185 (Value.iface Tc uc); (with_reducible refine (C3.out _ h2 hN2).mono ?_); rintro e w4 ⟨⟨S3, t3, rfl, hx3⟩, hN3, hb3⟩; have h3 := Only.trans h2 hb3; have hS3 := KS.out _ h3))) | fail
 all_goals
  go_wp2_with fail
  go_ret
  exact ⟨⟨_, rfl, _, _, _, rfl, hx1.onlyI hB (by have := h1.size; omega) (hb2.trans hb3), hx2.onlyI hB (by have := h2.size; omega) hb3, hx3⟩, hN3, HOw.out.trans h3⟩
end Go.Proofs.YtfknoigbkleanaaGreatDoor
