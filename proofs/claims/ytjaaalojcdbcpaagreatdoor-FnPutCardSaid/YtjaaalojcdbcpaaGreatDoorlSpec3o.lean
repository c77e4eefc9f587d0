/- The reference model's plainest expression of a type. -/
import Derived.Test.YtjaaalojcdbcpaaGreatDoorlSpec2sM
import Derived.Test.YtjaaalojcdbcpaaGreatDoorlS2dM
import Derived.Deep.RegionHeld3
set_option maxHeartbeats 20000000
set_option linter.unusedVariables false
set_option linter.unusedSimpArgs false
namespace Go.Proofs.YtjaaalojcdbcpaaGreatDoor
open Go.RowKit Go.Proofs.Tryz
set_option maxRecDepth 8000
theorem of_textP {x a b : Tr} (e : Z1 x = [42]) : (⟨#[40, 112, 97, 105, 114, 32]⟩ : ByteArray) ++ bs (Z0 (Qn a)).text ++ ⟨#[32]⟩ ++ bs (Z0 (Qn b)).text ++ ⟨#[41]⟩ = bs (Z0 (Qn (.list [x, a, b]))).text := by
 rw [Z1r, if_pos e, show (⟨#[40, 112, 97, 105, 114, 32]⟩ : ByteArray) = bs [40, 112, 97, 105, 114, 32] from rfl, show (⟨#[32]⟩ : ByteArray) = bs [32] from rfl, show (⟨#[41]⟩ : ByteArray) = bs [41] from rfl, Xl, Xl, Xl, Xl]
 simp [Z0, Tr.text, Xn, Z2h]
theorem of_textF {x a b : Tr} (e : ¬ Z1 x = [42]) : (⟨#[40, 102, 117, 110, 32, 102, 32, 120, 32]⟩ : ByteArray) ++ bs a.text ++ ⟨#[32]⟩ ++ bs b.text ++ ⟨#[32]⟩ ++ bs (Z0 (Qn b)).text ++ ⟨#[41]⟩ = bs (Z0 (Qn (.list [x, a, b]))).text := by
 rw [Z1r, if_neg e, show (⟨#[40, 102, 117, 110, 32, 102, 32, 120, 32]⟩ : ByteArray) = bs [40, 102, 117, 110, 32, 102, 32, 120, 32] from rfl, show (⟨#[32]⟩ : ByteArray) = bs [32] from rfl, show (⟨#[41]⟩ : ByteArray) = bs [41] from rfl, Xl, Xl, Xl, Xl, Xl, Xl]
 simp [Z0, Tr.text, Xn, Yt]
def OfS (n : Nat) : Prop := ∀ (t : Tr) (cs : List Value) (ok : Nat → Prop) (w : World), t.depth < n → X5 t = true → FV nS w ok t cs → (∀ k, ok k → k < w.heap.size) →
    Calls prog 160 #[.agg cs.toArray] w fun e w' => e = .returned (.string (bs (Z0 (Qn t)).text)) ∧ Below w.heap.size w w'
theorem l3Of_atom (a : List UInt8) (ha0 : a ≠ []) (w : World) : Calls prog 160 #[.agg #[.string (bs a), .slice none 0 0]] w fun e w' => e = .returned (.string (bs (Z0 (Qn (.atom a))).text)) ∧ Below w.heap.size w w' := by
 have HR := H_ (show bs (Z0 (Qn (.atom a))).text = ⟨#[48]⟩ by rw [Z1d, Z2x]; rfl)
 rw [HR.out]
 have ha := V7 ha0
 generalize bs a = A at *
 go_enter func160, ntmps160
 go_wp2_with fail
 go_ret
 exact ⟨rfl, Z5 _ _⟩
theorem l3Of_list (n : Nat) (ih : OfS n) (x a b : Tr) (r off c : Nat) (xs : List Value) (ok : Nat → Prop) (w : World) (hd : (Tr.list [x, a, b]).depth < n + 1) (hty : X5 (.list [x, a, b]) = true) (hx : Z1 x = [62] ∨ Z1 x = [42])
 (h2 : ok r) (h3 : 3 ≤ c) (h4 : c ≤ maxLen) (h5 : Yv w r off xs) (h6 : FVs nS w ok [x, a, b] xs) (hok : ∀ k, ok k → k < w.heap.size) :
 Calls prog 160 #[.agg #[.string (bs []), .slice (some ⟨r, off, none⟩) 3 c]] w fun e w' => e = .returned (.string (bs (Z0 (Qn (.list [x, a, b]))).text)) ∧ Below w.heap.size w w' := by
 have hrlt := hok r h2
 have hm := Yl h4
 have hdd := Z1t x a b
 have hemp := Jl
 obtain ⟨⟨p0, n0, q0, v0, r0⟩, ⟨p1, n1, q1, v1, r1⟩, ⟨p2, n2, q2, v2, r2⟩⟩ := FVs.three Jn h6 h5
 have e0 : w.cell? ⟨r, off, none⟩ = some (.string (bs (Z1 x))) := r0 0 _ rfl
 have E1 : w.cell? ⟨r, off + 2, none⟩ = some (.string (bs (Z1 a))) := r1 0 _ rfl
 have E2 : w.cell? ⟨r, off + 2 + 1, none⟩ = some (.slice p1 n1 q1) := r1 1 _ rfl
 have E3 : w.cell? ⟨r, off + 4, none⟩ = some (.string (bs (Z1 b))) := r2 0 _ rfl
 have E4 : w.cell? ⟨r, off + 4 + 1, none⟩ = some (.slice p2 n2 q2) := r2 1 _ rfl
 obtain ⟨sa, hsa⟩ : ∃ s, s = bs (Z1 a) := ⟨_, rfl⟩
 obtain ⟨sb, hsb⟩ : ∃ s, s = bs (Z1 b) := ⟨_, rfl⟩
 rw [← hsa] at E1
 rw [← hsb] at E3
 have hab : X5 a = true ∧ X5 b = true := by
  rcases hx with e | e
  · exact Z1h hty (Z5r e)
  · exact Z1h hty (Z5r e)
 have ka := Jp hab.1
 have kb := Jp hab.2
 have TA : Hid (∀ W, Below w.heap.size w W → Calls prog 31 #[.agg #[.string sa, .slice p1 n1 q1]] W fun e w' => e = .returned (.string (bs a.text)) ∧ Below W.heap.size W w') := H_ (fun W hW => by rw [hsa]; exact Z0k (a.depth + 1) a (nS a (.slice p1 n1 q1)) ok W (by omega) ka.1 (by omega) (v1.below hW hok) (fun k hk => Nat.lt_of_lt_of_le (hok k hk) hW.size))
 have TB : Hid (∀ W, Below w.heap.size w W → Calls prog 31 #[.agg #[.string sb, .slice p2 n2 q2]] W fun e w' => e = .returned (.string (bs b.text)) ∧ Below W.heap.size W w') := H_ (fun W hW => by rw [hsb]; exact Z0k (b.depth + 1) b (nS b (.slice p2 n2 q2)) ok W (by omega) kb.1 (by omega) (v2.below hW hok) (fun k hk => Nat.lt_of_lt_of_le (hok k hk) hW.size))
 have OA : Hid (∀ W, Below w.heap.size w W → Calls prog 160 #[.agg #[.string sa, .slice p1 n1 q1]] W fun e w' => e = .returned (.string (bs (Z0 (Qn a)).text)) ∧ Below W.heap.size W w') := H_ (fun W hW => by rw [hsa]; exact ih a (nS a (.slice p1 n1 q1)) ok W (by omega) hab.1 (v1.below hW hok) (fun k hk => Nat.lt_of_lt_of_le (hok k hk) hW.size))
 have OB : Hid (∀ W, Below w.heap.size w W → Calls prog 160 #[.agg #[.string sb, .slice p2 n2 q2]] W fun e w' => e = .returned (.string (bs (Z0 (Qn b)).text)) ∧ Below W.heap.size W w') := H_ (fun W hW => by rw [hsb]; exact ih b (nS b (.slice p2 n2 q2)) ok W (by omega) hab.2 (v2.below hW hok) (fun k hk => Nat.lt_of_lt_of_le (hok k hk) hW.size))
 have hsl : Below w.heap.size w (w.alloc (.cells #[.string (bs []), .slice (some ⟨r, off, none⟩) 3 c] 47)) := Z5 _ _
 have X0 := heap_alloc_new w (.cells #[.string (bs []), .slice (some ⟨r, off, none⟩) 3 c] 47)
 have D0 := H_ e0
 have D1 := H_ E1
 have D2 := H_ E2
 have D3 := H_ E3
 have D4 := H_ E4
 by_cases hm42 : Z1 x = [42]
 · have HR := H_ (of_textP (a := a) (b := b) hm42)
   have oa := Z1s a.depth a (Nat.le_refl _) hab.1
   have ob := Z1s b.depth b (Nat.le_refl _) hab.2
   have la : (bs (Z0 (Qn a)).text).size ≤ 1600 := by rw [Y0, Y4 _ oa.wf]; have := oa.bytes; have := ka.2.2.2.1; omega
   have lb2 : (bs (Z0 (Qn b)).text).size ≤ 1600 := by rw [Y0, Y4 _ ob.wf]; have := ob.bytes; have := kb.2.2.2.1; omega
   clear oa ob
   rw [← HR.out]
   have hy2 : ((bs (Z1 x)).toList == [42]) = true := by rw [Z9]; simpa using hm42
   have hy3 : (bs (Z1 x)).toList = [42] := by rw [Z9]; exact hm42
   generalize bs (Z0 (Qn a)).text = ta at *
   generalize bs (Z0 (Qn b)).text = tb at *
   generalize bs (Z1 x) = sx at *
   clear HR hm42 hty hx h5 h6 ih v0 v1 v2 r0 r1 r2 hab ka kb hsa hsb TA TB hd hdd E1 E2 E3 E4
   go_enter func160, ntmps160
   go_wp2_with fail
   generalize hw1 : w.alloc (.cells #[.string (bs []), .slice (some ⟨r, off, none⟩) 3 c] 47) = w1 at *
   have lr : r < w1.heap.size := Nat.lt_of_lt_of_le hrlt hsl.size
   have e1 := (hsl.cell (p := ⟨r, off + 2, none⟩) hrlt).trans D1.out
   have e2 := (hsl.cell (p := ⟨r, off + 2 + 1, none⟩) hrlt).trans D2.out
   have e3 := (hsl.cell (p := ⟨r, off + 4, none⟩) hrlt).trans D3.out
   have e4 := (hsl.cell (p := ⟨r, off + 4 + 1, none⟩) hrlt).trans D4.out
   have lb := lt_of_block X0
   have HSL := H_ hsl
   clear hw1 hsl e0
   have gq1 : ¬ (9223372036854775807 : Nat) < 6 + ta.size := by omega
   have gq2 : ¬ (9223372036854775807 : Nat) < 6 + ta.size + 1 := by omega
   have gq3 : ¬ (9223372036854775807 : Nat) < 6 + ta.size + 1 + tb.size := by omega
   have gq4 : ¬ (9223372036854775807 : Nat) < 6 + ta.size + 1 + tb.size + 1 := by omega
   have K : Hid (∀ W, Below w1.heap.size w1 W → (fun W => Below w1.heap.size w1 W ∧ W.cell? ⟨w.heap.size, 1, none⟩ = some (.slice (some ⟨r, off, none⟩) 3 c) ∧ (W.cell? ⟨r, off + 2, none⟩ = some (.string sa) ∧ W.cell? ⟨r, off + 2 + 1, none⟩ = some (.slice p1 n1 q1)) ∧ (W.cell? ⟨r, off + 4, none⟩ = some (.string sb) ∧ W.cell? ⟨r, off + 4 + 1, none⟩ = some (.slice p2 n2 q2))) W) := H_ (fun W hW => ⟨hW, (hW.cell (p := ⟨w.heap.size, 1, none⟩) lb).trans (Z4 (j := 1) X0), ⟨(hW.cell (p := ⟨r, off + 2, none⟩) lr).trans e1, (hW.cell (p := ⟨r, off + 2 + 1, none⟩) lr).trans e2⟩, (hW.cell (p := ⟨r, off + 4, none⟩) lr).trans e3, (hW.cell (p := ⟨r, off + 4 + 1, none⟩) lr).trans e4⟩)
   have S0 := H_ (K.out _ ((Below.refl _ _).drew))
   clear X0 e1 e2 e3 e4
   go_region_held3 (fun W => Below w1.heap.size w1 W ∧ W.cell? ⟨w.heap.size, 1, none⟩ = some (.slice (some ⟨r, off, none⟩) 3 c) ∧ (W.cell? ⟨r, off + 2, none⟩ = some (.string sa) ∧ W.cell? ⟨r, off + 2 + 1, none⟩ = some (.slice p1 n1 q1)) ∧ (W.cell? ⟨r, off + 4, none⟩ = some (.string sb) ∧ W.cell? ⟨r, off + 4 + 1, none⟩ = some (.slice p2 n2 q2))) (first | exact S0.out | assumption | fail) (first | (go_at_call 160; have hh := And.left (by assumption : Below w1.heap.size w1 _ ∧ _); first | ((with_reducible refine (OA.out _ (HSL.out.trans (hh.mono HSL.out.size))).mono ?_); rintro e w7 ⟨rfl, hb7⟩; have hB7 := hh.trans (hb7.mono hh.size); have hS7 := K.out _ hB7) | ((with_reducible refine (OB.out _ (HSL.out.trans (hh.mono HSL.out.size))).mono ?_); rintro e w9 ⟨rfl, hb9⟩; have hB9 := hh.trans (hb9.mono hh.size); have hS9 := K.out _ hB9)) | fail)
   all_goals
    go_wp2_with fail
    go_ret
    exact ⟨rfl, HSL.out.trans (hB9.mono HSL.out.size)⟩
 · have HR := H_ (of_textF (a := a) (b := b) hm42)
   have ob := Z1s b.depth b (Nat.le_refl _) hab.2
   have la : (bs a.text).size ≤ 1600 := by rw [Y0, Y4 _ ka.1]; have := ka.2.1; omega
   have lb1 : (bs b.text).size ≤ 1600 := by rw [Y0, Y4 _ kb.1]; have := kb.2.1; omega
   have lb2 : (bs (Z0 (Qn b)).text).size ≤ 1600 := by rw [Y0, Y4 _ ob.wf]; have := ob.bytes; have := kb.2.2.2.1; omega
   clear ob
   rw [← HR.out]
   have hy2 : ((bs (Z1 x)).toList == [42]) = false := by rw [Z9]; simpa using hm42
   have hy3 : ¬ (bs (Z1 x)).toList = [42] := by rw [Z9]; exact hm42
   generalize bs a.text = xa at *
   generalize bs b.text = xb at *
   generalize bs (Z0 (Qn b)).text = tb at *
   generalize bs (Z1 x) = sx at *
   clear HR hm42 hty hx h5 h6 ih v0 v1 v2 r0 r1 r2 hab ka kb hsa hsb OA hd hdd E1 E2 E3 E4
   go_enter func160, ntmps160
   go_wp2_with fail
   generalize hw1 : w.alloc (.cells #[.string (bs []), .slice (some ⟨r, off, none⟩) 3 c] 47) = w1 at *
   have lr : r < w1.heap.size := Nat.lt_of_lt_of_le hrlt hsl.size
   have e1 := (hsl.cell (p := ⟨r, off + 2, none⟩) hrlt).trans D1.out
   have e2 := (hsl.cell (p := ⟨r, off + 2 + 1, none⟩) hrlt).trans D2.out
   have e3 := (hsl.cell (p := ⟨r, off + 4, none⟩) hrlt).trans D3.out
   have e4 := (hsl.cell (p := ⟨r, off + 4 + 1, none⟩) hrlt).trans D4.out
   have lb := lt_of_block X0
   have HSL := H_ hsl
   clear hw1 hsl e0
   have gq1 : ¬ (9223372036854775807 : Nat) < 9 + xa.size := by omega
   have gq2 : ¬ (9223372036854775807 : Nat) < 9 + xa.size + 1 := by omega
   have gq3 : ¬ (9223372036854775807 : Nat) < 9 + xa.size + 1 + xb.size := by omega
   have gq4 : ¬ (9223372036854775807 : Nat) < 9 + xa.size + 1 + xb.size + 1 := by omega
   have gq5 : ¬ (9223372036854775807 : Nat) < 9 + xa.size + 1 + xb.size + 1 + tb.size := by omega
   have gq6 : ¬ (9223372036854775807 : Nat) < 9 + xa.size + 1 + xb.size + 1 + tb.size + 1 := by omega
   have K : Hid (∀ W, Below w1.heap.size w1 W → (fun W => Below w1.heap.size w1 W ∧ W.cell? ⟨w.heap.size, 1, none⟩ = some (.slice (some ⟨r, off, none⟩) 3 c) ∧ (W.cell? ⟨r, off + 2, none⟩ = some (.string sa) ∧ W.cell? ⟨r, off + 2 + 1, none⟩ = some (.slice p1 n1 q1)) ∧ (W.cell? ⟨r, off + 4, none⟩ = some (.string sb) ∧ W.cell? ⟨r, off + 4 + 1, none⟩ = some (.slice p2 n2 q2))) W) := H_ (fun W hW => ⟨hW, (hW.cell (p := ⟨w.heap.size, 1, none⟩) lb).trans (Z4 (j := 1) X0), ⟨(hW.cell (p := ⟨r, off + 2, none⟩) lr).trans e1, (hW.cell (p := ⟨r, off + 2 + 1, none⟩) lr).trans e2⟩, (hW.cell (p := ⟨r, off + 4, none⟩) lr).trans e3, (hW.cell (p := ⟨r, off + 4 + 1, none⟩) lr).trans e4⟩)
   have S0 := H_ (K.out _ ((Below.refl _ _).drew))
   clear X0 e1 e2 e3 e4
   go_region_held3 (fun W => Below w1.heap.size w1 W ∧ W.cell? ⟨w.heap.size, 1, none⟩ = some (.slice (some ⟨r, off, none⟩) 3 c) ∧ (W.cell? ⟨r, off + 2, none⟩ = some (.string sa) ∧ W.cell? ⟨r, off + 2 + 1, none⟩ = some (.slice p1 n1 q1)) ∧ (W.cell? ⟨r, off + 4, none⟩ = some (.string sb) ∧ W.cell? ⟨r, off + 4 + 1, none⟩ = some (.slice p2 n2 q2))) (first | exact S0.out | assumption | fail) (first | (go_at_call 31; have hh := And.left (by assumption : Below w1.heap.size w1 _ ∧ _); first | ((with_reducible refine (TA.out _ (HSL.out.trans (hh.mono HSL.out.size))).mono ?_); rintro e w6 ⟨rfl, hb6⟩; have hB6 := hh.trans (hb6.mono hh.size); have hS6 := K.out _ hB6) | ((with_reducible refine (TB.out _ (HSL.out.trans (hh.mono HSL.out.size))).mono ?_); rintro e w7 ⟨rfl, hb7⟩; have hB7 := hh.trans (hb7.mono hh.size); have hS7 := K.out _ hB7)) | (go_at_call 160; have hh := And.left (by assumption : Below w1.heap.size w1 _ ∧ _); (with_reducible refine (OB.out _ (HSL.out.trans (hh.mono HSL.out.size))).mono ?_); rintro e w9 ⟨rfl, hb9⟩; have hB9 := hh.trans (hb9.mono hh.size); have hS9 := K.out _ hB9) | fail)
   all_goals
    go_wp2_with fail
    go_ret
    exact ⟨rfl, HSL.out.trans (hB9.mono HSL.out.size)⟩
theorem l3Of_all : ∀ n, OfS n
 | 0 => fun t _ _ _ h => by omega
 | n + 1 => fun t cs ok w hd hty hv hok => by
   match t, hd, hty, hv with
   | .atom a, _, hty, hv =>
     simp only [FV] at hv
     subst hv
     exact l3Of_atom a (Jp hty).1.1 w
   | .list ts, hd, hty, hv =>
     obtain ⟨x, a, b, rfl, hx, -⟩ := Z0d (Kt hty).1
     obtain ⟨r, off, c, xs, rfl, h2, h3, h4, h5, h6⟩ := hv.list_cells
     exact l3Of_list n (l3Of_all n) x a b r off c xs ok w hd hty hx h2 h3 h4 h5 h6 hok
theorem specExprOf_c (s : ByteArray) (hs : s.size ≤ 1048576) (w : World) :
 Calls prog 138 #[.string s] w fun e w' => Z03 (ofTx s.data.toList) e ∧ Below w.heap.size w w' := by
 cases hp : Zt s.data.toList with
 | none =>
   have C := H_ (Z1n hs hp)
   have HR := H_ (Z5c (Z5u hp))
   clear hp
   go_enter func138, ntmps138
   go_wp2_with (go_at_call 64; go_must (refine (C.out _).mono ?_; rintro e w1 ⟨⟨a, p, m, c, rfl, hnl⟩, hb1⟩))
   go_ret2
   exact ⟨by rw [HR.out]; rfl, hb1.alloc hb1.size _⟩
 | some t =>
   have C := H_ (Je hs hp)
   have hg := Yk hp
   have hrt := Z5t hp
   have CY : Hid (∀ (W : World) p m c, FV nS W (fun k => k < W.heap.size) t (nS t (.slice p m c)) → Calls prog 109 #[.agg #[.string (bs (Z1 t)), .slice p m c]] W fun e w' => e = .returned (.bool (Q1 t && decide (t.size ≤ 16))) ∧ Below W.heap.size W w') := H_ (fun W p m c k => Z37 t p m c _ W hg.1 (by have := hg.2; omega) k (fun _ h => h))
   cases hty : (Q1 t && decide (t.size ≤ 16)) with
   | false =>
     rw [hty] at CY hrt
     have HR := H_ (Z5c (by rw [hrt]; rfl))
     generalize bs (Z1 t) = A at *
     clear hp hg hty hrt
     go_enter func138, ntmps138
     go_wp2_with (first | (go_at_call 64; go_must (refine (C.out _).mono ?_; rintro e w1 ⟨⟨p, m, c, rfl, hv⟩, hb1⟩; have V1 := H_ ((hv.below (Z5 w1 (.cells #[.string A, .slice p m c] 47)) (fun k hk => hk.2)).wide (ok' := fun q => q < (w1.alloc (.cells #[.string A, .slice p m c] 47)).heap.size) (fun k hk => by simp; omega)); clear hv)) | (go_at_call 109; go_must (refine (CY.out _ _ _ _ V1.out).mono ?_; rintro e w2 ⟨rfl, hb2⟩)))
     go_ret2
     exact ⟨by rw [HR.out]; rfl, (X9 (X9 (Xm hb1) (Z5 _ _)) hb2).1⟩
   | true =>
     rw [hty] at CY hrt
     have hL : X5 t = true := hty
     have hok := Z1s t.depth t (Nat.le_refl _) hL
     have hsz := (Kt hL).2
     have hby := hok.bytes
     have htl := Y4 _ hok.wf
     have hlv := Z7h hok.wf hok.good
     have hof := ofTx_some (l := s.data.toList) (t := t) (by rw [hrt]; rfl)
     have CO : Hid (∀ (W : World) p m c, FV nS W (fun k => k < W.heap.size) t (nS t (.slice p m c)) → Calls prog 160 #[.agg #[.string (bs (Z1 t)), .slice p m c]] W fun e w' => e = .returned (.string (bs (Z0 (Qn t)).text)) ∧ Below W.heap.size W w') := H_ (fun W p m c k => l3Of_all (t.depth + 1) t (nS t (.slice p m c)) _ W (by omega) hL k (fun _ h => h))
     have CV : Hid (∀ W, Calls prog 56 #[.string (bs (Z0 (Qn t)).text)] W fun e w' => e = .returned (.bool (Xv (Z0 (Qn t)).text).isSome) ∧ Below W.heap.size W w') := H_ (fun W => by
      have h := Kf (bs (Z0 (Qn t)).text) (by rw [Y0]; omega) W
      rw [K4] at h
      exact h)
     rw [hlv] at hof
     generalize (Z0 (Qn t)).text = X at *
     obtain ⟨A, hA⟩ : ∃ A, A = bs (Z1 t) := ⟨_, rfl⟩
     rw [← hA] at C CY CO
     cases hz : (Xv X).isSome with
     | false =>
       rw [hz] at CV hof
       have HR := H_ (show ofTx s.data.toList = none by rw [hof]; rfl)
       generalize bs X = BX at *
       clear hp hg hty hrt hL hok hsz hby htl hlv hof hz hA
       go_enter func138, ntmps138
       go_wp2_with (first | (go_at_call 64; go_must (refine (C.out _).mono ?_; rintro e w1 ⟨⟨p, m, c, rfl, hv⟩, hb1⟩; have V1 := H_ ((hv.below (Z5 w1 (.cells #[.string A, .slice p m c] 47)) (fun k hk => hk.2)).wide (ok' := fun q => q < (w1.alloc (.cells #[.string A, .slice p m c] 47)).heap.size) (fun k hk => by simp; omega)); have y1 := heap_alloc_new w1 (.cells #[.string A, .slice p m c] 47); clear hv)) | (go_at_call 109; go_must (refine (CY.out _ _ _ _ V1.out).mono ?_; rintro e w2 ⟨rfl, hb2⟩; have y2 := Z2 hb2 (lt_of_block y1) y1; obtain ⟨c20, c21⟩ := Zh y2; have V2 := H_ (V1.out.below hb2 (fun _ h => h) |>.wide (ok' := fun q => q < w2.heap.size) (fun k hk => Nat.lt_of_lt_of_le hk hb2.size)))) | (go_at_call 160; go_must (refine (CO.out _ _ _ _ V2.out).mono ?_; rintro e w3 ⟨rfl, hb3⟩)) | (go_at_call 56; go_must (refine (CV.out _).mono ?_; rintro e w4 ⟨rfl, hb4⟩)))
       go_ret2
       exact ⟨by rw [HR.out]; rfl, (X9 (X9 (X9 (X9 (Xm hb1) (Z5 _ _)) hb2) hb3) hb4).1⟩
     | true =>
       rw [hz] at CV hof
       have HR := H_ (show ofTx s.data.toList = some X by rw [hof]; rfl)
       obtain ⟨BX, hBX⟩ : ∃ B, B = bs X := ⟨_, rfl⟩
       rw [← hBX] at CV CO
       have HBX := H_ hBX
       clear hp hg hty hrt hL hok hsz hby htl hlv hof hz hA hBX
       go_enter func138, ntmps138
       go_wp2_with (first | (go_at_call 64; go_must (refine (C.out _).mono ?_; rintro e w1 ⟨⟨p, m, c, rfl, hv⟩, hb1⟩; have V1 := H_ ((hv.below (Z5 w1 (.cells #[.string A, .slice p m c] 47)) (fun k hk => hk.2)).wide (ok' := fun q => q < (w1.alloc (.cells #[.string A, .slice p m c] 47)).heap.size) (fun k hk => by simp; omega)); have y1 := heap_alloc_new w1 (.cells #[.string A, .slice p m c] 47); have tok : True := trivial; clear hv)) | (go_at_call 109; go_must (refine (CY.out _ _ _ _ V1.out).mono ?_; rintro e w2 ⟨rfl, hb2⟩; have y2 := Z2 hb2 (lt_of_block y1) y1; obtain ⟨c20, c21⟩ := Zh y2; have V2 := H_ (V1.out.below hb2 (fun _ h => h) |>.wide (ok' := fun q => q < w2.heap.size) (fun k hk => Nat.lt_of_lt_of_le hk hb2.size)))) | (go_at_call 160; first | (clear tok; refine (CO.out _ _ _ _ V2.out).mono ?_; rintro e w3 ⟨rfl, hb3⟩; have V3 := H_ (V2.out.below hb3 (fun _ h => h) |>.wide (ok' := fun q => q < w3.heap.size) (fun k hk => Nat.lt_of_lt_of_le hk hb3.size))) | (refine (CO.out _ _ _ _ V4.out).mono ?_; rintro e w5 ⟨rfl, hb5⟩)) | (go_at_call 56; go_must (refine (CV.out _).mono ?_; rintro e w4 ⟨rfl, hb4⟩; have y4 := Z2 hb4 (by have := hb3.size; have := lt_of_block y2; omega) (Z2 hb3 (lt_of_block y2) y2); obtain ⟨c40, c41⟩ := Zh y4; have V4 := H_ (V3.out.below hb4 (fun _ h => h) |>.wide (ok' := fun q => q < w4.heap.size) (fun k hk => Nat.lt_of_lt_of_le hk hb4.size)))))
       go_ret2
       exact ⟨by rw [HR.out, HBX.out]; rfl, (X9 (X9 (X9 (X9 (X9 (Xm hb1) (Z5 _ _)) hb2) hb3) hb4) hb5).1⟩
end Go.Proofs.YtjaaalojcdbcpaaGreatDoor
