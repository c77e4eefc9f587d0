/- An expression with a closed one put for a name is an expression again, and its text is read as it if it keeps the limits. The plain mathematics of ExprOf: the plainest expression of a type. The reference model's plainest expression of a type. What has the type of a name can be put for it: the plain mathematics of the law FnSubstitute. -/
import Derived.Test.YtmgepnacjgbfhaaGreatDoorsSpec3hM
import Derived.Test.YtmgepnacjgbfhaaGreatDoorsPureT
import Derived.Test.YtmgepnacjgbfhaaGreatDoorsS2dM
import Derived.Deep.RegionHeld3
import Derived.Test.YtmgepnacjgbfhaaGreatDoorsPureAM
import Derived.Test.YtmgepnacjgbfhaaGreatDoorsSpec2hM
namespace Go.Proofs.YtmgepnacjgbfhaaGreatDoor
open Go.RowKit Go.Proofs.Tryz
set_option maxRecDepth 8000
set_option maxHeartbeats 20000000
set_option linter.unusedVariables false
set_option linter.unusedSimpArgs false
theorem J9 {name : Nm} {b : Ex} (hb : Yg (Z3 b) = some b) : ∀ x : Ex, Yg (Z3 x) = some x → Yg (Z3 (Yq name b x)) = some (Yq name b x)
 | .name s, h => by simp only [Yq]; split; exact hb; exact h
 | .num n, h => h
 | .two o x y, h => by
   have h := (Z42 o x y).1 h
   exact (Z42 o _ _).2 ⟨J9 hb x h.1, J9 hb y h.2⟩
 | .one o x, h => (Z77 o _).2 (J9 hb x ((Z77 o x).1 h))
 | .cond x y z, h => by
   have h := (Z4u x y z).1 h
   exact (Z4u _ _ _).2 ⟨J9 hb x h.1, J9 hb y h.2.1, J9 hb z h.2.2⟩
 | .lete s x y, h => by
   have h := (Z4t s x y).1 h
   refine (Z4t s _ _).2 ⟨h.1, J9 hb x h.2.1, ?_⟩
   split; exact h.2.2; exact J9 hb y h.2.2
 | .func f a A B x, h => by
   have h := (Z2k f a A B x).1 h
   refine (Z2k f a A B _).2 ⟨h.1, ?_⟩
   split; exact h.2; exact J9 hb x h.2
theorem limT_valid {X : Ex} (hw : (Z3 X).wf) (hg : Yg (Z3 X) = some X) : Vw (Z3 X) = if (Qg (Z3 X).text).isSome then some (Z3 X).text else none := by
 have hi : Jo (Z3 X) = true := by simp [Jo, hg]
 unfold Vw
 by_cases h1 : (Z3 X).bytes ≤ 12000 ∧ (Z3 X).depth ≤ 60
 · have hp := Jz hw h1.1 h1.2
   by_cases h2 : (Z3 X).size ≤ 120
   · rw [Z1n hp hi h2]; simp [h1, h2]
   · rw [Z1p hp h2]; simp [h2]
 · have hp := Z1c hw h1
   rw [Z1o hp]
   rw [if_neg (fun h => h1 h.2)]; simp
def Ys : Tr → Ex
 | .list [x, a, b] => if Z0 x = [42] then .two .pair (Ys a) (Ys b) else .func [102] [120] a b (Ys b)
 | _ => .num 0
theorem Kd (a : List UInt8) : Ys (.atom a) = .num 0 := by simp [Ys]
theorem J8 (x a b : Tr) : Ys (.list [x, a, b]) = if Z0 x = [42] then .two .pair (Ys a) (Ys b) else .func [102] [120] a b (Ys b) := by rw [Ys]
theorem Z2c : Z3 (.num 0) = .atom [48] := by simp [Z3, Lib.itoa, dd1]
structure OfOK (t : Tr) : Prop where
 wf : (Z3 (Ys t)).wf
 bytes : (Z3 (Ys t)).bytes ≤ 100 * t.size
 ok : Jp (Ys t)
 good : Yg (Z3 (Ys t)) = some (Ys t)
theorem Vh : ∀ (n : Nat) (t : Tr), t.depth ≤ n → Zn t = true → OfOK t
 | _, .atom a, _, h => by
   refine ⟨?_, ?_, ?_, ?_⟩
   · rw [Kd, Z2c]; exact ⟨by simp, by decide⟩
   · rw [Kd, Z2c]; simp [Tr.bytes, Tr.size]
   · rw [Kd]; simp [Jp]
   · rw [Kd, Z2c]; simp [Yg, Qs, Qx]
 | 0, .list ts, hd, h => by
   obtain ⟨x, a, b, rfl, -⟩ := Q3 (Zw h).1
   have := Jv x a b
   omega
 | n + 1, .list ts, hd, h => by
   obtain ⟨x, a, b, rfl, hx, -⟩ := Q3 (Zw h).1
   have hdd := Jv x a b
   have hsz := (Zw h).2
   have hxc : Z0 x = [42] ∨ (¬ Z0 x = [42] ∧ Z0 x = [62]) := by
    rcases hx with hx | hx
    · exact .inr ⟨by rw [hx]; decide, hx⟩
    · exact .inl hx
   have hab : Zn a = true ∧ Zn b = true := by
    rcases hxc with e | ⟨_, e⟩
    · exact Xk (c := 42) h (by simp [Zy, e])
    · exact Xk (c := 62) h (by simp [Zy, e])
   have hsz2 : (Tr.list [x, a, b]).size = x.size + (a.size + (b.size + 0)) := by simp only [Tr.size, Xo]
   have hx1 : 1 ≤ x.size := by
    cases x with
    | atom y => simp [Tr.size]
    | list l => rcases hx with hx | hx <;> cases hx
   have kb := Vh n b (by omega) hab.2
   have sa := Ze hab.1
   have sb := Ze hab.2
   rw [hsz2] at hsz
   rcases hxc with e | ⟨e, e2⟩
   · have ka := Vh n a (by omega) hab.1
     have he : Ys (.list [x, a, b]) = .two .pair (Ys a) (Ys b) := by rw [J8, if_pos e]
     refine ⟨?_, ?_, ?_, ?_⟩
     · rw [he]; simp only [Z3, Tr.wf, wfs]; exact ⟨by simp, ⟨by decide, by decide⟩, ka.wf, kb.wf, trivial⟩
     · rw [he, hsz2]
       have h1 := ka.bytes
       have h2 := kb.bytes
       have h3 : (Z3d .pair).length = 4 := rfl
       simp only [Z3, Tr.bytes, Zq]; omega
     · rw [he]; exact ⟨ka.ok, kb.ok⟩
     · rw [he]; exact (Z42 _ _ _).2 ⟨ka.good, kb.good⟩
   · have he : Ys (.list [x, a, b]) = .func [102] [120] a b (Ys b) := by rw [J8, if_neg e]
     refine ⟨?_, ?_, ?_, ?_⟩
     · rw [he]; simp only [Z3, Tr.wf, wfs]; exact ⟨by simp, ⟨by decide, by decide⟩, ⟨by decide, by decide⟩, ⟨by decide, by decide⟩, sa.1, sb.1, kb.wf, trivial⟩
     · rw [he, hsz2]
       have h2 := kb.bytes
       have h3 : Qh.length = 3 := rfl
       have h4 := sa.2.1
       have h5 := sb.2.1
       have h6 := (K5 _ _ (Nat.le_refl _) sa.2.2.2.2).1
       have h7 := (K5 _ _ (Nat.le_refl _) sb.2.2.2.2).1
       simp only [Z3, Tr.bytes, Zq, List.length_cons, List.length_nil]; omega
     · rw [he]; exact ⟨by decide, by decide, kb.ok⟩
     · rw [he]; exact (Z2k _ _ _ _ _).2 ⟨by rw [hab.1, hab.2]; decide, kb.good⟩
def Z5x (l : List UInt8) : Option (List UInt8) := (Y3 l).bind (fun t => Vw (Z3 (Ys t)))
theorem Z2h {l : List UInt8} (h : Y3 l = none) : Z5x l = none := by simp [Z5x, h]
theorem Z2g {l : List UInt8} {t : Tr} (h : Y3 l = some t) : Z5x l = Vw (Z3 (Ys t)) := by simp [Z5x, h]
theorem readTy_L {l : List UInt8} {t : Tr} (h : Y3 l = some t) : Zn t = true := by
 obtain ⟨_, _, _, _, h1, h2⟩ := Qn h
 simp [Zn, h1, h2]
theorem of_textP {x a b : Tr} (e : Z0 x = [42]) : (⟨#[40, 112, 97, 105, 114, 32]⟩ : ByteArray) ++ bs (Z3 (Ys a)).text ++ ⟨#[32]⟩ ++ bs (Z3 (Ys b)).text ++ ⟨#[41]⟩ = bs (Z3 (Ys (.list [x, a, b]))).text := by
 rw [J8, if_pos e, show (⟨#[40, 112, 97, 105, 114, 32]⟩ : ByteArray) = bs [40, 112, 97, 105, 114, 32] from rfl, show (⟨#[32]⟩ : ByteArray) = bs [32] from rfl, show (⟨#[41]⟩ : ByteArray) = bs [41] from rfl, Xr, Xr, Xr, Xr]
 simp [Z3, Tr.text, Xj, Z3d]
theorem of_textF {x a b : Tr} (e : ¬ Z0 x = [42]) : (⟨#[40, 102, 117, 110, 32, 102, 32, 120, 32]⟩ : ByteArray) ++ bs a.text ++ ⟨#[32]⟩ ++ bs b.text ++ ⟨#[32]⟩ ++ bs (Z3 (Ys b)).text ++ ⟨#[41]⟩ = bs (Z3 (Ys (.list [x, a, b]))).text := by
 rw [J8, if_neg e, show (⟨#[40, 102, 117, 110, 32, 102, 32, 120, 32]⟩ : ByteArray) = bs [40, 102, 117, 110, 32, 102, 32, 120, 32] from rfl, show (⟨#[32]⟩ : ByteArray) = bs [32] from rfl, show (⟨#[41]⟩ : ByteArray) = bs [41] from rfl, Xr, Xr, Xr, Xr, Xr, Xr]
 simp [Z3, Tr.text, Xj, Qh]
def OfS (n : Nat) : Prop := ∀ (t : Tr) (cs : List Value) (ok : Nat → Prop) (w : World), t.depth < n → Zn t = true → FV nS w ok t cs → (∀ k, ok k → k < w.heap.size) →
    Calls prog 120 #[.agg cs.toArray] w fun e w' => e = .returned (.string (bs (Z3 (Ys t)).text)) ∧ Below w.heap.size w w'
theorem l3Of_atom (a : List UInt8) (ha0 : a ≠ []) (w : World) : Calls prog 120 #[.agg #[.string (bs a), .slice none 0 0]] w fun e w' => e = .returned (.string (bs (Z3 (Ys (.atom a))).text)) ∧ Below w.heap.size w w' := by
 have HR := H_ (show bs (Z3 (Ys (.atom a))).text = ⟨#[48]⟩ by rw [Kd, Z2c]; rfl)
 rw [HR.out]
 have ha := Ve ha0
 generalize bs a = A at *
 go_enter func120, ntmps120
 go_wp2_with fail
 go_ret
 exact ⟨rfl, Z4 _ _⟩
theorem l3Of_list (n : Nat) (ih : OfS n) (x a b : Tr) (r off c : Nat) (xs : List Value) (ok : Nat → Prop) (w : World) (hd : (Tr.list [x, a, b]).depth < n + 1) (hty : Zn (.list [x, a, b]) = true) (hx : Z0 x = [62] ∨ Z0 x = [42])
 (h2 : ok r) (h3 : 3 ≤ c) (h4 : c ≤ maxLen) (h5 : Yc w r off xs) (h6 : FVs nS w ok [x, a, b] xs) (hok : ∀ k, ok k → k < w.heap.size) :
 Calls prog 120 #[.agg #[.string (bs []), .slice (some ⟨r, off, none⟩) 3 c]] w fun e w' => e = .returned (.string (bs (Z3 (Ys (.list [x, a, b]))).text)) ∧ Below w.heap.size w w' := by
 have hrlt := hok r h2
 have hm := Zx h4
 have hdd := Jv x a b
 have hemp := Ju
 obtain ⟨⟨p0, n0, q0, v0, r0⟩, ⟨p1, n1, q1, v1, r1⟩, ⟨p2, n2, q2, v2, r2⟩⟩ := FVs.three Qp h6 h5
 have e0 : w.cell? ⟨r, off, none⟩ = some (.string (bs (Z0 x))) := r0 0 _ rfl
 have E1 : w.cell? ⟨r, off + 2, none⟩ = some (.string (bs (Z0 a))) := r1 0 _ rfl
 have E2 : w.cell? ⟨r, off + 2 + 1, none⟩ = some (.slice p1 n1 q1) := r1 1 _ rfl
 have E3 : w.cell? ⟨r, off + 4, none⟩ = some (.string (bs (Z0 b))) := r2 0 _ rfl
 have E4 : w.cell? ⟨r, off + 4 + 1, none⟩ = some (.slice p2 n2 q2) := r2 1 _ rfl
 obtain ⟨sa, hsa⟩ : ∃ s, s = bs (Z0 a) := ⟨_, rfl⟩
 obtain ⟨sb, hsb⟩ : ∃ s, s = bs (Z0 b) := ⟨_, rfl⟩
 rw [← hsa] at E1
 rw [← hsb] at E3
 have hab : Zn a = true ∧ Zn b = true := by
  rcases hx with e | e
  · exact Xk hty (Q9 e)
  · exact Xk hty (Q9 e)
 have ka := Ze hab.1
 have kb := Ze hab.2
 have TA : Hid (∀ W, Below w.heap.size w W → Calls prog 54 #[.agg #[.string sa, .slice p1 n1 q1]] W fun e w' => e = .returned (.string (bs a.text)) ∧ Below W.heap.size W w') := H_ (fun W hW => by rw [hsa]; exact Vx (a.depth + 1) a (nS a (.slice p1 n1 q1)) ok W (by omega) ka.1 (by omega) (v1.below hW hok) (fun k hk => Nat.lt_of_lt_of_le (hok k hk) hW.size))
 have TB : Hid (∀ W, Below w.heap.size w W → Calls prog 54 #[.agg #[.string sb, .slice p2 n2 q2]] W fun e w' => e = .returned (.string (bs b.text)) ∧ Below W.heap.size W w') := H_ (fun W hW => by rw [hsb]; exact Vx (b.depth + 1) b (nS b (.slice p2 n2 q2)) ok W (by omega) kb.1 (by omega) (v2.below hW hok) (fun k hk => Nat.lt_of_lt_of_le (hok k hk) hW.size))
 have OA : Hid (∀ W, Below w.heap.size w W → Calls prog 120 #[.agg #[.string sa, .slice p1 n1 q1]] W fun e w' => e = .returned (.string (bs (Z3 (Ys a)).text)) ∧ Below W.heap.size W w') := H_ (fun W hW => by rw [hsa]; exact ih a (nS a (.slice p1 n1 q1)) ok W (by omega) hab.1 (v1.below hW hok) (fun k hk => Nat.lt_of_lt_of_le (hok k hk) hW.size))
 have OB : Hid (∀ W, Below w.heap.size w W → Calls prog 120 #[.agg #[.string sb, .slice p2 n2 q2]] W fun e w' => e = .returned (.string (bs (Z3 (Ys b)).text)) ∧ Below W.heap.size W w') := H_ (fun W hW => by rw [hsb]; exact ih b (nS b (.slice p2 n2 q2)) ok W (by omega) hab.2 (v2.below hW hok) (fun k hk => Nat.lt_of_lt_of_le (hok k hk) hW.size))
 have hsl : Below w.heap.size w (w.alloc (.cells #[.string (bs []), .slice (some ⟨r, off, none⟩) 3 c] 55)) := Z4 _ _
 have X0 := heap_alloc_new w (.cells #[.string (bs []), .slice (some ⟨r, off, none⟩) 3 c] 55)
 have D0 := H_ e0
 have D1 := H_ E1
 have D2 := H_ E2
 have D3 := H_ E3
 have D4 := H_ E4
 by_cases hm42 : Z0 x = [42]
 · have HR := H_ (of_textP (a := a) (b := b) hm42)
   have oa := Vh a.depth a (Nat.le_refl _) hab.1
   have ob := Vh b.depth b (Nat.le_refl _) hab.2
   have la : (bs (Z3 (Ys a)).text).size ≤ 1600 := by rw [Y1, Zr _ oa.wf]; have := oa.bytes; have := ka.2.2.2.1; omega
   have lb2 : (bs (Z3 (Ys b)).text).size ≤ 1600 := by rw [Y1, Zr _ ob.wf]; have := ob.bytes; have := kb.2.2.2.1; omega
   clear oa ob
   rw [← HR.out]
   have hy2 : ((bs (Z0 x)).toList == [42]) = true := by rw [Z8]; simpa using hm42
   have hy3 : (bs (Z0 x)).toList = [42] := by rw [Z8]; exact hm42
   generalize bs (Z3 (Ys a)).text = ta at *
   generalize bs (Z3 (Ys b)).text = tb at *
   generalize bs (Z0 x) = sx at *
   clear HR hm42 hty hx h5 h6 ih v0 v1 v2 r0 r1 r2 hab ka kb hsa hsb TA TB hd hdd E1 E2 E3 E4
   go_enter func120, ntmps120
   go_wp2_with fail
   generalize hw1 : w.alloc (.cells #[.string (bs []), .slice (some ⟨r, off, none⟩) 3 c] 55) = w1 at *
   have lr : r < w1.heap.size := Nat.lt_of_lt_of_le hrlt hsl.size
   have e1 := (hsl.cell (p := ⟨r, off + 2, none⟩) hrlt).trans D1.out
   have e2 := (hsl.cell (p := ⟨r, off + 2 + 1, none⟩) hrlt).trans D2.out
   have e3 := (hsl.cell (p := ⟨r, off + 4, none⟩) hrlt).trans D3.out
   have e4 := (hsl.cell (p := ⟨r, off + 4 + 1, none⟩) hrlt).trans D4.out
   have lb := lt_of_block X0
   have HSL := H_ hsl
   clear hw1 hsl e0
   have gq1 : ¬ (9223372036854775807 : Nat) < 6 + ta.size := by omega
   have gq2 : ¬ (9223372036854775807 : Nat) < 6 + ta.size + 1 := by omega
   have gq3 : ¬ (9223372036854775807 : Nat) < 6 + ta.size + 1 + tb.size := by omega
   have gq4 : ¬ (9223372036854775807 : Nat) < 6 + ta.size + 1 + tb.size + 1 := by omega
   have K : Hid (∀ W, Below w1.heap.size w1 W → (fun W => Below w1.heap.size w1 W ∧ W.cell? ⟨w.heap.size, 1, none⟩ = some (.slice (some ⟨r, off, none⟩) 3 c) ∧ (W.cell? ⟨r, off + 2, none⟩ = some (.string sa) ∧ W.cell? ⟨r, off + 2 + 1, none⟩ = some (.slice p1 n1 q1)) ∧ (W.cell? ⟨r, off + 4, none⟩ = some (.string sb) ∧ W.cell? ⟨r, off + 4 + 1, none⟩ = some (.slice p2 n2 q2))) W) := H_ (fun W hW => ⟨hW, (hW.cell (p := ⟨w.heap.size, 1, none⟩) lb).trans (Z2 (j := 1) X0), ⟨(hW.cell (p := ⟨r, off + 2, none⟩) lr).trans e1, (hW.cell (p := ⟨r, off + 2 + 1, none⟩) lr).trans e2⟩, (hW.cell (p := ⟨r, off + 4, none⟩) lr).trans e3, (hW.cell (p := ⟨r, off + 4 + 1, none⟩) lr).trans e4⟩)
   have S0 := H_ (K.out _ ((Below.refl _ _).drew))
   clear X0 e1 e2 e3 e4
   go_region_held3 (fun W => Below w1.heap.size w1 W ∧ W.cell? ⟨w.heap.size, 1, none⟩ = some (.slice (some ⟨r, off, none⟩) 3 c) ∧ (W.cell? ⟨r, off + 2, none⟩ = some (.string sa) ∧ W.cell? ⟨r, off + 2 + 1, none⟩ = some (.slice p1 n1 q1)) ∧ (W.cell? ⟨r, off + 4, none⟩ = some (.string sb) ∧ W.cell? ⟨r, off + 4 + 1, none⟩ = some (.slice p2 n2 q2))) (first | exact S0.out | assumption | fail) (first | (go_at_call 120; have hh := And.left (by assumption : Below w1.heap.size w1 _ ∧ _); first | ((with_reducible refine (OA.out _ (HSL.out.trans (hh.mono HSL.out.size))).mono ?_); rintro e w7 ⟨rfl, hb7⟩; have hB7 := hh.trans (hb7.mono hh.size); have hS7 := K.out _ hB7) | ((with_reducible refine (OB.out _ (HSL.out.trans (hh.mono HSL.out.size))).mono ?_); rintro e w9 ⟨rfl, hb9⟩; have hB9 := hh.trans (hb9.mono hh.size); have hS9 := K.out _ hB9)) | fail)
   all_goals
    go_wp2_with fail
    go_ret
    exact ⟨rfl, HSL.out.trans (hB9.mono HSL.out.size)⟩
 · have HR := H_ (of_textF (a := a) (b := b) hm42)
   have ob := Vh b.depth b (Nat.le_refl _) hab.2
   have la : (bs a.text).size ≤ 1600 := by rw [Y1, Zr _ ka.1]; have := ka.2.1; omega
   have lb1 : (bs b.text).size ≤ 1600 := by rw [Y1, Zr _ kb.1]; have := kb.2.1; omega
   have lb2 : (bs (Z3 (Ys b)).text).size ≤ 1600 := by rw [Y1, Zr _ ob.wf]; have := ob.bytes; have := kb.2.2.2.1; omega
   clear ob
   rw [← HR.out]
   have hy2 : ((bs (Z0 x)).toList == [42]) = false := by rw [Z8]; simpa using hm42
   have hy3 : ¬ (bs (Z0 x)).toList = [42] := by rw [Z8]; exact hm42
   generalize bs a.text = xa at *
   generalize bs b.text = xb at *
   generalize bs (Z3 (Ys b)).text = tb at *
   generalize bs (Z0 x) = sx at *
   clear HR hm42 hty hx h5 h6 ih v0 v1 v2 r0 r1 r2 hab ka kb hsa hsb OA hd hdd E1 E2 E3 E4
   go_enter func120, ntmps120
   go_wp2_with fail
   generalize hw1 : w.alloc (.cells #[.string (bs []), .slice (some ⟨r, off, none⟩) 3 c] 55) = w1 at *
   have lr : r < w1.heap.size := Nat.lt_of_lt_of_le hrlt hsl.size
   have e1 := (hsl.cell (p := ⟨r, off + 2, none⟩) hrlt).trans D1.out
   have e2 := (hsl.cell (p := ⟨r, off + 2 + 1, none⟩) hrlt).trans D2.out
   have e3 := (hsl.cell (p := ⟨r, off + 4, none⟩) hrlt).trans D3.out
   have e4 := (hsl.cell (p := ⟨r, off + 4 + 1, none⟩) hrlt).trans D4.out
   have lb := lt_of_block X0
   have HSL := H_ hsl
   clear hw1 hsl e0
   have gq1 : ¬ (9223372036854775807 : Nat) < 9 + xa.size := by omega
   have gq2 : ¬ (9223372036854775807 : Nat) < 9 + xa.size + 1 := by omega
   have gq3 : ¬ (9223372036854775807 : Nat) < 9 + xa.size + 1 + xb.size := by omega
   have gq4 : ¬ (9223372036854775807 : Nat) < 9 + xa.size + 1 + xb.size + 1 := by omega
   have gq5 : ¬ (9223372036854775807 : Nat) < 9 + xa.size + 1 + xb.size + 1 + tb.size := by omega
   have gq6 : ¬ (9223372036854775807 : Nat) < 9 + xa.size + 1 + xb.size + 1 + tb.size + 1 := by omega
   have K : Hid (∀ W, Below w1.heap.size w1 W → (fun W => Below w1.heap.size w1 W ∧ W.cell? ⟨w.heap.size, 1, none⟩ = some (.slice (some ⟨r, off, none⟩) 3 c) ∧ (W.cell? ⟨r, off + 2, none⟩ = some (.string sa) ∧ W.cell? ⟨r, off + 2 + 1, none⟩ = some (.slice p1 n1 q1)) ∧ (W.cell? ⟨r, off + 4, none⟩ = some (.string sb) ∧ W.cell? ⟨r, off + 4 + 1, none⟩ = some (.slice p2 n2 q2))) W) := H_ (fun W hW => ⟨hW, (hW.cell (p := ⟨w.heap.size, 1, none⟩) lb).trans (Z2 (j := 1) X0), ⟨(hW.cell (p := ⟨r, off + 2, none⟩) lr).trans e1, (hW.cell (p := ⟨r, off + 2 + 1, none⟩) lr).trans e2⟩, (hW.cell (p := ⟨r, off + 4, none⟩) lr).trans e3, (hW.cell (p := ⟨r, off + 4 + 1, none⟩) lr).trans e4⟩)
   have S0 := H_ (K.out _ ((Below.refl _ _).drew))
   clear X0 e1 e2 e3 e4
   go_region_held3 (fun W => Below w1.heap.size w1 W ∧ W.cell? ⟨w.heap.size, 1, none⟩ = some (.slice (some ⟨r, off, none⟩) 3 c) ∧ (W.cell? ⟨r, off + 2, none⟩ = some (.string sa) ∧ W.cell? ⟨r, off + 2 + 1, none⟩ = some (.slice p1 n1 q1)) ∧ (W.cell? ⟨r, off + 4, none⟩ = some (.string sb) ∧ W.cell? ⟨r, off + 4 + 1, none⟩ = some (.slice p2 n2 q2))) (first | exact S0.out | assumption | fail) (first | (go_at_call 54; have hh := And.left (by assumption : Below w1.heap.size w1 _ ∧ _); first | ((with_reducible refine (TA.out _ (HSL.out.trans (hh.mono HSL.out.size))).mono ?_); rintro e w6 ⟨rfl, hb6⟩; have hB6 := hh.trans (hb6.mono hh.size); have hS6 := K.out _ hB6) | ((with_reducible refine (TB.out _ (HSL.out.trans (hh.mono HSL.out.size))).mono ?_); rintro e w7 ⟨rfl, hb7⟩; have hB7 := hh.trans (hb7.mono hh.size); have hS7 := K.out _ hB7)) | (go_at_call 120; have hh := And.left (by assumption : Below w1.heap.size w1 _ ∧ _); (with_reducible refine (OB.out _ (HSL.out.trans (hh.mono HSL.out.size))).mono ?_); rintro e w9 ⟨rfl, hb9⟩; have hB9 := hh.trans (hb9.mono hh.size); have hS9 := K.out _ hB9) | fail)
   all_goals
    go_wp2_with fail
    go_ret
    exact ⟨rfl, HSL.out.trans (hB9.mono HSL.out.size)⟩
theorem l3Of_all : ∀ n, OfS n
 | 0 => fun t _ _ _ h => by omega
 | n + 1 => fun t cs ok w hd hty hv hok => by
   match t, hd, hty, hv with
   | .atom a, _, hty, hv =>
     simp only [FV] at hv
     subst hv
     exact l3Of_atom a (Ze hty).1.1 w
   | .list ts, hd, hty, hv =>
     obtain ⟨x, a, b, rfl, hx, -⟩ := Q3 (Zw hty).1
     obtain ⟨r, off, c, xs, rfl, h2, h3, h4, h5, h6⟩ := hv.list_cells
     exact l3Of_list n (l3Of_all n) x a b r off c xs ok w hd hty hx h2 h3 h4 h5 h6 hok
theorem specExprOf_c (s : ByteArray) (hs : s.size ≤ 1048576) (w : World) :
 Calls prog 103 #[.string s] w fun e w' => Kl (Z5x s.data.toList) e ∧ Below w.heap.size w w' := by
 cases hp : Zt s.data.toList with
 | none =>
   have C := H_ (Vg hs hp)
   have HR := H_ (Z2h (Z07 hp))
   clear hp
   go_enter func103, ntmps103
   go_wp2_with (go_at_call 48; go_must (refine (C.out _).mono ?_; rintro e w1 ⟨⟨a, p, m, c, rfl, hnl⟩, hb1⟩))
   go_ret2
   exact ⟨by rw [HR.out]; rfl, hb1.alloc hb1.size _⟩
 | some t =>
   have C := H_ (Qk hs hp)
   have hg := Yn hp
   have hrt := K8 hp
   have CY : Hid (∀ (W : World) p m c, FV nS W (fun k => k < W.heap.size) t (nS t (.slice p m c)) → Calls prog 91 #[.agg #[.string (bs (Z0 t)), .slice p m c]] W fun e w' => e = .returned (.bool (X5 t && decide (t.size ≤ 16))) ∧ Below W.heap.size W w') := H_ (fun W p m c k => Z0p t p m c _ W hg.1 (by have := hg.2; omega) k (fun _ h => h))
   cases hty : (X5 t && decide (t.size ≤ 16)) with
   | false =>
     rw [hty] at CY hrt
     have HR := H_ (Z2h (by rw [hrt]; rfl))
     generalize bs (Z0 t) = A at *
     clear hp hg hty hrt
     go_enter func103, ntmps103
     go_wp2_with (first | (go_at_call 48; go_must (refine (C.out _).mono ?_; rintro e w1 ⟨⟨p, m, c, rfl, hv⟩, hb1⟩; have V1 := H_ ((hv.below (Z4 w1 (.cells #[.string A, .slice p m c] 55)) (fun k hk => hk.2)).wide (ok' := fun q => q < (w1.alloc (.cells #[.string A, .slice p m c] 55)).heap.size) (fun k hk => by simp; omega)); clear hv)) | (go_at_call 91; go_must (refine (CY.out _ _ _ _ V1.out).mono ?_; rintro e w2 ⟨rfl, hb2⟩)))
     go_ret2
     exact ⟨by rw [HR.out]; rfl, (Yb (Yb (Xp hb1) (Z4 _ _)) hb2).1⟩
   | true =>
     rw [hty] at CY hrt
     have hL : Zn t = true := hty
     have hok := Vh t.depth t (Nat.le_refl _) hL
     have hsz := (Zw hL).2
     have hby := hok.bytes
     have htl := Zr _ hok.wf
     have hlv := limT_valid hok.wf hok.good
     have hof := Z2g (l := s.data.toList) (t := t) (by rw [hrt]; rfl)
     have CO : Hid (∀ (W : World) p m c, FV nS W (fun k => k < W.heap.size) t (nS t (.slice p m c)) → Calls prog 120 #[.agg #[.string (bs (Z0 t)), .slice p m c]] W fun e w' => e = .returned (.string (bs (Z3 (Ys t)).text)) ∧ Below W.heap.size W w') := H_ (fun W p m c k => l3Of_all (t.depth + 1) t (nS t (.slice p m c)) _ W (by omega) hL k (fun _ h => h))
     have CV : Hid (∀ W, Calls prog 67 #[.string (bs (Z3 (Ys t)).text)] W fun e w' => e = .returned (.bool (Qg (Z3 (Ys t)).text).isSome) ∧ Below W.heap.size W w') := H_ (fun W => by
      have h := V9 (bs (Z3 (Ys t)).text) (by rw [Y1]; omega) W
      rw [Q4] at h
      exact h)
     rw [hlv] at hof
     generalize (Z3 (Ys t)).text = X at *
     obtain ⟨A, hA⟩ : ∃ A, A = bs (Z0 t) := ⟨_, rfl⟩
     rw [← hA] at C CY CO
     cases hz : (Qg X).isSome with
     | false =>
       rw [hz] at CV hof
       have HR := H_ (show Z5x s.data.toList = none by rw [hof]; rfl)
       generalize bs X = BX at *
       clear hp hg hty hrt hL hok hsz hby htl hlv hof hz hA
       go_enter func103, ntmps103
       go_wp2_with (first | (go_at_call 48; go_must (refine (C.out _).mono ?_; rintro e w1 ⟨⟨p, m, c, rfl, hv⟩, hb1⟩; have V1 := H_ ((hv.below (Z4 w1 (.cells #[.string A, .slice p m c] 55)) (fun k hk => hk.2)).wide (ok' := fun q => q < (w1.alloc (.cells #[.string A, .slice p m c] 55)).heap.size) (fun k hk => by simp; omega)); have y1 := heap_alloc_new w1 (.cells #[.string A, .slice p m c] 55); clear hv)) | (go_at_call 91; go_must (refine (CY.out _ _ _ _ V1.out).mono ?_; rintro e w2 ⟨rfl, hb2⟩; have y2 := Z1 hb2 (lt_of_block y1) y1; obtain ⟨c20, c21⟩ := Zp y2; have V2 := H_ (V1.out.below hb2 (fun _ h => h) |>.wide (ok' := fun q => q < w2.heap.size) (fun k hk => Nat.lt_of_lt_of_le hk hb2.size)))) | (go_at_call 120; go_must (refine (CO.out _ _ _ _ V2.out).mono ?_; rintro e w3 ⟨rfl, hb3⟩)) | (go_at_call 67; go_must (refine (CV.out _).mono ?_; rintro e w4 ⟨rfl, hb4⟩)))
       go_ret2
       exact ⟨by rw [HR.out]; rfl, (Yb (Yb (Yb (Yb (Xp hb1) (Z4 _ _)) hb2) hb3) hb4).1⟩
     | true =>
       rw [hz] at CV hof
       have HR := H_ (show Z5x s.data.toList = some X by rw [hof]; rfl)
       obtain ⟨BX, hBX⟩ : ∃ B, B = bs X := ⟨_, rfl⟩
       rw [← hBX] at CV CO
       have HBX := H_ hBX
       clear hp hg hty hrt hL hok hsz hby htl hlv hof hz hA hBX
       go_enter func103, ntmps103
       go_wp2_with (first | (go_at_call 48; go_must (refine (C.out _).mono ?_; rintro e w1 ⟨⟨p, m, c, rfl, hv⟩, hb1⟩; have V1 := H_ ((hv.below (Z4 w1 (.cells #[.string A, .slice p m c] 55)) (fun k hk => hk.2)).wide (ok' := fun q => q < (w1.alloc (.cells #[.string A, .slice p m c] 55)).heap.size) (fun k hk => by simp; omega)); have y1 := heap_alloc_new w1 (.cells #[.string A, .slice p m c] 55); have tok : True := trivial; clear hv)) | (go_at_call 91; go_must (refine (CY.out _ _ _ _ V1.out).mono ?_; rintro e w2 ⟨rfl, hb2⟩; have y2 := Z1 hb2 (lt_of_block y1) y1; obtain ⟨c20, c21⟩ := Zp y2; have V2 := H_ (V1.out.below hb2 (fun _ h => h) |>.wide (ok' := fun q => q < w2.heap.size) (fun k hk => Nat.lt_of_lt_of_le hk hb2.size)))) | (go_at_call 120; first | (clear tok; refine (CO.out _ _ _ _ V2.out).mono ?_; rintro e w3 ⟨rfl, hb3⟩; have V3 := H_ (V2.out.below hb3 (fun _ h => h) |>.wide (ok' := fun q => q < w3.heap.size) (fun k hk => Nat.lt_of_lt_of_le hk hb3.size))) | (refine (CO.out _ _ _ _ V4.out).mono ?_; rintro e w5 ⟨rfl, hb5⟩)) | (go_at_call 67; go_must (refine (CV.out _).mono ?_; rintro e w4 ⟨rfl, hb4⟩; have y4 := Z1 hb4 (by have := hb3.size; have := lt_of_block y2; omega) (Z1 hb3 (lt_of_block y2) y2); obtain ⟨c40, c41⟩ := Zp y4; have V4 := H_ (V3.out.below hb4 (fun _ h => h) |>.wide (ok' := fun q => q < w4.heap.size) (fun k hk => Nat.lt_of_lt_of_le hk hb4.size)))))
       go_ret2
       exact ⟨by rw [HR.out, HBX.out]; rfl, (Yb (Yb (Yb (Yb (Yb (Xp hb1) (Z4 _ _)) hb2) hb3) hb4) hb5).1⟩
theorem Z45 : ∀ (n : Nat) (t : Tr), t.depth ≤ n → Zn t = true → (∀ env, tyR env (Ys t) = .ok t) ∧ Zj (Ys t) = []
 | _, .atom a, _, h => by
   have h1 := (Zw h).1
   rw [Z2j] at h1
   simp only [beq_iff_eq] at h1
   subst h1
   rw [Kd]
   exact ⟨fun env => rfl, rfl⟩
 | 0, .list ts, hd, h => by
   obtain ⟨x, a, b, rfl, -⟩ := Q3 (Zw h).1
   have := Jv x a b
   omega
 | n + 1, .list ts, hd, h => by
   obtain ⟨x, a, b, rfl, hx, -⟩ := Q3 (Zw h).1
   have hdd := Jv x a b
   have hsz := (Zw h).2
   have hsz2 : (Tr.list [x, a, b]).size = x.size + (a.size + (b.size + 0)) := by simp only [Tr.size, Xo]
   rcases hx with e2 | e
   · have hab := Xk (c := 62) h (show Zy 62 (.list [x, a, b]) = some (a, b) by simp [Zy, e2])
     have he : Ys (.list [x, a, b]) = .func [102] [120] a b (Ys b) := by rw [J8, if_neg (by rw [e2]; decide)]
     have hxa : x = .atom [62] := by rw [Ky (t := x) (by rw [e2]; simp), e2]
     obtain ⟨k1, k3⟩ := Z45 n b (by omega) hab.2
     have hm : mkT 62 a b = some (.list [x, a, b]) := by
      subst hxa
      unfold mkT
      rw [if_pos (by have h1 : (Tr.atom [62]).size = 1 := rfl; have h2 : (Tr.atom [42]).size = 1 := rfl; omega)]
     rw [he]
     exact ⟨fun env => by simp [tyR, hm, k1, Ka], by simp [Zj, k3, rm]⟩
   · have hab := Xk (c := 42) h (show Zy 42 (.list [x, a, b]) = some (a, b) by simp [Zy, e])
     have he : Ys (.list [x, a, b]) = .two .pair (Ys a) (Ys b) := by rw [J8, if_pos e]
     have hxa : x = .atom [42] := by rw [Ky (t := x) (by rw [e]; simp), e]
     obtain ⟨k1, k3⟩ := Z45 n b (by omega) hab.2
     obtain ⟨g1, g3⟩ := Z45 n a (by omega) hab.1
     have hm : mkT 42 a b = some (.list [x, a, b]) := by
      subst hxa
      unfold mkT
      rw [if_pos (by have h1 : (Tr.atom [62]).size = 1 := rfl; have h2 : (Tr.atom [42]).size = 1 := rfl; omega)]
     rw [he]
     exact ⟨fun env => by simp [tyR, Yt, hm, k1, g1, Ka], by simp [Zj, k3, g3]⟩
theorem Z0c (n : Nm) (v : Ex) (T : Tr) (hv : ∀ env, tyT env v = some T) : ∀ (x : Ex) (env : List (Nm × Tr)), Yu env n = some T → tyT env (Yq n v x) = tyT env x
 | .name s, env, h => by
   simp only [Yq]
   by_cases hs : s = n
   · rw [if_pos hs, hv, tyT_name, hs, h]
   · rw [if_neg hs]
 | .num k, env, h => rfl
 | .two o a b, env, h => by
   simp only [Yq, tyT_two]
   rw [Z0c n v T hv a env h, Z0c n v T hv b env h]
 | .one o a, env, h => by
   simp only [Yq, tyT_one]
   rw [Z0c n v T hv a env h]
 | .cond a b c, env, h => by
   simp only [Yq, tyT_cond]
   rw [Z0c n v T hv a env h, Z0c n v T hv b env h, Z0c n v T hv c env h]
 | .lete s e b, env, h => by
   simp only [Yq, tyT_lete]
   rw [Z0c n v T hv e env h]
   by_cases hs : s = n
   · rw [if_pos hs]
   · rw [if_neg hs]
     congr
     funext t
     exact Z0c n v T hv b ((s, t) :: env) (by simp only [Yu]; rw [if_neg hs]; exact h)
 | .func f a A B e, env, h => by
   simp only [Yq, tyT_func]
   by_cases hs : f = n ∨ a = n
   · rw [if_pos hs]
   · rw [if_neg hs]
     congr
     funext T'
     rw [Z0c n v T hv e ((a, A) :: (f, T') :: env) (by
      simp only [Yu]
      rw [if_neg (fun q => hs (.inr q)), if_neg (fun q => hs (.inl q))]
      exact h)]
theorem Z5d {n : Nm} {T : Tr} : ∀ {env : List (Nm × Tr)}, Qu env → Yu env n = some T → Zn T = true
 | [], _, h => by simp [Yu] at h
 | (m, t) :: env, hok, h => by
   simp only [Yu] at h
   by_cases hm : m = n
   · rw [if_pos hm] at h
     injection h with h; subst h
     exact hok (m, t) (by simp)
   · rw [if_neg hm] at h
     exact Z5d (fun p hp => hok p (by simp [hp])) h
theorem Jb {n : Nm} : ∀ {x : Ex}, good x → n ∈ Zj x → n.length ≤ 4
 | .name s, hg, h => by
   simp only [Zj, List.mem_singleton] at h
   subst h
   exact (nmA_len (good_nm hg)).2
 | .num k, hg, h => by simp [Zj] at h
 | .two o a b, hg, h => by
   simp only [Zj, List.mem_append] at h
   obtain ⟨g1, g2⟩ := (Z42 _ _ _).1 hg
   exact h.elim (Jb g1) (Jb g2)
 | .one o a, hg, h => Jb ((Z77 _ _).1 hg) (by simpa [Zj] using h)
 | .cond a b c, hg, h => by
   simp only [Zj, List.mem_append] at h
   obtain ⟨g1, g2, g3⟩ := (Z4u _ _ _).1 hg
   rcases h with (h | h) | h
   · exact Jb g1 h
   · exact Jb g2 h
   · exact Jb g3 h
 | .lete s a b, hg, h => by
   simp only [Zj, List.mem_append, inRm] at h
   obtain ⟨g1, g2, g3⟩ := (Z4t _ _ _).1 hg
   rcases h with h | h
   · exact Jb g2 h
   · exact Jb g3 h.1
 | .func f s A B e, hg, h => by
   simp only [Zj, inRm] at h
   exact Jb ((Z2k _ _ _ _ _).1 hg).2 h.1
theorem subst_law {ns ts : List Nm} {l X : List UInt8} (h : Vs ns ts l = some X) : ∃ FL : List Nm, Z5j l = some FL ∧ FL.length ≤ 120 ∧ X.length ≤ 12000 ∧ (FL = [] → Z60 l = true) ∧
 ∀ n ∈ FL, ∃ K : List UInt8, Z1s ns ts n = some K ∧ K.length ≤ 12000 ∧ n.length ≤ 12000 ∧ ∀ V, Z5x K = some V → V.length ≤ 12000 ∧ ∀ Y, Vu l n V = some Y → Y.length ≤ 12000 ∧ Vs ns ts Y = some X := by
 unfold Vs at h
 cases he : Q7 ns ts with
 | none => simp [he] at h
 | some env =>
   cases hx : Yf l with
   | none => simp [he, hx] at h
   | some x =>
     cases ht : tyR env x with
     | error f => simp [he, hx, ht] at h
     | ok t =>
       simp only [he, hx, ht, Option.some.injEq] at h
       subst h
       have hok := Z21 he
       have hTy := Q8 x env t hok (Z1k hx) ht
       have hfree := Jq x env (by rw [tyT_ok.1 ht]; rfl)
       obtain ⟨hp, -, hsz, hby, hdp, hwf, hgd⟩ := readA_all hx
       have hl := freeE_len (l := l)
       rw [Z16 hx] at hl
       obtain ⟨w1, w2, -, -, -⟩ := Ze hTy
       have hmem : ∀ s, s ∈ (Zj x).foldl Je [] ↔ s ∈ Zj x := fun s => by rw [Z6s]; simp
       refine ⟨(Zj x).foldl Je [], Z16 hx, by simpa using hl, by rw [Zr t w1]; omega, ?_, ?_⟩
       · intro hnil
         have hn : ∀ s, s ∉ Zj x := fun s hs => by have := (hmem s).2 hs; rw [hnil] at this; cases this
         have h0 : tyR [] x = .ok t := by rw [Ks x [] env (fun s hs => absurd hs (hn s)), ht]
         rw [Z60, Z2e (env := []) rfl hx h0]; rfl
       · intro n hn
         have hnf := (hmem n).1 hn
         obtain ⟨T, hT⟩ := Option.isSome_iff_exists.1 (hfree n hnf)
         have hTL := Z5d hok hT
         obtain ⟨u1, u2, u3, u4, -⟩ := Ze hTL
         refine ⟨T.text, by rw [Z5c n he, hT]; rfl, by rw [Zr T u1]; omega, by have := Jb hgd hnf; omega, ?_⟩
         intro V hV
         rw [Z2g (Jg hTL)] at hV
         obtain ⟨k1, k3⟩ := Z45 T.depth T (Nat.le_refl _) hTL
         have ok := Vh T.depth T (Nat.le_refl _) hTL
         unfold Vw at hV
         split at hV
         · rename_i hb
           simp only [Option.some.injEq] at hV
           have hrd : Yf V = some (Ys T) := by
            rw [← hV, Qj (Jz ok.wf hb.2.1 hb.2.2), if_pos hb.1]
            exact ok.good
           refine ⟨by rw [← hV, Zr _ ok.wf]; omega, ?_⟩
           intro Y hY
           cases hnm : Yl n with
           | false => rw [putTx_no hnm] at hY; cases hY
           | true =>
             rw [Z6m hx hnm (Z1l hrd k3)] at hY
             unfold Vw at hY
             split at hY
             · rename_i hb2
               simp only [Option.some.injEq] at hY
               have hwp := Kh (name := n) ok.wf x hwf
               have hgp := J9 (name := n) ok.good x hgd
               have hry : Yf Y = some (Yq n (Ys T) x) := by
                rw [← hY, Qj (Jz hwp hb2.2.1 hb2.2.2), if_pos hb2.1]
                exact hgp
               refine ⟨by rw [← hY, Zr _ hwp]; omega, ?_⟩
               refine Z2e he hry (tyT_ok.2 ?_)
               rw [Z0c n (Ys T) T (fun e => tyT_ok.1 (k1 e)) x env hT]
               exact tyT_ok.1 ht
             · cases hY
         · cases hV
end Go.Proofs.YtmgepnacjgbfhaaGreatDoor
