/- The reference: decimals, new names, renamed names. The reference: new names that are not free. -/
import Derived.Test.YtjaaalojcdbcpaaGreatDoorpS2f
import Derived.Test.YtjaaalojcdbcpaaGreatDoorpDec
import Derived.Test.YtjaaalojcdbcpaaGreatDoorpPureX
import Derived.Deep.RegionHeld3
set_option maxHeartbeats 20000000
set_option linter.unusedVariables false
set_option linter.unusedSimpArgs false
namespace Go.Proofs.YtjaaalojcdbcpaaGreatDoor
open Go.RowKit Go.Proofs.Tryz
set_option maxRecDepth 8000
def Jx (ns ts : List Nm) (s : Nm) : Nat → Nm
 | 0 => s
 | k + 1 => if ns.getD k [] = s then ts.getD k [] else Jx ns ts s k
theorem lookD_app (ns ts : List Nm) (s n t : Nm) (h : ns.length = ts.length) : ∀ k, k ≤ ns.length → Jx (ns ++ [n]) (ts ++ [t]) s k = Jx ns ts s k
 | 0, _ => rfl
 | k + 1, hk => by
   simp only [Jx]
   rw [lookD_app ns ts s n t h k (by omega)]
   rw [List.getD_eq_getElem?_getD, List.getD_eq_getElem?_getD, List.getD_eq_getElem?_getD, List.getD_eq_getElem?_getD, List.getElem?_append_left (by omega), List.getElem?_append_left (by omega)]
def Q2 (m : List (Nm × Nm)) : List Nm := (m.map (fun p => p.1)).reverse
def J4 (m : List (Nm × Nm)) : List Nm := (m.map (fun p => p.2)).reverse
theorem Vu (a b : Nm) (m : List (Nm × Nm)) : Q2 ((a, b) :: m) = Q2 m ++ [a] := by simp [Q2]
theorem Vt (a b : Nm) (m : List (Nm × Nm)) : J4 ((a, b) :: m) = J4 m ++ [b] := by simp [J4]
theorem Ki (m : List (Nm × Nm)) : (Q2 m).length = m.length := by simp [Q2]
theorem Z0v (m : List (Nm × Nm)) : (J4 m).length = m.length := by simp [J4]
theorem lookD_map (s : Nm) : ∀ m : List (Nm × Nm), Jx (Q2 m) (J4 m) s m.length = Qf m s
 | [] => rfl
 | (a, b) :: m => by
   have h1 := Ki m
   have h2 := Z0v m
   rw [Vu, Vt, List.length_cons]
   simp only [Jx]
   rw [lookD_app _ _ _ _ _ (by omega) _ (by omega), lookD_map s m]
   rw [List.getD_eq_getElem?_getD, List.getD_eq_getElem?_getD, List.getElem?_append_right (by omega), List.getElem?_append_right (by omega), h1, h2]
   simp only [Nat.sub_self, List.getElem?_cons_zero, Option.getD_some, Qf]
theorem l2Look_c (v1 v2 : Value) (ns : List Nm) (ts : List (List UInt8)) (s : Nm) (w : World) (h1 : Yh w v1 ns) (h2 : Yh w v2 ts) (hl : ns.length = ts.length) (hsz : ns.length ≤ 1000000) :
 Calls prog 111 #[v1, v2, .string (bs s)] w fun e w' => e = .returned (.string (bs (Jx ns ts s ns.length))) ∧ w' = w := by
 obtain ⟨R, hR⟩ : ∃ R, R = bs (Jx ns ts s ns.length) := ⟨_, rfl⟩
 rw [← hR]
 have HR := H_ hR
 obtain ⟨p1, c1, rfl, l1, hrow1⟩ := h1
 obtain ⟨p2, c2, rfl, l2, hrow2⟩ := h2
 have HS1 := H_ hrow1
 have HS2 := H_ hrow2
 have HL := H_ hl
 clear hR hrow1 hrow2 hl
 go_enter func111, ntmps111
 go_wp2_with fail
 go_loop [7] (fun i => ∃ (k : Nat) (n : Int), k ≤ ns.length ∧ i = .int .i64 n ∧ n + 1 = k ∧ Hid (Jx ns ts s ns.length = Jx ns ts s k)) (fun i => ((intOf i) + 1).toNat)
 case atStart => exact ⟨ns.length, _, Nat.le_refl _, rfl, by omega, H_ rfl⟩
 case round =>
  obtain ⟨k, n, hk, rfl, hn, hA⟩ := hrel
  cases k with
  | zero =>
    obtain rfl : n = -1 := by omega
    have HF := H_ (show R = bs s by rw [HR.out, hA.out]; rfl)
    clear hA
    go_wp2_with fail
    go_ret
    exact ⟨by rw [HF.out]; rfl, rfl⟩
  | succ k =>
    obtain rfl : n = (k : Int) := by omega
    have hlt : k < ns.length := by omega
    have hlt2 : k < ts.length := by rw [← HL.out]; exact hlt
    obtain ⟨r, off, rfl, h3⟩ := HS1.out (by intro e; rw [e] at hlt; simp at hlt)
    obtain ⟨r2, off2, rfl, h4⟩ := HS2.out (by intro e; rw [e] at hlt2; simp at hlt2)
    have x1 : w.cell? ⟨r, off + k, none⟩ = some (.string (bs ns[k])) := Yh.cell h3 hlt
    have x2 : w.cell? ⟨r2, off2 + k, none⟩ = some (.string (bs ts[k])) := Yh.cell h4 hlt2
    have hk0 : (0 : Int) ≤ (k : Int) := by omega
    have hltI : (k : Int) < (ns.length : Int) := by omega
    have hltI2 : (k : Int) < (ts.length : Int) := by omega
    have HG := H_ (show Jx ns ts s (k + 1) = if ns[k] = s then ts[k] else Jx ns ts s k by simp [Jx, hlt, hlt2])
    by_cases he : ns[k] = s
    · have hx2 : ((bs ns[k]).toList == (bs s).toList) = true := by rw [Za, Za]; simpa using he
      have hx3 : (bs ns[k]).toList = (bs s).toList := by rw [Za, Za]; exact he
      have HF := H_ (show R = bs ts[k] by rw [HR.out, hA.out, HG.out, if_pos he])
      generalize bs ns[k] = sa at *
      generalize bs ts[k] = sb at *
      clear hA HG he h3 h4
      go_wp2_with fail
      go_ret
      exact ⟨by rw [HF.out]; rfl, rfl⟩
    · have hx2 : ((bs ns[k]).toList == (bs s).toList) = false := by rw [Za, Za]; simpa using he
      have hx3 : ¬ (bs ns[k]).toList = (bs s).toList := by rw [Za, Za]; exact he
      have HF := H_ (show Jx ns ts s ns.length = Jx ns ts s k by rw [hA.out, HG.out, if_neg he])
      generalize bs ns[k] = sa at *
      generalize bs ts[k] = sb at *
      clear hA HG he h3 h4
      go_wp2_with fail
      exact ⟨⟨k, _, by omega, rfl, by omega, HF⟩, by first | (simp [intOf]; done) | (simp [intOf]; omega)⟩
def RN (w : World) (b : Nat) (vf : Value) (k : Nat) : Prop := w.heap[b]? = some (.cells #[vf, .int .i64 k] 90 (0, 0))
theorem Yh.only {w w' : World} {b : Nat} {v : Value} {l : List Nm} (h : Yh w v l) (ho : Only b w w') (hne : ∀ q, v.ownBlock = some q → q ≠ b ∧ q < w.heap.size) : Yh w' v l := Yh.move h (fun q hq => ho.block q (hne q hq).2 (hne q hq).1)
theorem Z1f (b : Nat) (vf : Value) (free : List Nm) (k : Nat) (w : World) (hr : RN w b vf k) (hf : Yh w vf free) (hne : ∀ q, vf.ownBlock = some q → q ≠ b ∧ q < w.heap.size) (hl : free.length ≤ 1000) (hk : k ≤ 1000) :
 Calls prog 112 #[.pointer (some ⟨b, 0, none⟩)] w fun e w' => e = .returned (.string (bs (Zb (Zh free k)))) ∧ RN w' b vf (Zh free k + 1) ∧ Only b w w' := by
 have hfl := Xv free k
 obtain ⟨K, hK⟩ : ∃ K, K = Zh free k := ⟨_, rfl⟩
 rw [← hK] at hfl ⊢
 have HK := H_ hK
 obtain ⟨pf, cf, hvf, hlf, hrowf⟩ := id hf
 have HR := H_ hr
 have HF := H_ hf
 have HNE := H_ hne
 clear hK hr hf hrowf hne
 subst hvf
 go_enter func112, ntmps112
 go_wp2_with fail
 go_loopg [3] (K + 1 - k) (fun q s wr => ∃ j : Nat, q + j = K + 1 ∧ k ≤ j ∧ j ≤ K ∧ Hid (Zh free j = K) ∧ Hid (RN wr b (.slice pf free.length cf) j) ∧ Hid (Only b w wr))
 case atStart => exact ⟨k, by omega, Nat.le_refl _, by omega, H_ HK.out.symm, HR, H_ (Only.refl b w)⟩
 case round =>
  obtain ⟨j, hq, hj1, hj2, hfr, hrn, hon⟩ := hrel
  have hblk : wr.heap[b]? = some (.cells #[.slice pf free.length cf, .int .i64 j] 90 (0, 0)) := hrn.out
  obtain ⟨r0, r1⟩ := Zm hblk
  have CD := H_ (l6Dec_c (j + 1) j (by omega) (by omega))
  have hlen : (bs (Lib.decDigits j)).size ≤ 100 := by rw [Xj]; exact dec_len _ (by omega)
  have hxn : Hid (bs (Zb j) = ⟨#[120]⟩ ++ bs (Lib.decDigits j)) := H_ (by
   have e : Zb j = [120] ++ Lib.decDigits j := by unfold Zb Lib.itoa; rw [if_neg (by omega)]; simp
   rw [e, ← Ja]; rfl)
  have hwrap : IntKind.i64.wrap ((j : Int) + 1) = (j : Int) + 1 := by rw [IntKind.wrap_i64]; omega
  have CH : Hid (∀ W : World, Yh W (.slice pf free.length cf) free → Calls prog 99 #[.slice pf free.length cf, .string (⟨#[120]⟩ ++ bs (Lib.decDigits j))] W fun e w' => e = .returned (.bool (decide (Zb j ∈ free))) ∧ w' = W) := H_ (fun W hv => by rw [← hxn.out]; exact hasS_c _ free (Zb j) W hv)
  have HOA : Hid (∀ W, Below wr.heap.size wr W → RN (W.setCell ⟨b, 1, none⟩ (.int .i64 ((j : Int) + 1))) b (.slice pf free.length cf) (j + 1) ∧ Only b w (W.setCell ⟨b, 1, none⟩ (.int .i64 ((j : Int) + 1))) ∧ Yh (W.setCell ⟨b, 1, none⟩ (.int .i64 ((j : Int) + 1))) (.slice pf free.length cf) free) := H_ (fun W hW => by
   have h1 := Z3 hW (lt_of_block hblk) hblk
   have h2 := (hon.out.next hW).set (p := ⟨b, 1, none⟩) rfl (.int .i64 ((j : Int) + 1))
   exact ⟨by have := X5 (j := 1) h1 (.int .i64 ((j : Int) + 1)); exact this, h2, HF.out.only h2 HNE.out⟩)
  have KC : Hid (∀ W, Below wr.heap.size wr W → W.cell? ⟨b, 1, none⟩ = some (.int .i64 j) ∧ W.frozen? ⟨b, 1, none⟩ = false ∧ (W.setCell ⟨b, 1, none⟩ (.int .i64 ((j : Int) + 1))).cell? ⟨b, 0, none⟩ = some (.slice pf free.length cf)) := H_ (fun W hW => by
   have h1 := Z3 hW (lt_of_block hblk) hblk
   have h2 := X5 (j := 1) h1 (.int .i64 ((j : Int) + 1))
   exact ⟨Z8 h1, Yg h1, Z8 h2⟩)
  have hx2 : Hid (Zb j ∈ free → Zh free (j + 1) = K ∧ j < K) := H_ (fun hm => by
   have h1 := Z2u hm
   rw [hfr.out] at h1
   have := (Xv free (j + 1)).1
   exact ⟨h1.symm, by omega⟩)
  have hx3 : Hid (¬ Zb j ∈ free → j = K) := H_ (fun hm => by have h1 := Z2v hm; rw [hfr.out] at h1; exact h1.symm)
  clear hblk hrn
  by_cases hmem : Zb j ∈ free
  · have hdm : decide (Zb j ∈ free) = true := by simpa using hmem
    rw [hdm] at CH
    obtain ⟨y1, y2⟩ := hx2.out hmem
    have Y1 := H_ y1
    clear hx2 hx3 hmem hdm y1
    clear hxn
    generalize bs (Lib.decDigits j) = DG at *
    go_wp2_with (first | (go_at_call 140; go_must (refine (CD.out _).mono ?_; rintro e w1 ⟨rfl, hb1⟩; obtain ⟨c1, c2, c3⟩ := KC.out _ hb1; obtain ⟨d1, d2, d3⟩ := HOA.out _ hb1)) | (go_at_call 99; go_must (refine (CH.out _ d3).mono ?_; rintro e w3 ⟨rfl, rfl⟩)))
    go_roundg (gk - 1)
    case measure => omega
    case rel => exact ⟨j + 1, by omega, by omega, by omega, Y1, H_ d1, H_ d2⟩
  · have hdm : decide (Zb j ∈ free) = false := by simpa using hmem
    rw [hdm] at CH
    obtain rfl := hx3.out hmem
    have HXN := H_ hxn.out
    clear hx2 hx3 hmem hdm hxn
    generalize bs (Lib.decDigits j) = DG at *
    go_wp2_with (first | (go_at_call 140; go_must (refine (CD.out _).mono ?_; rintro e w1 ⟨rfl, hb1⟩; obtain ⟨c1, c2, c3⟩ := KC.out _ hb1; obtain ⟨d1, d2, d3⟩ := HOA.out _ hb1)) | (go_at_call 99; go_must (refine (CH.out _ d3).mono ?_; rintro e w3 ⟨rfl, rfl⟩)))
    go_ret
    exact ⟨by rw [HXN.out]; rfl, d1, d2⟩
end Go.Proofs.YtjaaalojcdbcpaaGreatDoor
