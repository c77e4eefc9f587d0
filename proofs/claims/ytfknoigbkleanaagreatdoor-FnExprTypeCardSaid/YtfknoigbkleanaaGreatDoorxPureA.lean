/- Plain expressions are as large as before and have the same type; types lean on free names only; where the first fault stands. -/
import Derived.Test.YtfknoigbkleanaaGreatDoorxPureXM
namespace Go.Proofs.YtfknoigbkleanaaGreatDoor
open Go.RowKit Go.Proofs.Tryz
set_option maxRecDepth 8000
set_option maxHeartbeats 20000000
set_option linter.unusedVariables false
set_option linter.unusedSimpArgs false
theorem numA_len {l : List UInt8} {n : Int} (h : Qb l = some n) : l.length ≤ 4 := by
 by_cases h0 : l = [48]
 · subst h0; decide
 · by_cases hc : 1 ≤ (Zi l).length ∧ (Zi l).length ≤ 3 ∧ (Zi l).head? ≠ some 48
   · have hl := Z4h l
     omega
   · rw [Vd h0 hc] at h; cases h
theorem Z69 {l : List UInt8} (h : Yi l = true) : 1 ≤ l.length ∧ l.length ≤ 4 := by
 cases l with
 | nil => simp [Yi] at h
 | cons b r =>
   simp only [Yi, Bool.and_eq_true, decide_eq_true_eq] at h
   simp only [List.length_cons]
   omega
theorem tyA_bytes {t : Tr} (h : Zs t = true) : t.bytes + 1 ≤ 8 * t.size := by
 have h2 := Yh h
 have h3 := (Jo _ _ (Nat.le_refl _) h2.1).1
 have h4 : 1 ≤ t.size := by
  cases t with
  | atom a => simp [Tr.size]
  | list ts =>
    obtain ⟨x, a, b, rfl, hx, -, -⟩ := Ju h2.1
    cases x with
    | atom a => simp only [Tr.size, Ys]; omega
    | list s => simp [Z0] at hx
 omega
theorem Qe : ∀ x : Ex, Z3r x → (Z3 x).bytes + 1 ≤ 8 * (Z3 x).size
 | .name s, h => by
   have := Z69 (good_nm h)
   simp only [Z3, Tr.bytes, Tr.size]; omega
 | .num n, h => by
   have := numA_len (good_num h).2
   simp only [Z3, Tr.bytes, Tr.size]; omega
 | .two o a b, h => by
   obtain ⟨h1, h2⟩ := (Z27 _ _ _).1 h
   have k1 := Qe a h1
   have k2 := Qe b h2
   have k3 : (Z1y o).length ≤ 4 := by cases o <;> simp [Z1y]
   simp only [Z3, Tr.bytes, Zo, Tr.size, Ys]; omega
 | .one o a, h => by
   have k1 := Qe a ((Z4a _ _).1 h)
   have k3 : (Z3l o).length ≤ 4 := by cases o <;> simp [Z3l]
   simp only [Z3, Tr.bytes, Zo, Tr.size, Ys]; omega
 | .cond a b c, h => by
   obtain ⟨h1, h2, h3⟩ := (Z2o _ _ _).1 h
   have k1 := Qe a h1
   have k2 := Qe b h2
   have k4 := Qe c h3
   have k3 : kIf.length ≤ 4 := by simp [kIf]
   simp only [Z3, Tr.bytes, Zo, Tr.size, Ys]; omega
 | .lete s a b, h => by
   obtain ⟨h1, h2, h3⟩ := (Z2n _ _ _).1 h
   have k0 := Z69 h1
   have k1 := Qe a h2
   have k2 := Qe b h3
   have k3 : Qq.length ≤ 4 := by simp [Qq]
   simp only [Z3, Tr.bytes, Zo, Tr.size, Ys]; omega
 | .func f s A B e, h => by
   obtain ⟨h1, h2⟩ := (Z0x _ _ _ _ _).1 h
   simp only [Bool.and_eq_true] at h1
   have k0 := Z69 h1.1.1.1.1
   have k1 := Z69 h1.1.1.1.2
   have k2 := tyA_bytes h1.1.2
   have k4 := tyA_bytes h1.2
   have k5 := Qe e h2
   have k3 : Qd.length ≤ 4 := by simp [Qd]
   simp only [Z3, Tr.bytes, Zo, Tr.size, Ys]; omega
theorem nmA_wf {l : List UInt8} (h : Yi l = true) : (Tr.atom l).wf := by
 cases l with
 | nil => simp [Yi] at h
 | cons b r =>
   simp only [Yi, Bool.and_eq_true, decide_eq_true_eq] at h
   obtain ⟨⟨h1, h2, h3⟩, h4⟩ := h
   obtain ⟨m, hm⟩ := Option.isSome_iff_exists.1 h4
   refine ⟨by simp, fun c hc => ?_⟩
   rcases List.mem_cons.1 hc with rfl | hc
   · have : ∀ d : Nat, 97 ≤ d → d ≤ 122 → J5 (UInt8.ofNat d) = true := by
      intro d e1 e2
      have : ∀ k : Fin 26, J5 (UInt8.ofNat (97 + k.val)) = true := by decide
      have h5 := this ⟨d - 97, by omega⟩
      rwa [show 97 + (d - 97) = d by omega] at h5
     have h5 := this c.toNat h2 h3
     rwa [UInt8.ofNat_toNat] at h5
   · obtain ⟨k, hk, rfl⟩ := List.getElem_of_mem hc
     cases hv : Lib.digitVal r[k] with
     | none =>
       rw [Ja r 0 k _ (List.getElem?_eq_getElem hk) hv] at hm
       cases hm
     | some d =>
       have h5 := Jq hv
       rw [← h5.2]
       have : ∀ d : Nat, d < 10 → J5 (UInt8.ofNat (48 + d)) = true := by decide
       exact this d h5.1
theorem numA_wf {l : List UInt8} {n : Int} (h : Qb l = some n) : (Tr.atom l).wf := by
 by_cases h0 : l = [48]
 · subst h0; exact ⟨by decide, by decide⟩
 · by_cases hc : 1 ≤ (Zi l).length ∧ (Zi l).length ≤ 3 ∧ (Zi l).head? ≠ some 48
   · rw [Z2l h0 hc] at h
     refine ⟨fun e => by subst e; simp [Zi] at hc, ?_⟩
     have hall : ∀ b ∈ Zi l, J5 b = true := fun b hb => by
      obtain ⟨k, hk, rfl⟩ := List.getElem_of_mem hb
      cases hv : Lib.digitVal (Zi l)[k] with
      | none =>
        rw [Ja (Zi l) 0 k _ (List.getElem?_eq_getElem hk) hv] at h
        cases h
      | some d =>
        have h2 := (Jq hv)
        rw [← h2.2]
        have h3 := h2.1
        have : ∀ d : Nat, d < 10 → J5 (UInt8.ofNat (48 + d)) = true := by decide
        exact this d h3
     intro b hb
     cases l with
     | nil => cases hb
     | cons c r =>
       simp only [Zi] at hall
       split at hall
       · rename_i hc45
         rcases List.mem_cons.1 hb with rfl | hb
         · rw [hc45]; decide
         · exact hall b hb
       · exact hall b hb
   · rw [Vd h0 hc] at h; cases h
theorem Ks : ∀ x : Ex, Z3r x → (Z3 x).wf
 | .name s, h => nmA_wf (good_nm h)
 | .num n, h => numA_wf (good_num h).2
 | .two o a b, h => by
   obtain ⟨h1, h2⟩ := (Z27 _ _ _).1 h
   have k3 : (Tr.atom (Z1y o)).wf := by cases o <;> exact ⟨by decide, by decide⟩
   simp only [Z3, Tr.wf, wfs]
   exact ⟨by simp, k3, Ks a h1, Ks b h2, trivial⟩
 | .one o a, h => by
   have k3 : (Tr.atom (Z3l o)).wf := by cases o <;> exact ⟨by decide, by decide⟩
   simp only [Z3, Tr.wf, wfs]
   exact ⟨by simp, k3, Ks a ((Z4a _ _).1 h), trivial⟩
 | .cond a b c, h => by
   obtain ⟨h1, h2, h3⟩ := (Z2o _ _ _).1 h
   have k3 : (Tr.atom kIf).wf := ⟨by decide, by decide⟩
   simp only [Z3, Tr.wf, wfs]
   exact ⟨by simp, k3, Ks a h1, Ks b h2, Ks c h3, trivial⟩
 | .lete s a b, h => by
   obtain ⟨h1, h2, h3⟩ := (Z2n _ _ _).1 h
   have k3 : (Tr.atom Qq).wf := ⟨by decide, by decide⟩
   simp only [Z3, Tr.wf, wfs]
   exact ⟨by simp, k3, nmA_wf h1, Ks a h2, Ks b h3, trivial⟩
 | .func f s A B e, h => by
   obtain ⟨h1, h2⟩ := (Z0x _ _ _ _ _).1 h
   simp only [Bool.and_eq_true] at h1
   have k3 : (Tr.atom Qd).wf := ⟨by decide, by decide⟩
   simp only [Z3, Tr.wf, wfs]
   exact ⟨by simp, k3, nmA_wf h1.1.1.1.1, nmA_wf h1.1.1.1.2, (Zf h1.1.2).1, (Zf h1.2).1, Ks e h2, trivial⟩
theorem readA_all {l : List UInt8} {x : Ex} (h : Yf l = some x) : Zt l = some (Z3 x) ∧ l = (Z3 x).text ∧ (Z3 x).size ≤ 120 ∧ (Z3 x).bytes ≤ 12000 ∧ (Z3 x).depth ≤ 60 ∧ (Z3 x).wf ∧ Z3r x := by
 unfold Yf at h
 cases hp : Zt l with
 | none => simp [hp] at h
 | some t =>
   simp only [hp] at h
   split at h
   · rename_i hs
     have g := Yp hp
     have e := Jw _ _ h
     rw [e]
     exact ⟨rfl, g.2.2.2, hs, g.2.1, g.2.2.1, g.1, good_of h⟩
   · cases h
theorem readA_made {x : Ex} (h1 : (Z3 x).size ≤ 120) (h3 : (Z3 x).depth ≤ 60) (h5 : Z3r x) : Yf (Z3 x).text = some x := by
 have h2 := Qe x h5
 rw [J9 (V0 (Ks x h5) (by omega) h3), if_pos h1]
 exact h5
theorem K9 (free : List Nm) : ∀ (x : Ex) (m : List (Nm × Nm)) (k : Nat), (Z3 (plE free m k x).1).size = (Z3 x).size ∧ (Z3 (plE free m k x).1).depth = (Z3 x).depth
 | .name s, m, k => by simp [plE, Z3, Tr.size, Tr.depth]
 | .num n, m, k => by simp [plE]
 | .two o a b, m, k => by
   obtain ⟨h1, h2⟩ := K9 free a m k
   obtain ⟨h3, h4⟩ := K9 free b m (plE free m k a).2
   simp only [plE, Z3, Tr.size, Ys, Tr.depth, Yt, h1, h2, h3, h4, and_self]
 | .one o a, m, k => by
   obtain ⟨h1, h2⟩ := K9 free a m k
   simp only [plE, Z3, Tr.size, Ys, Tr.depth, Yt, h1, h2, and_self]
 | .cond a b c, m, k => by
   obtain ⟨h1, h2⟩ := K9 free a m k
   obtain ⟨h3, h4⟩ := K9 free b m (plE free m k a).2
   obtain ⟨h5, h6⟩ := K9 free c m (plE free m (plE free m k a).2 b).2
   simp only [plE, Z3, Tr.size, Ys, Tr.depth, Yt, h1, h2, h3, h4, h5, h6, and_self]
 | .lete x e b, m, k => by
   obtain ⟨h1, h2⟩ := K9 free e m (Zp free k + 1)
   obtain ⟨h3, h4⟩ := K9 free b ((x, Zz (Zp free k)) :: m) (plE free m (Zp free k + 1) e).2
   simp only [plE, Z3, Tr.size, Ys, Tr.depth, Yt, h1, h2, h3, h4, and_self]
 | .func f x A B e, m, k => by
   obtain ⟨h1, h2⟩ := K9 free e ((x, Zz (Zp free (Zp free k + 1))) :: (f, Zz (Zp free k)) :: m) (Zp free (Zp free k + 1) + 1)
   simp only [plE, Z3, Tr.size, Ys, Tr.depth, Yt, h1, h2, and_self]
theorem Z10 (d : Nat) (h : d < 10) : Lib.digitVal (UInt8.ofNat (48 + d)) = some d := by
 have : ∀ d : Fin 10, Lib.digitVal (UInt8.ofNat (48 + d.val)) = some d.val := by decide
 exact this ⟨d, h⟩
theorem Z6c {i : Nat} (h : i ≤ 200) : Yi (Zz i) = true := by
 unfold Zz Lib.itoa
 rw [if_neg (by omega)]
 simp only [Int.toNat_natCast]
 by_cases h1 : i < 10
 · rw [dd1 i h1]
   have e : Lib.decFrom 0 [UInt8.ofNat (48 + i)] = some (0 * 10 + i) := by simp only [Lib.decFrom, Z10 i h1]
   simp only [Yi, e]
   rfl
 · by_cases h2 : i < 100
   · obtain ⟨d1, d2, e, k1, k2, k3⟩ : ∃ d1 d2, i = d1 * 10 + d2 ∧ 1 ≤ d1 ∧ d1 < 10 ∧ d2 < 10 := ⟨i / 10, i % 10, by omega, by omega, by omega, by omega⟩
     rw [e, dd2 d1 d2 k1 k2 k3]
     have e : Lib.decFrom 0 [UInt8.ofNat (48 + d1), UInt8.ofNat (48 + d2)] = some ((0 * 10 + d1) * 10 + d2) := by simp only [Lib.decFrom, Z10 d1 k2, Z10 d2 k3]
     simp only [Yi, e]
     rfl
   · obtain ⟨d1, d2, d3, e, k1, k2, k3, k4⟩ : ∃ d1 d2 d3, i = (d1 * 10 + d2) * 10 + d3 ∧ 1 ≤ d1 ∧ d1 < 10 ∧ d2 < 10 ∧ d3 < 10 := ⟨i / 100, i / 10 % 10, i % 10, by omega, by omega, by omega, by omega, by omega⟩
     rw [e, dd3 d1 d2 d3 k1 k2 k3 k4]
     have e : Lib.decFrom 0 [UInt8.ofNat (48 + d1), UInt8.ofNat (48 + d2), UInt8.ofNat (48 + d3)] = some (((0 * 10 + d1) * 10 + d2) * 10 + d3) := by simp only [Lib.decFrom, Z10 d1 k2, Z10 d2 k3, Z10 d3 k4]
     simp only [Yi, e]
     rfl
theorem lookR_nm {s : Nm} (hs : Yi s = true) : ∀ {m : List (Nm × Nm)}, (∀ q ∈ m, Yi q.2 = true) → Yi (Q6 m s) = true
 | [], _ => hs
 | (a, b) :: m, h => by
   simp only [Q6]
   split
   · exact h (a, b) (by simp)
   · exact lookR_nm hs (fun q hq => h q (by simp [hq]))
theorem Ka (free : List Nm) : ∀ (x : Ex) (m : List (Nm × Nm)) (k : Nat), (∀ q ∈ m, Yi q.2 = true) → Z3r x → (plE free m k x).2 ≤ 200 → Z3r (plE free m k x).1
 | .name s, m, k, hm, hg, h2 => by
   have h := lookR_nm (good_nm hg) hm
   unfold Z3r
   simp only [plE, Z3, Ye, Qh]
   cases hn : Qb (Q6 m s) with
   | some n => have := Z1z hn; rw [h] at this; cases this
   | none => simp [h]
 | .num n, m, k, hm, hg, h2 => hg
 | .two o a b, m, k, hm, hg, h2 => by
   obtain ⟨g1, g2⟩ := (Z27 _ _ _).1 hg
   simp only [plE] at h2 ⊢
   have u := (Yo free b m (plE free m k a).2).1
   exact (Z27 _ _ _).2 ⟨Ka free a m k hm g1 (by omega), Ka free b m _ hm g2 h2⟩
 | .one o a, m, k, hm, hg, h2 => by
   simp only [plE] at h2 ⊢
   exact (Z4a _ _).2 (Ka free a m k hm ((Z4a _ _).1 hg) h2)
 | .cond a b c, m, k, hm, hg, h2 => by
   obtain ⟨g1, g2, g3⟩ := (Z2o _ _ _).1 hg
   simp only [plE] at h2 ⊢
   have u := (Yo free b m (plE free m k a).2).1
   have v := (Yo free c m (plE free m (plE free m k a).2 b).2).1
   exact (Z2o _ _ _).2 ⟨Ka free a m k hm g1 (by omega), Ka free b m _ hm g2 (by omega), Ka free c m _ hm g3 h2⟩
 | .lete x e b, m, k, hm, hg, h2 => by
   obtain ⟨g1, g2, g3⟩ := (Z2n _ _ _).1 hg
   simp only [plE] at h2 ⊢
   have u := (Yo free e m (Zp free k + 1)).1
   have v := (Yo free b ((x, Zz (Zp free k)) :: m) (plE free m (Zp free k + 1) e).2).1
   have hx := Z6c (i := Zp free k) (by omega)
   exact (Z2n _ _ _).2 ⟨hx, Ka free e m _ hm g2 (by omega), Ka free b _ _ (fun q hq => by
    rcases List.mem_cons.1 hq with rfl | hq
    · exact hx
    · exact hm q hq) g3 h2⟩
 | .func f x A B e, m, k, hm, hg, h2 => by
   obtain ⟨g1, g2⟩ := (Z0x _ _ _ _ _).1 hg
   simp only [plE] at h2 ⊢
   have u := (Yo free e ((x, Zz (Zp free (Zp free k + 1))) :: (f, Zz (Zp free k)) :: m) (Zp free (Zp free k + 1) + 1)).1
   have v := (Jp free (Zp free k + 1)).1
   have hx := Z6c (i := Zp free k) (by omega)
   have hy := Z6c (i := Zp free (Zp free k + 1)) (by omega)
   simp only [Bool.and_eq_true] at g1
   refine (Z0x _ _ _ _ _).2 ⟨?_, Ka free e _ _ (fun q hq => by
    rcases List.mem_cons.1 hq with rfl | hq
    · exact hy
    · rcases List.mem_cons.1 hq with rfl | hq
      · exact hx
      · exact hm q hq) g2 h2⟩
   have hne : (Zz (Zp free k) == Zz (Zp free (Zp free k + 1))) = false := by
    rw [beq_eq_false_iff_ne]
    intro e
    have := Vp e
    omega
   simp [hx, hy, hne, g1.1.2, g1.2]
def tyT (env : List (Nm × Tr)) (x : Ex) : Option Tr := match tyR env x with | .ok t => some t | .error _ => none
theorem tyT_ok {env : List (Nm × Tr)} {x : Ex} {t : Tr} : tyR env x = .ok t ↔ tyT env x = some t := by
 unfold tyT; cases tyR env x <;> simp
theorem Z3w (x : Ex) (o : Option Tr) : (match Kw x o with | .ok t => some t | .error _ => none) = o := by cases o <;> rfl
theorem tyT_name (env : List (Nm × Tr)) (s : Nm) : tyT env (.name s) = Xi env s := by unfold tyT; simp only [tyR]; exact Z3w _ _
theorem tyT_two (env : List (Nm × Tr)) (o : Op2) (a b : Ex) : tyT env (.two o a b) = (tyT env a).bind fun ta => (tyT env b).bind fun tb => Yv o ta tb := by
 unfold tyT; simp only [tyR]
 cases tyR env a <;> cases tyR env b <;> simp [Z3w]
theorem tyT_one (env : List (Nm × Tr)) (o : Op1) (a : Ex) : tyT env (.one o a) = (tyT env a).bind fun ta => J4 o ta := by
 unfold tyT; simp only [tyR]
 cases tyR env a <;> simp [Z3w]
theorem tyT_cond (env : List (Nm × Tr)) (a b c : Ex) : tyT env (.cond a b c) = (tyT env a).bind fun ta => (tyT env b).bind fun tb => (tyT env c).bind fun tc => if Ya ta = true ∧ tb.text = tc.text then some tb else none := by
 unfold tyT; simp only [tyR]
 cases tyR env a <;> cases tyR env b <;> cases tyR env c <;> simp [Z3w]
theorem tyT_lete (env : List (Nm × Tr)) (x : Nm) (e b : Ex) : tyT env (.lete x e b) = (tyT env e).bind fun t => tyT ((x, t) :: env) b := by
 unfold tyT; simp only [tyR]
 cases tyR env e <;> simp
theorem tyT_func (env : List (Nm × Tr)) (f x : Nm) (A B : Tr) (e : Ex) : tyT env (.func f x A B e) = (mkT 62 A B).bind fun T => (tyT ((x, A) :: (f, T) :: env) e).bind fun t => if t.text = B.text then some T else none := by
 unfold tyT; simp only [tyR]
 cases mkT 62 A B with
 | none => simp
 | some T => cases h : tyR ((x, A) :: (f, T) :: env) e <;> simp [Z3w, h]
theorem inRm {bs l : List Nm} {s : Nm} : s ∈ rm bs l ↔ s ∈ l ∧ s ∉ bs := by simp [rm]
theorem Z0k (free : List Nm) : ∀ (x : Ex) (m : List (Nm × Nm)) (k : Nat) (e1 e2 : List (Nm × Tr)), (∀ s ∈ Zj x, Xi e2 (Q6 m s) = Xi e1 s) → (∀ s ∈ Zj x, Q6 m s ∈ free ∨ ∃ j, j < k ∧ Q6 m s = Zz j) → tyT e2 (plE free m k x).1 = tyT e1 x
 | .name s, m, k, e1, e2, h1, h2 => by
   simp only [plE, tyT_name]
   exact h1 s (by simp [Zj])
 | .num n, m, k, e1, e2, h1, h2 => by simp [plE, tyT, tyR]
 | .two o a b, m, k, e1, e2, h1, h2 => by
   have u := (Yo free a m k).1
   simp only [plE, tyT_two]
   rw [Z0k free a m k e1 e2 (fun s hs => h1 s (by simp [Zj, hs])) (fun s hs => h2 s (by simp [Zj, hs])),
    Z0k free b m _ e1 e2 (fun s hs => h1 s (by simp [Zj, hs])) (fun s hs => (h2 s (by simp [Zj, hs])).imp id fun ⟨j, hj, e⟩ => ⟨j, by omega, e⟩)]
 | .one o a, m, k, e1, e2, h1, h2 => by
   simp only [plE, tyT_one]
   rw [Z0k free a m k e1 e2 h1 h2]
 | .cond a b c, m, k, e1, e2, h1, h2 => by
   have u := (Yo free a m k).1
   have v := (Yo free b m (plE free m k a).2).1
   simp only [plE, tyT_cond]
   rw [Z0k free a m k e1 e2 (fun s hs => h1 s (by simp [Zj, hs])) (fun s hs => h2 s (by simp [Zj, hs])),
    Z0k free b m _ e1 e2 (fun s hs => h1 s (by simp [Zj, hs])) (fun s hs => (h2 s (by simp [Zj, hs])).imp id fun ⟨j, hj, e⟩ => ⟨j, by omega, e⟩),
    Z0k free c m _ e1 e2 (fun s hs => h1 s (by simp [Zj, hs])) (fun s hs => (h2 s (by simp [Zj, hs])).imp id fun ⟨j, hj, e⟩ => ⟨j, by omega, e⟩)]
 | .lete x e b, m, k, e1, e2, h1, h2 => by
   have u := (Yo free e m (Zp free k + 1)).1
   have hk := (Jp free k).1
   have hn := Z2p free k
   simp only [plE, tyT_lete]
   rw [Z0k free e m _ e1 e2 (fun s hs => h1 s (by simp [Zj, hs])) (fun s hs => (h2 s (by simp [Zj, hs])).imp id fun ⟨j, hj, e⟩ => ⟨j, by omega, e⟩)]
   cases tyT e1 e with
   | none => rfl
   | some t =>
     simp only [Option.bind_some]
     refine Z0k free b _ _ _ _ (fun s hs => ?_) (fun s hs => ?_)
     · by_cases hx : x = s
       · subst hx; simp [Q6, Xi]
       · have hs2 : s ∈ Zj (.lete x e b) := by simp only [Zj, List.mem_append, inRm, List.mem_singleton]; exact .inr ⟨hs, fun e => hx e.symm⟩
         have hne : Zz (Zp free k) ≠ Q6 m s := fun q => by
          rcases h2 s hs2 with h | ⟨j, hj, h⟩
          · rw [← q] at h; exact hn h
          · rw [← q] at h; have := Vp h; omega
         simp only [Q6, if_neg hx, Xi, if_neg hne]
         exact h1 s hs2
     · by_cases hx : x = s
       · exact .inr ⟨Zp free k, by omega, by simp [Q6, hx]⟩
       · have hs2 : s ∈ Zj (.lete x e b) := by simp only [Zj, List.mem_append, inRm, List.mem_singleton]; exact .inr ⟨hs, fun e => hx e.symm⟩
         simp only [Q6, if_neg hx]
         exact (h2 s hs2).imp id fun ⟨j, hj, e⟩ => ⟨j, by omega, e⟩
 | .func f x A B e, m, k, e1, e2, h1, h2 => by
   have hk := (Jp free k).1
   have hk2 := (Jp free (Zp free k + 1)).1
   have hn := Z2p free k
   have hn2 := Z2p free (Zp free k + 1)
   simp only [plE, tyT_func]
   cases mkT 62 A B with
   | none => rfl
   | some T =>
     simp only [Option.bind_some]
     have hfx : Zz (Zp free (Zp free k + 1)) ≠ Zz (Zp free k) := fun q => by have := Vp q; omega
     rw [Z0k free e _ _ ((x, A) :: (f, T) :: e1) ((Zz (Zp free (Zp free k + 1)), A) :: (Zz (Zp free k), T) :: e2) (fun s hs => ?_) (fun s hs => ?_)]
     · by_cases hx : x = s
       · subst hx; simp [Q6, Xi]
       · by_cases hf : f = s
         · subst hf
           simp only [Q6, if_neg hx, if_true, Xi, if_neg hfx]
         · have hs2 : s ∈ Zj (.func f x A B e) := by simp only [Zj, inRm, List.mem_cons, List.not_mem_nil, or_false]; exact ⟨hs, fun q => by rcases q with q | q; exact hf q.symm; exact hx q.symm⟩
           have hne : Zz (Zp free k) ≠ Q6 m s := fun q => by
            rcases h2 s hs2 with h | ⟨j, hj, h⟩
            · rw [← q] at h; exact hn h
            · rw [← q] at h; have := Vp h; omega
           have hne2 : Zz (Zp free (Zp free k + 1)) ≠ Q6 m s := fun q => by
            rcases h2 s hs2 with h | ⟨j, hj, h⟩
            · rw [← q] at h; exact hn2 h
            · rw [← q] at h; have := Vp h; omega
           simp only [Q6, if_neg hx, if_neg hf, Xi, if_neg hne, if_neg hne2]
           exact h1 s hs2
     · by_cases hx : x = s
       · exact .inr ⟨Zp free (Zp free k + 1), by omega, by simp [Q6, hx]⟩
       · by_cases hf : f = s
         · exact .inr ⟨Zp free k, by omega, by simp [Q6, hx, hf]⟩
         · have hs2 : s ∈ Zj (.func f x A B e) := by simp only [Zj, inRm, List.mem_cons, List.not_mem_nil, or_false]; exact ⟨hs, fun q => by rcases q with q | q; exact hf q.symm; exact hx q.symm⟩
           simp only [Q6, if_neg hx, if_neg hf]
           exact (h2 s hs2).imp id fun ⟨j, hj, e⟩ => ⟨j, by omega, e⟩
theorem Z3n (n : Nm) : ∀ (P l : List Nm), n ∈ P.foldl Ji l ↔ n ∈ l ∨ n ∈ P
 | [], l => by simp
 | a :: P, l => by
   simp only [List.foldl_cons, Z3n n P, List.mem_cons]
   unfold Ji
   split
   · rename_i h
     constructor
     · rintro (h2 | h2); exact .inl h2; exact .inr (.inr h2)
     · rintro (h2 | rfl | h2); exact .inl h2; exact .inl h; exact .inr h2
   · simp [or_assoc]
theorem V6 : ∀ (x : Ex) (e1 e2 : List (Nm × Tr)), (∀ s ∈ Zj x, Xi e1 s = Xi e2 s) → tyR e1 x = tyR e2 x
 | .name s, e1, e2, h => by simp only [tyR]; rw [h s (by simp [Zj])]
 | .num n, e1, e2, h => rfl
 | .two o a b, e1, e2, h => by
   simp only [tyR]
   rw [V6 a e1 e2 (fun s hs => h s (by simp [Zj, hs])), V6 b e1 e2 (fun s hs => h s (by simp [Zj, hs]))]
 | .one o a, e1, e2, h => by simp only [tyR]; rw [V6 a e1 e2 h]
 | .cond a b c, e1, e2, h => by
   simp only [tyR]
   rw [V6 a e1 e2 (fun s hs => h s (by simp [Zj, hs])), V6 b e1 e2 (fun s hs => h s (by simp [Zj, hs])), V6 c e1 e2 (fun s hs => h s (by simp [Zj, hs]))]
 | .lete x e b, e1, e2, h => by
   simp only [tyR]
   rw [V6 e e1 e2 (fun s hs => h s (by simp [Zj, hs]))]
   cases tyR e2 e with
   | error f => rfl
   | ok t =>
     refine V6 b _ _ (fun s hs => ?_)
     by_cases hx : x = s
     · simp [Xi, hx]
     · simp only [Xi, if_neg hx]
       exact h s (by simp only [Zj, List.mem_append, inRm, List.mem_singleton]; exact .inr ⟨hs, fun e => hx e.symm⟩)
 | .func f x A B e, e1, e2, h => by
   simp only [tyR]
   cases mkT 62 A B with
   | none => rfl
   | some T =>
     have : tyR ((x, A) :: (f, T) :: e1) e = tyR ((x, A) :: (f, T) :: e2) e := by
      refine V6 e _ _ (fun s hs => ?_)
      by_cases hx : x = s
      · simp [Xi, hx]
      · by_cases hf : f = s
        · simp [Xi, hx, hf]
        · simp only [Xi, if_neg hx, if_neg hf]
          exact h s (by simp only [Zj, inRm, List.mem_cons, List.not_mem_nil, or_false]; exact ⟨hs, fun q => by rcases q with q | q; exact hf q.symm; exact hx q.symm⟩)
     simp only [this]
theorem K6 : ∀ (x : Ex) (env : List (Nm × Tr)), (tyT env x).isSome = true → ∀ s ∈ Zj x, (Xi env s).isSome = true
 | .name s, env, h, n, hn => by
   simp only [Zj, List.mem_singleton] at hn
   subst hn
   rwa [tyT_name] at h
 | .num n, env, h, s, hs => by simp [Zj] at hs
 | .two o a b, env, h, s, hs => by
   rw [tyT_two] at h
   cases ha : tyT env a with
   | none => simp [ha] at h
   | some ta =>
     cases hb : tyT env b with
     | none => simp [ha, hb] at h
     | some tb =>
       simp only [Zj, List.mem_append] at hs
       rcases hs with hs | hs
       · exact K6 a env (by simp [ha]) s hs
       · exact K6 b env (by simp [hb]) s hs
 | .one o a, env, h, s, hs => by
   rw [tyT_one] at h
   cases ha : tyT env a with
   | none => simp [ha] at h
   | some ta => exact K6 a env (by simp [ha]) s hs
 | .cond a b c, env, h, s, hs => by
   rw [tyT_cond] at h
   cases ha : tyT env a with
   | none => simp [ha] at h
   | some ta =>
     cases hb : tyT env b with
     | none => simp [ha, hb] at h
     | some tb =>
       cases hc : tyT env c with
       | none => simp [ha, hb, hc] at h
       | some tc =>
         simp only [Zj, List.mem_append] at hs
         rcases hs with (hs | hs) | hs
         · exact K6 a env (by simp [ha]) s hs
         · exact K6 b env (by simp [hb]) s hs
         · exact K6 c env (by simp [hc]) s hs
 | .lete x e b, env, h, s, hs => by
   rw [tyT_lete] at h
   cases he : tyT env e with
   | none => simp [he] at h
   | some t =>
     simp only [he, Option.bind_some] at h
     simp only [Zj, List.mem_append, inRm, List.mem_singleton] at hs
     rcases hs with hs | ⟨hs, hx⟩
     · exact K6 e env (by simp [he]) s hs
     · have := K6 b _ h s hs
       simpa only [Xi, if_neg (fun q : x = s => hx q.symm)] using this
 | .func f x A B e, env, h, s, hs => by
   rw [tyT_func] at h
   cases hT : mkT 62 A B with
   | none => simp [hT] at h
   | some T =>
     simp only [hT, Option.bind_some] at h
     cases he : tyT ((x, A) :: (f, T) :: env) e with
     | none => simp [he] at h
     | some t =>
       simp only [Zj, inRm, List.mem_cons, List.not_mem_nil, or_false, not_or] at hs
       have := K6 e _ (by rw [he]; rfl) s hs.1
       simpa only [Xi, if_neg (fun q : x = s => hs.2.2 q.symm), if_neg (fun q : f = s => hs.2.1 q.symm)] using this
end Go.Proofs.YtfknoigbkleanaaGreatDoor
