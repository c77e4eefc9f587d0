/- Plain expressions are as large as before and have the same type; types lean on free names only; where the first fault stands. -/
import Derived.Test.YtfknoigbkleanaaGreatDoorqPureXM
namespace Go.Proofs.YtfknoigbkleanaaGreatDoor
open Go.RowKit Go.Proofs.Tryz
set_option maxRecDepth 8000
set_option maxHeartbeats 20000000
set_option linter.unusedVariables false
set_option linter.unusedSimpArgs false
theorem numA_len {l : List UInt8} {n : Int} (h : Qo l = some n) : l.length ≤ 4 := by
 by_cases h0 : l = [48]
 · subst h0; decide
 · by_cases hc : 1 ≤ (Zj l).length ∧ (Zj l).length ≤ 3 ∧ (Zj l).head? ≠ some 48
   · have hl := Z61 l
     omega
   · rw [Z0c h0 hc] at h; cases h
theorem Z7u {l : List UInt8} (h : Yr l = true) : 1 ≤ l.length ∧ l.length ≤ 4 := by
 cases l with
 | nil => simp [Yr] at h
 | cons b r =>
   simp only [Yr, Bool.and_eq_true, decide_eq_true_eq] at h
   simp only [List.length_cons]
   omega
theorem tyA_bytes {t : Tr} (h : Zp t = true) : t.bytes + 1 ≤ 8 * t.size := by
 have h2 := Zy h
 have h3 := (K5 _ _ (Nat.le_refl _) h2.1).1
 have h4 : 1 ≤ t.size := by
  cases t with
  | atom a => simp [Tr.size]
  | list ts =>
    obtain ⟨x, a, b, rfl, hx, -, -⟩ := Q4 h2.1
    cases x with
    | atom a => simp only [Tr.size, Yo]; omega
    | list s => simp [Z0] at hx
 omega
theorem Qt : ∀ x : Ex, Z3d x → (Z2 x).bytes + 1 ≤ 8 * (Z2 x).size
 | .name s, h => by
   have := Z7u (good_nm h)
   simp only [Z2, Tr.bytes, Tr.size]; omega
 | .num n, h => by
   have := numA_len (good_num h).2
   simp only [Z2, Tr.bytes, Tr.size]; omega
 | .two o a b, h => by
   obtain ⟨h1, h2⟩ := (Z1c _ _ _).1 h
   have k1 := Qt a h1
   have k2 := Qt b h2
   have k3 : (Z3c o).length ≤ 4 := by cases o <;> simp [Z3c]
   simp only [Z2, Tr.bytes, Zk, Tr.size, Yo]; omega
 | .one o a, h => by
   have k1 := Qt a ((Z3w _ _).1 h)
   have k3 : (Z4l o).length ≤ 4 := by cases o <;> simp [Z4l]
   simp only [Z2, Tr.bytes, Zk, Tr.size, Yo]; omega
 | .cond a b c, h => by
   obtain ⟨h1, h2, h3⟩ := (Vu _ _ _).1 h
   have k1 := Qt a h1
   have k2 := Qt b h2
   have k4 := Qt c h3
   have k3 : kIf.length ≤ 4 := by simp [kIf]
   simp only [Z2, Tr.bytes, Zk, Tr.size, Yo]; omega
 | .lete s a b, h => by
   obtain ⟨h1, h2, h3⟩ := (Z0z _ _ _).1 h
   have k0 := Z7u h1
   have k1 := Qt a h2
   have k2 := Qt b h3
   have k3 : Q3.length ≤ 4 := by simp [Q3]
   simp only [Z2, Tr.bytes, Zk, Tr.size, Yo]; omega
 | .func f s A B e, h => by
   obtain ⟨h1, h2⟩ := (Z10 _ _ _ _ _).1 h
   simp only [Bool.and_eq_true] at h1
   have k0 := Z7u h1.1.1.1.1
   have k1 := Z7u h1.1.1.1.2
   have k2 := tyA_bytes h1.1.2
   have k4 := tyA_bytes h1.2
   have k5 := Qt e h2
   have k3 : Q1.length ≤ 4 := by simp [Q1]
   simp only [Z2, Tr.bytes, Zk, Tr.size, Yo]; omega
theorem nmA_wf {l : List UInt8} (h : Yr l = true) : (Tr.atom l).wf := by
 cases l with
 | nil => simp [Yr] at h
 | cons b r =>
   simp only [Yr, Bool.and_eq_true, decide_eq_true_eq] at h
   obtain ⟨⟨h1, h2, h3⟩, h4⟩ := h
   obtain ⟨m, hm⟩ := Option.isSome_iff_exists.1 h4
   refine ⟨by simp, fun c hc => ?_⟩
   rcases List.mem_cons.1 hc with rfl | hc
   · have : ∀ d : Nat, 97 ≤ d → d ≤ 122 → Jb (UInt8.ofNat d) = true := by
      intro d e1 e2
      have : ∀ k : Fin 26, Jb (UInt8.ofNat (97 + k.val)) = true := by decide
      have h5 := this ⟨d - 97, by omega⟩
      rwa [show 97 + (d - 97) = d by omega] at h5
     have h5 := this c.toNat h2 h3
     rwa [UInt8.ofNat_toNat] at h5
   · obtain ⟨k, hk, rfl⟩ := List.getElem_of_mem hc
     cases hv : Lib.digitVal r[k] with
     | none =>
       rw [Ji r 0 k _ (List.getElem?_eq_getElem hk) hv] at hm
       cases hm
     | some d =>
       have h5 := K8 hv
       rw [← h5.2]
       have : ∀ d : Nat, d < 10 → Jb (UInt8.ofNat (48 + d)) = true := by decide
       exact this d h5.1
theorem numA_wf {l : List UInt8} {n : Int} (h : Qo l = some n) : (Tr.atom l).wf := by
 by_cases h0 : l = [48]
 · subst h0; exact ⟨by decide, by decide⟩
 · by_cases hc : 1 ≤ (Zj l).length ∧ (Zj l).length ≤ 3 ∧ (Zj l).head? ≠ some 48
   · rw [Z4a h0 hc] at h
     refine ⟨fun e => by subst e; simp [Zj] at hc, ?_⟩
     have hall : ∀ b ∈ Zj l, Jb b = true := fun b hb => by
      obtain ⟨k, hk, rfl⟩ := List.getElem_of_mem hb
      cases hv : Lib.digitVal (Zj l)[k] with
      | none =>
        rw [Ji (Zj l) 0 k _ (List.getElem?_eq_getElem hk) hv] at h
        cases h
      | some d =>
        have h2 := (K8 hv)
        rw [← h2.2]
        have h3 := h2.1
        have : ∀ d : Nat, d < 10 → Jb (UInt8.ofNat (48 + d)) = true := by decide
        exact this d h3
     intro b hb
     cases l with
     | nil => cases hb
     | cons c r =>
       simp only [Zj] at hall
       split at hall
       · rename_i hc45
         rcases List.mem_cons.1 hb with rfl | hb
         · rw [hc45]; decide
         · exact hall b hb
       · exact hall b hb
   · rw [Z0c h0 hc] at h; cases h
theorem Vl : ∀ x : Ex, Z3d x → (Z2 x).wf
 | .name s, h => nmA_wf (good_nm h)
 | .num n, h => numA_wf (good_num h).2
 | .two o a b, h => by
   obtain ⟨h1, h2⟩ := (Z1c _ _ _).1 h
   have k3 : (Tr.atom (Z3c o)).wf := by cases o <;> exact ⟨by decide, by decide⟩
   simp only [Z2, Tr.wf, wfs]
   exact ⟨by simp, k3, Vl a h1, Vl b h2, trivial⟩
 | .one o a, h => by
   have k3 : (Tr.atom (Z4l o)).wf := by cases o <;> exact ⟨by decide, by decide⟩
   simp only [Z2, Tr.wf, wfs]
   exact ⟨by simp, k3, Vl a ((Z3w _ _).1 h), trivial⟩
 | .cond a b c, h => by
   obtain ⟨h1, h2, h3⟩ := (Vu _ _ _).1 h
   have k3 : (Tr.atom kIf).wf := ⟨by decide, by decide⟩
   simp only [Z2, Tr.wf, wfs]
   exact ⟨by simp, k3, Vl a h1, Vl b h2, Vl c h3, trivial⟩
 | .lete s a b, h => by
   obtain ⟨h1, h2, h3⟩ := (Z0z _ _ _).1 h
   have k3 : (Tr.atom Q3).wf := ⟨by decide, by decide⟩
   simp only [Z2, Tr.wf, wfs]
   exact ⟨by simp, k3, nmA_wf h1, Vl a h2, Vl b h3, trivial⟩
 | .func f s A B e, h => by
   obtain ⟨h1, h2⟩ := (Z10 _ _ _ _ _).1 h
   simp only [Bool.and_eq_true] at h1
   have k3 : (Tr.atom Q1).wf := ⟨by decide, by decide⟩
   simp only [Z2, Tr.wf, wfs]
   exact ⟨by simp, k3, nmA_wf h1.1.1.1.1, nmA_wf h1.1.1.1.2, (Zf h1.1.2).1, (Zf h1.2).1, Vl e h2, trivial⟩
theorem Z6c {l : List UInt8} {x : Ex} (h : Yb l = some x) : Zv l = some (Z2 x) ∧ l = (Z2 x).text ∧ (Z2 x).size ≤ 120 ∧ (Z2 x).bytes ≤ 12000 ∧ (Z2 x).depth ≤ 60 ∧ (Z2 x).wf ∧ Z3d x := by
 unfold Yb at h
 cases hp : Zv l with
 | none => simp [hp] at h
 | some t =>
   simp only [hp] at h
   split at h
   · rename_i hs
     have g := Yt hp
     have e := Jd _ _ h
     rw [e]
     exact ⟨rfl, g.2.2.2, hs, g.2.1, g.2.2.1, g.1, good_of h⟩
   · cases h
theorem Z8k {x : Ex} (h1 : (Z2 x).size ≤ 120) (h3 : (Z2 x).depth ≤ 60) (h5 : Z3d x) : Yb (Z2 x).text = some x := by
 have h2 := Qt x h5
 rw [Jh (V6 (Vl x h5) (by omega) h3), if_pos h1]
 exact h5
theorem Kp (free : List Nm) : ∀ (x : Ex) (m : List (Nm × Nm)) (k : Nat), (Z2 (plE free m k x).1).size = (Z2 x).size ∧ (Z2 (plE free m k x).1).depth = (Z2 x).depth
 | .name s, m, k => by simp [plE, Z2, Tr.size, Tr.depth]
 | .num n, m, k => by simp [plE]
 | .two o a b, m, k => by
   obtain ⟨h1, h2⟩ := Kp free a m k
   obtain ⟨h3, h4⟩ := Kp free b m (plE free m k a).2
   simp only [plE, Z2, Tr.size, Yo, Tr.depth, Ys, h1, h2, h3, h4, and_self]
 | .one o a, m, k => by
   obtain ⟨h1, h2⟩ := Kp free a m k
   simp only [plE, Z2, Tr.size, Yo, Tr.depth, Ys, h1, h2, and_self]
 | .cond a b c, m, k => by
   obtain ⟨h1, h2⟩ := Kp free a m k
   obtain ⟨h3, h4⟩ := Kp free b m (plE free m k a).2
   obtain ⟨h5, h6⟩ := Kp free c m (plE free m (plE free m k a).2 b).2
   simp only [plE, Z2, Tr.size, Yo, Tr.depth, Ys, h1, h2, h3, h4, h5, h6, and_self]
 | .lete x e b, m, k => by
   obtain ⟨h1, h2⟩ := Kp free e m (Zr free k + 1)
   obtain ⟨h3, h4⟩ := Kp free b ((x, Y3 (Zr free k)) :: m) (plE free m (Zr free k + 1) e).2
   simp only [plE, Z2, Tr.size, Yo, Tr.depth, Ys, h1, h2, h3, h4, and_self]
 | .func f x A B e, m, k => by
   obtain ⟨h1, h2⟩ := Kp free e ((x, Y3 (Zr free (Zr free k + 1))) :: (f, Y3 (Zr free k)) :: m) (Zr free (Zr free k + 1) + 1)
   simp only [plE, Z2, Tr.size, Yo, Tr.depth, Ys, h1, h2, and_self]
theorem Z2h (d : Nat) (h : d < 10) : Lib.digitVal (UInt8.ofNat (48 + d)) = some d := by
 have : ∀ d : Fin 10, Lib.digitVal (UInt8.ofNat (48 + d.val)) = some d.val := by decide
 exact this ⟨d, h⟩
theorem Z80 {i : Nat} (h : i ≤ 200) : Yr (Y3 i) = true := by
 unfold Y3 Lib.itoa
 rw [if_neg (by omega)]
 simp only [Int.toNat_natCast]
 by_cases h1 : i < 10
 · rw [dd1 i h1]
   have e : Lib.decFrom 0 [UInt8.ofNat (48 + i)] = some (0 * 10 + i) := by simp only [Lib.decFrom, Z2h i h1]
   simp only [Yr, e]
   rfl
 · by_cases h2 : i < 100
   · obtain ⟨d1, d2, e, k1, k2, k3⟩ : ∃ d1 d2, i = d1 * 10 + d2 ∧ 1 ≤ d1 ∧ d1 < 10 ∧ d2 < 10 := ⟨i / 10, i % 10, by omega, by omega, by omega, by omega⟩
     rw [e, dd2 d1 d2 k1 k2 k3]
     have e : Lib.decFrom 0 [UInt8.ofNat (48 + d1), UInt8.ofNat (48 + d2)] = some ((0 * 10 + d1) * 10 + d2) := by simp only [Lib.decFrom, Z2h d1 k2, Z2h d2 k3]
     simp only [Yr, e]
     rfl
   · obtain ⟨d1, d2, d3, e, k1, k2, k3, k4⟩ : ∃ d1 d2 d3, i = (d1 * 10 + d2) * 10 + d3 ∧ 1 ≤ d1 ∧ d1 < 10 ∧ d2 < 10 ∧ d3 < 10 := ⟨i / 100, i / 10 % 10, i % 10, by omega, by omega, by omega, by omega, by omega⟩
     rw [e, dd3 d1 d2 d3 k1 k2 k3 k4]
     have e : Lib.decFrom 0 [UInt8.ofNat (48 + d1), UInt8.ofNat (48 + d2), UInt8.ofNat (48 + d3)] = some (((0 * 10 + d1) * 10 + d2) * 10 + d3) := by simp only [Lib.decFrom, Z2h d1 k2, Z2h d2 k3, Z2h d3 k4]
     simp only [Yr, e]
     rfl
theorem lookR_nm {s : Nm} (hs : Yr s = true) : ∀ {m : List (Nm × Nm)}, (∀ q ∈ m, Yr q.2 = true) → Yr (Qi m s) = true
 | [], _ => hs
 | (a, b) :: m, h => by
   simp only [Qi]
   split
   · exact h (a, b) (by simp)
   · exact lookR_nm hs (fun q hq => h q (by simp [hq]))
theorem Kq (free : List Nm) : ∀ (x : Ex) (m : List (Nm × Nm)) (k : Nat), (∀ q ∈ m, Yr q.2 = true) → Z3d x → (plE free m k x).2 ≤ 200 → Z3d (plE free m k x).1
 | .name s, m, k, hm, hg, h2 => by
   have h := lookR_nm (good_nm hg) hm
   unfold Z3d
   simp only [plE, Z2, Y9, Qm]
   cases hn : Qo (Qi m s) with
   | some n => have := Z1l hn; rw [h] at this; cases this
   | none => simp [h]
 | .num n, m, k, hm, hg, h2 => hg
 | .two o a b, m, k, hm, hg, h2 => by
   obtain ⟨g1, g2⟩ := (Z1c _ _ _).1 hg
   simp only [plE] at h2 ⊢
   have u := (Yz free b m (plE free m k a).2).1
   exact (Z1c _ _ _).2 ⟨Kq free a m k hm g1 (by omega), Kq free b m _ hm g2 h2⟩
 | .one o a, m, k, hm, hg, h2 => by
   simp only [plE] at h2 ⊢
   exact (Z3w _ _).2 (Kq free a m k hm ((Z3w _ _).1 hg) h2)
 | .cond a b c, m, k, hm, hg, h2 => by
   obtain ⟨g1, g2, g3⟩ := (Vu _ _ _).1 hg
   simp only [plE] at h2 ⊢
   have u := (Yz free b m (plE free m k a).2).1
   have v := (Yz free c m (plE free m (plE free m k a).2 b).2).1
   exact (Vu _ _ _).2 ⟨Kq free a m k hm g1 (by omega), Kq free b m _ hm g2 (by omega), Kq free c m _ hm g3 h2⟩
 | .lete x e b, m, k, hm, hg, h2 => by
   obtain ⟨g1, g2, g3⟩ := (Z0z _ _ _).1 hg
   simp only [plE] at h2 ⊢
   have u := (Yz free e m (Zr free k + 1)).1
   have v := (Yz free b ((x, Y3 (Zr free k)) :: m) (plE free m (Zr free k + 1) e).2).1
   have hx := Z80 (i := Zr free k) (by omega)
   exact (Z0z _ _ _).2 ⟨hx, Kq free e m _ hm g2 (by omega), Kq free b _ _ (fun q hq => by
    rcases List.mem_cons.1 hq with rfl | hq
    · exact hx
    · exact hm q hq) g3 h2⟩
 | .func f x A B e, m, k, hm, hg, h2 => by
   obtain ⟨g1, g2⟩ := (Z10 _ _ _ _ _).1 hg
   simp only [plE] at h2 ⊢
   have u := (Yz free e ((x, Y3 (Zr free (Zr free k + 1))) :: (f, Y3 (Zr free k)) :: m) (Zr free (Zr free k + 1) + 1)).1
   have v := (K6 free (Zr free k + 1)).1
   have hx := Z80 (i := Zr free k) (by omega)
   have hy := Z80 (i := Zr free (Zr free k + 1)) (by omega)
   simp only [Bool.and_eq_true] at g1
   refine (Z10 _ _ _ _ _).2 ⟨?_, Kq free e _ _ (fun q hq => by
    rcases List.mem_cons.1 hq with rfl | hq
    · exact hy
    · rcases List.mem_cons.1 hq with rfl | hq
      · exact hx
      · exact hm q hq) g2 h2⟩
   have hne : (Y3 (Zr free k) == Y3 (Zr free (Zr free k + 1))) = false := by
    rw [beq_eq_false_iff_ne]
    intro e
    have := Z0u e
    omega
   simp [hx, hy, hne, g1.1.2, g1.2]
def tyT (env : List (Nm × Tr)) (x : Ex) : Option Tr := match tyR env x with | .ok t => some t | .error _ => none
theorem tyT_ok {env : List (Nm × Tr)} {x : Ex} {t : Tr} : tyR env x = .ok t ↔ tyT env x = some t := by
 unfold tyT; cases tyR env x <;> simp
theorem Z5l (x : Ex) (o : Option Tr) : (match Jw x o with | .ok t => some t | .error _ => none) = o := by cases o <;> rfl
theorem tyT_name (env : List (Nm × Tr)) (s : Nm) : tyT env (.name s) = Yv env s := by unfold tyT; simp only [tyR]; exact Z5l _ _
theorem tyT_two (env : List (Nm × Tr)) (o : Op2) (a b : Ex) : tyT env (.two o a b) = (tyT env a).bind fun ta => (tyT env b).bind fun tb => X9 o ta tb := by
 unfold tyT; simp only [tyR]
 cases tyR env a <;> cases tyR env b <;> simp [Z5l]
theorem tyT_one (env : List (Nm × Tr)) (o : Op1) (a : Ex) : tyT env (.one o a) = (tyT env a).bind fun ta => J7 o ta := by
 unfold tyT; simp only [tyR]
 cases tyR env a <;> simp [Z5l]
theorem tyT_cond (env : List (Nm × Tr)) (a b c : Ex) : tyT env (.cond a b c) = (tyT env a).bind fun ta => (tyT env b).bind fun tb => (tyT env c).bind fun tc => if Yh ta = true ∧ tb.text = tc.text then some tb else none := by
 unfold tyT; simp only [tyR]
 cases tyR env a <;> cases tyR env b <;> cases tyR env c <;> simp [Z5l]
theorem tyT_lete (env : List (Nm × Tr)) (x : Nm) (e b : Ex) : tyT env (.lete x e b) = (tyT env e).bind fun t => tyT ((x, t) :: env) b := by
 unfold tyT; simp only [tyR]
 cases tyR env e <;> simp
theorem tyT_func (env : List (Nm × Tr)) (f x : Nm) (A B : Tr) (e : Ex) : tyT env (.func f x A B e) = (mkT 62 A B).bind fun T => (tyT ((x, A) :: (f, T) :: env) e).bind fun t => if t.text = B.text then some T else none := by
 unfold tyT; simp only [tyR]
 cases mkT 62 A B with
 | none => simp
 | some T => cases h : tyR ((x, A) :: (f, T) :: env) e <;> simp [Z5l, h]
theorem inRm {bs l : List Nm} {s : Nm} : s ∈ rm bs l ↔ s ∈ l ∧ s ∉ bs := by simp [rm]
theorem Z1t (free : List Nm) : ∀ (x : Ex) (m : List (Nm × Nm)) (k : Nat) (e1 e2 : List (Nm × Tr)), (∀ s ∈ Ze x, Yv e2 (Qi m s) = Yv e1 s) → (∀ s ∈ Ze x, Qi m s ∈ free ∨ ∃ j, j < k ∧ Qi m s = Y3 j) → tyT e2 (plE free m k x).1 = tyT e1 x
 | .name s, m, k, e1, e2, h1, h2 => by
   simp only [plE, tyT_name]
   exact h1 s (by simp [Ze])
 | .num n, m, k, e1, e2, h1, h2 => by simp [plE, tyT, tyR]
 | .two o a b, m, k, e1, e2, h1, h2 => by
   have u := (Yz free a m k).1
   simp only [plE, tyT_two]
   rw [Z1t free a m k e1 e2 (fun s hs => h1 s (by simp [Ze, hs])) (fun s hs => h2 s (by simp [Ze, hs])),
    Z1t free b m _ e1 e2 (fun s hs => h1 s (by simp [Ze, hs])) (fun s hs => (h2 s (by simp [Ze, hs])).imp id fun ⟨j, hj, e⟩ => ⟨j, by omega, e⟩)]
 | .one o a, m, k, e1, e2, h1, h2 => by
   simp only [plE, tyT_one]
   rw [Z1t free a m k e1 e2 h1 h2]
 | .cond a b c, m, k, e1, e2, h1, h2 => by
   have u := (Yz free a m k).1
   have v := (Yz free b m (plE free m k a).2).1
   simp only [plE, tyT_cond]
   rw [Z1t free a m k e1 e2 (fun s hs => h1 s (by simp [Ze, hs])) (fun s hs => h2 s (by simp [Ze, hs])),
    Z1t free b m _ e1 e2 (fun s hs => h1 s (by simp [Ze, hs])) (fun s hs => (h2 s (by simp [Ze, hs])).imp id fun ⟨j, hj, e⟩ => ⟨j, by omega, e⟩),
    Z1t free c m _ e1 e2 (fun s hs => h1 s (by simp [Ze, hs])) (fun s hs => (h2 s (by simp [Ze, hs])).imp id fun ⟨j, hj, e⟩ => ⟨j, by omega, e⟩)]
 | .lete x e b, m, k, e1, e2, h1, h2 => by
   have u := (Yz free e m (Zr free k + 1)).1
   have hk := (K6 free k).1
   have hn := Z4d free k
   simp only [plE, tyT_lete]
   rw [Z1t free e m _ e1 e2 (fun s hs => h1 s (by simp [Ze, hs])) (fun s hs => (h2 s (by simp [Ze, hs])).imp id fun ⟨j, hj, e⟩ => ⟨j, by omega, e⟩)]
   cases tyT e1 e with
   | none => rfl
   | some t =>
     simp only [Option.bind_some]
     refine Z1t free b _ _ _ _ (fun s hs => ?_) (fun s hs => ?_)
     · by_cases hx : x = s
       · subst hx; simp [Qi, Yv]
       · have hs2 : s ∈ Ze (.lete x e b) := by simp only [Ze, List.mem_append, inRm, List.mem_singleton]; exact .inr ⟨hs, fun e => hx e.symm⟩
         have hne : Y3 (Zr free k) ≠ Qi m s := fun q => by
          rcases h2 s hs2 with h | ⟨j, hj, h⟩
          · rw [← q] at h; exact hn h
          · rw [← q] at h; have := Z0u h; omega
         simp only [Qi, if_neg hx, Yv, if_neg hne]
         exact h1 s hs2
     · by_cases hx : x = s
       · exact .inr ⟨Zr free k, by omega, by simp [Qi, hx]⟩
       · have hs2 : s ∈ Ze (.lete x e b) := by simp only [Ze, List.mem_append, inRm, List.mem_singleton]; exact .inr ⟨hs, fun e => hx e.symm⟩
         simp only [Qi, if_neg hx]
         exact (h2 s hs2).imp id fun ⟨j, hj, e⟩ => ⟨j, by omega, e⟩
 | .func f x A B e, m, k, e1, e2, h1, h2 => by
   have hk := (K6 free k).1
   have hk2 := (K6 free (Zr free k + 1)).1
   have hn := Z4d free k
   have hn2 := Z4d free (Zr free k + 1)
   simp only [plE, tyT_func]
   cases mkT 62 A B with
   | none => rfl
   | some T =>
     simp only [Option.bind_some]
     have hfx : Y3 (Zr free (Zr free k + 1)) ≠ Y3 (Zr free k) := fun q => by have := Z0u q; omega
     rw [Z1t free e _ _ ((x, A) :: (f, T) :: e1) ((Y3 (Zr free (Zr free k + 1)), A) :: (Y3 (Zr free k), T) :: e2) (fun s hs => ?_) (fun s hs => ?_)]
     · by_cases hx : x = s
       · subst hx; simp [Qi, Yv]
       · by_cases hf : f = s
         · subst hf
           simp only [Qi, if_neg hx, if_true, Yv, if_neg hfx]
         · have hs2 : s ∈ Ze (.func f x A B e) := by simp only [Ze, inRm, List.mem_cons, List.not_mem_nil, or_false]; exact ⟨hs, fun q => by rcases q with q | q; exact hf q.symm; exact hx q.symm⟩
           have hne : Y3 (Zr free k) ≠ Qi m s := fun q => by
            rcases h2 s hs2 with h | ⟨j, hj, h⟩
            · rw [← q] at h; exact hn h
            · rw [← q] at h; have := Z0u h; omega
           have hne2 : Y3 (Zr free (Zr free k + 1)) ≠ Qi m s := fun q => by
            rcases h2 s hs2 with h | ⟨j, hj, h⟩
            · rw [← q] at h; exact hn2 h
            · rw [← q] at h; have := Z0u h; omega
           simp only [Qi, if_neg hx, if_neg hf, Yv, if_neg hne, if_neg hne2]
           exact h1 s hs2
     · by_cases hx : x = s
       · exact .inr ⟨Zr free (Zr free k + 1), by omega, by simp [Qi, hx]⟩
       · by_cases hf : f = s
         · exact .inr ⟨Zr free k, by omega, by simp [Qi, hx, hf]⟩
         · have hs2 : s ∈ Ze (.func f x A B e) := by simp only [Ze, inRm, List.mem_cons, List.not_mem_nil, or_false]; exact ⟨hs, fun q => by rcases q with q | q; exact hf q.symm; exact hx q.symm⟩
           simp only [Qi, if_neg hx, if_neg hf]
           exact (h2 s hs2).imp id fun ⟨j, hj, e⟩ => ⟨j, by omega, e⟩
theorem Z8s (n : Nm) : ∀ (P l : List Nm), n ∈ P.foldl Jr l ↔ n ∈ l ∨ n ∈ P
 | [], l => by simp
 | a :: P, l => by
   simp only [List.foldl_cons, Z8s n P, List.mem_cons]
   unfold Jr
   split
   · rename_i h
     constructor
     · rintro (h2 | h2); exact .inl h2; exact .inr (.inr h2)
     · rintro (h2 | rfl | h2); exact .inl h2; exact .inl h; exact .inr h2
   · simp [or_assoc]
theorem Vz : ∀ (x : Ex) (e1 e2 : List (Nm × Tr)), (∀ s ∈ Ze x, Yv e1 s = Yv e2 s) → tyR e1 x = tyR e2 x
 | .name s, e1, e2, h => by simp only [tyR]; rw [h s (by simp [Ze])]
 | .num n, e1, e2, h => rfl
 | .two o a b, e1, e2, h => by
   simp only [tyR]
   rw [Vz a e1 e2 (fun s hs => h s (by simp [Ze, hs])), Vz b e1 e2 (fun s hs => h s (by simp [Ze, hs]))]
 | .one o a, e1, e2, h => by simp only [tyR]; rw [Vz a e1 e2 h]
 | .cond a b c, e1, e2, h => by
   simp only [tyR]
   rw [Vz a e1 e2 (fun s hs => h s (by simp [Ze, hs])), Vz b e1 e2 (fun s hs => h s (by simp [Ze, hs])), Vz c e1 e2 (fun s hs => h s (by simp [Ze, hs]))]
 | .lete x e b, e1, e2, h => by
   simp only [tyR]
   rw [Vz e e1 e2 (fun s hs => h s (by simp [Ze, hs]))]
   cases tyR e2 e with
   | error f => rfl
   | ok t =>
     refine Vz b _ _ (fun s hs => ?_)
     by_cases hx : x = s
     · simp [Yv, hx]
     · simp only [Yv, if_neg hx]
       exact h s (by simp only [Ze, List.mem_append, inRm, List.mem_singleton]; exact .inr ⟨hs, fun e => hx e.symm⟩)
 | .func f x A B e, e1, e2, h => by
   simp only [tyR]
   cases mkT 62 A B with
   | none => rfl
   | some T =>
     have : tyR ((x, A) :: (f, T) :: e1) e = tyR ((x, A) :: (f, T) :: e2) e := by
      refine Vz e _ _ (fun s hs => ?_)
      by_cases hx : x = s
      · simp [Yv, hx]
      · by_cases hf : f = s
        · simp [Yv, hx, hf]
        · simp only [Yv, if_neg hx, if_neg hf]
          exact h s (by simp only [Ze, inRm, List.mem_cons, List.not_mem_nil, or_false]; exact ⟨hs, fun q => by rcases q with q | q; exact hf q.symm; exact hx q.symm⟩)
     simp only [this]
theorem Jx : ∀ (x : Ex) (env : List (Nm × Tr)), (tyT env x).isSome = true → ∀ s ∈ Ze x, (Yv env s).isSome = true
 | .name s, env, h, n, hn => by
   simp only [Ze, List.mem_singleton] at hn
   subst hn
   rwa [tyT_name] at h
 | .num n, env, h, s, hs => by simp [Ze] at hs
 | .two o a b, env, h, s, hs => by
   rw [tyT_two] at h
   cases ha : tyT env a with
   | none => simp [ha] at h
   | some ta =>
     cases hb : tyT env b with
     | none => simp [ha, hb] at h
     | some tb =>
       simp only [Ze, List.mem_append] at hs
       rcases hs with hs | hs
       · exact Jx a env (by simp [ha]) s hs
       · exact Jx b env (by simp [hb]) s hs
 | .one o a, env, h, s, hs => by
   rw [tyT_one] at h
   cases ha : tyT env a with
   | none => simp [ha] at h
   | some ta => exact Jx a env (by simp [ha]) s hs
 | .cond a b c, env, h, s, hs => by
   rw [tyT_cond] at h
   cases ha : tyT env a with
   | none => simp [ha] at h
   | some ta =>
     cases hb : tyT env b with
     | none => simp [ha, hb] at h
     | some tb =>
       cases hc : tyT env c with
       | none => simp [ha, hb, hc] at h
       | some tc =>
         simp only [Ze, List.mem_append] at hs
         rcases hs with (hs | hs) | hs
         · exact Jx a env (by simp [ha]) s hs
         · exact Jx b env (by simp [hb]) s hs
         · exact Jx c env (by simp [hc]) s hs
 | .lete x e b, env, h, s, hs => by
   rw [tyT_lete] at h
   cases he : tyT env e with
   | none => simp [he] at h
   | some t =>
     simp only [he, Option.bind_some] at h
     simp only [Ze, List.mem_append, inRm, List.mem_singleton] at hs
     rcases hs with hs | ⟨hs, hx⟩
     · exact Jx e env (by simp [he]) s hs
     · have := Jx b _ h s hs
       simpa only [Yv, if_neg (fun q : x = s => hx q.symm)] using this
 | .func f x A B e, env, h, s, hs => by
   rw [tyT_func] at h
   cases hT : mkT 62 A B with
   | none => simp [hT] at h
   | some T =>
     simp only [hT, Option.bind_some] at h
     cases he : tyT ((x, A) :: (f, T) :: env) e with
     | none => simp [he] at h
     | some t =>
       simp only [Ze, inRm, List.mem_cons, List.not_mem_nil, or_false, not_or] at hs
       have := Jx e _ (by rw [he]; rfl) s hs.1
       simpa only [Yv, if_neg (fun q : x = s => hs.2.2 q.symm), if_neg (fun q : f = s => hs.2.1 q.symm)] using this
theorem Z1v (P : Ex → Prop) (hP : ∀ y k, P y → k ∈ Zc y → P k) : ∀ (x : Ex) (env : List (Nm × Tr)) (f : Ex), tyR env x = .error f → P x → (∀ s ∈ Ze x, (Yv env s).isSome = true) → P f ∧ ∃ env', tyR env' f = .error f ∧ ∀ s ∈ Ze f, (Yv env' s).isSome = true
 | .name s, env, f, h, hp, hf => by
   simp only [tyR] at h
   have := hf s (by simp [Ze])
   obtain ⟨t, ht⟩ := Option.isSome_iff_exists.1 this
   rw [ht] at h; cases h
 | .num n, env, f, h, hp, hf => by simp [tyR] at h
 | .two o a b, env, f, h, hp, hf => by
   have h' := h
   simp only [tyR] at h
   cases ha : tyR env a with
   | error g =>
     simp only [ha] at h
     injection h with h; subst h
     exact Z1v P hP a env g ha (hP _ _ hp (by simp [Zc])) (fun s hs => hf s (by simp [Ze, hs]))
   | ok ta =>
     cases hb : tyR env b with
     | error g =>
       simp only [ha, hb] at h
       injection h with h; subst h
       exact Z1v P hP b env g hb (hP _ _ hp (by simp [Zc])) (fun s hs => hf s (by simp [Ze, hs]))
     | ok tb =>
       simp only [ha, hb] at h
       cases hj : X9 o ta tb with
       | some t => rw [hj] at h; cases h
       | none =>
         rw [hj] at h
         injection h with h; subst h
         exact ⟨hp, env, h', hf⟩
 | .one o a, env, f, h, hp, hf => by
   have h' := h
   simp only [tyR] at h
   cases ha : tyR env a with
   | error g =>
     simp only [ha] at h
     injection h with h; subst h
     exact Z1v P hP a env g ha (hP _ _ hp (by simp [Zc])) (fun s hs => hf s (by simp [Ze, hs]))
   | ok ta =>
     simp only [ha] at h
     cases hj : J7 o ta with
     | some t => rw [hj] at h; cases h
     | none =>
       rw [hj] at h
       injection h with h; subst h
       exact ⟨hp, env, h', hf⟩
 | .cond a b c, env, f, h, hp, hf => by
   have h' := h
   simp only [tyR] at h
   cases ha : tyR env a with
   | error g =>
     simp only [ha] at h
     injection h with h; subst h
     exact Z1v P hP a env g ha (hP _ _ hp (by simp [Zc])) (fun s hs => hf s (by simp [Ze, hs]))
   | ok ta =>
     cases hb : tyR env b with
     | error g =>
       simp only [ha, hb] at h
       injection h with h; subst h
       exact Z1v P hP b env g hb (hP _ _ hp (by simp [Zc])) (fun s hs => hf s (by simp [Ze, hs]))
     | ok tb =>
       cases hc : tyR env c with
       | error g =>
         simp only [ha, hb, hc] at h
         injection h with h; subst h
         exact Z1v P hP c env g hc (hP _ _ hp (by simp [Zc])) (fun s hs => hf s (by simp [Ze, hs]))
       | ok tc =>
         simp only [ha, hb, hc] at h
         generalize (if Yh ta = true ∧ tb.text = tc.text then some tb else none) = r at h
         cases r with
         | some t => cases h
         | none =>
           injection h with h; subst h
           exact ⟨hp, env, h', hf⟩
 | .lete x e b, env, f, h, hp, hf => by
   simp only [tyR] at h
   cases he : tyR env e with
   | error g =>
     simp only [he] at h
     injection h with h; subst h
     exact Z1v P hP e env g he (hP _ _ hp (by simp [Zc])) (fun s hs => hf s (by simp [Ze, hs]))
   | ok t =>
     simp only [he] at h
     refine Z1v P hP b _ f h (hP _ _ hp (by simp [Zc])) (fun s hs => ?_)
     by_cases hx : x = s
     · simp [Yv, hx]
     · simp only [Yv, if_neg hx]
       exact hf s (by simp only [Ze, List.mem_append, inRm, List.mem_singleton]; exact .inr ⟨hs, fun e => hx e.symm⟩)
 | .func g x A B e, env, f, h, hp, hf => by
   have h' := h
   simp only [tyR] at h
   cases hT : mkT 62 A B with
   | none =>
     simp only [hT] at h
     injection h with h; subst h
     exact ⟨hp, env, h', hf⟩
   | some T =>
     simp only [hT] at h
     cases he : tyR ((x, A) :: (g, T) :: env) e with
     | error u =>
       simp only [he] at h
       injection h with h; subst h
       refine Z1v P hP e _ u he (hP _ _ hp (by simp [Zc])) (fun s hs => ?_)
       by_cases hx : x = s
       · simp [Yv, hx]
       · by_cases hg : g = s
         · simp [Yv, hx, hg]
         · simp only [Yv, if_neg hx, if_neg hg]
           exact hf s (by simp only [Ze, inRm, List.mem_cons, List.not_mem_nil, or_false]; exact ⟨hs, fun q => by rcases q with q | q; exact hg q.symm; exact hx q.symm⟩)
     | ok t =>
       simp only [he] at h
       generalize (if t.text = B.text then some T else none) = r at h
       cases r with
       | some t => cases h
       | none =>
         injection h with h; subst h
         exact ⟨hp, env, h', hf⟩
end Go.Proofs.YtfknoigbkleanaaGreatDoor
