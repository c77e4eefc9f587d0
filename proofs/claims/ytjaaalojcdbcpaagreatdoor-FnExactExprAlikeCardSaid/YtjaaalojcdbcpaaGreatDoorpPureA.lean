/- Plain expressions are as large as before and have the same type; types lean on free names only; where the first fault stands. -/
import Derived.Test.YtjaaalojcdbcpaaGreatDoorpPureX
set_option maxHeartbeats 20000000
set_option linter.unusedVariables false
set_option linter.unusedSimpArgs false
namespace Go.Proofs.YtjaaalojcdbcpaaGreatDoor
open Go.RowKit Go.Proofs.Tryz
set_option maxRecDepth 8000
theorem numA_len {l : List UInt8} {n : Int} (h : Xl l = some n) : l.length ≤ 4 := by
 by_cases h0 : l = [48]
 · subst h0; decide
 · by_cases hc : 1 ≤ (Ze l).length ∧ (Ze l).length ≤ 3 ∧ (Ze l).head? ≠ some 48
   · have hl := Z14 l
     omega
   · rw [Jn h0 hc] at h; cases h
theorem Z27 {l : List UInt8} (h : Y4 l = true) : 1 ≤ l.length ∧ l.length ≤ 4 := by
 cases l with
 | nil => simp [Y4] at h
 | cons b r =>
   simp only [Y4, Bool.and_eq_true, decide_eq_true_eq] at h
   simp only [List.length_cons]
   omega
theorem tyA_bytes {t : Tr} (h : Xr t = true) : t.bytes + 1 ≤ 8 * t.size := by
 have h2 := isTyL_got h
 have h3 := (Ku _ _ (Nat.le_refl _) h2.1).1
 have h4 : 1 ≤ t.size := by
  cases t with
  | atom a => simp [Tr.size]
  | list ts =>
    obtain ⟨x, a, b, rfl, hx, -, -⟩ := isTy_list h2.1
    cases x with
    | atom a => simp only [Tr.size, Yl]; omega
    | list s => simp [Z1] at hx
 omega
theorem Xn : ∀ x : Ex, good x → (Z0 x).bytes + 1 ≤ 8 * (Z0 x).size
 | .name s, h => by
   have := Z27 (good_nm h)
   simp only [Z0, Tr.bytes, Tr.size]; omega
 | .num n, h => by
   have := numA_len (good_num h).2
   simp only [Z0, Tr.bytes, Tr.size]; omega
 | .two o a b, h => by
   obtain ⟨h1, h2⟩ := (Z10 _ _ _).1 h
   have k1 := Xn a h1
   have k2 := Xn b h2
   have k3 : (Z0t o).length ≤ 4 := by cases o <;> simp [Z0t]
   simp only [Z0, Tr.bytes, Zk, Tr.size, Yl]; omega
 | .one o a, h => by
   have k1 := Xn a ((Z11 _ _).1 h)
   have k3 : (Z0u o).length ≤ 4 := by cases o <;> simp [Z0u]
   simp only [Z0, Tr.bytes, Zk, Tr.size, Yl]; omega
 | .cond a b c, h => by
   obtain ⟨h1, h2, h3⟩ := (Vy _ _ _).1 h
   have k1 := Xn a h1
   have k2 := Xn b h2
   have k4 := Xn c h3
   have k3 : kIf.length ≤ 4 := by simp [kIf]
   simp only [Z0, Tr.bytes, Zk, Tr.size, Yl]; omega
 | .lete s a b, h => by
   obtain ⟨h1, h2, h3⟩ := (Vw _ _ _).1 h
   have k0 := Z27 h1
   have k1 := Xn a h2
   have k2 := Xn b h3
   have k3 : Yn.length ≤ 4 := by simp [Yn]
   simp only [Z0, Tr.bytes, Zk, Tr.size, Yl]; omega
 | .func f s A B e, h => by
   obtain ⟨h1, h2⟩ := (Vx _ _ _ _ _).1 h
   simp only [Bool.and_eq_true] at h1
   have k0 := Z27 h1.1.1.1.1
   have k1 := Z27 h1.1.1.1.2
   have k2 := tyA_bytes h1.1.2
   have k4 := tyA_bytes h1.2
   have k5 := Xn e h2
   have k3 : Yi.length ≤ 4 := by simp [Yi]
   simp only [Z0, Tr.bytes, Zk, Tr.size, Yl]; omega
theorem nmA_wf {l : List UInt8} (h : Y4 l = true) : (Tr.atom l).wf := by
 cases l with
 | nil => simp [Y4] at h
 | cons b r =>
   simp only [Y4, Bool.and_eq_true, decide_eq_true_eq] at h
   obtain ⟨⟨h1, h2, h3⟩, h4⟩ := h
   obtain ⟨m, hm⟩ := Option.isSome_iff_exists.1 h4
   refine ⟨by simp, fun c hc => ?_⟩
   rcases List.mem_cons.1 hc with rfl | hc
   · have : ∀ d : Nat, 97 ≤ d → d ≤ 122 → Q4 (UInt8.ofNat d) = true := by
      intro d e1 e2
      have : ∀ k : Fin 26, Q4 (UInt8.ofNat (97 + k.val)) = true := by decide
      have h5 := this ⟨d - 97, by omega⟩
      rwa [show 97 + (d - 97) = d by omega] at h5
     have h5 := this c.toNat h2 h3
     rwa [UInt8.ofNat_toNat] at h5
   · obtain ⟨k, hk, rfl⟩ := List.getElem_of_mem hc
     cases hv : Lib.digitVal r[k] with
     | none =>
       rw [Q6 r 0 k _ (List.getElem?_eq_getElem hk) hv] at hm
       cases hm
     | some d =>
       have h5 := Qh hv
       rw [← h5.2]
       have : ∀ d : Nat, d < 10 → Q4 (UInt8.ofNat (48 + d)) = true := by decide
       exact this d h5.1
theorem numA_wf {l : List UInt8} {n : Int} (h : Xl l = some n) : (Tr.atom l).wf := by
 by_cases h0 : l = [48]
 · subst h0; exact ⟨by decide, by decide⟩
 · by_cases hc : 1 ≤ (Ze l).length ∧ (Ze l).length ≤ 3 ∧ (Ze l).head? ≠ some 48
   · rw [Vr h0 hc] at h
     refine ⟨fun e => by subst e; simp [Ze] at hc, ?_⟩
     have hall : ∀ b ∈ Ze l, Q4 b = true := fun b hb => by
      obtain ⟨k, hk, rfl⟩ := List.getElem_of_mem hb
      cases hv : Lib.digitVal (Ze l)[k] with
      | none =>
        rw [Q6 (Ze l) 0 k _ (List.getElem?_eq_getElem hk) hv] at h
        cases h
      | some d =>
        have h2 := (Qh hv)
        rw [← h2.2]
        have h3 := h2.1
        have : ∀ d : Nat, d < 10 → Q4 (UInt8.ofNat (48 + d)) = true := by decide
        exact this d h3
     intro b hb
     cases l with
     | nil => cases hb
     | cons c r =>
       simp only [Ze] at hall
       split at hall
       · rename_i hc45
         rcases List.mem_cons.1 hb with rfl | hb
         · rw [hc45]; decide
         · exact hall b hb
       · exact hall b hb
   · rw [Jn h0 hc] at h; cases h
theorem J6 : ∀ x : Ex, good x → (Z0 x).wf
 | .name s, h => nmA_wf (good_nm h)
 | .num n, h => numA_wf (good_num h).2
 | .two o a b, h => by
   obtain ⟨h1, h2⟩ := (Z10 _ _ _).1 h
   have k3 : (Tr.atom (Z0t o)).wf := by cases o <;> exact ⟨by decide, by decide⟩
   simp only [Z0, Tr.wf, wfs]
   exact ⟨by simp, k3, J6 a h1, J6 b h2, trivial⟩
 | .one o a, h => by
   have k3 : (Tr.atom (Z0u o)).wf := by cases o <;> exact ⟨by decide, by decide⟩
   simp only [Z0, Tr.wf, wfs]
   exact ⟨by simp, k3, J6 a ((Z11 _ _).1 h), trivial⟩
 | .cond a b c, h => by
   obtain ⟨h1, h2, h3⟩ := (Vy _ _ _).1 h
   have k3 : (Tr.atom kIf).wf := ⟨by decide, by decide⟩
   simp only [Z0, Tr.wf, wfs]
   exact ⟨by simp, k3, J6 a h1, J6 b h2, J6 c h3, trivial⟩
 | .lete s a b, h => by
   obtain ⟨h1, h2, h3⟩ := (Vw _ _ _).1 h
   have k3 : (Tr.atom Yn).wf := ⟨by decide, by decide⟩
   simp only [Z0, Tr.wf, wfs]
   exact ⟨by simp, k3, nmA_wf h1, J6 a h2, J6 b h3, trivial⟩
 | .func f s A B e, h => by
   obtain ⟨h1, h2⟩ := (Vx _ _ _ _ _).1 h
   simp only [Bool.and_eq_true] at h1
   have k3 : (Tr.atom Yi).wf := ⟨by decide, by decide⟩
   simp only [Z0, Tr.wf, wfs]
   exact ⟨by simp, k3, nmA_wf h1.1.1.1.1, nmA_wf h1.1.1.1.2, (Z1t h1.1.2).1, (Z1t h1.2).1, J6 e h2, trivial⟩
theorem Z1b {l : List UInt8} {x : Ex} (h : Zy l = some x) : Yt l = some (Z0 x) ∧ l = (Z0 x).text ∧ (Z0 x).size ≤ 120 ∧ (Z0 x).bytes ≤ 12000 ∧ (Z0 x).depth ≤ 60 ∧ (Z0 x).wf ∧ good x := by
 unfold Zy at h
 cases hp : Yt l with
 | none => simp [hp] at h
 | some t =>
   simp only [hp] at h
   split at h
   · rename_i hs
     have g := Jt hp
     have e := Xf _ _ h
     rw [e]
     exact ⟨rfl, g.2.2.2, hs, g.2.1, g.2.2.1, g.1, good_of h⟩
   · cases h
theorem readA_made {x : Ex} (h1 : (Z0 x).size ≤ 120) (h3 : (Z0 x).depth ≤ 60) (h5 : good x) : Zy (Z0 x).text = some x := by
 have h2 := Xn x h5
 rw [Qx (parse_text (J6 x h5) (by omega) h3), if_pos h1]
 exact h5
theorem Qn (free : List Nm) : ∀ (x : Ex) (m : List (Nm × Nm)) (k : Nat), (Z0 (plE free m k x).1).size = (Z0 x).size ∧ (Z0 (plE free m k x).1).depth = (Z0 x).depth
 | .name s, m, k => by simp [plE, Z0, Tr.size, Tr.depth]
 | .num n, m, k => by simp [plE]
 | .two o a b, m, k => by
   obtain ⟨h1, h2⟩ := Qn free a m k
   obtain ⟨h3, h4⟩ := Qn free b m (plE free m k a).2
   simp only [plE, Z0, Tr.size, Yl, Tr.depth, Yf, h1, h2, h3, h4, and_self]
 | .one o a, m, k => by
   obtain ⟨h1, h2⟩ := Qn free a m k
   simp only [plE, Z0, Tr.size, Yl, Tr.depth, Yf, h1, h2, and_self]
 | .cond a b c, m, k => by
   obtain ⟨h1, h2⟩ := Qn free a m k
   obtain ⟨h3, h4⟩ := Qn free b m (plE free m k a).2
   obtain ⟨h5, h6⟩ := Qn free c m (plE free m (plE free m k a).2 b).2
   simp only [plE, Z0, Tr.size, Yl, Tr.depth, Yf, h1, h2, h3, h4, h5, h6, and_self]
 | .lete x e b, m, k => by
   obtain ⟨h1, h2⟩ := Qn free e m (Zh free k + 1)
   obtain ⟨h3, h4⟩ := Qn free b ((x, Zb (Zh free k)) :: m) (plE free m (Zh free k + 1) e).2
   simp only [plE, Z0, Tr.size, Yl, Tr.depth, Yf, h1, h2, h3, h4, and_self]
 | .func f x A B e, m, k => by
   obtain ⟨h1, h2⟩ := Qn free e ((x, Zb (Zh free (Zh free k + 1))) :: (f, Zb (Zh free k)) :: m) (Zh free (Zh free k + 1) + 1)
   simp only [plE, Z0, Tr.size, Yl, Tr.depth, Yf, h1, h2, and_self]
theorem Km (d : Nat) (h : d < 10) : Lib.digitVal (UInt8.ofNat (48 + d)) = some d := by
 have : ∀ d : Fin 10, Lib.digitVal (UInt8.ofNat (48 + d.val)) = some d.val := by decide
 exact this ⟨d, h⟩
theorem Z29 {i : Nat} (h : i ≤ 200) : Y4 (Zb i) = true := by
 unfold Zb Lib.itoa
 rw [if_neg (by omega)]
 simp only [Int.toNat_natCast]
 by_cases h1 : i < 10
 · rw [dd1 i h1]
   have e : Lib.decFrom 0 [UInt8.ofNat (48 + i)] = some (0 * 10 + i) := by simp only [Lib.decFrom, Km i h1]
   simp only [Y4, e]
   rfl
 · by_cases h2 : i < 100
   · obtain ⟨d1, d2, e, k1, k2, k3⟩ : ∃ d1 d2, i = d1 * 10 + d2 ∧ 1 ≤ d1 ∧ d1 < 10 ∧ d2 < 10 := ⟨i / 10, i % 10, by omega, by omega, by omega, by omega⟩
     rw [e, dd2 d1 d2 k1 k2 k3]
     have e : Lib.decFrom 0 [UInt8.ofNat (48 + d1), UInt8.ofNat (48 + d2)] = some ((0 * 10 + d1) * 10 + d2) := by simp only [Lib.decFrom, Km d1 k2, Km d2 k3]
     simp only [Y4, e]
     rfl
   · obtain ⟨d1, d2, d3, e, k1, k2, k3, k4⟩ : ∃ d1 d2 d3, i = (d1 * 10 + d2) * 10 + d3 ∧ 1 ≤ d1 ∧ d1 < 10 ∧ d2 < 10 ∧ d3 < 10 := ⟨i / 100, i / 10 % 10, i % 10, by omega, by omega, by omega, by omega, by omega⟩
     rw [e, dd3 d1 d2 d3 k1 k2 k3 k4]
     have e : Lib.decFrom 0 [UInt8.ofNat (48 + d1), UInt8.ofNat (48 + d2), UInt8.ofNat (48 + d3)] = some (((0 * 10 + d1) * 10 + d2) * 10 + d3) := by simp only [Lib.decFrom, Km d1 k2, Km d2 k3, Km d3 k4]
     simp only [Y4, e]
     rfl
theorem lookR_nm {s : Nm} (hs : Y4 s = true) : ∀ {m : List (Nm × Nm)}, (∀ q ∈ m, Y4 q.2 = true) → Y4 (Qf m s) = true
 | [], _ => hs
 | (a, b) :: m, h => by
   simp only [Qf]
   split
   · exact h (a, b) (by simp)
   · exact lookR_nm hs (fun q hq => h q (by simp [hq]))
theorem Qo (free : List Nm) : ∀ (x : Ex) (m : List (Nm × Nm)) (k : Nat), (∀ q ∈ m, Y4 q.2 = true) → good x → (plE free m k x).2 ≤ 200 → good (plE free m k x).1
 | .name s, m, k, hm, hg, h2 => by
   have h := lookR_nm (good_nm hg) hm
   unfold good
   simp only [plE, Z0, Zt, Xt]
   cases hn : Xl (Qf m s) with
   | some n => have := K5 hn; rw [h] at this; cases this
   | none => simp [h]
 | .num n, m, k, hm, hg, h2 => hg
 | .two o a b, m, k, hm, hg, h2 => by
   obtain ⟨g1, g2⟩ := (Z10 _ _ _).1 hg
   simp only [plE] at h2 ⊢
   have u := (Y8 free b m (plE free m k a).2).1
   exact (Z10 _ _ _).2 ⟨Qo free a m k hm g1 (by omega), Qo free b m _ hm g2 h2⟩
 | .one o a, m, k, hm, hg, h2 => by
   simp only [plE] at h2 ⊢
   exact (Z11 _ _).2 (Qo free a m k hm ((Z11 _ _).1 hg) h2)
 | .cond a b c, m, k, hm, hg, h2 => by
   obtain ⟨g1, g2, g3⟩ := (Vy _ _ _).1 hg
   simp only [plE] at h2 ⊢
   have u := (Y8 free b m (plE free m k a).2).1
   have v := (Y8 free c m (plE free m (plE free m k a).2 b).2).1
   exact (Vy _ _ _).2 ⟨Qo free a m k hm g1 (by omega), Qo free b m _ hm g2 (by omega), Qo free c m _ hm g3 h2⟩
 | .lete x e b, m, k, hm, hg, h2 => by
   obtain ⟨g1, g2, g3⟩ := (Vw _ _ _).1 hg
   simp only [plE] at h2 ⊢
   have u := (Y8 free e m (Zh free k + 1)).1
   have v := (Y8 free b ((x, Zb (Zh free k)) :: m) (plE free m (Zh free k + 1) e).2).1
   have hx := Z29 (i := Zh free k) (by omega)
   exact (Vw _ _ _).2 ⟨hx, Qo free e m _ hm g2 (by omega), Qo free b _ _ (fun q hq => by
    rcases List.mem_cons.1 hq with rfl | hq
    · exact hx
    · exact hm q hq) g3 h2⟩
 | .func f x A B e, m, k, hm, hg, h2 => by
   obtain ⟨g1, g2⟩ := (Vx _ _ _ _ _).1 hg
   simp only [plE] at h2 ⊢
   have u := (Y8 free e ((x, Zb (Zh free (Zh free k + 1))) :: (f, Zb (Zh free k)) :: m) (Zh free (Zh free k + 1) + 1)).1
   have v := (Xv free (Zh free k + 1)).1
   have hx := Z29 (i := Zh free k) (by omega)
   have hy := Z29 (i := Zh free (Zh free k + 1)) (by omega)
   simp only [Bool.and_eq_true] at g1
   refine (Vx _ _ _ _ _).2 ⟨?_, Qo free e _ _ (fun q hq => by
    rcases List.mem_cons.1 hq with rfl | hq
    · exact hy
    · rcases List.mem_cons.1 hq with rfl | hq
      · exact hx
      · exact hm q hq) g2 h2⟩
   have hne : (Zb (Zh free k) == Zb (Zh free (Zh free k + 1))) = false := by
    rw [beq_eq_false_iff_ne]
    intro e
    have := Z18 e
    omega
   simp [hx, hy, hne, g1.1.2, g1.2]
def tyT (env : List (Nm × Tr)) (x : Ex) : Option Tr := match tyR env x with | .ok t => some t | .error _ => none
end Go.Proofs.YtjaaalojcdbcpaaGreatDoor
