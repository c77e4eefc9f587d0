/- Plain expressions are as large as before and have the same type; types lean on free names only; where the first fault stands. -/
import Derived.Test.YtjaaalojcdbcpaaGreatDoorlPureXM
set_option maxHeartbeats 20000000
set_option linter.unusedVariables false
set_option linter.unusedSimpArgs false
namespace Go.Proofs.YtjaaalojcdbcpaaGreatDoor
open Go.RowKit Go.Proofs.Tryz
set_option maxRecDepth 8000
theorem numA_len {l : List UInt8} {n : Int} (h : Q3 l = some n) : l.length ≤ 4 := by
 by_cases h0 : l = [48]
 · subst h0; decide
 · by_cases hc : 1 ≤ (Zg l).length ∧ (Zg l).length ≤ 3 ∧ (Zg l).head? ≠ some 48
   · have hl := Z4y l
     omega
   · rw [Vz h0 hc] at h; cases h
theorem Z6n {l : List UInt8} (h : Yg l = true) : 1 ≤ l.length ∧ l.length ≤ 4 := by
 cases l with
 | nil => simp [Yg] at h
 | cons b r =>
   simp only [Yg, Bool.and_eq_true, decide_eq_true_eq] at h
   simp only [List.length_cons]
   omega
theorem tyA_bytes {t : Tr} (h : X5 t = true) : t.bytes + 1 ≤ 8 * t.size := by
 have h2 := Kt h
 have h3 := (Vi _ _ (Nat.le_refl _) h2.1).1
 have h4 : 1 ≤ t.size := by
  cases t with
  | atom a => simp [Tr.size]
  | list ts =>
    obtain ⟨x, a, b, rfl, hx, -, -⟩ := Z0d h2.1
    cases x with
    | atom a => simp only [Tr.size, Yd]; omega
    | list s => simp [Z1] at hx
 omega
theorem Xy : ∀ x : Ex, good x → (Z0 x).bytes + 1 ≤ 8 * (Z0 x).size
 | .name s, h => by
   have := Z6n (good_nm h)
   simp only [Z0, Tr.bytes, Tr.size]; omega
 | .num n, h => by
   have := numA_len (good_num h).2
   simp only [Z0, Tr.bytes, Tr.size]; omega
 | .two o a b, h => by
   obtain ⟨h1, h2⟩ := (Z0m _ _ _).1 h
   have k1 := Xy a h1
   have k2 := Xy b h2
   have k3 : (Z2h o).length ≤ 4 := by cases o <;> simp [Z2h]
   simp only [Z0, Tr.bytes, Zi, Tr.size, Yd]; omega
 | .one o a, h => by
   have k1 := Xy a ((Z1b _ _).1 h)
   have k3 : (Z42 o).length ≤ 4 := by cases o <;> simp [Z42]
   simp only [Z0, Tr.bytes, Zi, Tr.size, Yd]; omega
 | .cond a b c, h => by
   obtain ⟨h1, h2, h3⟩ := (Z0f _ _ _).1 h
   have k1 := Xy a h1
   have k2 := Xy b h2
   have k4 := Xy c h3
   have k3 : kIf.length ≤ 4 := by simp [kIf]
   simp only [Z0, Tr.bytes, Zi, Tr.size, Yd]; omega
 | .lete s a b, h => by
   obtain ⟨h1, h2, h3⟩ := (Z0e _ _ _).1 h
   have k0 := Z6n h1
   have k1 := Xy a h2
   have k2 := Xy b h3
   have k3 : Yy.length ≤ 4 := by simp [Yy]
   simp only [Z0, Tr.bytes, Zi, Tr.size, Yd]; omega
 | .func f s A B e, h => by
   obtain ⟨h1, h2⟩ := (Vj _ _ _ _ _).1 h
   simp only [Bool.and_eq_true] at h1
   have k0 := Z6n h1.1.1.1.1
   have k1 := Z6n h1.1.1.1.2
   have k2 := tyA_bytes h1.1.2
   have k4 := tyA_bytes h1.2
   have k5 := Xy e h2
   have k3 : Yt.length ≤ 4 := by simp [Yt]
   simp only [Z0, Tr.bytes, Zi, Tr.size, Yd]; omega
theorem nmA_wf {l : List UInt8} (h : Yg l = true) : (Tr.atom l).wf := by
 cases l with
 | nil => simp [Yg] at h
 | cons b r =>
   simp only [Yg, Bool.and_eq_true, decide_eq_true_eq] at h
   obtain ⟨⟨h1, h2, h3⟩, h4⟩ := h
   obtain ⟨m, hm⟩ := Option.isSome_iff_exists.1 h4
   refine ⟨by simp, fun c hc => ?_⟩
   rcases List.mem_cons.1 hc with rfl | hc
   · have : ∀ d : Nat, 97 ≤ d → d ≤ 122 → J3 (UInt8.ofNat d) = true := by
      intro d e1 e2
      have : ∀ k : Fin 26, J3 (UInt8.ofNat (97 + k.val)) = true := by decide
      have h5 := this ⟨d - 97, by omega⟩
      rwa [show 97 + (d - 97) = d by omega] at h5
     have h5 := this c.toNat h2 h3
     rwa [UInt8.ofNat_toNat] at h5
   · obtain ⟨k, hk, rfl⟩ := List.getElem_of_mem hc
     cases hv : Lib.digitVal r[k] with
     | none =>
       rw [J9 r 0 k _ (List.getElem?_eq_getElem hk) hv] at hm
       cases hm
     | some d =>
       have h5 := Js hv
       rw [← h5.2]
       have : ∀ d : Nat, d < 10 → J3 (UInt8.ofNat (48 + d)) = true := by decide
       exact this d h5.1
theorem numA_wf {l : List UInt8} {n : Int} (h : Q3 l = some n) : (Tr.atom l).wf := by
 by_cases h0 : l = [48]
 · subst h0; exact ⟨by decide, by decide⟩
 · by_cases hc : 1 ≤ (Zg l).length ∧ (Zg l).length ≤ 3 ∧ (Zg l).head? ≠ some 48
   · rw [Z33 h0 hc] at h
     refine ⟨fun e => by subst e; simp [Zg] at hc, ?_⟩
     have hall : ∀ b ∈ Zg l, J3 b = true := fun b hb => by
      obtain ⟨k, hk, rfl⟩ := List.getElem_of_mem hb
      cases hv : Lib.digitVal (Zg l)[k] with
      | none =>
        rw [J9 (Zg l) 0 k _ (List.getElem?_eq_getElem hk) hv] at h
        cases h
      | some d =>
        have h2 := (Js hv)
        rw [← h2.2]
        have h3 := h2.1
        have : ∀ d : Nat, d < 10 → J3 (UInt8.ofNat (48 + d)) = true := by decide
        exact this d h3
     intro b hb
     cases l with
     | nil => cases hb
     | cons c r =>
       simp only [Zg] at hall
       split at hall
       · rename_i hc45
         rcases List.mem_cons.1 hb with rfl | hb
         · rw [hc45]; decide
         · exact hall b hb
       · exact hall b hb
   · rw [Vz h0 hc] at h; cases h
theorem Jz : ∀ x : Ex, good x → (Z0 x).wf
 | .name s, h => nmA_wf (good_nm h)
 | .num n, h => numA_wf (good_num h).2
 | .two o a b, h => by
   obtain ⟨h1, h2⟩ := (Z0m _ _ _).1 h
   have k3 : (Tr.atom (Z2h o)).wf := by cases o <;> exact ⟨by decide, by decide⟩
   simp only [Z0, Tr.wf, wfs]
   exact ⟨by simp, k3, Jz a h1, Jz b h2, trivial⟩
 | .one o a, h => by
   have k3 : (Tr.atom (Z42 o)).wf := by cases o <;> exact ⟨by decide, by decide⟩
   simp only [Z0, Tr.wf, wfs]
   exact ⟨by simp, k3, Jz a ((Z1b _ _).1 h), trivial⟩
 | .cond a b c, h => by
   obtain ⟨h1, h2, h3⟩ := (Z0f _ _ _).1 h
   have k3 : (Tr.atom kIf).wf := ⟨by decide, by decide⟩
   simp only [Z0, Tr.wf, wfs]
   exact ⟨by simp, k3, Jz a h1, Jz b h2, Jz c h3, trivial⟩
 | .lete s a b, h => by
   obtain ⟨h1, h2, h3⟩ := (Z0e _ _ _).1 h
   have k3 : (Tr.atom Yy).wf := ⟨by decide, by decide⟩
   simp only [Z0, Tr.wf, wfs]
   exact ⟨by simp, k3, nmA_wf h1, Jz a h2, Jz b h3, trivial⟩
 | .func f s A B e, h => by
   obtain ⟨h1, h2⟩ := (Vj _ _ _ _ _).1 h
   simp only [Bool.and_eq_true] at h1
   have k3 : (Tr.atom Yt).wf := ⟨by decide, by decide⟩
   simp only [Z0, Tr.wf, wfs]
   exact ⟨by simp, k3, nmA_wf h1.1.1.1.1, nmA_wf h1.1.1.1.2, (Jp h1.1.2).1, (Jp h1.2).1, Jz e h2, trivial⟩
theorem Jv {l : List UInt8} {x : Ex} (h : Zp l = some x) : Zt l = some (Z0 x) ∧ l = (Z0 x).text ∧ (Z0 x).size ≤ 120 ∧ (Z0 x).bytes ≤ 12000 ∧ (Z0 x).depth ≤ 60 ∧ (Z0 x).wf ∧ good x := by
 unfold Zp at h
 cases hp : Zt l with
 | none => simp [hp] at h
 | some t =>
   simp only [hp] at h
   split at h
   · rename_i hs
     have g := Yk hp
     have e := X3 _ _ h
     rw [e]
     exact ⟨rfl, g.2.2.2, hs, g.2.1, g.2.2.1, g.1, good_of h⟩
   · cases h
theorem Z3z {x : Ex} (h1 : (Z0 x).size ≤ 120) (h3 : (Z0 x).depth ≤ 60) (h5 : good x) : Zp (Z0 x).text = some x := by
 have h2 := Xy x h5
 rw [J8 (Z1j (Jz x h5) (by omega) h3), if_pos h1]
 exact h5
theorem Jm (free : List Nm) : ∀ (x : Ex) (m : List (Nm × Nm)) (k : Nat), (Z0 (plE free m k x).1).size = (Z0 x).size ∧ (Z0 (plE free m k x).1).depth = (Z0 x).depth
 | .name s, m, k => by simp [plE, Z0, Tr.size, Tr.depth]
 | .num n, m, k => by simp [plE]
 | .two o a b, m, k => by
   obtain ⟨h1, h2⟩ := Jm free a m k
   obtain ⟨h3, h4⟩ := Jm free b m (plE free m k a).2
   simp only [plE, Z0, Tr.size, Yd, Tr.depth, Ys, h1, h2, h3, h4, and_self]
 | .one o a, m, k => by
   obtain ⟨h1, h2⟩ := Jm free a m k
   simp only [plE, Z0, Tr.size, Yd, Tr.depth, Ys, h1, h2, and_self]
 | .cond a b c, m, k => by
   obtain ⟨h1, h2⟩ := Jm free a m k
   obtain ⟨h3, h4⟩ := Jm free b m (plE free m k a).2
   obtain ⟨h5, h6⟩ := Jm free c m (plE free m (plE free m k a).2 b).2
   simp only [plE, Z0, Tr.size, Yd, Tr.depth, Ys, h1, h2, h3, h4, h5, h6, and_self]
 | .lete x e b, m, k => by
   obtain ⟨h1, h2⟩ := Jm free e m (Zk free k + 1)
   obtain ⟨h3, h4⟩ := Jm free b ((x, Zd (Zk free k)) :: m) (plE free m (Zk free k + 1) e).2
   simp only [plE, Z0, Tr.size, Yd, Tr.depth, Ys, h1, h2, h3, h4, and_self]
 | .func f x A B e, m, k => by
   obtain ⟨h1, h2⟩ := Jm free e ((x, Zd (Zk free (Zk free k + 1))) :: (f, Zd (Zk free k)) :: m) (Zk free (Zk free k + 1) + 1)
   simp only [plE, Z0, Tr.size, Yd, Tr.depth, Ys, h1, h2, and_self]
theorem Z1e (d : Nat) (h : d < 10) : Lib.digitVal (UInt8.ofNat (48 + d)) = some d := by
 have : ∀ d : Fin 10, Lib.digitVal (UInt8.ofNat (48 + d.val)) = some d.val := by decide
 exact this ⟨d, h⟩
theorem Z6u {i : Nat} (h : i ≤ 200) : Yg (Zd i) = true := by
 unfold Zd Lib.itoa
 rw [if_neg (by omega)]
 simp only [Int.toNat_natCast]
 by_cases h1 : i < 10
 · rw [dd1 i h1]
   have e : Lib.decFrom 0 [UInt8.ofNat (48 + i)] = some (0 * 10 + i) := by simp only [Lib.decFrom, Z1e i h1]
   simp only [Yg, e]
   rfl
 · by_cases h2 : i < 100
   · obtain ⟨d1, d2, e, k1, k2, k3⟩ : ∃ d1 d2, i = d1 * 10 + d2 ∧ 1 ≤ d1 ∧ d1 < 10 ∧ d2 < 10 := ⟨i / 10, i % 10, by omega, by omega, by omega, by omega⟩
     rw [e, dd2 d1 d2 k1 k2 k3]
     have e : Lib.decFrom 0 [UInt8.ofNat (48 + d1), UInt8.ofNat (48 + d2)] = some ((0 * 10 + d1) * 10 + d2) := by simp only [Lib.decFrom, Z1e d1 k2, Z1e d2 k3]
     simp only [Yg, e]
     rfl
   · obtain ⟨d1, d2, d3, e, k1, k2, k3, k4⟩ : ∃ d1 d2 d3, i = (d1 * 10 + d2) * 10 + d3 ∧ 1 ≤ d1 ∧ d1 < 10 ∧ d2 < 10 ∧ d3 < 10 := ⟨i / 100, i / 10 % 10, i % 10, by omega, by omega, by omega, by omega, by omega⟩
     rw [e, dd3 d1 d2 d3 k1 k2 k3 k4]
     have e : Lib.decFrom 0 [UInt8.ofNat (48 + d1), UInt8.ofNat (48 + d2), UInt8.ofNat (48 + d3)] = some (((0 * 10 + d1) * 10 + d2) * 10 + d3) := by simp only [Lib.decFrom, Z1e d1 k2, Z1e d2 k3, Z1e d3 k4]
     simp only [Yg, e]
     rfl
theorem lookR_nm {s : Nm} (hs : Yg s = true) : ∀ {m : List (Nm × Nm)}, (∀ q ∈ m, Yg q.2 = true) → Yg (J2 m s) = true
 | [], _ => hs
 | (a, b) :: m, h => by
   simp only [J2]
   split
   · exact h (a, b) (by simp)
   · exact lookR_nm hs (fun q hq => h q (by simp [hq]))
theorem Ka (free : List Nm) : ∀ (x : Ex) (m : List (Nm × Nm)) (k : Nat), (∀ q ∈ m, Yg q.2 = true) → good x → (plE free m k x).2 ≤ 200 → good (plE free m k x).1
 | .name s, m, k, hm, hg, h2 => by
   have h := lookR_nm (good_nm hg) hm
   unfold good
   simp only [plE, Z0, Zy, Q8]
   cases hn : Q3 (J2 m s) with
   | some n => have := Vy hn; rw [h] at this; cases this
   | none => simp [h]
 | .num n, m, k, hm, hg, h2 => hg
 | .two o a b, m, k, hm, hg, h2 => by
   obtain ⟨g1, g2⟩ := (Z0m _ _ _).1 hg
   simp only [plE] at h2 ⊢
   have u := (Ym free b m (plE free m k a).2).1
   exact (Z0m _ _ _).2 ⟨Ka free a m k hm g1 (by omega), Ka free b m _ hm g2 h2⟩
 | .one o a, m, k, hm, hg, h2 => by
   simp only [plE] at h2 ⊢
   exact (Z1b _ _).2 (Ka free a m k hm ((Z1b _ _).1 hg) h2)
 | .cond a b c, m, k, hm, hg, h2 => by
   obtain ⟨g1, g2, g3⟩ := (Z0f _ _ _).1 hg
   simp only [plE] at h2 ⊢
   have u := (Ym free b m (plE free m k a).2).1
   have v := (Ym free c m (plE free m (plE free m k a).2 b).2).1
   exact (Z0f _ _ _).2 ⟨Ka free a m k hm g1 (by omega), Ka free b m _ hm g2 (by omega), Ka free c m _ hm g3 h2⟩
 | .lete x e b, m, k, hm, hg, h2 => by
   obtain ⟨g1, g2, g3⟩ := (Z0e _ _ _).1 hg
   simp only [plE] at h2 ⊢
   have u := (Ym free e m (Zk free k + 1)).1
   have v := (Ym free b ((x, Zd (Zk free k)) :: m) (plE free m (Zk free k + 1) e).2).1
   have hx := Z6u (i := Zk free k) (by omega)
   exact (Z0e _ _ _).2 ⟨hx, Ka free e m _ hm g2 (by omega), Ka free b _ _ (fun q hq => by
    rcases List.mem_cons.1 hq with rfl | hq
    · exact hx
    · exact hm q hq) g3 h2⟩
 | .func f x A B e, m, k, hm, hg, h2 => by
   obtain ⟨g1, g2⟩ := (Vj _ _ _ _ _).1 hg
   simp only [plE] at h2 ⊢
   have u := (Ym free e ((x, Zd (Zk free (Zk free k + 1))) :: (f, Zd (Zk free k)) :: m) (Zk free (Zk free k + 1) + 1)).1
   have v := (Qe free (Zk free k + 1)).1
   have hx := Z6u (i := Zk free k) (by omega)
   have hy := Z6u (i := Zk free (Zk free k + 1)) (by omega)
   simp only [Bool.and_eq_true] at g1
   refine (Vj _ _ _ _ _).2 ⟨?_, Ka free e _ _ (fun q hq => by
    rcases List.mem_cons.1 hq with rfl | hq
    · exact hy
    · rcases List.mem_cons.1 hq with rfl | hq
      · exact hx
      · exact hm q hq) g2 h2⟩
   have hne : (Zd (Zk free k) == Zd (Zk free (Zk free k + 1))) = false := by
    rw [beq_eq_false_iff_ne]
    intro e
    have := Z54 e
    omega
   simp [hx, hy, hne, g1.1.2, g1.2]
def tyT (env : List (Nm × Tr)) (x : Ex) : Option Tr := match tyR env x with | .ok t => some t | .error _ => none
theorem Z7g (n : Nm) : ∀ (P l : List Nm), n ∈ P.foldl Qj l ↔ n ∈ l ∨ n ∈ P
 | [], l => by simp
 | a :: P, l => by
   simp only [List.foldl_cons, Z7g n P, List.mem_cons]
   unfold Qj
   split
   · rename_i h
     constructor
     · rintro (h2 | h2); exact .inl h2; exact .inr (.inr h2)
     · rintro (h2 | rfl | h2); exact .inl h2; exact .inl h; exact .inr h2
   · simp [or_assoc]
end Go.Proofs.YtjaaalojcdbcpaaGreatDoor
