/- The plain mathematics of ExprPlain: new names, the plain expression, how many indices are used. -/
import Derived.Test.YtjaaalojcdbcpaaGreatDoorpPureT
set_option maxHeartbeats 20000000
set_option linter.unusedVariables false
set_option linter.unusedSimpArgs false
namespace Go.Proofs.YtjaaalojcdbcpaaGreatDoor
open Go.RowKit Go.Proofs.Tryz
set_option maxRecDepth 8000
def Zb (k : Nat) : Nm := 120 :: Lib.itoa (k : Int)
def Yz (free : List Nm) : Nat → Nat → Nat
 | 0, k => k
 | f + 1, k => if Zb k ∈ free then Yz free f (k + 1) else k
def Zh (free : List Nm) (k : Nat) : Nat := Yz free (free.length + 1) k
def Qf : List (Nm × Nm) → Nm → Nm
 | [], s => s
 | (a, b) :: m, s => if a = s then b else Qf m s
def plE (free : List Nm) : List (Nm × Nm) → Nat → Ex → Ex × Nat
 | m, k, .name s => (.name (Qf m s), k)
 | m, k, .num n => (.num n, k)
 | m, k, .two o a b => let p := plE free m k a; let q := plE free m p.2 b; (.two o p.1 q.1, q.2)
 | m, k, .one o a => let p := plE free m k a; (.one o p.1, p.2)
 | m, k, .cond a b c => let p := plE free m k a; let q := plE free m p.2 b; let r := plE free m q.2 c; (.cond p.1 q.1 r.1, r.2)
 | m, k, .lete x e b => let i := Zh free k; let p := plE free m (i + 1) e; let q := plE free ((x, Zb i) :: m) p.2 b; (.lete (Zb i) p.1 q.1, q.2)
 | m, k, .func f x A B e => let i := Zh free k; let j := Zh free (i + 1); let p := plE free ((x, Zb j) :: (f, Zb i) :: m) (j + 1) e; (.func (Zb i) (Zb j) A B p.1, p.2)
def Jj (free : List Nm) (a : Nat) : Nat → Nat
 | 0 => 0
 | n + 1 => (if Zb a ∈ free then 1 else 0) + Jj free (a + 1) n
theorem Xy (free : List Nm) : ∀ (n m a : Nat), Jj free a (n + m) = Jj free a n + Jj free (a + n) m
 | 0, m, a => by simp [Jj]
 | n + 1, m, a => by
   rw [show n + 1 + m = (n + m) + 1 by omega]
   simp only [Jj]
   rw [Xy free n m (a + 1), show a + 1 + n = a + (n + 1) by omega]
   omega
def Yy : Ex → Nat
 | .name _ => 0
 | .num _ => 0
 | .two _ a b => Yy a + Yy b
 | .one _ a => Yy a
 | .cond a b c => Yy a + Yy b + Yy c
 | .lete _ e b => Yy e + Yy b + 1
 | .func _ _ _ _ e => Yy e + 2
theorem Qm (free : List Nm) : ∀ (f k : Nat), k ≤ Yz free f k ∧ Yz free f k - k = Jj free k (Yz free f k - k)
 | 0, k => by simp [Yz, Jj]
 | f + 1, k => by
   simp only [Yz]
   split
   · rename_i h
     obtain ⟨h1, h2⟩ := Qm free f (k + 1)
     refine ⟨by omega, ?_⟩
     rw [show Yz free f (k + 1) - k = (Yz free f (k + 1) - (k + 1)) + 1 by omega]
     simp only [Jj, if_pos h]
     omega
   · simp [Jj]
theorem Y8 (free : List Nm) : ∀ (x : Ex) (m : List (Nm × Nm)) (k : Nat), k ≤ (plE free m k x).2 ∧ (plE free m k x).2 - k ≤ Yy x + Jj free k ((plE free m k x).2 - k)
 | .name s, m, k => by simp [plE]
 | .num n, m, k => by simp [plE]
 | .two o a b, m, k => by
   simp only [plE]
   obtain ⟨h1, h2⟩ := Y8 free a m k
   obtain ⟨h3, h4⟩ := Y8 free b m (plE free m k a).2
   generalize (plE free m (plE free m k a).2 b).2 = z at *
   generalize (plE free m k a).2 = y at *
   refine ⟨by omega, ?_⟩
   have := Xy free (y - k) (z - y) k
   rw [show y - k + (z - y) = z - k by omega, show k + (y - k) = y by omega] at this
   simp only [Yy]; omega
 | .one o a, m, k => by
   simp only [plE, Yy]
   exact Y8 free a m k
 | .cond a b c, m, k => by
   simp only [plE]
   obtain ⟨h1, h2⟩ := Y8 free a m k
   obtain ⟨h3, h4⟩ := Y8 free b m (plE free m k a).2
   obtain ⟨h5, h6⟩ := Y8 free c m (plE free m (plE free m k a).2 b).2
   generalize (plE free m (plE free m (plE free m k a).2 b).2 c).2 = u at *
   generalize (plE free m (plE free m k a).2 b).2 = z at *
   generalize (plE free m k a).2 = y at *
   refine ⟨by omega, ?_⟩
   have e1 := Xy free (y - k) (z - y) k
   rw [show y - k + (z - y) = z - k by omega, show k + (y - k) = y by omega] at e1
   have e2 := Xy free (z - k) (u - z) k
   rw [show z - k + (u - z) = u - k by omega, show k + (z - k) = z by omega] at e2
   simp only [Yy]; omega
 | .lete x e b, m, k => by
   simp only [plE]
   obtain ⟨g1, g2⟩ := Qm free (free.length + 1) k
   rw [show Yz free (free.length + 1) k = Zh free k from rfl] at g1 g2
   obtain ⟨h1, h2⟩ := Y8 free e m (Zh free k + 1)
   obtain ⟨h3, h4⟩ := Y8 free b ((x, Zb (Zh free k)) :: m) (plE free m (Zh free k + 1) e).2
   generalize (plE free ((x, Zb (Zh free k)) :: m) (plE free m (Zh free k + 1) e).2 b).2 = z at *
   generalize (plE free m (Zh free k + 1) e).2 = y at *
   generalize Zh free k = i at *
   refine ⟨by omega, ?_⟩
   have e1 := Xy free (i - k) 1 k
   rw [show k + (i - k) = i by omega] at e1
   have e2 := Xy free (i - k + 1) (y - (i + 1)) k
   rw [show i - k + 1 + (y - (i + 1)) = y - k by omega, show k + (i - k + 1) = i + 1 by omega] at e2
   have e3 := Xy free (y - k) (z - y) k
   rw [show y - k + (z - y) = z - k by omega, show k + (y - k) = y by omega] at e3
   simp only [Yy]; omega
 | .func f x A B e, m, k => by
   simp only [plE]
   obtain ⟨g1, g2⟩ := Qm free (free.length + 1) k
   rw [show Yz free (free.length + 1) k = Zh free k from rfl] at g1 g2
   obtain ⟨g3, g4⟩ := Qm free (free.length + 1) (Zh free k + 1)
   rw [show Yz free (free.length + 1) (Zh free k + 1) = Zh free (Zh free k + 1) from rfl] at g3 g4
   obtain ⟨h1, h2⟩ := Y8 free e ((x, Zb (Zh free (Zh free k + 1))) :: (f, Zb (Zh free k)) :: m) (Zh free (Zh free k + 1) + 1)
   generalize (plE free ((x, Zb (Zh free (Zh free k + 1))) :: (f, Zb (Zh free k)) :: m) (Zh free (Zh free k + 1) + 1) e).2 = z at *
   generalize Zh free (Zh free k + 1) = j at *
   generalize Zh free k = i at *
   refine ⟨by omega, ?_⟩
   have e1 := Xy free (i - k) 1 k
   rw [show k + (i - k) = i by omega] at e1
   have e2 := Xy free (i - k + 1) (j - (i + 1)) k
   rw [show i - k + 1 + (j - (i + 1)) = j - k by omega, show k + (i - k + 1) = i + 1 by omega] at e2
   have e3 := Xy free (j - k) 1 k
   rw [show k + (j - k) = j by omega] at e3
   have e4 := Xy free (j - k + 1) (z - (j + 1)) k
   rw [show j - k + 1 + (z - (j + 1)) = z - k by omega, show k + (j - k + 1) = j + 1 by omega] at e4
   simp only [Yy]; omega
def valD (l : List UInt8) : Nat := l.foldl (fun a d => 10 * a + (d.toNat - 48)) 0
theorem Z2c (u : Nat) : valD (Lib.decDigits u) = u := by
 rw [Lib.decDigits]
 split
 · rename_i h
   have e : (UInt8.ofNat (48 + u)).toNat = 48 + u := by simp; omega
   simp only [valD, List.foldl_cons, List.foldl_nil, e]; omega
 · rename_i h
   have ih := Z2c (u / 10)
   have e : (UInt8.ofNat (48 + u % 10)).toNat = 48 + u % 10 := by simp; omega
   unfold valD at ih
   simp only [valD, List.foldl_append, List.foldl_cons, List.foldl_nil, ih, e]; omega
termination_by u
decreasing_by omega
theorem Z18 {a b : Nat} (h : Zb a = Zb b) : a = b := by
 simp only [Zb, List.cons.injEq, true_and, Lib.itoa] at h
 rw [if_neg (by omega), if_neg (by omega)] at h
 have := congrArg valD h
 rw [Z2c, Z2c] at this
 simpa using this
theorem Z1o (free : List Nm) (b : Nat) : ∀ (n a : Nat), b < a → Jj (free.erase (Zb b)) a n = Jj free a n
 | 0, a, h => rfl
 | n + 1, a, h => by
   have e : Zb a ∈ free.erase (Zb b) ↔ Zb a ∈ free := List.mem_erase_of_ne (fun q => by have := Z18 q; omega)
   simp only [Jj, Z1o free b n (a + 1) (by omega), e]
theorem V3 : ∀ (n a : Nat) (free : List Nm), Jj free a n ≤ free.length
 | 0, a, free => by simp [Jj]
 | n + 1, a, free => by
   simp only [Jj]
   split
   · rename_i h
     have h1 := V3 n (a + 1) (free.erase (Zb a))
     rw [Z1o free a n (a + 1) (by omega), List.length_erase_of_mem h] at h1
     have := List.length_pos_of_mem h
     omega
   · have := V3 n (a + 1) free; omega
theorem Z2w (free : List Nm) : ∀ (f k : Nat), Zb (Yz free f k) ∈ free → Yz free f k = k + f
 | 0, k, h => rfl
 | f + 1, k, h => by
   simp only [Yz] at h ⊢
   split
   · rename_i q
     rw [if_pos q] at h
     rw [Z2w free f (k + 1) h]; omega
   · rename_i q
     rw [if_neg q] at h
     exact absurd h q
theorem fresh_new (free : List Nm) (k : Nat) : Zb (Zh free k) ∉ free := fun h => by
 have h1 := Z2w free (free.length + 1) k h
 obtain ⟨h2, h3⟩ := Qm free (free.length + 1) k
 have h4 := V3 (Yz free (free.length + 1) k - k) k free
 omega
theorem Z2u {free : List Nm} {k : Nat} (h : Zb k ∈ free) : Zh free k = Zh free (k + 1) := by
 have e : ∀ f k, Zb (Yz free f k) ∉ free → Yz free (f + 1) k = Yz free f k := by
  intro f
  induction f with
  | zero => intro k hk; simp only [Yz] at hk ⊢; rw [if_neg hk]
  | succ f ih =>
    intro k hk
    have u1 : ∀ g, Yz free (g + 1) k = if Zb k ∈ free then Yz free g (k + 1) else k := fun g => rfl
    rw [u1, u1]
    rw [u1] at hk
    by_cases q : Zb k ∈ free
    · rw [if_pos q] at hk
      rw [if_pos q, if_pos q]
      exact ih (k + 1) hk
    · rw [if_neg q, if_neg q]
 have h1 : Zh free k = Yz free free.length (k + 1) := by unfold Zh; rw [Yz, if_pos h]
 have h2 : Zb (Yz free free.length (k + 1)) ∉ free := h1 ▸ fresh_new free k
 rw [h1, Zh, e _ _ h2]
theorem Z2v {free : List Nm} {k : Nat} (h : Zb k ∉ free) : Zh free k = k := by unfold Zh; rw [Yz, if_neg h]
theorem Xv (free : List Nm) (k : Nat) : k ≤ Zh free k ∧ Zh free k ≤ k + free.length := by
 obtain ⟨h2, h3⟩ := Qm free (free.length + 1) k
 have h4 := V3 (Yz free (free.length + 1) k - k) k free
 rw [show Yz free (free.length + 1) k = Zh free k from rfl] at h2 h3 h4
 omega
def Xh : Ex → Nat
 | .name _ => 1
 | .num _ => 1
 | .two _ a b => Xh a + Xh b
 | .one _ a => Xh a
 | .cond a b c => Xh a + Xh b + Xh c
 | .lete _ e b => Xh e + Xh b
 | .func _ _ _ _ e => Xh e
theorem Xb : ∀ x : Ex, 3 * (Xh x + Yy x) ≤ 2 * (Z0 x).size + 1
 | .name s => by simp [Xh, Yy, Z0, Tr.size]
 | .num n => by simp [Xh, Yy, Z0, Tr.size]
 | .two o a b => by
   have h1 := Xb a
   have h2 := Xb b
   simp only [Xh, Yy, Z0, Tr.size, Yl]; omega
 | .one o a => by
   have h1 := Xb a
   simp only [Xh, Yy, Z0, Tr.size, Yl]; omega
 | .cond a b c => by
   have h1 := Xb a
   have h2 := Xb b
   have h3 := Xb c
   simp only [Xh, Yy, Z0, Tr.size, Yl]; omega
 | .lete s a b => by
   have h1 := Xb a
   have h2 := Xb b
   simp only [Xh, Yy, Z0, Tr.size, Yl]; omega
 | .func f a A B x => by
   have h1 := Xb x
   simp only [Xh, Yy, Z0, Tr.size, Yl]; omega
theorem Yx : ∀ x : Ex, (Zj x).length ≤ Xh x
 | .name s => by simp [Zj, Xh]
 | .num n => by simp [Zj]
 | .two o a b => by
   have h1 := Yx a
   have h2 := Yx b
   simp only [Zj, Xh, List.length_append]; omega
 | .one o a => by simp only [Zj, Xh]; exact Yx a
 | .cond a b c => by
   have h1 := Yx a
   have h2 := Yx b
   have h3 := Yx c
   simp only [Zj, Xh, List.length_append]; omega
 | .lete s a b => by
   have h1 := Yx a
   have h2 := Yx b
   have h3 := Ko [s] (Zj b)
   simp only [Zj, Xh, List.length_append]; omega
 | .func f a A B x => by
   have h1 := Yx x
   have h3 := Ko [f, a] (Zj x)
   simp only [Zj, Xh]; omega
theorem plE_few {x : Ex} {free : List Nm} (hf : free.length ≤ (Zj x).length) (hs : (Z0 x).size ≤ 120) : (plE free [] 0 x).2 ≤ 80 := by
 obtain ⟨h1, h2⟩ := Y8 free x [] 0
 have h3 := V3 ((plE free [] 0 x).2 - 0) 0 free
 have h4 := Yx x
 have h5 := Xb x
 omega
end Go.Proofs.YtjaaalojcdbcpaaGreatDoor
