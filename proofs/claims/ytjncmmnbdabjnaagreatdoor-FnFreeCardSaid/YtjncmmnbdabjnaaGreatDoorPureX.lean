/- The plain mathematics of ExprPlain: new names, the plain expression, how many indices are used. -/
import Derived.Test.YtjncmmnbdabjnaaGreatDoorPureT
namespace Go.Proofs.YtjncmmnbdabjnaaGreatDoor
open Go.RowKit
set_option maxRecDepth 8000
set_option linter.unusedSimpArgs false
set_option linter.unusedVariables false
/-- x0, x1 and so on. -/
def xName (k : Nat) : Nm := 120 :: Lib.itoa (k : Int)
/-- The first index from k on the name of which is not taken. -/
def freshK (free : List Nm) : Nat → Nat → Nat
  | 0, k => k
  | f + 1, k => if xName k ∈ free then freshK free f (k + 1) else k
def fresh (free : List Nm) (k : Nat) : Nat := freshK free (free.length + 1) k
def lookR : List (Nm × Nm) → Nm → Nm
  | [], s => s
  | (a, b) :: m, s => if a = s then b else lookR m s
/-- The plain expression, and the next index. -/
def plE (free : List Nm) : List (Nm × Nm) → Nat → Ex → Ex × Nat
  | m, k, .name s => (.name (lookR m s), k)
  | m, k, .num n => (.num n, k)
  | m, k, .two o a b => let p := plE free m k a; let q := plE free m p.2 b; (.two o p.1 q.1, q.2)
  | m, k, .one o a => let p := plE free m k a; (.one o p.1, p.2)
  | m, k, .cond a b c => let p := plE free m k a; let q := plE free m p.2 b; let r := plE free m q.2 c; (.cond p.1 q.1 r.1, r.2)
  | m, k, .lete x e b => let i := fresh free k; let p := plE free m (i + 1) e; let q := plE free ((x, xName i) :: m) p.2 b; (.lete (xName i) p.1 q.1, q.2)
  | m, k, .func f x A B e => let i := fresh free k; let j := fresh free (i + 1); let p := plE free ((x, xName j) :: (f, xName i) :: m) (j + 1) e; (.func (xName i) (xName j) A B p.1, p.2)
/-- How many of the indices from a on, n of them, have taken names. -/
def skips (free : List Nm) (a : Nat) : Nat → Nat
  | 0 => 0
  | n + 1 => (if xName a ∈ free then 1 else 0) + skips free (a + 1) n
theorem skips_add (free : List Nm) : ∀ (n m a : Nat), skips free a (n + m) = skips free a n + skips free (a + n) m
  | 0, m, a => by simp [skips]
  | n + 1, m, a => by
    rw [show n + 1 + m = (n + m) + 1 by omega]
    simp only [skips]
    rw [skips_add free n m (a + 1), show a + 1 + n = a + (n + 1) by omega]
    omega
def binders : Ex → Nat
  | .name _ => 0
  | .num _ => 0
  | .two _ a b => binders a + binders b
  | .one _ a => binders a
  | .cond a b c => binders a + binders b + binders c
  | .lete _ e b => binders e + binders b + 1
  | .func _ _ _ _ e => binders e + 2
theorem freshK_skips (free : List Nm) : ∀ (f k : Nat), k ≤ freshK free f k ∧ freshK free f k - k = skips free k (freshK free f k - k)
  | 0, k => by simp [freshK, skips]
  | f + 1, k => by
    simp only [freshK]
    split
    · rename_i h
      obtain ⟨h1, h2⟩ := freshK_skips free f (k + 1)
      refine ⟨by omega, ?_⟩
      rw [show freshK free f (k + 1) - k = (freshK free f (k + 1) - (k + 1)) + 1 by omega]
      simp only [skips, if_pos h]
      omega
    · simp [skips]
/-- The indices that are used: one for each binder, and those of taken names. -/
theorem plE_used (free : List Nm) : ∀ (x : Ex) (m : List (Nm × Nm)) (k : Nat), k ≤ (plE free m k x).2 ∧ (plE free m k x).2 - k ≤ binders x + skips free k ((plE free m k x).2 - k)
  | .name s, m, k => by simp [plE]
  | .num n, m, k => by simp [plE]
  | .two o a b, m, k => by
    simp only [plE]
    obtain ⟨h1, h2⟩ := plE_used free a m k
    obtain ⟨h3, h4⟩ := plE_used free b m (plE free m k a).2
    generalize (plE free m (plE free m k a).2 b).2 = z at *
    generalize (plE free m k a).2 = y at *
    refine ⟨by omega, ?_⟩
    have := skips_add free (y - k) (z - y) k
    rw [show y - k + (z - y) = z - k by omega, show k + (y - k) = y by omega] at this
    simp only [binders]; omega
  | .one o a, m, k => by
    simp only [plE, binders]
    exact plE_used free a m k
  | .cond a b c, m, k => by
    simp only [plE]
    obtain ⟨h1, h2⟩ := plE_used free a m k
    obtain ⟨h3, h4⟩ := plE_used free b m (plE free m k a).2
    obtain ⟨h5, h6⟩ := plE_used free c m (plE free m (plE free m k a).2 b).2
    generalize (plE free m (plE free m (plE free m k a).2 b).2 c).2 = u at *
    generalize (plE free m (plE free m k a).2 b).2 = z at *
    generalize (plE free m k a).2 = y at *
    refine ⟨by omega, ?_⟩
    have e1 := skips_add free (y - k) (z - y) k
    rw [show y - k + (z - y) = z - k by omega, show k + (y - k) = y by omega] at e1
    have e2 := skips_add free (z - k) (u - z) k
    rw [show z - k + (u - z) = u - k by omega, show k + (z - k) = z by omega] at e2
    simp only [binders]; omega
  | .lete x e b, m, k => by
    simp only [plE]
    obtain ⟨g1, g2⟩ := freshK_skips free (free.length + 1) k
    rw [show freshK free (free.length + 1) k = fresh free k from rfl] at g1 g2
    obtain ⟨h1, h2⟩ := plE_used free e m (fresh free k + 1)
    obtain ⟨h3, h4⟩ := plE_used free b ((x, xName (fresh free k)) :: m) (plE free m (fresh free k + 1) e).2
    generalize (plE free ((x, xName (fresh free k)) :: m) (plE free m (fresh free k + 1) e).2 b).2 = z at *
    generalize (plE free m (fresh free k + 1) e).2 = y at *
    generalize fresh free k = i at *
    refine ⟨by omega, ?_⟩
    have e1 := skips_add free (i - k) 1 k
    rw [show k + (i - k) = i by omega] at e1
    have e2 := skips_add free (i - k + 1) (y - (i + 1)) k
    rw [show i - k + 1 + (y - (i + 1)) = y - k by omega, show k + (i - k + 1) = i + 1 by omega] at e2
    have e3 := skips_add free (y - k) (z - y) k
    rw [show y - k + (z - y) = z - k by omega, show k + (y - k) = y by omega] at e3
    simp only [binders]; omega
  | .func f x A B e, m, k => by
    simp only [plE]
    obtain ⟨g1, g2⟩ := freshK_skips free (free.length + 1) k
    rw [show freshK free (free.length + 1) k = fresh free k from rfl] at g1 g2
    obtain ⟨g3, g4⟩ := freshK_skips free (free.length + 1) (fresh free k + 1)
    rw [show freshK free (free.length + 1) (fresh free k + 1) = fresh free (fresh free k + 1) from rfl] at g3 g4
    obtain ⟨h1, h2⟩ := plE_used free e ((x, xName (fresh free (fresh free k + 1))) :: (f, xName (fresh free k)) :: m) (fresh free (fresh free k + 1) + 1)
    generalize (plE free ((x, xName (fresh free (fresh free k + 1))) :: (f, xName (fresh free k)) :: m) (fresh free (fresh free k + 1) + 1) e).2 = z at *
    generalize fresh free (fresh free k + 1) = j at *
    generalize fresh free k = i at *
    refine ⟨by omega, ?_⟩
    have e1 := skips_add free (i - k) 1 k
    rw [show k + (i - k) = i by omega] at e1
    have e2 := skips_add free (i - k + 1) (j - (i + 1)) k
    rw [show i - k + 1 + (j - (i + 1)) = j - k by omega, show k + (i - k + 1) = i + 1 by omega] at e2
    have e3 := skips_add free (j - k) 1 k
    rw [show k + (j - k) = j by omega] at e3
    have e4 := skips_add free (j - k + 1) (z - (j + 1)) k
    rw [show j - k + 1 + (z - (j + 1)) = z - k by omega, show k + (j - k + 1) = j + 1 by omega] at e4
    simp only [binders]; omega
def valD (l : List UInt8) : Nat := l.foldl (fun a d => 10 * a + (d.toNat - 48)) 0
theorem valD_dec (u : Nat) : valD (Lib.decDigits u) = u := by
  rw [Lib.decDigits]
  split
  · rename_i h
    have e : (UInt8.ofNat (48 + u)).toNat = 48 + u := by simp; omega
    simp only [valD, List.foldl_cons, List.foldl_nil, e]; omega
  · rename_i h
    have ih := valD_dec (u / 10)
    have e : (UInt8.ofNat (48 + u % 10)).toNat = 48 + u % 10 := by simp; omega
    unfold valD at ih
    simp only [valD, List.foldl_append, List.foldl_cons, List.foldl_nil, ih, e]; omega
termination_by u
decreasing_by omega
theorem xName_inj {a b : Nat} (h : xName a = xName b) : a = b := by
  simp only [xName, List.cons.injEq, true_and, Lib.itoa] at h
  rw [if_neg (by omega), if_neg (by omega)] at h
  have := congrArg valD h
  rw [valD_dec, valD_dec] at this
  simpa using this
theorem skips_erase (free : List Nm) (b : Nat) : ∀ (n a : Nat), b < a → skips (free.erase (xName b)) a n = skips free a n
  | 0, a, h => rfl
  | n + 1, a, h => by
    have e : xName a ∈ free.erase (xName b) ↔ xName a ∈ free := List.mem_erase_of_ne (fun q => by have := xName_inj q; omega)
    simp only [skips, skips_erase free b n (a + 1) (by omega), e]
theorem skips_le : ∀ (n a : Nat) (free : List Nm), skips free a n ≤ free.length
  | 0, a, free => by simp [skips]
  | n + 1, a, free => by
    simp only [skips]
    split
    · rename_i h
      have h1 := skips_le n (a + 1) (free.erase (xName a))
      rw [skips_erase free a n (a + 1) (by omega), List.length_erase_of_mem h] at h1
      have := List.length_pos_of_mem h
      omega
    · have := skips_le n (a + 1) free; omega
theorem freshK_end (free : List Nm) : ∀ (f k : Nat), xName (freshK free f k) ∈ free → freshK free f k = k + f
  | 0, k, h => rfl
  | f + 1, k, h => by
    simp only [freshK] at h ⊢
    split
    · rename_i q
      rw [if_pos q] at h
      rw [freshK_end free f (k + 1) h]; omega
    · rename_i q
      rw [if_neg q] at h
      exact absurd h q
theorem fresh_new (free : List Nm) (k : Nat) : xName (fresh free k) ∉ free := fun h => by
  have h1 := freshK_end free (free.length + 1) k h
  obtain ⟨h2, h3⟩ := freshK_skips free (free.length + 1) k
  have h4 := skips_le (freshK free (free.length + 1) k - k) k free
  omega
theorem fresh_step {free : List Nm} {k : Nat} (h : xName k ∈ free) : fresh free k = fresh free (k + 1) := by
  have e : ∀ f k, xName (freshK free f k) ∉ free → freshK free (f + 1) k = freshK free f k := by
    intro f
    induction f with
    | zero => intro k hk; simp only [freshK] at hk ⊢; rw [if_neg hk]
    | succ f ih =>
      intro k hk
      have u1 : ∀ g, freshK free (g + 1) k = if xName k ∈ free then freshK free g (k + 1) else k := fun g => rfl
      rw [u1, u1]
      rw [u1] at hk
      by_cases q : xName k ∈ free
      · rw [if_pos q] at hk
        rw [if_pos q, if_pos q]
        exact ih (k + 1) hk
      · rw [if_neg q, if_neg q]
  have h1 : fresh free k = freshK free free.length (k + 1) := by unfold fresh; rw [freshK, if_pos h]
  have h2 : xName (freshK free free.length (k + 1)) ∉ free := h1 ▸ fresh_new free k
  rw [h1, fresh, e _ _ h2]
theorem fresh_here {free : List Nm} {k : Nat} (h : xName k ∉ free) : fresh free k = k := by unfold fresh; rw [freshK, if_neg h]
theorem fresh_le (free : List Nm) (k : Nat) : k ≤ fresh free k ∧ fresh free k ≤ k + free.length := by
  obtain ⟨h2, h3⟩ := freshK_skips free (free.length + 1) k
  have h4 := skips_le (freshK free (free.length + 1) k - k) k free
  rw [show freshK free (free.length + 1) k = fresh free k from rfl] at h2 h3 h4
  omega
def leaves : Ex → Nat
  | .name _ => 1
  | .num _ => 1
  | .two _ a b => leaves a + leaves b
  | .one _ a => leaves a
  | .cond a b c => leaves a + leaves b + leaves c
  | .lete _ e b => leaves e + leaves b
  | .func _ _ _ _ e => leaves e
theorem leaves_size : ∀ x : Ex, 3 * (leaves x + binders x) ≤ 2 * (formOf x).size + 1
  | .name s => by simp [leaves, binders, formOf, Tr.size]
  | .num n => by simp [leaves, binders, formOf, Tr.size]
  | .two o a b => by
    have h1 := leaves_size a
    have h2 := leaves_size b
    simp only [leaves, binders, formOf, Tr.size, sizes]; omega
  | .one o a => by
    have h1 := leaves_size a
    simp only [leaves, binders, formOf, Tr.size, sizes]; omega
  | .cond a b c => by
    have h1 := leaves_size a
    have h2 := leaves_size b
    have h3 := leaves_size c
    simp only [leaves, binders, formOf, Tr.size, sizes]; omega
  | .lete s a b => by
    have h1 := leaves_size a
    have h2 := leaves_size b
    simp only [leaves, binders, formOf, Tr.size, sizes]; omega
  | .func f a A B x => by
    have h1 := leaves_size x
    simp only [leaves, binders, formOf, Tr.size, sizes]; omega
theorem freeP_leaves : ∀ x : Ex, (freeP x).length ≤ leaves x
  | .name s => by simp [freeP, leaves]
  | .num n => by simp [freeP]
  | .two o a b => by
    have h1 := freeP_leaves a
    have h2 := freeP_leaves b
    simp only [freeP, leaves, List.length_append]; omega
  | .one o a => by simp only [freeP, leaves]; exact freeP_leaves a
  | .cond a b c => by
    have h1 := freeP_leaves a
    have h2 := freeP_leaves b
    have h3 := freeP_leaves c
    simp only [freeP, leaves, List.length_append]; omega
  | .lete s a b => by
    have h1 := freeP_leaves a
    have h2 := freeP_leaves b
    have h3 := rm_len [s] (freeP b)
    simp only [freeP, leaves, List.length_append]; omega
  | .func f a A B x => by
    have h1 := freeP_leaves x
    have h3 := rm_len [f, a] (freeP x)
    simp only [freeP, leaves]; omega
/-- A plain expression uses at most eighty indices. -/
theorem plE_few {x : Ex} {free : List Nm} (hf : free.length ≤ (freeP x).length) (hs : (formOf x).size ≤ 120) : (plE free [] 0 x).2 ≤ 80 := by
  obtain ⟨h1, h2⟩ := plE_used free x [] 0
  have h3 := skips_le ((plE free [] 0 x).2 - 0) 0 free
  have h4 := freeP_leaves x
  have h5 := leaves_size x
  omega
end Go.Proofs.YtjncmmnbdabjnaaGreatDoor
