/- Atoms replaced by a form. Consequences of what forms and types are, for the general laws of chapter 1. What atoms stand in a form, before and after a replacement. The plain mathematics of ExprPlain: new names, the plain expression, how many indices are used. -/
import Derived.Test.YtfknoigbkleanaaGreatDoorqB1
import Derived.Test.YtfknoigbkleanaaGreatDoorqB3
import Derived.Test.YtfknoigbkleanaaGreatDoorqPureT
namespace Go.Proofs.YtfknoigbkleanaaGreatDoor
open Go.RowKit Go.Proofs.Tryz
set_option maxRecDepth 8000
set_option maxHeartbeats 20000000
set_option linter.unusedVariables false
set_option linter.unusedSimpArgs false
mutual
def Tr.subst (f : List UInt8 → Tr) : Tr → Tr
 | .atom x => f x
 | .list ts => .list (Kw f ts)
def Kw (f : List UInt8 → Tr) : List Tr → List Tr
 | [] => []
 | t :: ts => t.subst f :: Kw f ts
end
def rep (a : List UInt8) (b : Tr) (x : List UInt8) : Tr := if x = a then b else .atom x
def Qz (a : List UInt8) (b : Tr) (t : Tr) : Tr := t.subst (rep a b)
def Z4q (a : List UInt8) (b : Tr) (ts : List Tr) : List Tr := Kw (rep a b) ts
theorem Z12 (f : List UInt8 → Tr) : ∀ ts : List Tr, Kw f ts = ts.map (Tr.subst f)
 | [] => rfl
 | t :: ts => by rw [Kw, List.map_cons, Z12 f ts]
theorem Z5v (a : List UInt8) (b : Tr) (ts : List Tr) : (Z4q a b ts).length = ts.length := by rw [Z4q, Z12]; simp
theorem repls_take (a : List UInt8) (b : Tr) (ts : List Tr) (k : Nat) (h : k < ts.length) : Z4q a b (ts.take (k + 1)) = Z4q a b (ts.take k) ++ [Qz a b ts[k]] := by
 rw [Kv _ _ h, Z4q, Z4q, Z12, Z12, List.map_append]; rfl
theorem repl_atom_yes {a x : List UInt8} (b : Tr) (h : x = a) : Qz a b (Tr.atom x) = b := by rw [Qz, Tr.subst, rep, if_pos h]
theorem repl_atom_no {a x : List UInt8} (b : Tr) (h : ¬ x = a) : Qz a b (Tr.atom x) = .atom x := by rw [Qz, Tr.subst, rep, if_neg h]
theorem repl_list (a : List UInt8) (b : Tr) (ts : List Tr) : Qz a b (Tr.list ts) = .list (Z4q a b ts) := by rw [Qz, Tr.subst, Z4q]
mutual
theorem subst_wf {f : List UInt8 → Tr} (hf : ∀ x, (Tr.atom x).wf → (f x).wf) : ∀ t : Tr, t.wf → (t.subst f).wf
 | .atom x, h => by rw [Tr.subst]; exact hf x h
 | .list ts, h => by
   rw [Tr.subst]
   refine ⟨?_, substs_wf hf ts h.2⟩
   rw [Z12]; simpa using h.1
theorem substs_wf {f : List UInt8 → Tr} (hf : ∀ x, (Tr.atom x).wf → (f x).wf) : ∀ ts : List Tr, wfs ts → wfs (Kw f ts)
 | [], _ => trivial
 | t :: ts, h => ⟨subst_wf hf t h.1, substs_wf hf ts h.2⟩
end
mutual
theorem Z6s {f : List UInt8 → Tr} {m : Nat} (hm : 1 ≤ m) (hf : ∀ x, (Tr.atom x).wf → (f x).bytes ≤ m * x.length) : ∀ t : Tr, t.wf → (t.subst f).bytes ≤ m * t.bytes
 | .atom x, h => by rw [Tr.subst]; exact hf x h
 | .list ts, h => by
   have := Z5n hm hf ts h.2
   rw [Tr.subst]
   simp only [Tr.bytes, Nat.mul_add]; omega
theorem Z5n {f : List UInt8 → Tr} {m : Nat} (hm : 1 ≤ m) (hf : ∀ x, (Tr.atom x).wf → (f x).bytes ≤ m * x.length) : ∀ ts : List Tr, wfs ts → Zk (Kw f ts) ≤ m * Zk ts
 | [], _ => by simp [Kw, Zk]
 | t :: ts, h => by
   have h1 := Z6s hm hf t h.1
   have h2 := Z5n hm hf ts h.2
   simp only [Kw, Zk, Nat.mul_add]; omega
end
theorem repl_wf {a : List UInt8} {b : Tr} (hb : b.wf) (t : Tr) (h : t.wf) : (Qz a b t).wf := subst_wf (fun x hx => by unfold rep; split; exact hb; exact hx) t h
theorem rep_bytes {a : List UInt8} {b : Tr} {m : Nat} (hb : b.bytes ≤ m) (hm : 1 ≤ m) (x : List UInt8) (hx : (Tr.atom x).wf) : (rep a b x).bytes ≤ m * x.length := by
 have h1 : 1 ≤ x.length := by have := hx.1; cases x with | nil => exact absurd rfl this | cons c l => simp
 have h2 : m * 1 ≤ m * x.length := Nat.mul_le_mul_left m h1
 have h3 : 1 * x.length ≤ m * x.length := Nat.mul_le_mul_right _ hm
 unfold rep; split
 · omega
 · simp only [Tr.bytes]; omega
theorem repl_bytes {a : List UInt8} {b : Tr} {m : Nat} (hb : b.bytes ≤ m) (hm : 1 ≤ m) (t : Tr) (h : t.wf) : (Qz a b t).bytes ≤ m * t.bytes := Z6s hm (rep_bytes hb hm) t h
def Vr (s a y : List UInt8) : Option Tr :=
 match Zv s, Zv a, Zv y with
 | some t, some (.atom x), some b => if (Qz x b t).bytes ≤ 12000 ∧ (Qz x b t).depth ≤ 60 then some (Qz x b t) else none
 | _, _, _ => none
theorem replOf_1 {s : List UInt8} (a y : List UInt8) (h : Zv s = none) : Vr s a y = none := by simp [Vr, h]
theorem replOf_2 (s : List UInt8) {a : List UInt8} (y : List UInt8) (h : Zv a = none) : Vr s a y = none := by unfold Vr; rw [h]; cases Zv s <;> rfl
theorem replOf_3 (s a : List UInt8) {y : List UInt8} (h : Zv y = none) : Vr s a y = none := by
 unfold Vr; rw [h]
 cases Zv s with
 | none => rfl
 | some t => cases Zv a with
   | none => rfl
   | some x => cases x <;> rfl
theorem replOf_4 (s : List UInt8) {a : List UInt8} (y : List UInt8) {ts : List Tr} (h : Zv a = some (.list ts)) : Vr s a y = none := by
 unfold Vr; rw [h]; cases Zv s <;> rfl
theorem Z6w {s a y x : List UInt8} {t b : Tr} (h1 : Zv s = some t) (h2 : Zv a = some (.atom x)) (h3 : Zv y = some b) :
 Vr s a y = if (Qz x b t).bytes ≤ 12000 ∧ (Qz x b t).depth ≤ 60 then some (Qz x b t) else none := by simp [Vr, h1, h2, h3]
theorem atoms_range {l : List UInt8} {t : Tr} (h : Zv l = some t) : 1 ≤ (Q7 t []).length ∧ (Q7 t []).length ≤ t.size := by
 obtain ⟨h1, h2, h3, rfl⟩ := Yt h
 have h4 := atoms_len t [] h1
 refine ⟨?_, by simpa using h4.2⟩
 have h5 : ∀ (t : Tr) (l : List (List UInt8)), t.wf → 1 ≤ (Q7 t l).length := by
  intro t
  induction t using Tr.rec (motive_2 := fun ts => ∀ (l : List (List UInt8)), wfs ts → ts ≠ [] → 1 ≤ (Qf ts l).length) with
  | atom a =>
    intro l _
    rw [Z1e]
    unfold Jr
    split
    · rename_i h; exact List.length_pos_of_mem h
    · simp
  | list ts ih => intro l h; rw [Z34]; exact ih l h.2 h.1
  | nil => rename_i h; exact absurd rfl h
  | cons a ts ih1 ih2 =>
    rename_i l h _
    simp only [Qf]
    have h6 := ih1 l h.1
    have h7 := (Z33 ts (Q7 a l) h.2).1
    omega
 exact h5 t [] h1
mutual
def occ (y : Nm) : Tr → Bool
 | .atom a => decide (y = a)
 | .list ts => Z5y y ts
def Z5y (y : Nm) : List Tr → Bool
 | [] => false
 | t :: ts => occ y t || Z5y y ts
end
mutual
theorem mem_atoms (y : Nm) : ∀ (t : Tr) (l : List Nm), y ∈ Q7 t l ↔ y ∈ l ∨ occ y t = true
 | .atom a, l => by
   rw [Z1e]
   unfold Jr
   simp only [occ, decide_eq_true_eq]
   split
   · rename_i h
     constructor
     · exact .inl
     · rintro (h2 | rfl); exact h2; exact h
   · simp [List.mem_append]
 | .list ts, l => by rw [Z34, Z8r y ts l]; simp only [occ]
theorem Z8r (y : Nm) : ∀ (ts : List Tr) (l : List Nm), y ∈ Qf ts l ↔ y ∈ l ∨ Z5y y ts = true
 | [], l => by simp [Qf, Z5y]
 | t :: ts, l => by simp only [Qf, Z8r y ts, mem_atoms y t, Z5y, Bool.or_eq_true, or_assoc]
end
mutual
theorem occ_subst (a : Nm) (b : Tr) : ∀ t : Tr, occ a (t.subst (rep a b)) = (occ a t && occ a b)
 | .atom x => by
   simp only [Tr.subst, rep, occ]
   by_cases h : x = a
   · rw [if_pos h]; simp [h]
   · rw [if_neg h]; simp only [occ]
     have : ¬ a = x := fun e => h e.symm
     simp [this]
 | .list ts => by simp only [Tr.subst, occ]; exact Z8o a b ts
theorem Z8o (a : Nm) (b : Tr) : ∀ ts : List Tr, Z5y a (Kw (rep a b) ts) = (Z5y a ts && occ a b)
 | [] => by simp [Kw, Z5y]
 | t :: ts => by simp only [Kw, Z5y, occ_subst a b t, Z8o a b ts, Bool.and_or_distrib_right]
end
mutual
theorem subst_out (a : Nm) (b : Tr) : ∀ t : Tr, occ a t = false → t.subst (rep a b) = t
 | .atom x, h => by
   simp only [occ, decide_eq_false_iff_not] at h
   simp only [Tr.subst, rep]
   rw [if_neg (fun e => h e.symm)]
 | .list ts, h => by simp only [occ] at h; simp only [Tr.subst]; rw [Z88 a b ts h]
theorem Z88 (a : Nm) (b : Tr) : ∀ ts : List Tr, Z5y a ts = false → Kw (rep a b) ts = ts
 | [], _ => rfl
 | t :: ts, h => by
   simp only [Z5y, Bool.or_eq_false_iff] at h
   simp only [Kw]
   rw [subst_out a b t h.1, Z88 a b ts h.2]
end
mutual
theorem occ_wf (y : Nm) : ∀ t : Tr, t.wf → occ y t = true → (Tr.atom y).wf ∧ y.length ≤ t.bytes
 | .atom a, h, ho => by
   simp only [occ, decide_eq_true_eq] at ho
   subst ho
   exact ⟨h, by simp [Tr.bytes]⟩
 | .list ts, h, ho => by
   simp only [occ] at ho
   obtain ⟨h1, h2⟩ := occs_wf y ts h.2 ho
   exact ⟨h1, by simp only [Tr.bytes]; omega⟩
theorem occs_wf (y : Nm) : ∀ ts : List Tr, wfs ts → Z5y y ts = true → (Tr.atom y).wf ∧ y.length ≤ Zk ts
 | [], _, h => by simp [Z5y] at h
 | t :: ts, h, ho => by
   simp only [Z5y, Bool.or_eq_true] at ho
   rcases ho with ho | ho
   · obtain ⟨h1, h2⟩ := occ_wf y t h.1 ho
     exact ⟨h1, by simp only [Zk]; omega⟩
   · obtain ⟨h1, h2⟩ := occs_wf y ts h.2 ho
     exact ⟨h1, by simp only [Zk]; omega⟩
end
theorem replOf_got {s a y : List UInt8} {T : Tr} (h : Vr s a y = some T) : ∃ t b, Zv s = some t ∧ Zv y = some b ∧ Zv T.text = some T ∧ (occ a T = (occ a t && occ a b)) ∧ (occ a t = false → T.text = s) := by
 cases h1 : Zv s with
 | none => rw [replOf_1 a y h1] at h; cases h
 | some t =>
   cases h2 : Zv a with
   | none => rw [replOf_2 s y h2] at h; cases h
   | some u =>
     cases u with
     | list us => rw [replOf_4 s y h2] at h; cases h
     | atom x =>
       cases h3 : Zv y with
       | none => rw [replOf_3 s a h3] at h; cases h
       | some b =>
         rw [Z6w h1 h2 h3] at h
         split at h
         · rename_i hb
           simp only [Option.some.injEq] at h
           subst h
           have hx : a = x := (Yt h2).2.2.2
           subst hx
           have gt := Yt h1
           have gb := Yt h3
           exact ⟨t, b, rfl, rfl, V6 (repl_wf gb.1 t gt.1) hb.1 hb.2, occ_subst a b t, fun ho => by rw [Qz, subst_out a b t ho]; exact gt.2.2.2.symm⟩
         · cases h
def Y3 (k : Nat) : Nm := 120 :: Lib.itoa (k : Int)
def Q2 (free : List Nm) : Nat → Nat → Nat
 | 0, k => k
 | f + 1, k => if Y3 k ∈ free then Q2 free f (k + 1) else k
def Zr (free : List Nm) (k : Nat) : Nat := Q2 free (free.length + 1) k
def Qi : List (Nm × Nm) → Nm → Nm
 | [], s => s
 | (a, b) :: m, s => if a = s then b else Qi m s
def plE (free : List Nm) : List (Nm × Nm) → Nat → Ex → Ex × Nat
 | m, k, .name s => (.name (Qi m s), k)
 | m, k, .num n => (.num n, k)
 | m, k, .two o a b => let p := plE free m k a; let q := plE free m p.2 b; (.two o p.1 q.1, q.2)
 | m, k, .one o a => let p := plE free m k a; (.one o p.1, p.2)
 | m, k, .cond a b c => let p := plE free m k a; let q := plE free m p.2 b; let r := plE free m q.2 c; (.cond p.1 q.1 r.1, r.2)
 | m, k, .lete x e b => let i := Zr free k; let p := plE free m (i + 1) e; let q := plE free ((x, Y3 i) :: m) p.2 b; (.lete (Y3 i) p.1 q.1, q.2)
 | m, k, .func f x A B e => let i := Zr free k; let j := Zr free (i + 1); let p := plE free ((x, Y3 j) :: (f, Y3 i) :: m) (j + 1) e; (.func (Y3 i) (Y3 j) A B p.1, p.2)
def Z08 (free : List Nm) (a : Nat) : Nat → Nat
 | 0 => 0
 | n + 1 => (if Y3 a ∈ free then 1 else 0) + Z08 free (a + 1) n
theorem J9 (free : List Nm) : ∀ (n m a : Nat), Z08 free a (n + m) = Z08 free a n + Z08 free (a + n) m
 | 0, m, a => by simp [Z08]
 | n + 1, m, a => by
   rw [show n + 1 + m = (n + m) + 1 by omega]
   simp only [Z08]
   rw [J9 free n m (a + 1), show a + 1 + n = a + (n + 1) by omega]
   omega
def Xz : Ex → Nat
 | .name _ => 0
 | .num _ => 0
 | .two _ a b => Xz a + Xz b
 | .one _ a => Xz a
 | .cond a b c => Xz a + Xz b + Xz c
 | .lete _ e b => Xz e + Xz b + 1
 | .func _ _ _ _ e => Xz e + 2
theorem Kd (free : List Nm) : ∀ (f k : Nat), k ≤ Q2 free f k ∧ Q2 free f k - k = Z08 free k (Q2 free f k - k)
 | 0, k => by simp [Q2, Z08]
 | f + 1, k => by
   simp only [Q2]
   split
   · rename_i h
     obtain ⟨h1, h2⟩ := Kd free f (k + 1)
     refine ⟨by omega, ?_⟩
     rw [show Q2 free f (k + 1) - k = (Q2 free f (k + 1) - (k + 1)) + 1 by omega]
     simp only [Z08, if_pos h]
     omega
   · simp [Z08]
theorem Yz (free : List Nm) : ∀ (x : Ex) (m : List (Nm × Nm)) (k : Nat), k ≤ (plE free m k x).2 ∧ (plE free m k x).2 - k ≤ Xz x + Z08 free k ((plE free m k x).2 - k)
 | .name s, m, k => by simp [plE]
 | .num n, m, k => by simp [plE]
 | .two o a b, m, k => by
   simp only [plE]
   obtain ⟨h1, h2⟩ := Yz free a m k
   obtain ⟨h3, h4⟩ := Yz free b m (plE free m k a).2
   generalize (plE free m (plE free m k a).2 b).2 = z at *
   generalize (plE free m k a).2 = y at *
   refine ⟨by omega, ?_⟩
   have := J9 free (y - k) (z - y) k
   rw [show y - k + (z - y) = z - k by omega, show k + (y - k) = y by omega] at this
   simp only [Xz]; omega
 | .one o a, m, k => by
   simp only [plE, Xz]
   exact Yz free a m k
 | .cond a b c, m, k => by
   simp only [plE]
   obtain ⟨h1, h2⟩ := Yz free a m k
   obtain ⟨h3, h4⟩ := Yz free b m (plE free m k a).2
   obtain ⟨h5, h6⟩ := Yz free c m (plE free m (plE free m k a).2 b).2
   generalize (plE free m (plE free m (plE free m k a).2 b).2 c).2 = u at *
   generalize (plE free m (plE free m k a).2 b).2 = z at *
   generalize (plE free m k a).2 = y at *
   refine ⟨by omega, ?_⟩
   have e1 := J9 free (y - k) (z - y) k
   rw [show y - k + (z - y) = z - k by omega, show k + (y - k) = y by omega] at e1
   have e2 := J9 free (z - k) (u - z) k
   rw [show z - k + (u - z) = u - k by omega, show k + (z - k) = z by omega] at e2
   simp only [Xz]; omega
 | .lete x e b, m, k => by
   simp only [plE]
   obtain ⟨g1, g2⟩ := Kd free (free.length + 1) k
   rw [show Q2 free (free.length + 1) k = Zr free k from rfl] at g1 g2
   obtain ⟨h1, h2⟩ := Yz free e m (Zr free k + 1)
   obtain ⟨h3, h4⟩ := Yz free b ((x, Y3 (Zr free k)) :: m) (plE free m (Zr free k + 1) e).2
   generalize (plE free ((x, Y3 (Zr free k)) :: m) (plE free m (Zr free k + 1) e).2 b).2 = z at *
   generalize (plE free m (Zr free k + 1) e).2 = y at *
   generalize Zr free k = i at *
   refine ⟨by omega, ?_⟩
   have e1 := J9 free (i - k) 1 k
   rw [show k + (i - k) = i by omega] at e1
   have e2 := J9 free (i - k + 1) (y - (i + 1)) k
   rw [show i - k + 1 + (y - (i + 1)) = y - k by omega, show k + (i - k + 1) = i + 1 by omega] at e2
   have e3 := J9 free (y - k) (z - y) k
   rw [show y - k + (z - y) = z - k by omega, show k + (y - k) = y by omega] at e3
   simp only [Xz]; omega
 | .func f x A B e, m, k => by
   simp only [plE]
   obtain ⟨g1, g2⟩ := Kd free (free.length + 1) k
   rw [show Q2 free (free.length + 1) k = Zr free k from rfl] at g1 g2
   obtain ⟨g3, g4⟩ := Kd free (free.length + 1) (Zr free k + 1)
   rw [show Q2 free (free.length + 1) (Zr free k + 1) = Zr free (Zr free k + 1) from rfl] at g3 g4
   obtain ⟨h1, h2⟩ := Yz free e ((x, Y3 (Zr free (Zr free k + 1))) :: (f, Y3 (Zr free k)) :: m) (Zr free (Zr free k + 1) + 1)
   generalize (plE free ((x, Y3 (Zr free (Zr free k + 1))) :: (f, Y3 (Zr free k)) :: m) (Zr free (Zr free k + 1) + 1) e).2 = z at *
   generalize Zr free (Zr free k + 1) = j at *
   generalize Zr free k = i at *
   refine ⟨by omega, ?_⟩
   have e1 := J9 free (i - k) 1 k
   rw [show k + (i - k) = i by omega] at e1
   have e2 := J9 free (i - k + 1) (j - (i + 1)) k
   rw [show i - k + 1 + (j - (i + 1)) = j - k by omega, show k + (i - k + 1) = i + 1 by omega] at e2
   have e3 := J9 free (j - k) 1 k
   rw [show k + (j - k) = j by omega] at e3
   have e4 := J9 free (j - k + 1) (z - (j + 1)) k
   rw [show j - k + 1 + (z - (j + 1)) = z - k by omega, show k + (j - k + 1) = j + 1 by omega] at e4
   simp only [Xz]; omega
def valD (l : List UInt8) : Nat := l.foldl (fun a d => 10 * a + (d.toNat - 48)) 0
theorem Z82 (u : Nat) : valD (Lib.decDigits u) = u := by
 rw [Lib.decDigits]
 split
 · rename_i h
   have e : (UInt8.ofNat (48 + u)).toNat = 48 + u := by simp; omega
   simp only [valD, List.foldl_cons, List.foldl_nil, e]; omega
 · rename_i h
   have ih := Z82 (u / 10)
   have e : (UInt8.ofNat (48 + u % 10)).toNat = 48 + u % 10 := by simp; omega
   unfold valD at ih
   simp only [valD, List.foldl_append, List.foldl_cons, List.foldl_nil, ih, e]; omega
termination_by u
decreasing_by omega
theorem Z0u {a b : Nat} (h : Y3 a = Y3 b) : a = b := by
 simp only [Y3, List.cons.injEq, true_and, Lib.itoa] at h
 rw [if_neg (by omega), if_neg (by omega)] at h
 have := congrArg valD h
 rw [Z82, Z82] at this
 simpa using this
theorem Z6t (free : List Nm) (b : Nat) : ∀ (n a : Nat), b < a → Z08 (free.erase (Y3 b)) a n = Z08 free a n
 | 0, a, h => rfl
 | n + 1, a, h => by
   have e : Y3 a ∈ free.erase (Y3 b) ↔ Y3 a ∈ free := List.mem_erase_of_ne (fun q => by have := Z0u q; omega)
   simp only [Z08, Z6t free b n (a + 1) (by omega), e]
theorem Z3h : ∀ (n a : Nat) (free : List Nm), Z08 free a n ≤ free.length
 | 0, a, free => by simp [Z08]
 | n + 1, a, free => by
   simp only [Z08]
   split
   · rename_i h
     have h1 := Z3h n (a + 1) (free.erase (Y3 a))
     rw [Z6t free a n (a + 1) (by omega), List.length_erase_of_mem h] at h1
     have := List.length_pos_of_mem h
     omega
   · have := Z3h n (a + 1) free; omega
theorem Z9e (free : List Nm) : ∀ (f k : Nat), Y3 (Q2 free f k) ∈ free → Q2 free f k = k + f
 | 0, k, h => rfl
 | f + 1, k, h => by
   simp only [Q2] at h ⊢
   split
   · rename_i q
     rw [if_pos q] at h
     rw [Z9e free f (k + 1) h]; omega
   · rename_i q
     rw [if_neg q] at h
     exact absurd h q
theorem Z4d (free : List Nm) (k : Nat) : Y3 (Zr free k) ∉ free := fun h => by
 have h1 := Z9e free (free.length + 1) k h
 obtain ⟨h2, h3⟩ := Kd free (free.length + 1) k
 have h4 := Z3h (Q2 free (free.length + 1) k - k) k free
 omega
theorem fresh_step {free : List Nm} {k : Nat} (h : Y3 k ∈ free) : Zr free k = Zr free (k + 1) := by
 have e : ∀ f k, Y3 (Q2 free f k) ∉ free → Q2 free (f + 1) k = Q2 free f k := by
  intro f
  induction f with
  | zero => intro k hk; simp only [Q2] at hk ⊢; rw [if_neg hk]
  | succ f ih =>
    intro k hk
    have u1 : ∀ g, Q2 free (g + 1) k = if Y3 k ∈ free then Q2 free g (k + 1) else k := fun g => rfl
    rw [u1, u1]
    rw [u1] at hk
    by_cases q : Y3 k ∈ free
    · rw [if_pos q] at hk
      rw [if_pos q, if_pos q]
      exact ih (k + 1) hk
    · rw [if_neg q, if_neg q]
 have h1 : Zr free k = Q2 free free.length (k + 1) := by unfold Zr; rw [Q2, if_pos h]
 have h2 : Y3 (Q2 free free.length (k + 1)) ∉ free := h1 ▸ Z4d free k
 rw [h1, Zr, e _ _ h2]
theorem fresh_here {free : List Nm} {k : Nat} (h : Y3 k ∉ free) : Zr free k = k := by unfold Zr; rw [Q2, if_neg h]
theorem K6 (free : List Nm) (k : Nat) : k ≤ Zr free k ∧ Zr free k ≤ k + free.length := by
 obtain ⟨h2, h3⟩ := Kd free (free.length + 1) k
 have h4 := Z3h (Q2 free (free.length + 1) k - k) k free
 rw [show Q2 free (free.length + 1) k = Zr free k from rfl] at h2 h3 h4
 omega
def Qk : Ex → Nat
 | .name _ => 1
 | .num _ => 1
 | .two _ a b => Qk a + Qk b
 | .one _ a => Qk a
 | .cond a b c => Qk a + Qk b + Qk c
 | .lete _ e b => Qk e + Qk b
 | .func _ _ _ _ e => Qk e
theorem Qr : ∀ x : Ex, 3 * (Qk x + Xz x) ≤ 2 * (Z2 x).size + 1
 | .name s => by simp [Qk, Xz, Z2, Tr.size]
 | .num n => by simp [Qk, Xz, Z2, Tr.size]
 | .two o a b => by
   have h1 := Qr a
   have h2 := Qr b
   simp only [Qk, Xz, Z2, Tr.size, Yo]; omega
 | .one o a => by
   have h1 := Qr a
   simp only [Qk, Xz, Z2, Tr.size, Yo]; omega
 | .cond a b c => by
   have h1 := Qr a
   have h2 := Qr b
   have h3 := Qr c
   simp only [Qk, Xz, Z2, Tr.size, Yo]; omega
 | .lete s a b => by
   have h1 := Qr a
   have h2 := Qr b
   simp only [Qk, Xz, Z2, Tr.size, Yo]; omega
 | .func f a A B x => by
   have h1 := Qr x
   simp only [Qk, Xz, Z2, Tr.size, Yo]; omega
theorem Q9 : ∀ x : Ex, (Ze x).length ≤ Qk x
 | .name s => by simp [Ze, Qk]
 | .num n => by simp [Ze]
 | .two o a b => by
   have h1 := Q9 a
   have h2 := Q9 b
   simp only [Ze, Qk, List.length_append]; omega
 | .one o a => by simp only [Ze, Qk]; exact Q9 a
 | .cond a b c => by
   have h1 := Q9 a
   have h2 := Q9 b
   have h3 := Q9 c
   simp only [Ze, Qk, List.length_append]; omega
 | .lete s a b => by
   have h1 := Q9 a
   have h2 := Q9 b
   have h3 := Z2m [s] (Ze b)
   simp only [Ze, Qk, List.length_append]; omega
 | .func f a A B x => by
   have h1 := Q9 x
   have h3 := Z2m [f, a] (Ze x)
   simp only [Ze, Qk]; omega
theorem plE_few {x : Ex} {free : List Nm} (hf : free.length ≤ (Ze x).length) (hs : (Z2 x).size ≤ 120) : (plE free [] 0 x).2 ≤ 80 := by
 obtain ⟨h1, h2⟩ := Yz free x [] 0
 have h3 := Z3h ((plE free [] 0 x).2 - 0) 0 free
 have h4 := Q9 x
 have h5 := Qr x
 omega
end Go.Proofs.YtfknoigbkleanaaGreatDoor
