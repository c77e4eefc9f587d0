/- Atoms replaced by a form. Consequences of what forms and types are, for the general laws of chapter 1. What atoms stand in a form, before and after a replacement. The plain mathematics of ExprPlain: new names, the plain expression, how many indices are used. -/
import Derived.Test.YtjaaalojcdbcpaaGreatDoorlB1
import Derived.Test.YtjaaalojcdbcpaaGreatDoorlB3
import Derived.Test.YtjaaalojcdbcpaaGreatDoorlPureT
set_option maxHeartbeats 20000000
set_option linter.unusedVariables false
set_option linter.unusedSimpArgs false
namespace Go.Proofs.YtjaaalojcdbcpaaGreatDoor
open Go.RowKit Go.Proofs.Tryz
set_option maxRecDepth 8000
mutual
def Tr.subst (f : List UInt8 → Tr) : Tr → Tr
 | .atom x => f x
 | .list ts => .list (Kj f ts)
def Kj (f : List UInt8 → Tr) : List Tr → List Tr
 | [] => []
 | t :: ts => t.subst f :: Kj f ts
end
def rep (a : List UInt8) (b : Tr) (x : List UInt8) : Tr := if x = a then b else .atom x
def Qi (a : List UInt8) (b : Tr) (t : Tr) : Tr := t.subst (rep a b)
def Z3g (a : List UInt8) (b : Tr) (ts : List Tr) : List Tr := Kj (rep a b) ts
theorem Z0g (f : List UInt8 → Tr) : ∀ ts : List Tr, Kj f ts = ts.map (Tr.subst f)
 | [] => rfl
 | t :: ts => by rw [Kj, List.map_cons, Z0g f ts]
theorem Z4i (a : List UInt8) (b : Tr) (ts : List Tr) : (Z3g a b ts).length = ts.length := by rw [Z3g, Z0g]; simp
theorem repls_take (a : List UInt8) (b : Tr) (ts : List Tr) (k : Nat) (h : k < ts.length) : Z3g a b (ts.take (k + 1)) = Z3g a b (ts.take k) ++ [Qi a b ts[k]] := by
 rw [Ki _ _ h, Z3g, Z3g, Z0g, Z0g, List.map_append]; rfl
theorem repl_atom_yes {a x : List UInt8} (b : Tr) (h : x = a) : Qi a b (Tr.atom x) = b := by rw [Qi, Tr.subst, rep, if_pos h]
theorem repl_atom_no {a x : List UInt8} (b : Tr) (h : ¬ x = a) : Qi a b (Tr.atom x) = .atom x := by rw [Qi, Tr.subst, rep, if_neg h]
theorem repl_list (a : List UInt8) (b : Tr) (ts : List Tr) : Qi a b (Tr.list ts) = .list (Z3g a b ts) := by rw [Qi, Tr.subst, Z3g]
mutual
theorem subst_wf {f : List UInt8 → Tr} (hf : ∀ x, (Tr.atom x).wf → (f x).wf) : ∀ t : Tr, t.wf → (t.subst f).wf
 | .atom x, h => by rw [Tr.subst]; exact hf x h
 | .list ts, h => by
   rw [Tr.subst]
   refine ⟨?_, substs_wf hf ts h.2⟩
   rw [Z0g]; simpa using h.1
theorem substs_wf {f : List UInt8 → Tr} (hf : ∀ x, (Tr.atom x).wf → (f x).wf) : ∀ ts : List Tr, wfs ts → wfs (Kj f ts)
 | [], _ => trivial
 | t :: ts, h => ⟨subst_wf hf t h.1, substs_wf hf ts h.2⟩
end
mutual
theorem Z5p {f : List UInt8 → Tr} {m : Nat} (hm : 1 ≤ m) (hf : ∀ x, (Tr.atom x).wf → (f x).bytes ≤ m * x.length) : ∀ t : Tr, t.wf → (t.subst f).bytes ≤ m * t.bytes
 | .atom x, h => by rw [Tr.subst]; exact hf x h
 | .list ts, h => by
   have := Z4e hm hf ts h.2
   rw [Tr.subst]
   simp only [Tr.bytes, Nat.mul_add]; omega
theorem Z4e {f : List UInt8 → Tr} {m : Nat} (hm : 1 ≤ m) (hf : ∀ x, (Tr.atom x).wf → (f x).bytes ≤ m * x.length) : ∀ ts : List Tr, wfs ts → Zi (Kj f ts) ≤ m * Zi ts
 | [], _ => by simp [Kj, Zi]
 | t :: ts, h => by
   have h1 := Z5p hm hf t h.1
   have h2 := Z4e hm hf ts h.2
   simp only [Kj, Zi, Nat.mul_add]; omega
end
theorem repl_wf {a : List UInt8} {b : Tr} (hb : b.wf) (t : Tr) (h : t.wf) : (Qi a b t).wf := subst_wf (fun x hx => by unfold rep; split; exact hb; exact hx) t h
theorem rep_bytes {a : List UInt8} {b : Tr} {m : Nat} (hb : b.bytes ≤ m) (hm : 1 ≤ m) (x : List UInt8) (hx : (Tr.atom x).wf) : (rep a b x).bytes ≤ m * x.length := by
 have h1 : 1 ≤ x.length := by have := hx.1; cases x with | nil => exact absurd rfl this | cons c l => simp
 have h2 : m * 1 ≤ m * x.length := Nat.mul_le_mul_left m h1
 have h3 : 1 * x.length ≤ m * x.length := Nat.mul_le_mul_right _ hm
 unfold rep; split
 · omega
 · simp only [Tr.bytes]; omega
theorem repl_bytes {a : List UInt8} {b : Tr} {m : Nat} (hb : b.bytes ≤ m) (hm : 1 ≤ m) (t : Tr) (h : t.wf) : (Qi a b t).bytes ≤ m * t.bytes := Z5p hm (rep_bytes hb hm) t h
def Vd (s a y : List UInt8) : Option Tr :=
 match Zt s, Zt a, Zt y with
 | some t, some (.atom x), some b => if (Qi x b t).bytes ≤ 12000 ∧ (Qi x b t).depth ≤ 60 then some (Qi x b t) else none
 | _, _, _ => none
theorem replOf_1 {s : List UInt8} (a y : List UInt8) (h : Zt s = none) : Vd s a y = none := by simp [Vd, h]
theorem replOf_2 (s : List UInt8) {a : List UInt8} (y : List UInt8) (h : Zt a = none) : Vd s a y = none := by unfold Vd; rw [h]; cases Zt s <;> rfl
theorem replOf_3 (s a : List UInt8) {y : List UInt8} (h : Zt y = none) : Vd s a y = none := by
 unfold Vd; rw [h]
 cases Zt s with
 | none => rfl
 | some t => cases Zt a with
   | none => rfl
   | some x => cases x <;> rfl
theorem replOf_4 (s : List UInt8) {a : List UInt8} (y : List UInt8) {ts : List Tr} (h : Zt a = some (.list ts)) : Vd s a y = none := by
 unfold Vd; rw [h]; cases Zt s <;> rfl
theorem Z5s {s a y x : List UInt8} {t b : Tr} (h1 : Zt s = some t) (h2 : Zt a = some (.atom x)) (h3 : Zt y = some b) :
 Vd s a y = if (Qi x b t).bytes ≤ 12000 ∧ (Qi x b t).depth ≤ 60 then some (Qi x b t) else none := by simp [Vd, h1, h2, h3]
theorem atoms_range {l : List UInt8} {t : Tr} (h : Zt l = some t) : 1 ≤ (Xu t []).length ∧ (Xu t []).length ≤ t.size := by
 obtain ⟨h1, h2, h3, rfl⟩ := Yk h
 have h4 := atoms_len t [] h1
 refine ⟨?_, by simpa using h4.2⟩
 have h5 : ∀ (t : Tr) (l : List (List UInt8)), t.wf → 1 ≤ (Xu t l).length := by
  intro t
  induction t using Tr.rec (motive_2 := fun ts => ∀ (l : List (List UInt8)), wfs ts → ts ≠ [] → 1 ≤ (Q0 ts l).length) with
  | atom a =>
    intro l _
    rw [Z0o]
    unfold Qj
    split
    · rename_i h; exact List.length_pos_of_mem h
    · simp
  | list ts ih => intro l h; rw [Z1v]; exact ih l h.2 h.1
  | nil => rename_i h; exact absurd rfl h
  | cons a ts ih1 ih2 =>
    rename_i l h _
    simp only [Q0]
    have h6 := ih1 l h.1
    have h7 := (Z1u ts (Xu a l) h.2).1
    omega
 exact h5 t [] h1
mutual
def occ (y : Nm) : Tr → Bool
 | .atom a => decide (y = a)
 | .list ts => Z4q y ts
def Z4q (y : Nm) : List Tr → Bool
 | [] => false
 | t :: ts => occ y t || Z4q y ts
end
mutual
theorem mem_atoms (y : Nm) : ∀ (t : Tr) (l : List Nm), y ∈ Xu t l ↔ y ∈ l ∨ occ y t = true
 | .atom a, l => by
   rw [Z0o]
   unfold Qj
   simp only [occ, decide_eq_true_eq]
   split
   · rename_i h
     constructor
     · exact .inl
     · rintro (h2 | rfl); exact h2; exact h
   · simp [List.mem_append]
 | .list ts, l => by rw [Z1v, Z7f y ts l]; simp only [occ]
theorem Z7f (y : Nm) : ∀ (ts : List Tr) (l : List Nm), y ∈ Q0 ts l ↔ y ∈ l ∨ Z4q y ts = true
 | [], l => by simp [Q0, Z4q]
 | t :: ts, l => by simp only [Q0, Z7f y ts, mem_atoms y t, Z4q, Bool.or_eq_true, or_assoc]
end
mutual
theorem occ_subst (a : Nm) (b : Tr) : ∀ t : Tr, occ a (t.subst (rep a b)) = (occ a t && occ a b)
 | .atom x => by
   simp only [Tr.subst, rep, occ]
   by_cases h : x = a
   · rw [if_pos h]; simp [h]
   · rw [if_neg h]; simp only [occ]
     have : ¬ a = x := fun e => h e.symm
     simp [this]
 | .list ts => by simp only [Tr.subst, occ]; exact Z7d a b ts
theorem Z7d (a : Nm) (b : Tr) : ∀ ts : List Tr, Z4q a (Kj (rep a b) ts) = (Z4q a ts && occ a b)
 | [] => by simp [Kj, Z4q]
 | t :: ts => by simp only [Kj, Z4q, occ_subst a b t, Z7d a b ts, Bool.and_or_distrib_right]
end
mutual
theorem subst_out (a : Nm) (b : Tr) : ∀ t : Tr, occ a t = false → t.subst (rep a b) = t
 | .atom x, h => by
   simp only [occ, decide_eq_false_iff_not] at h
   simp only [Tr.subst, rep]
   rw [if_neg (fun e => h e.symm)]
 | .list ts, h => by simp only [occ] at h; simp only [Tr.subst]; rw [Z6z a b ts h]
theorem Z6z (a : Nm) (b : Tr) : ∀ ts : List Tr, Z4q a ts = false → Kj (rep a b) ts = ts
 | [], _ => rfl
 | t :: ts, h => by
   simp only [Z4q, Bool.or_eq_false_iff] at h
   simp only [Kj]
   rw [subst_out a b t h.1, Z6z a b ts h.2]
end
mutual
theorem occ_wf (y : Nm) : ∀ t : Tr, t.wf → occ y t = true → (Tr.atom y).wf ∧ y.length ≤ t.bytes
 | .atom a, h, ho => by
   simp only [occ, decide_eq_true_eq] at ho
   subst ho
   exact ⟨h, by simp [Tr.bytes]⟩
 | .list ts, h, ho => by
   simp only [occ] at ho
   obtain ⟨h1, h2⟩ := occs_wf y ts h.2 ho
   exact ⟨h1, by simp only [Tr.bytes]; omega⟩
theorem occs_wf (y : Nm) : ∀ ts : List Tr, wfs ts → Z4q y ts = true → (Tr.atom y).wf ∧ y.length ≤ Zi ts
 | [], _, h => by simp [Z4q] at h
 | t :: ts, h, ho => by
   simp only [Z4q, Bool.or_eq_true] at ho
   rcases ho with ho | ho
   · obtain ⟨h1, h2⟩ := occ_wf y t h.1 ho
     exact ⟨h1, by simp only [Zi]; omega⟩
   · obtain ⟨h1, h2⟩ := occs_wf y ts h.2 ho
     exact ⟨h1, by simp only [Zi]; omega⟩
end
theorem replOf_got {s a y : List UInt8} {T : Tr} (h : Vd s a y = some T) : ∃ t b, Zt s = some t ∧ Zt y = some b ∧ Zt T.text = some T ∧ (occ a T = (occ a t && occ a b)) ∧ (occ a t = false → T.text = s) := by
 cases h1 : Zt s with
 | none => rw [replOf_1 a y h1] at h; cases h
 | some t =>
   cases h2 : Zt a with
   | none => rw [replOf_2 s y h2] at h; cases h
   | some u =>
     cases u with
     | list us => rw [replOf_4 s y h2] at h; cases h
     | atom x =>
       cases h3 : Zt y with
       | none => rw [replOf_3 s a h3] at h; cases h
       | some b =>
         rw [Z5s h1 h2 h3] at h
         split at h
         · rename_i hb
           simp only [Option.some.injEq] at h
           subst h
           have hx : a = x := (Yk h2).2.2.2
           subst hx
           have gt := Yk h1
           have gb := Yk h3
           exact ⟨t, b, rfl, rfl, Z1j (repl_wf gb.1 t gt.1) hb.1 hb.2, occ_subst a b t, fun ho => by rw [Qi, subst_out a b t ho]; exact gt.2.2.2.symm⟩
         · cases h
def Zd (k : Nat) : Nm := 120 :: Lib.itoa (k : Int)
def Xw (free : List Nm) : Nat → Nat → Nat
 | 0, k => k
 | f + 1, k => if Zd k ∈ free then Xw free f (k + 1) else k
def Zk (free : List Nm) (k : Nat) : Nat := Xw free (free.length + 1) k
def J2 : List (Nm × Nm) → Nm → Nm
 | [], s => s
 | (a, b) :: m, s => if a = s then b else J2 m s
def plE (free : List Nm) : List (Nm × Nm) → Nat → Ex → Ex × Nat
 | m, k, .name s => (.name (J2 m s), k)
 | m, k, .num n => (.num n, k)
 | m, k, .two o a b => let p := plE free m k a; let q := plE free m p.2 b; (.two o p.1 q.1, q.2)
 | m, k, .one o a => let p := plE free m k a; (.one o p.1, p.2)
 | m, k, .cond a b c => let p := plE free m k a; let q := plE free m p.2 b; let r := plE free m q.2 c; (.cond p.1 q.1 r.1, r.2)
 | m, k, .lete x e b => let i := Zk free k; let p := plE free m (i + 1) e; let q := plE free ((x, Zd i) :: m) p.2 b; (.lete (Zd i) p.1 q.1, q.2)
 | m, k, .func f x A B e => let i := Zk free k; let j := Zk free (i + 1); let p := plE free ((x, Zd j) :: (f, Zd i) :: m) (j + 1) e; (.func (Zd i) (Zd j) A B p.1, p.2)
def Vu (free : List Nm) (a : Nat) : Nat → Nat
 | 0 => 0
 | n + 1 => (if Zd a ∈ free then 1 else 0) + Vu free (a + 1) n
theorem Qw (free : List Nm) : ∀ (n m a : Nat), Vu free a (n + m) = Vu free a n + Vu free (a + n) m
 | 0, m, a => by simp [Vu]
 | n + 1, m, a => by
   rw [show n + 1 + m = (n + m) + 1 by omega]
   simp only [Vu]
   rw [Qw free n m (a + 1), show a + 1 + n = a + (n + 1) by omega]
   omega
def Xs : Ex → Nat
 | .name _ => 0
 | .num _ => 0
 | .two _ a b => Xs a + Xs b
 | .one _ a => Xs a
 | .cond a b c => Xs a + Xs b + Xs c
 | .lete _ e b => Xs e + Xs b + 1
 | .func _ _ _ _ e => Xs e + 2
theorem K0 (free : List Nm) : ∀ (f k : Nat), k ≤ Xw free f k ∧ Xw free f k - k = Vu free k (Xw free f k - k)
 | 0, k => by simp [Xw, Vu]
 | f + 1, k => by
   simp only [Xw]
   split
   · rename_i h
     obtain ⟨h1, h2⟩ := K0 free f (k + 1)
     refine ⟨by omega, ?_⟩
     rw [show Xw free f (k + 1) - k = (Xw free f (k + 1) - (k + 1)) + 1 by omega]
     simp only [Vu, if_pos h]
     omega
   · simp [Vu]
theorem Ym (free : List Nm) : ∀ (x : Ex) (m : List (Nm × Nm)) (k : Nat), k ≤ (plE free m k x).2 ∧ (plE free m k x).2 - k ≤ Xs x + Vu free k ((plE free m k x).2 - k)
 | .name s, m, k => by simp [plE]
 | .num n, m, k => by simp [plE]
 | .two o a b, m, k => by
   simp only [plE]
   obtain ⟨h1, h2⟩ := Ym free a m k
   obtain ⟨h3, h4⟩ := Ym free b m (plE free m k a).2
   generalize (plE free m (plE free m k a).2 b).2 = z at *
   generalize (plE free m k a).2 = y at *
   refine ⟨by omega, ?_⟩
   have := Qw free (y - k) (z - y) k
   rw [show y - k + (z - y) = z - k by omega, show k + (y - k) = y by omega] at this
   simp only [Xs]; omega
 | .one o a, m, k => by
   simp only [plE, Xs]
   exact Ym free a m k
 | .cond a b c, m, k => by
   simp only [plE]
   obtain ⟨h1, h2⟩ := Ym free a m k
   obtain ⟨h3, h4⟩ := Ym free b m (plE free m k a).2
   obtain ⟨h5, h6⟩ := Ym free c m (plE free m (plE free m k a).2 b).2
   generalize (plE free m (plE free m (plE free m k a).2 b).2 c).2 = u at *
   generalize (plE free m (plE free m k a).2 b).2 = z at *
   generalize (plE free m k a).2 = y at *
   refine ⟨by omega, ?_⟩
   have e1 := Qw free (y - k) (z - y) k
   rw [show y - k + (z - y) = z - k by omega, show k + (y - k) = y by omega] at e1
   have e2 := Qw free (z - k) (u - z) k
   rw [show z - k + (u - z) = u - k by omega, show k + (z - k) = z by omega] at e2
   simp only [Xs]; omega
 | .lete x e b, m, k => by
   simp only [plE]
   obtain ⟨g1, g2⟩ := K0 free (free.length + 1) k
   rw [show Xw free (free.length + 1) k = Zk free k from rfl] at g1 g2
   obtain ⟨h1, h2⟩ := Ym free e m (Zk free k + 1)
   obtain ⟨h3, h4⟩ := Ym free b ((x, Zd (Zk free k)) :: m) (plE free m (Zk free k + 1) e).2
   generalize (plE free ((x, Zd (Zk free k)) :: m) (plE free m (Zk free k + 1) e).2 b).2 = z at *
   generalize (plE free m (Zk free k + 1) e).2 = y at *
   generalize Zk free k = i at *
   refine ⟨by omega, ?_⟩
   have e1 := Qw free (i - k) 1 k
   rw [show k + (i - k) = i by omega] at e1
   have e2 := Qw free (i - k + 1) (y - (i + 1)) k
   rw [show i - k + 1 + (y - (i + 1)) = y - k by omega, show k + (i - k + 1) = i + 1 by omega] at e2
   have e3 := Qw free (y - k) (z - y) k
   rw [show y - k + (z - y) = z - k by omega, show k + (y - k) = y by omega] at e3
   simp only [Xs]; omega
 | .func f x A B e, m, k => by
   simp only [plE]
   obtain ⟨g1, g2⟩ := K0 free (free.length + 1) k
   rw [show Xw free (free.length + 1) k = Zk free k from rfl] at g1 g2
   obtain ⟨g3, g4⟩ := K0 free (free.length + 1) (Zk free k + 1)
   rw [show Xw free (free.length + 1) (Zk free k + 1) = Zk free (Zk free k + 1) from rfl] at g3 g4
   obtain ⟨h1, h2⟩ := Ym free e ((x, Zd (Zk free (Zk free k + 1))) :: (f, Zd (Zk free k)) :: m) (Zk free (Zk free k + 1) + 1)
   generalize (plE free ((x, Zd (Zk free (Zk free k + 1))) :: (f, Zd (Zk free k)) :: m) (Zk free (Zk free k + 1) + 1) e).2 = z at *
   generalize Zk free (Zk free k + 1) = j at *
   generalize Zk free k = i at *
   refine ⟨by omega, ?_⟩
   have e1 := Qw free (i - k) 1 k
   rw [show k + (i - k) = i by omega] at e1
   have e2 := Qw free (i - k + 1) (j - (i + 1)) k
   rw [show i - k + 1 + (j - (i + 1)) = j - k by omega, show k + (i - k + 1) = i + 1 by omega] at e2
   have e3 := Qw free (j - k) 1 k
   rw [show k + (j - k) = j by omega] at e3
   have e4 := Qw free (j - k + 1) (z - (j + 1)) k
   rw [show j - k + 1 + (z - (j + 1)) = z - k by omega, show k + (j - k + 1) = j + 1 by omega] at e4
   simp only [Xs]; omega
def valD (l : List UInt8) : Nat := l.foldl (fun a d => 10 * a + (d.toNat - 48)) 0
theorem Z6x (u : Nat) : valD (Lib.decDigits u) = u := by
 rw [Lib.decDigits]
 split
 · rename_i h
   have e : (UInt8.ofNat (48 + u)).toNat = 48 + u := by simp; omega
   simp only [valD, List.foldl_cons, List.foldl_nil, e]; omega
 · rename_i h
   have ih := Z6x (u / 10)
   have e : (UInt8.ofNat (48 + u % 10)).toNat = 48 + u % 10 := by simp; omega
   unfold valD at ih
   simp only [valD, List.foldl_append, List.foldl_cons, List.foldl_nil, ih, e]; omega
termination_by u
decreasing_by omega
theorem Z54 {a b : Nat} (h : Zd a = Zd b) : a = b := by
 simp only [Zd, List.cons.injEq, true_and, Lib.itoa] at h
 rw [if_neg (by omega), if_neg (by omega)] at h
 have := congrArg valD h
 rw [Z6x, Z6x] at this
 simpa using this
theorem Z5q (free : List Nm) (b : Nat) : ∀ (n a : Nat), b < a → Vu (free.erase (Zd b)) a n = Vu free a n
 | 0, a, h => rfl
 | n + 1, a, h => by
   have e : Zd a ∈ free.erase (Zd b) ↔ Zd a ∈ free := List.mem_erase_of_ne (fun q => by have := Z54 q; omega)
   simp only [Vu, Z5q free b n (a + 1) (by omega), e]
theorem Z28 : ∀ (n a : Nat) (free : List Nm), Vu free a n ≤ free.length
 | 0, a, free => by simp [Vu]
 | n + 1, a, free => by
   simp only [Vu]
   split
   · rename_i h
     have h1 := Z28 n (a + 1) (free.erase (Zd a))
     rw [Z5q free a n (a + 1) (by omega), List.length_erase_of_mem h] at h1
     have := List.length_pos_of_mem h
     omega
   · have := Z28 n (a + 1) free; omega
theorem Z7y (free : List Nm) : ∀ (f k : Nat), Zd (Xw free f k) ∈ free → Xw free f k = k + f
 | 0, k, h => rfl
 | f + 1, k, h => by
   simp only [Xw] at h ⊢
   split
   · rename_i q
     rw [if_pos q] at h
     rw [Z7y free f (k + 1) h]; omega
   · rename_i q
     rw [if_neg q] at h
     exact absurd h q
theorem fresh_new (free : List Nm) (k : Nat) : Zd (Zk free k) ∉ free := fun h => by
 have h1 := Z7y free (free.length + 1) k h
 obtain ⟨h2, h3⟩ := K0 free (free.length + 1) k
 have h4 := Z28 (Xw free (free.length + 1) k - k) k free
 omega
theorem Z7w {free : List Nm} {k : Nat} (h : Zd k ∈ free) : Zk free k = Zk free (k + 1) := by
 have e : ∀ f k, Zd (Xw free f k) ∉ free → Xw free (f + 1) k = Xw free f k := by
  intro f
  induction f with
  | zero => intro k hk; simp only [Xw] at hk ⊢; rw [if_neg hk]
  | succ f ih =>
    intro k hk
    have u1 : ∀ g, Xw free (g + 1) k = if Zd k ∈ free then Xw free g (k + 1) else k := fun g => rfl
    rw [u1, u1]
    rw [u1] at hk
    by_cases q : Zd k ∈ free
    · rw [if_pos q] at hk
      rw [if_pos q, if_pos q]
      exact ih (k + 1) hk
    · rw [if_neg q, if_neg q]
 have h1 : Zk free k = Xw free free.length (k + 1) := by unfold Zk; rw [Xw, if_pos h]
 have h2 : Zd (Xw free free.length (k + 1)) ∉ free := h1 ▸ fresh_new free k
 rw [h1, Zk, e _ _ h2]
theorem Z7x {free : List Nm} {k : Nat} (h : Zd k ∉ free) : Zk free k = k := by unfold Zk; rw [Xw, if_neg h]
theorem Qe (free : List Nm) (k : Nat) : k ≤ Zk free k ∧ Zk free k ≤ k + free.length := by
 obtain ⟨h2, h3⟩ := K0 free (free.length + 1) k
 have h4 := Z28 (Xw free (free.length + 1) k - k) k free
 rw [show Xw free (free.length + 1) k = Zk free k from rfl] at h2 h3 h4
 omega
def Q6 : Ex → Nat
 | .name _ => 1
 | .num _ => 1
 | .two _ a b => Q6 a + Q6 b
 | .one _ a => Q6 a
 | .cond a b c => Q6 a + Q6 b + Q6 c
 | .lete _ e b => Q6 e + Q6 b
 | .func _ _ _ _ e => Q6 e
theorem Xj : ∀ x : Ex, 3 * (Q6 x + Xs x) ≤ 2 * (Z0 x).size + 1
 | .name s => by simp [Q6, Xs, Z0, Tr.size]
 | .num n => by simp [Q6, Xs, Z0, Tr.size]
 | .two o a b => by
   have h1 := Xj a
   have h2 := Xj b
   simp only [Q6, Xs, Z0, Tr.size, Yd]; omega
 | .one o a => by
   have h1 := Xj a
   simp only [Q6, Xs, Z0, Tr.size, Yd]; omega
 | .cond a b c => by
   have h1 := Xj a
   have h2 := Xj b
   have h3 := Xj c
   simp only [Q6, Xs, Z0, Tr.size, Yd]; omega
 | .lete s a b => by
   have h1 := Xj a
   have h2 := Xj b
   simp only [Q6, Xs, Z0, Tr.size, Yd]; omega
 | .func f a A B x => by
   have h1 := Xj x
   simp only [Q6, Xs, Z0, Tr.size, Yd]; omega
theorem Xd : ∀ x : Ex, (Ze x).length ≤ Q6 x
 | .name s => by simp [Ze, Q6]
 | .num n => by simp [Ze]
 | .two o a b => by
   have h1 := Xd a
   have h2 := Xd b
   simp only [Ze, Q6, List.length_append]; omega
 | .one o a => by simp only [Ze, Q6]; exact Xd a
 | .cond a b c => by
   have h1 := Xd a
   have h2 := Xd b
   have h3 := Xd c
   simp only [Ze, Q6, List.length_append]; omega
 | .lete s a b => by
   have h1 := Xd a
   have h2 := Xd b
   have h3 := Z1i [s] (Ze b)
   simp only [Ze, Q6, List.length_append]; omega
 | .func f a A B x => by
   have h1 := Xd x
   have h3 := Z1i [f, a] (Ze x)
   simp only [Ze, Q6]; omega
theorem plE_few {x : Ex} {free : List Nm} (hf : free.length ≤ (Ze x).length) (hs : (Z0 x).size ≤ 120) : (plE free [] 0 x).2 ≤ 80 := by
 obtain ⟨h1, h2⟩ := Ym free x [] 0
 have h3 := Z28 ((plE free [] 0 x).2 - 0) 0 free
 have h4 := Xd x
 have h5 := Xj x
 omega
end Go.Proofs.YtjaaalojcdbcpaaGreatDoor
