/- Atoms replaced by a form. Consequences of what forms and types are, for the general laws of chapter 1. What atoms stand in a form, before and after a replacement. The plain mathematics of ExprPlain: new names, the plain expression, how many indices are used. -/
import Derived.Test.YtfknoigbkleanaaGreatDoorxB1
import Derived.Test.YtfknoigbkleanaaGreatDoorxB3
import Derived.Test.YtfknoigbkleanaaGreatDoorxPureT
namespace Go.Proofs.YtfknoigbkleanaaGreatDoor
open Go.RowKit Go.Proofs.Tryz
set_option maxRecDepth 8000
set_option maxHeartbeats 20000000
set_option linter.unusedVariables false
set_option linter.unusedSimpArgs false
mutual
def Tr.subst (f : List UInt8 → Tr) : Tr → Tr
 | .atom x => f x
 | .list ts => .list (Kf f ts)
def Kf (f : List UInt8 → Tr) : List Tr → List Tr
 | [] => []
 | t :: ts => t.subst f :: Kf f ts
end
def rep (a : List UInt8) (b : Tr) (x : List UInt8) : Tr := if x = a then b else .atom x
def Qn (a : List UInt8) (b : Tr) (t : Tr) : Tr := t.subst (rep a b)
def Z2y (a : List UInt8) (b : Tr) (ts : List Tr) : List Tr := Kf (rep a b) ts
theorem Vy (f : List UInt8 → Tr) : ∀ ts : List Tr, Kf f ts = ts.map (Tr.subst f)
 | [] => rfl
 | t :: ts => by rw [Kf, List.map_cons, Vy f ts]
theorem Z42 (a : List UInt8) (b : Tr) (ts : List Tr) : (Z2y a b ts).length = ts.length := by rw [Z2y, Vy]; simp
theorem repls_take (a : List UInt8) (b : Tr) (ts : List Tr) (k : Nat) (h : k < ts.length) : Z2y a b (ts.take (k + 1)) = Z2y a b (ts.take k) ++ [Qn a b ts[k]] := by
 rw [Ke _ _ h, Z2y, Z2y, Vy, Vy, List.map_append]; rfl
theorem repl_atom_yes {a x : List UInt8} (b : Tr) (h : x = a) : Qn a b (Tr.atom x) = b := by rw [Qn, Tr.subst, rep, if_pos h]
theorem repl_atom_no {a x : List UInt8} (b : Tr) (h : ¬ x = a) : Qn a b (Tr.atom x) = .atom x := by rw [Qn, Tr.subst, rep, if_neg h]
theorem repl_list (a : List UInt8) (b : Tr) (ts : List Tr) : Qn a b (Tr.list ts) = .list (Z2y a b ts) := by rw [Qn, Tr.subst, Z2y]
mutual
theorem subst_wf {f : List UInt8 → Tr} (hf : ∀ x, (Tr.atom x).wf → (f x).wf) : ∀ t : Tr, t.wf → (t.subst f).wf
 | .atom x, h => by rw [Tr.subst]; exact hf x h
 | .list ts, h => by
   rw [Tr.subst]
   refine ⟨?_, substs_wf hf ts h.2⟩
   rw [Vy]; simpa using h.1
theorem substs_wf {f : List UInt8 → Tr} (hf : ∀ x, (Tr.atom x).wf → (f x).wf) : ∀ ts : List Tr, wfs ts → wfs (Kf f ts)
 | [], _ => trivial
 | t :: ts, h => ⟨subst_wf hf t h.1, substs_wf hf ts h.2⟩
end
mutual
theorem Z5d {f : List UInt8 → Tr} {m : Nat} (hm : 1 ≤ m) (hf : ∀ x, (Tr.atom x).wf → (f x).bytes ≤ m * x.length) : ∀ t : Tr, t.wf → (t.subst f).bytes ≤ m * t.bytes
 | .atom x, h => by rw [Tr.subst]; exact hf x h
 | .list ts, h => by
   have := Z3x hm hf ts h.2
   rw [Tr.subst]
   simp only [Tr.bytes, Nat.mul_add]; omega
theorem Z3x {f : List UInt8 → Tr} {m : Nat} (hm : 1 ≤ m) (hf : ∀ x, (Tr.atom x).wf → (f x).bytes ≤ m * x.length) : ∀ ts : List Tr, wfs ts → Zo (Kf f ts) ≤ m * Zo ts
 | [], _ => by simp [Kf, Zo]
 | t :: ts, h => by
   have h1 := Z5d hm hf t h.1
   have h2 := Z3x hm hf ts h.2
   simp only [Kf, Zo, Nat.mul_add]; omega
end
theorem repl_wf {a : List UInt8} {b : Tr} (hb : b.wf) (t : Tr) (h : t.wf) : (Qn a b t).wf := subst_wf (fun x hx => by unfold rep; split; exact hb; exact hx) t h
theorem rep_bytes {a : List UInt8} {b : Tr} {m : Nat} (hb : b.bytes ≤ m) (hm : 1 ≤ m) (x : List UInt8) (hx : (Tr.atom x).wf) : (rep a b x).bytes ≤ m * x.length := by
 have h1 : 1 ≤ x.length := by have := hx.1; cases x with | nil => exact absurd rfl this | cons c l => simp
 have h2 : m * 1 ≤ m * x.length := Nat.mul_le_mul_left m h1
 have h3 : 1 * x.length ≤ m * x.length := Nat.mul_le_mul_right _ hm
 unfold rep; split
 · omega
 · simp only [Tr.bytes]; omega
theorem repl_bytes {a : List UInt8} {b : Tr} {m : Nat} (hb : b.bytes ≤ m) (hm : 1 ≤ m) (t : Tr) (h : t.wf) : (Qn a b t).bytes ≤ m * t.bytes := Z5d hm (rep_bytes hb hm) t h
def Kz (s a y : List UInt8) : Option Tr :=
 match Zt s, Zt a, Zt y with
 | some t, some (.atom x), some b => if (Qn x b t).bytes ≤ 12000 ∧ (Qn x b t).depth ≤ 60 then some (Qn x b t) else none
 | _, _, _ => none
theorem replOf_1 {s : List UInt8} (a y : List UInt8) (h : Zt s = none) : Kz s a y = none := by simp [Kz, h]
theorem replOf_2 (s : List UInt8) {a : List UInt8} (y : List UInt8) (h : Zt a = none) : Kz s a y = none := by unfold Kz; rw [h]; cases Zt s <;> rfl
theorem replOf_3 (s a : List UInt8) {y : List UInt8} (h : Zt y = none) : Kz s a y = none := by
 unfold Kz; rw [h]
 cases Zt s with
 | none => rfl
 | some t => cases Zt a with
   | none => rfl
   | some x => cases x <;> rfl
theorem replOf_4 (s : List UInt8) {a : List UInt8} (y : List UInt8) {ts : List Tr} (h : Zt a = some (.list ts)) : Kz s a y = none := by
 unfold Kz; rw [h]; cases Zt s <;> rfl
theorem Z5g {s a y x : List UInt8} {t b : Tr} (h1 : Zt s = some t) (h2 : Zt a = some (.atom x)) (h3 : Zt y = some b) :
 Kz s a y = if (Qn x b t).bytes ≤ 12000 ∧ (Qn x b t).depth ≤ 60 then some (Qn x b t) else none := by simp [Kz, h1, h2, h3]
theorem atoms_range {l : List UInt8} {t : Tr} (h : Zt l = some t) : 1 ≤ (Xw t []).length ∧ (Xw t []).length ≤ t.size := by
 obtain ⟨h1, h2, h3, rfl⟩ := Yp h
 have h4 := atoms_len t [] h1
 refine ⟨?_, by simpa using h4.2⟩
 have h5 : ∀ (t : Tr) (l : List (List UInt8)), t.wf → 1 ≤ (Xw t l).length := by
  intro t
  induction t using Tr.rec (motive_2 := fun ts => ∀ (l : List (List UInt8)), wfs ts → ts ≠ [] → 1 ≤ (Q3 ts l).length) with
  | atom a =>
    intro l _
    rw [Z05]
    unfold Ji
    split
    · rename_i h; exact List.length_pos_of_mem h
    · simp
  | list ts ih => intro l h; rw [Z1h]; exact ih l h.2 h.1
  | nil => rename_i h; exact absurd rfl h
  | cons a ts ih1 ih2 =>
    rename_i l h _
    simp only [Q3]
    have h6 := ih1 l h.1
    have h7 := (Z1g ts (Xw a l) h.2).1
    omega
 exact h5 t [] h1
mutual
def occ (y : Nm) : Tr → Bool
 | .atom a => decide (y = a)
 | .list ts => Z45 y ts
def Z45 (y : Nm) : List Tr → Bool
 | [] => false
 | t :: ts => occ y t || Z45 y ts
end
mutual
theorem mem_atoms (y : Nm) : ∀ (t : Tr) (l : List Nm), y ∈ Xw t l ↔ y ∈ l ∨ occ y t = true
 | .atom a, l => by
   rw [Z05]
   unfold Ji
   simp only [occ, decide_eq_true_eq]
   split
   · rename_i h
     constructor
     · exact .inl
     · rintro (h2 | rfl); exact h2; exact h
   · simp [List.mem_append]
 | .list ts, l => by rw [Z1h, Z71 y ts l]; simp only [occ]
theorem Z71 (y : Nm) : ∀ (ts : List Tr) (l : List Nm), y ∈ Q3 ts l ↔ y ∈ l ∨ Z45 y ts = true
 | [], l => by simp [Q3, Z45]
 | t :: ts, l => by simp only [Q3, Z71 y ts, mem_atoms y t, Z45, Bool.or_eq_true, or_assoc]
end
mutual
theorem occ_subst (a : Nm) (b : Tr) : ∀ t : Tr, occ a (t.subst (rep a b)) = (occ a t && occ a b)
 | .atom x => by
   simp only [Tr.subst, rep, occ]
   by_cases h : x = a
   · rw [if_pos h]; simp [h]
   · rw [if_neg h]; simp only [occ]
     have : ¬ a = x := fun e => h e.symm
     simp [this]
 | .list ts => by simp only [Tr.subst, occ]; exact Z6z a b ts
theorem Z6z (a : Nm) (b : Tr) : ∀ ts : List Tr, Z45 a (Kf (rep a b) ts) = (Z45 a ts && occ a b)
 | [] => by simp [Kf, Z45]
 | t :: ts => by simp only [Kf, Z45, occ_subst a b t, Z6z a b ts, Bool.and_or_distrib_right]
end
mutual
theorem subst_out (a : Nm) (b : Tr) : ∀ t : Tr, occ a t = false → t.subst (rep a b) = t
 | .atom x, h => by
   simp only [occ, decide_eq_false_iff_not] at h
   simp only [Tr.subst, rep]
   rw [if_neg (fun e => h e.symm)]
 | .list ts, h => by simp only [occ] at h; simp only [Tr.subst]; rw [Z6i a b ts h]
theorem Z6i (a : Nm) (b : Tr) : ∀ ts : List Tr, Z45 a ts = false → Kf (rep a b) ts = ts
 | [], _ => rfl
 | t :: ts, h => by
   simp only [Z45, Bool.or_eq_false_iff] at h
   simp only [Kf]
   rw [subst_out a b t h.1, Z6i a b ts h.2]
end
mutual
theorem occ_wf (y : Nm) : ∀ t : Tr, t.wf → occ y t = true → (Tr.atom y).wf ∧ y.length ≤ t.bytes
 | .atom a, h, ho => by
   simp only [occ, decide_eq_true_eq] at ho
   subst ho
   exact ⟨h, by simp [Tr.bytes]⟩
 | .list ts, h, ho => by
   simp only [occ] at ho
   obtain ⟨h1, h2⟩ := occs_wf y ts h.2 ho
   exact ⟨h1, by simp only [Tr.bytes]; omega⟩
theorem occs_wf (y : Nm) : ∀ ts : List Tr, wfs ts → Z45 y ts = true → (Tr.atom y).wf ∧ y.length ≤ Zo ts
 | [], _, h => by simp [Z45] at h
 | t :: ts, h, ho => by
   simp only [Z45, Bool.or_eq_true] at ho
   rcases ho with ho | ho
   · obtain ⟨h1, h2⟩ := occ_wf y t h.1 ho
     exact ⟨h1, by simp only [Zo]; omega⟩
   · obtain ⟨h1, h2⟩ := occs_wf y ts h.2 ho
     exact ⟨h1, by simp only [Zo]; omega⟩
end
theorem replOf_got {s a y : List UInt8} {T : Tr} (h : Kz s a y = some T) : ∃ t b, Zt s = some t ∧ Zt y = some b ∧ Zt T.text = some T ∧ (occ a T = (occ a t && occ a b)) ∧ (occ a t = false → T.text = s) := by
 cases h1 : Zt s with
 | none => rw [replOf_1 a y h1] at h; cases h
 | some t =>
   cases h2 : Zt a with
   | none => rw [replOf_2 s y h2] at h; cases h
   | some u =>
     cases u with
     | list us => rw [replOf_4 s y h2] at h; cases h
     | atom x =>
       cases h3 : Zt y with
       | none => rw [replOf_3 s a h3] at h; cases h
       | some b =>
         rw [Z5g h1 h2 h3] at h
         split at h
         · rename_i hb
           simp only [Option.some.injEq] at h
           subst h
           have hx : a = x := (Yp h2).2.2.2
           subst hx
           have gt := Yp h1
           have gb := Yp h3
           exact ⟨t, b, rfl, rfl, V0 (repl_wf gb.1 t gt.1) hb.1 hb.2, occ_subst a b t, fun ho => by rw [Qn, subst_out a b t ho]; exact gt.2.2.2.symm⟩
         · cases h
def Zz (k : Nat) : Nm := 120 :: Lib.itoa (k : Int)
def Xu (free : List Nm) : Nat → Nat → Nat
 | 0, k => k
 | f + 1, k => if Zz k ∈ free then Xu free f (k + 1) else k
def Zp (free : List Nm) (k : Nat) : Nat := Xu free (free.length + 1) k
def Q6 : List (Nm × Nm) → Nm → Nm
 | [], s => s
 | (a, b) :: m, s => if a = s then b else Q6 m s
def plE (free : List Nm) : List (Nm × Nm) → Nat → Ex → Ex × Nat
 | m, k, .name s => (.name (Q6 m s), k)
 | m, k, .num n => (.num n, k)
 | m, k, .two o a b => let p := plE free m k a; let q := plE free m p.2 b; (.two o p.1 q.1, q.2)
 | m, k, .one o a => let p := plE free m k a; (.one o p.1, p.2)
 | m, k, .cond a b c => let p := plE free m k a; let q := plE free m p.2 b; let r := plE free m q.2 c; (.cond p.1 q.1 r.1, r.2)
 | m, k, .lete x e b => let i := Zp free k; let p := plE free m (i + 1) e; let q := plE free ((x, Zz i) :: m) p.2 b; (.lete (Zz i) p.1 q.1, q.2)
 | m, k, .func f x A B e => let i := Zp free k; let j := Zp free (i + 1); let p := plE free ((x, Zz j) :: (f, Zz i) :: m) (j + 1) e; (.func (Zz i) (Zz j) A B p.1, p.2)
def Va (free : List Nm) (a : Nat) : Nat → Nat
 | 0 => 0
 | n + 1 => (if Zz a ∈ free then 1 else 0) + Va free (a + 1) n
theorem J2 (free : List Nm) : ∀ (n m a : Nat), Va free a (n + m) = Va free a n + Va free (a + n) m
 | 0, m, a => by simp [Va]
 | n + 1, m, a => by
   rw [show n + 1 + m = (n + m) + 1 by omega]
   simp only [Va]
   rw [J2 free n m (a + 1), show a + 1 + n = a + (n + 1) by omega]
   omega
def Xs : Ex → Nat
 | .name _ => 0
 | .num _ => 0
 | .two _ a b => Xs a + Xs b
 | .one _ a => Xs a
 | .cond a b c => Xs a + Xs b + Xs c
 | .lete _ e b => Xs e + Xs b + 1
 | .func _ _ _ _ e => Xs e + 2
theorem Jv (free : List Nm) : ∀ (f k : Nat), k ≤ Xu free f k ∧ Xu free f k - k = Va free k (Xu free f k - k)
 | 0, k => by simp [Xu, Va]
 | f + 1, k => by
   simp only [Xu]
   split
   · rename_i h
     obtain ⟨h1, h2⟩ := Jv free f (k + 1)
     refine ⟨by omega, ?_⟩
     rw [show Xu free f (k + 1) - k = (Xu free f (k + 1) - (k + 1)) + 1 by omega]
     simp only [Va, if_pos h]
     omega
   · simp [Va]
theorem Yo (free : List Nm) : ∀ (x : Ex) (m : List (Nm × Nm)) (k : Nat), k ≤ (plE free m k x).2 ∧ (plE free m k x).2 - k ≤ Xs x + Va free k ((plE free m k x).2 - k)
 | .name s, m, k => by simp [plE]
 | .num n, m, k => by simp [plE]
 | .two o a b, m, k => by
   simp only [plE]
   obtain ⟨h1, h2⟩ := Yo free a m k
   obtain ⟨h3, h4⟩ := Yo free b m (plE free m k a).2
   generalize (plE free m (plE free m k a).2 b).2 = z at *
   generalize (plE free m k a).2 = y at *
   refine ⟨by omega, ?_⟩
   have := J2 free (y - k) (z - y) k
   rw [show y - k + (z - y) = z - k by omega, show k + (y - k) = y by omega] at this
   simp only [Xs]; omega
 | .one o a, m, k => by
   simp only [plE, Xs]
   exact Yo free a m k
 | .cond a b c, m, k => by
   simp only [plE]
   obtain ⟨h1, h2⟩ := Yo free a m k
   obtain ⟨h3, h4⟩ := Yo free b m (plE free m k a).2
   obtain ⟨h5, h6⟩ := Yo free c m (plE free m (plE free m k a).2 b).2
   generalize (plE free m (plE free m (plE free m k a).2 b).2 c).2 = u at *
   generalize (plE free m (plE free m k a).2 b).2 = z at *
   generalize (plE free m k a).2 = y at *
   refine ⟨by omega, ?_⟩
   have e1 := J2 free (y - k) (z - y) k
   rw [show y - k + (z - y) = z - k by omega, show k + (y - k) = y by omega] at e1
   have e2 := J2 free (z - k) (u - z) k
   rw [show z - k + (u - z) = u - k by omega, show k + (z - k) = z by omega] at e2
   simp only [Xs]; omega
 | .lete x e b, m, k => by
   simp only [plE]
   obtain ⟨g1, g2⟩ := Jv free (free.length + 1) k
   rw [show Xu free (free.length + 1) k = Zp free k from rfl] at g1 g2
   obtain ⟨h1, h2⟩ := Yo free e m (Zp free k + 1)
   obtain ⟨h3, h4⟩ := Yo free b ((x, Zz (Zp free k)) :: m) (plE free m (Zp free k + 1) e).2
   generalize (plE free ((x, Zz (Zp free k)) :: m) (plE free m (Zp free k + 1) e).2 b).2 = z at *
   generalize (plE free m (Zp free k + 1) e).2 = y at *
   generalize Zp free k = i at *
   refine ⟨by omega, ?_⟩
   have e1 := J2 free (i - k) 1 k
   rw [show k + (i - k) = i by omega] at e1
   have e2 := J2 free (i - k + 1) (y - (i + 1)) k
   rw [show i - k + 1 + (y - (i + 1)) = y - k by omega, show k + (i - k + 1) = i + 1 by omega] at e2
   have e3 := J2 free (y - k) (z - y) k
   rw [show y - k + (z - y) = z - k by omega, show k + (y - k) = y by omega] at e3
   simp only [Xs]; omega
 | .func f x A B e, m, k => by
   simp only [plE]
   obtain ⟨g1, g2⟩ := Jv free (free.length + 1) k
   rw [show Xu free (free.length + 1) k = Zp free k from rfl] at g1 g2
   obtain ⟨g3, g4⟩ := Jv free (free.length + 1) (Zp free k + 1)
   rw [show Xu free (free.length + 1) (Zp free k + 1) = Zp free (Zp free k + 1) from rfl] at g3 g4
   obtain ⟨h1, h2⟩ := Yo free e ((x, Zz (Zp free (Zp free k + 1))) :: (f, Zz (Zp free k)) :: m) (Zp free (Zp free k + 1) + 1)
   generalize (plE free ((x, Zz (Zp free (Zp free k + 1))) :: (f, Zz (Zp free k)) :: m) (Zp free (Zp free k + 1) + 1) e).2 = z at *
   generalize Zp free (Zp free k + 1) = j at *
   generalize Zp free k = i at *
   refine ⟨by omega, ?_⟩
   have e1 := J2 free (i - k) 1 k
   rw [show k + (i - k) = i by omega] at e1
   have e2 := J2 free (i - k + 1) (j - (i + 1)) k
   rw [show i - k + 1 + (j - (i + 1)) = j - k by omega, show k + (i - k + 1) = i + 1 by omega] at e2
   have e3 := J2 free (j - k) 1 k
   rw [show k + (j - k) = j by omega] at e3
   have e4 := J2 free (j - k + 1) (z - (j + 1)) k
   rw [show j - k + 1 + (z - (j + 1)) = z - k by omega, show k + (j - k + 1) = j + 1 by omega] at e4
   simp only [Xs]; omega
def valD (l : List UInt8) : Nat := l.foldl (fun a d => 10 * a + (d.toNat - 48)) 0
theorem Z6d (u : Nat) : valD (Lib.decDigits u) = u := by
 rw [Lib.decDigits]
 split
 · rename_i h
   have e : (UInt8.ofNat (48 + u)).toNat = 48 + u := by simp; omega
   simp only [valD, List.foldl_cons, List.foldl_nil, e]; omega
 · rename_i h
   have ih := Z6d (u / 10)
   have e : (UInt8.ofNat (48 + u % 10)).toNat = 48 + u % 10 := by simp; omega
   unfold valD at ih
   simp only [valD, List.foldl_append, List.foldl_cons, List.foldl_nil, ih, e]; omega
termination_by u
decreasing_by omega
theorem Vp {a b : Nat} (h : Zz a = Zz b) : a = b := by
 simp only [Zz, List.cons.injEq, true_and, Lib.itoa] at h
 rw [if_neg (by omega), if_neg (by omega)] at h
 have := congrArg valD h
 rw [Z6d, Z6d] at this
 simpa using this
theorem Z5e (free : List Nm) (b : Nat) : ∀ (n a : Nat), b < a → Va (free.erase (Zz b)) a n = Va free a n
 | 0, a, h => rfl
 | n + 1, a, h => by
   have e : Zz a ∈ free.erase (Zz b) ↔ Zz a ∈ free := List.mem_erase_of_ne (fun q => by have := Vp q; omega)
   simp only [Va, Z5e free b n (a + 1) (by omega), e]
theorem Z1q : ∀ (n a : Nat) (free : List Nm), Va free a n ≤ free.length
 | 0, a, free => by simp [Va]
 | n + 1, a, free => by
   simp only [Va]
   split
   · rename_i h
     have h1 := Z1q n (a + 1) (free.erase (Zz a))
     rw [Z5e free a n (a + 1) (by omega), List.length_erase_of_mem h] at h1
     have := List.length_pos_of_mem h
     omega
   · have := Z1q n (a + 1) free; omega
theorem Z7g (free : List Nm) : ∀ (f k : Nat), Zz (Xu free f k) ∈ free → Xu free f k = k + f
 | 0, k, h => rfl
 | f + 1, k, h => by
   simp only [Xu] at h ⊢
   split
   · rename_i q
     rw [if_pos q] at h
     rw [Z7g free f (k + 1) h]; omega
   · rename_i q
     rw [if_neg q] at h
     exact absurd h q
theorem Z2p (free : List Nm) (k : Nat) : Zz (Zp free k) ∉ free := fun h => by
 have h1 := Z7g free (free.length + 1) k h
 obtain ⟨h2, h3⟩ := Jv free (free.length + 1) k
 have h4 := Z1q (Xu free (free.length + 1) k - k) k free
 omega
theorem fresh_step {free : List Nm} {k : Nat} (h : Zz k ∈ free) : Zp free k = Zp free (k + 1) := by
 have e : ∀ f k, Zz (Xu free f k) ∉ free → Xu free (f + 1) k = Xu free f k := by
  intro f
  induction f with
  | zero => intro k hk; simp only [Xu] at hk ⊢; rw [if_neg hk]
  | succ f ih =>
    intro k hk
    have u1 : ∀ g, Xu free (g + 1) k = if Zz k ∈ free then Xu free g (k + 1) else k := fun g => rfl
    rw [u1, u1]
    rw [u1] at hk
    by_cases q : Zz k ∈ free
    · rw [if_pos q] at hk
      rw [if_pos q, if_pos q]
      exact ih (k + 1) hk
    · rw [if_neg q, if_neg q]
 have h1 : Zp free k = Xu free free.length (k + 1) := by unfold Zp; rw [Xu, if_pos h]
 have h2 : Zz (Xu free free.length (k + 1)) ∉ free := h1 ▸ Z2p free k
 rw [h1, Zp, e _ _ h2]
theorem fresh_here {free : List Nm} {k : Nat} (h : Zz k ∉ free) : Zp free k = k := by unfold Zp; rw [Xu, if_neg h]
theorem Jp (free : List Nm) (k : Nat) : k ≤ Zp free k ∧ Zp free k ≤ k + free.length := by
 obtain ⟨h2, h3⟩ := Jv free (free.length + 1) k
 have h4 := Z1q (Xu free (free.length + 1) k - k) k free
 rw [show Xu free (free.length + 1) k = Zp free k from rfl] at h2 h3 h4
 omega
def Q8 : Ex → Nat
 | .name _ => 1
 | .num _ => 1
 | .two _ a b => Q8 a + Q8 b
 | .one _ a => Q8 a
 | .cond a b c => Q8 a + Q8 b + Q8 c
 | .lete _ e b => Q8 e + Q8 b
 | .func _ _ _ _ e => Q8 e
theorem Qc : ∀ x : Ex, 3 * (Q8 x + Xs x) ≤ 2 * (Z3 x).size + 1
 | .name s => by simp [Q8, Xs, Z3, Tr.size]
 | .num n => by simp [Q8, Xs, Z3, Tr.size]
 | .two o a b => by
   have h1 := Qc a
   have h2 := Qc b
   simp only [Q8, Xs, Z3, Tr.size, Ys]; omega
 | .one o a => by
   have h1 := Qc a
   simp only [Q8, Xs, Z3, Tr.size, Ys]; omega
 | .cond a b c => by
   have h1 := Qc a
   have h2 := Qc b
   have h3 := Qc c
   simp only [Q8, Xs, Z3, Tr.size, Ys]; omega
 | .lete s a b => by
   have h1 := Qc a
   have h2 := Qc b
   simp only [Q8, Xs, Z3, Tr.size, Ys]; omega
 | .func f a A B x => by
   have h1 := Qc x
   simp only [Q8, Xs, Z3, Tr.size, Ys]; omega
theorem Xx : ∀ x : Ex, (Zj x).length ≤ Q8 x
 | .name s => by simp [Zj, Q8]
 | .num n => by simp [Zj]
 | .two o a b => by
   have h1 := Xx a
   have h2 := Xx b
   simp only [Zj, Q8, List.length_append]; omega
 | .one o a => by simp only [Zj, Q8]; exact Xx a
 | .cond a b c => by
   have h1 := Xx a
   have h2 := Xx b
   have h3 := Xx c
   simp only [Zj, Q8, List.length_append]; omega
 | .lete s a b => by
   have h1 := Xx a
   have h2 := Xx b
   have h3 := Z4s [s] (Zj b)
   simp only [Zj, Q8, List.length_append]; omega
 | .func f a A B x => by
   have h1 := Xx x
   have h3 := Z4s [f, a] (Zj x)
   simp only [Zj, Q8]; omega
theorem plE_few {x : Ex} {free : List Nm} (hf : free.length ≤ (Zj x).length) (hs : (Z3 x).size ≤ 120) : (plE free [] 0 x).2 ≤ 80 := by
 obtain ⟨h1, h2⟩ := Yo free x [] 0
 have h3 := Z1q ((plE free [] 0 x).2 - 0) 0 free
 have h4 := Xx x
 have h5 := Qc x
 omega
end Go.Proofs.YtfknoigbkleanaaGreatDoor
