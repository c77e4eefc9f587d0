/- The plain mathematics of ExprPlain: new names, the plain expression, how many indices are used. Plain expressions are as large as before and have the same type; types lean on free names only; where the first fault stands. -/
import Derived.Test.YtmgepnacjgbfhaaGreatDoorsPureT
namespace Go.Proofs.YtmgepnacjgbfhaaGreatDoor
open Go.RowKit Go.Proofs.Tryz
set_option maxRecDepth 8000
set_option maxHeartbeats 20000000
set_option linter.unusedVariables false
set_option linter.unusedSimpArgs false
def Z51 (k : Nat) : Nm := 120 :: Lib.itoa (k : Int)
def freshK (free : List Nm) : Nat → Nat → Nat
 | 0, k => k
 | f + 1, k => if Z51 k ∈ free then freshK free f (k + 1) else k
def fresh (free : List Nm) (k : Nat) : Nat := freshK free (free.length + 1) k
def lookR : List (Nm × Nm) → Nm → Nm
 | [], s => s
 | (a, b) :: m, s => if a = s then b else lookR m s
def plE (free : List Nm) : List (Nm × Nm) → Nat → Ex → Ex × Nat
 | m, k, .name s => (.name (lookR m s), k)
 | m, k, .num n => (.num n, k)
 | m, k, .two o a b => let p := plE free m k a; let q := plE free m p.2 b; (.two o p.1 q.1, q.2)
 | m, k, .one o a => let p := plE free m k a; (.one o p.1, p.2)
 | m, k, .cond a b c => let p := plE free m k a; let q := plE free m p.2 b; let r := plE free m q.2 c; (.cond p.1 q.1 r.1, r.2)
 | m, k, .lete x e b => let i := fresh free k; let p := plE free m (i + 1) e; let q := plE free ((x, Z51 i) :: m) p.2 b; (.lete (Z51 i) p.1 q.1, q.2)
 | m, k, .func f x A B e => let i := fresh free k; let j := fresh free (i + 1); let p := plE free ((x, Z51 j) :: (f, Z51 i) :: m) (j + 1) e; (.func (Z51 i) (Z51 j) A B p.1, p.2)
def skips (free : List Nm) (a : Nat) : Nat → Nat
 | 0 => 0
 | n + 1 => (if Z51 a ∈ free then 1 else 0) + skips free (a + 1) n
def Vj : Ex → Nat
 | .name _ => 0
 | .num _ => 0
 | .two _ a b => Vj a + Vj b
 | .one _ a => Vj a
 | .cond a b c => Vj a + Vj b + Vj c
 | .lete _ e b => Vj e + Vj b + 1
 | .func _ _ _ _ e => Vj e + 2
def valD (l : List UInt8) : Nat := l.foldl (fun a d => 10 * a + (d.toNat - 48)) 0
def Z0d : Ex → Nat
 | .name _ => 1
 | .num _ => 1
 | .two _ a b => Z0d a + Z0d b
 | .one _ a => Z0d a
 | .cond a b c => Z0d a + Z0d b + Z0d c
 | .lete _ e b => Z0d e + Z0d b
 | .func _ _ _ _ e => Z0d e
theorem nmA_len {l : List UInt8} (h : Yl l = true) : 1 ≤ l.length ∧ l.length ≤ 4 := by
 cases l with
 | nil => simp [Yl] at h
 | cons b r =>
   simp only [Yl, Bool.and_eq_true, decide_eq_true_eq] at h
   simp only [List.length_cons]
   omega
theorem readA_all {l : List UInt8} {x : Ex} (h : Yf l = some x) : Zt l = some (Z3 x) ∧ l = (Z3 x).text ∧ (Z3 x).size ≤ 120 ∧ (Z3 x).bytes ≤ 12000 ∧ (Z3 x).depth ≤ 60 ∧ (Z3 x).wf ∧ good x := by
 unfold Yf at h
 cases hp : Zt l with
 | none => simp [hp] at h
 | some t =>
   simp only [hp] at h
   split at h
   · rename_i hs
     have g := Yn hp
     have e := Kq _ _ h
     rw [e]
     exact ⟨rfl, g.2.2.2, hs, g.2.1, g.2.2.1, g.1, good_of h⟩
   · cases h
def tyT (env : List (Nm × Tr)) (x : Ex) : Option Tr := match tyR env x with | .ok t => some t | .error _ => none
theorem tyT_ok {env : List (Nm × Tr)} {x : Ex} {t : Tr} : tyR env x = .ok t ↔ tyT env x = some t := by
 unfold tyT; cases tyR env x <;> simp
theorem Z3m (x : Ex) (o : Option Tr) : (match Ka x o with | .ok t => some t | .error _ => none) = o := by cases o <;> rfl
theorem tyT_name (env : List (Nm × Tr)) (s : Nm) : tyT env (.name s) = Yu env s := by unfold tyT; simp only [tyR]; exact Z3m _ _
theorem tyT_two (env : List (Nm × Tr)) (o : Op2) (a b : Ex) : tyT env (.two o a b) = (tyT env a).bind fun ta => (tyT env b).bind fun tb => Yt o ta tb := by
 unfold tyT; simp only [tyR]
 cases tyR env a <;> cases tyR env b <;> simp [Z3m]
theorem tyT_one (env : List (Nm × Tr)) (o : Op1) (a : Ex) : tyT env (.one o a) = (tyT env a).bind fun ta => Qy o ta := by
 unfold tyT; simp only [tyR]
 cases tyR env a <;> simp [Z3m]
theorem tyT_cond (env : List (Nm × Tr)) (a b c : Ex) : tyT env (.cond a b c) = (tyT env a).bind fun ta => (tyT env b).bind fun tb => (tyT env c).bind fun tc => if Ya ta = true ∧ tb.text = tc.text then some tb else none := by
 unfold tyT; simp only [tyR]
 cases tyR env a <;> cases tyR env b <;> cases tyR env c <;> simp [Z3m]
theorem tyT_lete (env : List (Nm × Tr)) (x : Nm) (e b : Ex) : tyT env (.lete x e b) = (tyT env e).bind fun t => tyT ((x, t) :: env) b := by
 unfold tyT; simp only [tyR]
 cases tyR env e <;> simp
theorem tyT_func (env : List (Nm × Tr)) (f x : Nm) (A B : Tr) (e : Ex) : tyT env (.func f x A B e) = (mkT 62 A B).bind fun T => (tyT ((x, A) :: (f, T) :: env) e).bind fun t => if t.text = B.text then some T else none := by
 unfold tyT; simp only [tyR]
 cases mkT 62 A B with
 | none => simp
 | some T => cases h : tyR ((x, A) :: (f, T) :: env) e <;> simp [Z3m, h]
theorem inRm {bs l : List Nm} {s : Nm} : s ∈ rm bs l ↔ s ∈ l ∧ s ∉ bs := by simp [rm]
theorem Z6s (n : Nm) : ∀ (P l : List Nm), n ∈ P.foldl Je l ↔ n ∈ l ∨ n ∈ P
 | [], l => by simp
 | a :: P, l => by
   simp only [List.foldl_cons, Z6s n P, List.mem_cons]
   unfold Je
   split
   · rename_i h
     constructor
     · rintro (h2 | h2); exact .inl h2; exact .inr (.inr h2)
     · rintro (h2 | rfl | h2); exact .inl h2; exact .inl h; exact .inr h2
   · simp [or_assoc]
theorem Ks : ∀ (x : Ex) (e1 e2 : List (Nm × Tr)), (∀ s ∈ Zj x, Yu e1 s = Yu e2 s) → tyR e1 x = tyR e2 x
 | .name s, e1, e2, h => by simp only [tyR]; rw [h s (by simp [Zj])]
 | .num n, e1, e2, h => rfl
 | .two o a b, e1, e2, h => by
   simp only [tyR]
   rw [Ks a e1 e2 (fun s hs => h s (by simp [Zj, hs])), Ks b e1 e2 (fun s hs => h s (by simp [Zj, hs]))]
 | .one o a, e1, e2, h => by simp only [tyR]; rw [Ks a e1 e2 h]
 | .cond a b c, e1, e2, h => by
   simp only [tyR]
   rw [Ks a e1 e2 (fun s hs => h s (by simp [Zj, hs])), Ks b e1 e2 (fun s hs => h s (by simp [Zj, hs])), Ks c e1 e2 (fun s hs => h s (by simp [Zj, hs]))]
 | .lete x e b, e1, e2, h => by
   simp only [tyR]
   rw [Ks e e1 e2 (fun s hs => h s (by simp [Zj, hs]))]
   cases tyR e2 e with
   | error f => rfl
   | ok t =>
     refine Ks b _ _ (fun s hs => ?_)
     by_cases hx : x = s
     · simp [Yu, hx]
     · simp only [Yu, if_neg hx]
       exact h s (by simp only [Zj, List.mem_append, inRm, List.mem_singleton]; exact .inr ⟨hs, fun e => hx e.symm⟩)
 | .func f x A B e, e1, e2, h => by
   simp only [tyR]
   cases mkT 62 A B with
   | none => rfl
   | some T =>
     have : tyR ((x, A) :: (f, T) :: e1) e = tyR ((x, A) :: (f, T) :: e2) e := by
      refine Ks e _ _ (fun s hs => ?_)
      by_cases hx : x = s
      · simp [Yu, hx]
      · by_cases hf : f = s
        · simp [Yu, hx, hf]
        · simp only [Yu, if_neg hx, if_neg hf]
          exact h s (by simp only [Zj, inRm, List.mem_cons, List.not_mem_nil, or_false]; exact ⟨hs, fun q => by rcases q with q | q; exact hf q.symm; exact hx q.symm⟩)
     simp only [this]
theorem Jq : ∀ (x : Ex) (env : List (Nm × Tr)), (tyT env x).isSome = true → ∀ s ∈ Zj x, (Yu env s).isSome = true
 | .name s, env, h, n, hn => by
   simp only [Zj, List.mem_singleton] at hn
   subst hn
   rwa [tyT_name] at h
 | .num n, env, h, s, hs => by simp [Zj] at hs
 | .two o a b, env, h, s, hs => by
   rw [tyT_two] at h
   cases ha : tyT env a with
   | none => simp [ha] at h
   | some ta =>
     cases hb : tyT env b with
     | none => simp [ha, hb] at h
     | some tb =>
       simp only [Zj, List.mem_append] at hs
       rcases hs with hs | hs
       · exact Jq a env (by simp [ha]) s hs
       · exact Jq b env (by simp [hb]) s hs
 | .one o a, env, h, s, hs => by
   rw [tyT_one] at h
   cases ha : tyT env a with
   | none => simp [ha] at h
   | some ta => exact Jq a env (by simp [ha]) s hs
 | .cond a b c, env, h, s, hs => by
   rw [tyT_cond] at h
   cases ha : tyT env a with
   | none => simp [ha] at h
   | some ta =>
     cases hb : tyT env b with
     | none => simp [ha, hb] at h
     | some tb =>
       cases hc : tyT env c with
       | none => simp [ha, hb, hc] at h
       | some tc =>
         simp only [Zj, List.mem_append] at hs
         rcases hs with (hs | hs) | hs
         · exact Jq a env (by simp [ha]) s hs
         · exact Jq b env (by simp [hb]) s hs
         · exact Jq c env (by simp [hc]) s hs
 | .lete x e b, env, h, s, hs => by
   rw [tyT_lete] at h
   cases he : tyT env e with
   | none => simp [he] at h
   | some t =>
     simp only [he, Option.bind_some] at h
     simp only [Zj, List.mem_append, inRm, List.mem_singleton] at hs
     rcases hs with hs | ⟨hs, hx⟩
     · exact Jq e env (by simp [he]) s hs
     · have := Jq b _ h s hs
       simpa only [Yu, if_neg (fun q : x = s => hx q.symm)] using this
 | .func f x A B e, env, h, s, hs => by
   rw [tyT_func] at h
   cases hT : mkT 62 A B with
   | none => simp [hT] at h
   | some T =>
     simp only [hT, Option.bind_some] at h
     cases he : tyT ((x, A) :: (f, T) :: env) e with
     | none => simp [he] at h
     | some t =>
       simp only [Zj, inRm, List.mem_cons, List.not_mem_nil, or_false, not_or] at hs
       have := Jq e _ (by rw [he]; rfl) s hs.1
       simpa only [Yu, if_neg (fun q : x = s => hs.2.2 q.symm), if_neg (fun q : f = s => hs.2.1 q.symm)] using this
end Go.Proofs.YtmgepnacjgbfhaaGreatDoor
