/- What ExprPut's outcome weighs: leaves of an expression. What l2Put makes of a list: its parts, one kid after another. The reference makes expressions plain: the kids of an expression, one after another (plain mathematics). The reference model puts a closed expression for a name: atoms. -/
import Derived.Test.YtjaaalojcdbcpaaGreatDoorlImpl2w
import Derived.Test.YtjaaalojcdbcpaaGreatDoorlImpl2u
import Derived.Test.YtjaaalojcdbcpaaGreatDoorlPureMM
import Derived.Test.YtjaaalojcdbcpaaGreatDoorlS2f
set_option maxHeartbeats 20000000
set_option linter.unusedVariables false
set_option linter.unusedSimpArgs false
namespace Go.Proofs.YtjaaalojcdbcpaaGreatDoor
open Go.RowKit Go.Proofs.Tryz
set_option maxRecDepth 8000
def Qv : Ex → Nat
 | .name _ => 1
 | .num _ => 1
 | .two _ a b => Qv a + Qv b
 | .one _ a => Qv a
 | .cond a b c => Qv a + Qv b + Qv c
 | .lete _ e b => Qv e + Qv b + 1
 | .func _ _ _ _ e => Qv e + 2
theorem Qt : ∀ x : Ex, 3 * Qv x ≤ 2 * (Z0 x).size + 1
 | .name s => by simp [Qv, Z0, Tr.size]
 | .num n => by simp [Qv, Z0, Tr.size]
 | .two o a b => by
   have h1 := Qt a
   have h2 := Qt b
   simp only [Qv, Z0, Tr.size, Yd]; omega
 | .one o a => by
   have h1 := Qt a
   simp only [Qv, Z0, Tr.size, Yd]; omega
 | .cond a b c => by
   have h1 := Qt a
   have h2 := Qt b
   have h3 := Qt c
   simp only [Qv, Z0, Tr.size, Yd]; omega
 | .lete s a b => by
   have h1 := Qt a
   have h2 := Qt b
   simp only [Qv, Z0, Tr.size, Yd]; omega
 | .func f a A B x => by
   have h1 := Qt x
   simp only [Qv, Z0, Tr.size, Yd]; omega
theorem Qc {name : Nm} {b : Ex} {m : Nat} (hb : (Z0 b).bytes ≤ m) : ∀ x : Ex, (Z0 (Zs name b x)).bytes ≤ (Z0 x).bytes + Qv x * m
 | .name s => by
   simp only [Zs]
   split
   · simp only [Qv, Nat.one_mul]; omega
   · omega
 | .num n => by simp only [Zs]; omega
 | .two o x y => by
   have h1 := Qc (name := name) hb x
   have h2 := Qc (name := name) hb y
   simp only [Zs, Z0, Qv, Tr.bytes, Zi, Nat.add_mul]; omega
 | .one o x => by
   have h1 := Qc (name := name) hb x
   simp only [Zs, Z0, Qv, Tr.bytes, Zi, Nat.add_mul]; omega
 | .cond x y z => by
   have h1 := Qc (name := name) hb x
   have h2 := Qc (name := name) hb y
   have h3 := Qc (name := name) hb z
   simp only [Zs, Z0, Qv, Tr.bytes, Zi, Nat.add_mul]; omega
 | .lete s x y => by
   have h1 := Qc (name := name) hb x
   have h2 : (Z0 (if s = name then y else Zs name b y)).bytes ≤ (Z0 y).bytes + Qv y * m := by
    split
    · omega
    · exact Qc hb y
   simp only [Zs, Z0, Qv, Tr.bytes, Zi, Nat.add_mul]; omega
 | .func f a A B x => by
   have h2 : (Z0 (if f = name ∨ a = name then x else Zs name b x)).bytes ≤ (Z0 x).bytes + Qv x * m := by
    split
    · omega
    · exact Qc hb x
   simp only [Zs, Z0, Qv, Tr.bytes, Zi, Nat.add_mul]; omega
theorem putE_fits {name : Nm} {b x : Ex} (hb : (Z0 b).bytes ≤ 12000) (hx : (Z0 x).bytes ≤ 12000) (hs : (Z0 x).size ≤ 120) : (Z0 (Zs name b x)).bytes ≤ 972000 := by
 have h1 := Qc (name := name) hb x
 have h2 := Qt x
 have h3 : Qv x ≤ 80 := by omega
 have h4 : Qv x * 12000 ≤ 80 * 12000 := Nat.mul_le_mul_right _ h3
 omega
def pkE (name : Nm) (b x : Ex) (j : Nat) : Ex := match (Zb x)[j]? with | none => .num 0 | some k => if name ∈ Zo x j then k else Zs name b k
def Xg (f : Nat → Tr) (ts : List Tr) (a : Nat) : Nat → List Tr
 | 0 => ts
 | j + 1 => (Xg f ts a j).set (a + j) (f j)
theorem Vc (f : Nat → Tr) (ts : List Tr) (a : Nat) : ∀ j, (Xg f ts a j).length = ts.length
 | 0 => rfl
 | j + 1 => by simp only [Xg, List.length_set]; exact Vc f ts a j
theorem pkE_some {name : Nm} {b x : Ex} {j : Nat} (hj : j < (Zb x).length) : pkE name b x j = if name ∈ Zo x j then (Zb x)[j] else Zs name b ((Zb x)[j]) := by
 unfold pkE; rw [List.getElem?_eq_getElem hj]
theorem putE_parts {name : Nm} {b x : Ex} {h : Tr} {ps : List Tr} {a : Nat} (V : KidView h ps x a) (hx : Zy (.list (h :: ps)) = some x) :
 Z0 (Zs name b x) = .list (Xg (fun j => Z0 (pkE name b x j)) (h :: ps) a (Zb x).length) := by
 have hf := X3 _ _ hx
 have hlen := V.len
 have hnn := V.nn
 clear V hx
 cases x with
 | name s => exact absurd hnn (by simp [Z1k])
 | num n => simp [Z0] at hf
 | two o p q =>
   simp only [Z0, Tr.list.injEq, List.cons.injEq] at hf
   obtain ⟨rfl, rfl⟩ := hf
   obtain rfl : a = 1 := by simp [Zb] at hlen; omega
   simp [Zs, Z0, Xg, pkE, Zb, Zo]
 | one o p =>
   simp only [Z0, Tr.list.injEq, List.cons.injEq] at hf
   obtain ⟨rfl, rfl⟩ := hf
   obtain rfl : a = 1 := by simp [Zb] at hlen; omega
   simp [Zs, Z0, Xg, pkE, Zb, Zo]
 | cond p q r =>
   simp only [Z0, Tr.list.injEq, List.cons.injEq] at hf
   obtain ⟨rfl, rfl⟩ := hf
   obtain rfl : a = 1 := by simp [Zb] at hlen; omega
   simp [Zs, Z0, Xg, pkE, Zb, Zo]
 | lete s p q =>
   simp only [Z0, Tr.list.injEq, List.cons.injEq] at hf
   obtain ⟨rfl, rfl⟩ := hf
   obtain rfl : a = 2 := by simp [Zb] at hlen; omega
   by_cases e : s = name
   · simp [Zs, Z0, Xg, pkE, Zb, Zo, e]
   · have e2 : ¬ name = s := fun q => e q.symm
     simp [Zs, Z0, Xg, pkE, Zb, Zo, e, e2]
 | func f s A B p =>
   simp only [Z0, Tr.list.injEq, List.cons.injEq] at hf
   obtain ⟨rfl, rfl⟩ := hf
   obtain rfl : a = 5 := by simp [Zb] at hlen; omega
   by_cases e : f = name ∨ s = name
   · have e2 : name = f ∨ name = s := e.imp Eq.symm Eq.symm
     simp [Zs, Z0, Xg, pkE, Zb, Zo, e, e2]
   · have e2 : ¬ (name = f ∨ name = s) := fun q => e (q.imp Eq.symm Eq.symm)
     simp [Zs, Z0, Xg, pkE, Zb, Zo, e, e2]
theorem FVs.setS {w : World} {ok : Nat → Prop} : ∀ {ts : List Tr} {xs : List Value}, FVs nS w ok ts xs → ∀ (k : Nat), k < ts.length → ∀ {t : Tr} {u : Value}, FV nS w ok t (nS t u) → FVs nS w ok (ts.set k t) ((xs.set (k * 2) (.string (bs (Z1 t)))).set (k * 2 + 1) u)
 | [], xs, h, k, hk, t, u, ht => by simp at hk
 | t0 :: ts, xs, h, 0, hk, t, u, ht => by
   simp only [FVs] at h
   obtain ⟨c, d, rfl, h1, h2⟩ := h
   obtain ⟨p, m, c', rfl⟩ := h1.node
   simp only [List.set_cons_zero, FVs]
   exact ⟨_, d, rfl, ht, h2⟩
 | t0 :: ts, xs, h, k + 1, hk, t, u, ht => by
   simp only [FVs] at h
   obtain ⟨c, d, rfl, h1, h2⟩ := h
   obtain ⟨p, m, c', rfl⟩ := h1.node
   have := FVs.setS h2 k (by simpa using hk) ht
   simp only [List.set_cons_succ, FVs]
   refine ⟨_, _, ?_, h1, this⟩
   simp [nS, show (k + 1) * 2 = k * 2 + 1 + 1 by omega]
def plI (free : List Nm) (m : List (Nm × Nm)) (k : Nat) (l : List Ex) : Nat → Nat
 | 0 => k
 | j + 1 => (plE free m (plI free m k l j) (l.getD j (.num 0))).2
def plQ (free : List Nm) (m : List (Nm × Nm)) (k : Nat) (l : List Ex) (j : Nat) : Ex := (plE free m (plI free m k l j) (l.getD j (.num 0))).1
theorem plI_succ (free : List Nm) (m : List (Nm × Nm)) (k : Nat) (l : List Ex) (j : Nat) (hj : j < l.length) : plI free m k l (j + 1) = (plE free m (plI free m k l j) l[j]).2 := by
 simp only [plI, List.getD_eq_getElem?_getD, List.getElem?_eq_getElem hj, Option.getD_some]
theorem plQ_at (free : List Nm) (m : List (Nm × Nm)) (k : Nat) (l : List Ex) (j : Nat) (hj : j < l.length) : plQ free m k l j = (plE free m (plI free m k l j) l[j]).1 := by
 simp only [plQ, List.getD_eq_getElem?_getD, List.getElem?_eq_getElem hj, Option.getD_some]
theorem plI_step (free : List Nm) (m : List (Nm × Nm)) (k : Nat) (l : List Ex) (j : Nat) : plI free m k l j ≤ plI free m k l (j + 1) := (Ym free _ m _).1
theorem plI_mono (free : List Nm) (m : List (Nm × Nm)) (k : Nat) (l : List Ex) : ∀ i j, plI free m k l j ≤ plI free m k l (j + i)
 | 0, j => Nat.le_refl _
 | i + 1, j => Nat.le_trans (plI_mono free m k l i j) (plI_step free m k l (j + i))
theorem plI_le (free : List Nm) (m : List (Nm × Nm)) (k : Nat) (l : List Ex) {i j : Nat} (h : i ≤ j) : plI free m k l i ≤ plI free m k l j := by
 have := plI_mono free m k l (j - i) i
 rwa [show i + (j - i) = j by omega] at this
theorem pl_kids (free : List Nm) (m : List (Nm × Nm)) (k : Nat) {h : Tr} {ps : List Tr} {x : Ex} {a : Nat} (V : KidView h ps x a) (hx : Zy (.list (h :: ps)) = some x) (h1 : Z1 h ≠ Yy) (h2 : Z1 h ≠ Yt) :
 (plE free m k x).2 = plI free m k (Zb x) (Zb x).length ∧ Z0 (plE free m k x).1 = .list (Xg (fun j => Z0 (plQ free m k (Zb x) j)) (h :: ps) a (Zb x).length) := by
 have hf := X3 _ _ hx
 have hlen := V.len
 have hnn := V.nn
 clear V hx
 cases x with
 | name s => exact absurd hnn (by simp [Z1k])
 | num n => simp [Z0] at hf
 | two o p q =>
   simp only [Z0, Tr.list.injEq, List.cons.injEq] at hf
   obtain ⟨rfl, rfl⟩ := hf
   obtain rfl : a = 1 := by simp [Zb] at hlen; omega
   exact ⟨rfl, by simp [plE, Z0, Xg, plQ, plI, Zb]⟩
 | one o p =>
   simp only [Z0, Tr.list.injEq, List.cons.injEq] at hf
   obtain ⟨rfl, rfl⟩ := hf
   obtain rfl : a = 1 := by simp [Zb] at hlen; omega
   exact ⟨rfl, by simp [plE, Z0, Xg, plQ, plI, Zb]⟩
 | cond p q r =>
   simp only [Z0, Tr.list.injEq, List.cons.injEq] at hf
   obtain ⟨rfl, rfl⟩ := hf
   obtain rfl : a = 1 := by simp [Zb] at hlen; omega
   exact ⟨rfl, by simp [plE, Z0, Xg, plQ, plI, Zb]⟩
 | lete s p q =>
   simp only [Z0, Tr.list.injEq, List.cons.injEq] at hf
   exact absurd (by rw [← hf.1]; rfl) h1
 | func f s A B p =>
   simp only [Z0, Tr.list.injEq, List.cons.injEq] at hf
   exact absurd (by rw [← hf.1]; rfl) h2
theorem pl_fun (free : List Nm) (m : List (Nm × Nm)) (k : Nat) {h : Tr} {ps : List Tr} {x : Ex} {a : Nat} (V : KidView h ps x a) (hx : Zy (.list (h :: ps)) = some x) (h2 : Z1 h = Yt) :
 ∃ (f z : Nm) (p0 p1 A B : Tr) (e : Ex), a = 5 ∧ h = .atom Yt ∧ x = .func f z A B e ∧ ps = [.atom f, .atom z, A, B, Z0 e] ∧
   ∀ i j, i = Zk free k → j = Zk free (i + 1) → (plE free m k x).2 = plI free ((z, Zd j) :: (f, Zd i) :: m) (j + 1) (Zb x) (Zb x).length ∧
     Z0 (plE free m k x).1 = .list (Xg (fun q => Z0 (plQ free ((z, Zd j) :: (f, Zd i) :: m) (j + 1) (Zb x) q)) (((h :: ps).set 1 (.atom (Zd i))).set 2 (.atom (Zd j))) a (Zb x).length) := by
 have hf := X3 _ _ hx
 have hlen := V.len
 have hnn := V.nn
 clear V hx
 cases x with
 | name s => exact absurd hnn (by simp [Z1k])
 | num n => simp [Z0] at hf
 | two o p q =>
   simp only [Z0, Tr.list.injEq, List.cons.injEq] at hf
   rw [← hf.1] at h2
   cases o <;> exact absurd h2 (by decide)
 | one o p =>
   simp only [Z0, Tr.list.injEq, List.cons.injEq] at hf
   rw [← hf.1] at h2
   cases o <;> exact absurd h2 (by decide)
 | cond p q r =>
   simp only [Z0, Tr.list.injEq, List.cons.injEq] at hf
   rw [← hf.1] at h2
   exact absurd h2 (by decide)
 | lete s p q =>
   simp only [Z0, Tr.list.injEq, List.cons.injEq] at hf
   rw [← hf.1] at h2
   exact absurd h2 (by decide)
 | func f s A B p =>
   simp only [Z0, Tr.list.injEq, List.cons.injEq] at hf
   obtain ⟨rfl, rfl⟩ := hf
   obtain rfl : a = 5 := by simp [Zb] at hlen; omega
   refine ⟨f, s, .atom f, .atom s, A, B, p, rfl, rfl, rfl, rfl, ?_⟩
   rintro i j rfl rfl
   exact ⟨rfl, by simp [plE, Z0, Xg, plQ, plI, Zb]⟩
theorem pl_let (free : List Nm) (m : List (Nm × Nm)) (k : Nat) {h : Tr} {ps : List Tr} {x : Ex} {a : Nat} (V : KidView h ps x a) (hx : Zy (.list (h :: ps)) = some x) (h2 : Z1 h = Yy) :
 ∃ (s : Nm) (e c : Ex), a = 2 ∧ h = .atom Yy ∧ x = .lete s e c ∧ ps = [.atom s, Z0 e, Z0 c] := by
 have hf := X3 _ _ hx
 have hlen := V.len
 have hnn := V.nn
 clear V hx
 cases x with
 | name s => exact absurd hnn (by simp [Z1k])
 | num n => simp [Z0] at hf
 | two o p q =>
   simp only [Z0, Tr.list.injEq, List.cons.injEq] at hf
   rw [← hf.1] at h2
   cases o <;> exact absurd h2 (by decide)
 | one o p =>
   simp only [Z0, Tr.list.injEq, List.cons.injEq] at hf
   rw [← hf.1] at h2
   cases o <;> exact absurd h2 (by decide)
 | cond p q r =>
   simp only [Z0, Tr.list.injEq, List.cons.injEq] at hf
   rw [← hf.1] at h2
   exact absurd h2 (by decide)
 | lete s p q =>
   simp only [Z0, Tr.list.injEq, List.cons.injEq] at hf
   obtain ⟨rfl, rfl⟩ := hf
   obtain rfl : a = 2 := by simp [Zb] at hlen; omega
   exact ⟨s, p, q, rfl, rfl, rfl, rfl⟩
 | func f s A B p =>
   simp only [Z0, Tr.list.injEq, List.cons.injEq] at hf
   rw [← hf.1] at h2
   exact absurd h2 (by decide)
def Z1x (B : Nat) (T : Tr) (w : World) (e : Ending) (w' : World) : Prop := (∃ p m c, e = .returned (.agg #[.string (bs (Z1 T)), .slice p m c]) ∧ FV nS w' (fun k => k < B ∨ (w.heap.size ≤ k ∧ k < w'.heap.size)) T (nS T (.slice p m c))) ∧ Below w.heap.size w w'
def PutS (name : Nm) (b : Ex) (n : Nat) : Prop := ∀ (t : Tr) (x : Ex) (cs cb : List Value) (B : Nat) (w : World), Yg name = true → t.depth < n → t.wf → t.bytes ≤ 12000 → Zy t = some x → FV nS w (fun k => k < B) t cs → FV nS w (fun k => k < B) (Z0 b) cb → B ≤ w.heap.size →
    Calls prog 55 #[.agg cs.toArray, .string (bs name), .agg cb.toArray] w fun e w' => Z1x B (Z0 (Zs name b x)) w e w'
theorem putE_atom {a : List UInt8} {x : Ex} {name : Nm} {b : Ex} (h : Zy (.atom a) = some x) (hn : Yg name = true) : Zs name b x = if a = name then b else x := by
 simp only [Zy, Q8] at h
 cases hm : Q3 a with
 | some n =>
   simp only [hm, Option.some.injEq] at h
   subst h
   have hne : ¬ a = name := fun e => by subst e; rw [Vy hm] at hn; cases hn
   rw [if_neg hne]; rfl
 | none =>
   simp only [hm] at h
   split at h
   · simp only [Option.some.injEq] at h
     subst h
     rfl
   · cases h
theorem l2Put_atom (a : List UInt8) (x : Ex) (name : Nm) (b : Ex) (cb : List Value) (B : Nat) (w : World) (hn : Yg name = true) (ha0 : a ≠ []) (hx : Zy (.atom a) = some x) (hb : FV nS w (fun k => k < B) (Z0 b) cb) (hB : B ≤ w.heap.size) :
 Calls prog 55 #[.agg #[.string (bs a), .slice none 0 0], .string (bs name), .agg cb.toArray] w fun e w' => Z1x B (Z0 (Zs name b x)) w e w' := by
 have hc := putE_atom (b := b) hx hn
 have ha := V7 ha0
 have hf := X3 _ _ hx
 obtain ⟨p, m, c, rfl⟩ := hb.node
 by_cases he : a = name
 · have HC := H_ (show Zs name b x = b by rw [hc, if_pos he])
   rw [HC.out]
   subst he
   clear hc hx hn hf
   have HF : Hid (∀ W, Below w.heap.size w W → FV nS W (fun k => k < B ∨ (w.heap.size ≤ k ∧ k < W.heap.size)) (Z0 b) (nS (Z0 b) (.slice p m c))) := H_ (fun W hW => FV.wide (hb.below hW (fun k hk => Nat.lt_of_lt_of_le hk hB)) (fun k hk => .inl hk))
   clear hb
   simp only [nS, List.toArray]
   generalize Z0 b = T at *
   generalize hA : bs (Z1 T) = A
   go_enter func55, ntmps55
   go_wp2_with fail
   refine bodyPost_ret (v := .agg #[.string A, .slice p m c]) (by simp [results, results55, go_sem]) rfl ?_
   rw [← hA]
   refine ⟨⟨p, m, c, rfl, HF.out _ ?_⟩, ?_⟩
   all_goals (repeat (first | exact Below.refl _ _ | (refine Below.alloc ?_ (by first | (simp; done) | (simp; omega)) _) | (refine Below.setCell ?_ (by first | (simp; done) | (simp; omega)) _)))
 · have HC := H_ (show Z0 (Zs name b x) = .atom a by rw [hc, if_neg he, hf])
   rw [HC.out]
   have hx2 : ((bs a).toList == (bs name).toList) = false := by rw [Z9, Z9]; simpa using he
   have hx3 : ¬ (bs a).toList = (bs name).toList := by rw [Z9, Z9]; exact he
   have hat : bs (Z1 (.atom a)) = bs a := rfl
   clear he hc hx hn hf hb
   simp only [nS, List.toArray]
   generalize bs (Z1 (Z0 b)) = A2
   go_enter func55, ntmps55
   go_wp2_with fail
   refine bodyPost_ret (v := .agg #[.string (bs a), .slice none 0 0]) (by simp [results, results55, go_sem]) rfl ?_
   refine ⟨⟨none, 0, 0, rfl, rfl⟩, ?_⟩
   (repeat (first | exact Below.refl _ _ | (refine Below.alloc ?_ (by first | (simp; done) | (simp; omega)) _) | (refine Below.setCell ?_ (by first | (simp; done) | (simp; omega)) _)))
end Go.Proofs.YtjaaalojcdbcpaaGreatDoor
