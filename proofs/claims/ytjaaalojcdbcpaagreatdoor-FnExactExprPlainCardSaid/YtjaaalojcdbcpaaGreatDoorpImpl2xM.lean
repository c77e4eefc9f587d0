/- The program changes the kids of an expression by a closure. What ExprPut's outcome weighs: leaves of an expression. What l2Put makes of a list: its parts, one kid after another. The reference makes expressions plain: the kids of an expression, one after another (plain mathematics). The reference model puts a closed expression for a name: atoms. The program puts a closed expression for a name. -/
import Derived.Test.YtjaaalojcdbcpaaGreatDoorpImpl2u
import Derived.Deep.RegionHeldLaw
import Derived.Test.YtjaaalojcdbcpaaGreatDoorpSpec2qM
import Derived.Test.YtjaaalojcdbcpaaGreatDoorpS2f
set_option maxHeartbeats 20000000
set_option linter.unusedVariables false
set_option linter.unusedSimpArgs false
namespace Go.Proofs.YtjaaalojcdbcpaaGreatDoor
open Go.RowKit Go.Proofs.Tryz
set_option maxRecDepth 8000
def Z1c (name : Nm) (b : Ex) : Ex → Ex
 | .name s => if s = name then b else .name s
 | .num n => .num n
 | .two o x y => .two o (Z1c name b x) (Z1c name b y)
 | .one o x => .one o (Z1c name b x)
 | .cond x y z => .cond (Z1c name b x) (Z1c name b y) (Z1c name b z)
 | .lete s x y => .lete s (Z1c name b x) (if s = name then y else Z1c name b y)
 | .func f a A B x => .func f a A B (if f = name ∨ a = name then x else Z1c name b x)
def ChC (B : Nat) (w : World) (p1 p2 : Value) (T : TypeId) (u : Value) (f : Ex) : Prop := ∀ W, Below w.heap.size w W → Calls prog 95 #[.iface T u, p1, p2] W fun e w' => (∃ x', e = .returned x' ∧ EV w' (fun k => k < B) f x') ∧ Below W.heap.size W w'
theorem EV.on {B : Nat} {w w' : World} {x : Ex} {v : Value} (h : EV w (fun k => k < B) x v) (hB : B ≤ w.heap.size) (hb : Below w.heap.size w w') : EV w' (fun k => k < B) x v := h.below hb (fun k hk => Nat.lt_of_lt_of_le hk hB)
theorem map_number_c (vs : Array Value) (v0 : Value) (hv : vs = #[v0]) (f : Value) (w : World) : Calls prog 217 #[.agg vs, f] w fun e w' => e = .returned (.iface 141 (.agg vs)) ∧ Below w.heap.size w w' := by
 subst hv
 go_enter func217, ntmps217
 go_wp2_with fail
 go_ret
 exact ⟨rfl, Z5 _ _⟩
def Z0w : Ex → Nat
 | .name _ => 1
 | .num _ => 1
 | .two _ a b => Z0w a + Z0w b
 | .one _ a => Z0w a
 | .cond a b c => Z0w a + Z0w b + Z0w c
 | .lete _ e b => Z0w e + Z0w b + 1
 | .func _ _ _ _ e => Z0w e + 2
def pkE (name : Nm) (b x : Ex) (j : Nat) : Ex := match (Z4 x)[j]? with | none => .num 0 | some k => if name ∈ Zq x j then k else Z1c name b k
def Qw (f : Nat → Tr) (ts : List Tr) (a : Nat) : Nat → List Tr
 | 0 => ts
 | j + 1 => (Qw f ts a j).set (a + j) (f j)
theorem Kf (f : Nat → Tr) (ts : List Tr) (a : Nat) : ∀ j, (Qw f ts a j).length = ts.length
 | 0 => rfl
 | j + 1 => by simp only [Qw, List.length_set]; exact Kf f ts a j
theorem FVs.setS {w : World} {ok : Nat → Prop} : ∀ {ts : List Tr} {xs : List Value}, FVs nS w ok ts xs → ∀ (k : Nat), k < ts.length → ∀ {t : Tr} {u : Value}, FV nS w ok t (nS t u) → FVs nS w ok (ts.set k t) ((xs.set (k * 2) (.string (bs (Z1 t)))).set (k * 2 + 1) u)
 | [], xs, h, k, hk, t, u, ht => by simp at hk
 | t0 :: ts, xs, h, 0, hk, t, u, ht => by
   simp only [FVs] at h
   obtain ⟨c, d, rfl, h1, h2⟩ := h
   obtain ⟨p, m, c', rfl⟩ := h1.node
   simp only [List.set_cons_zero, FVs]
   exact ⟨_, d, rfl, ht, h2⟩
 | t0 :: ts, xs, h, k + 1, hk, t, u, ht => by
   simp only [FVs] at h
   obtain ⟨c, d, rfl, h1, h2⟩ := h
   obtain ⟨p, m, c', rfl⟩ := h1.node
   have := FVs.setS h2 k (by simpa using hk) ht
   simp only [List.set_cons_succ, FVs]
   refine ⟨_, _, ?_, h1, this⟩
   simp [nS, show (k + 1) * 2 = k * 2 + 1 + 1 by omega]
def plI (free : List Nm) (m : List (Nm × Nm)) (k : Nat) (l : List Ex) : Nat → Nat
 | 0 => k
 | j + 1 => (plE free m (plI free m k l j) (l.getD j (.num 0))).2
def plQ (free : List Nm) (m : List (Nm × Nm)) (k : Nat) (l : List Ex) (j : Nat) : Ex := (plE free m (plI free m k l j) (l.getD j (.num 0))).1
theorem plI_succ (free : List Nm) (m : List (Nm × Nm)) (k : Nat) (l : List Ex) (j : Nat) (hj : j < l.length) : plI free m k l (j + 1) = (plE free m (plI free m k l j) l[j]).2 := by
 simp only [plI, List.getD_eq_getElem?_getD, List.getElem?_eq_getElem hj, Option.getD_some]
theorem plQ_at (free : List Nm) (m : List (Nm × Nm)) (k : Nat) (l : List Ex) (j : Nat) (hj : j < l.length) : plQ free m k l j = (plE free m (plI free m k l j) l[j]).1 := by
 simp only [plQ, List.getD_eq_getElem?_getD, List.getElem?_eq_getElem hj, Option.getD_some]
theorem plI_step (free : List Nm) (m : List (Nm × Nm)) (k : Nat) (l : List Ex) (j : Nat) : plI free m k l j ≤ plI free m k l (j + 1) := (Y8 free _ m _).1
theorem plI_mono (free : List Nm) (m : List (Nm × Nm)) (k : Nat) (l : List Ex) : ∀ i j, plI free m k l j ≤ plI free m k l (j + i)
 | 0, j => Nat.le_refl _
 | i + 1, j => Nat.le_trans (plI_mono free m k l i j) (plI_step free m k l (j + i))
theorem plI_le (free : List Nm) (m : List (Nm × Nm)) (k : Nat) (l : List Ex) {i j : Nat} (h : i ≤ j) : plI free m k l i ≤ plI free m k l j := by
 have := plI_mono free m k l (j - i) i
 rwa [show i + (j - i) = j by omega] at this
theorem pl_kids (free : List Nm) (m : List (Nm × Nm)) (k : Nat) {h : Tr} {ps : List Tr} {x : Ex} {a : Nat} (V : KidView h ps x a) (hx : Zt (.list (h :: ps)) = some x) (h1 : Z1 h ≠ Yn) (h2 : Z1 h ≠ Yi) :
 (plE free m k x).2 = plI free m k (Z4 x) (Z4 x).length ∧ Z0 (plE free m k x).1 = .list (Qw (fun j => Z0 (plQ free m k (Z4 x) j)) (h :: ps) a (Z4 x).length) := by
 have hf := Xf _ _ hx
 have hlen := V.len
 have hnn := V.nn
 clear V hx
 cases x with
 | name s => exact absurd hnn (by simp [Vs])
 | num n => simp [Z0] at hf
 | two o p q =>
   simp only [Z0, Tr.list.injEq, List.cons.injEq] at hf
   obtain ⟨rfl, rfl⟩ := hf
   obtain rfl : a = 1 := by simp [Z4] at hlen; omega
   exact ⟨rfl, by simp [plE, Z0, Qw, plQ, plI, Z4]⟩
 | one o p =>
   simp only [Z0, Tr.list.injEq, List.cons.injEq] at hf
   obtain ⟨rfl, rfl⟩ := hf
   obtain rfl : a = 1 := by simp [Z4] at hlen; omega
   exact ⟨rfl, by simp [plE, Z0, Qw, plQ, plI, Z4]⟩
 | cond p q r =>
   simp only [Z0, Tr.list.injEq, List.cons.injEq] at hf
   obtain ⟨rfl, rfl⟩ := hf
   obtain rfl : a = 1 := by simp [Z4] at hlen; omega
   exact ⟨rfl, by simp [plE, Z0, Qw, plQ, plI, Z4]⟩
 | lete s p q =>
   simp only [Z0, Tr.list.injEq, List.cons.injEq] at hf
   exact absurd (by rw [← hf.1]; rfl) h1
 | func f s A B p =>
   simp only [Z0, Tr.list.injEq, List.cons.injEq] at hf
   exact absurd (by rw [← hf.1]; rfl) h2
theorem pl_fun (free : List Nm) (m : List (Nm × Nm)) (k : Nat) {h : Tr} {ps : List Tr} {x : Ex} {a : Nat} (V : KidView h ps x a) (hx : Zt (.list (h :: ps)) = some x) (h2 : Z1 h = Yi) :
 ∃ (f z : Nm) (p0 p1 A B : Tr) (e : Ex), a = 5 ∧ h = .atom Yi ∧ x = .func f z A B e ∧ ps = [.atom f, .atom z, A, B, Z0 e] ∧
   ∀ i j, i = Zh free k → j = Zh free (i + 1) → (plE free m k x).2 = plI free ((z, Zb j) :: (f, Zb i) :: m) (j + 1) (Z4 x) (Z4 x).length ∧
     Z0 (plE free m k x).1 = .list (Qw (fun q => Z0 (plQ free ((z, Zb j) :: (f, Zb i) :: m) (j + 1) (Z4 x) q)) (((h :: ps).set 1 (.atom (Zb i))).set 2 (.atom (Zb j))) a (Z4 x).length) := by
 have hf := Xf _ _ hx
 have hlen := V.len
 have hnn := V.nn
 clear V hx
 cases x with
 | name s => exact absurd hnn (by simp [Vs])
 | num n => simp [Z0] at hf
 | two o p q =>
   simp only [Z0, Tr.list.injEq, List.cons.injEq] at hf
   rw [← hf.1] at h2
   cases o <;> exact absurd h2 (by decide)
 | one o p =>
   simp only [Z0, Tr.list.injEq, List.cons.injEq] at hf
   rw [← hf.1] at h2
   cases o <;> exact absurd h2 (by decide)
 | cond p q r =>
   simp only [Z0, Tr.list.injEq, List.cons.injEq] at hf
   rw [← hf.1] at h2
   exact absurd h2 (by decide)
 | lete s p q =>
   simp only [Z0, Tr.list.injEq, List.cons.injEq] at hf
   rw [← hf.1] at h2
   exact absurd h2 (by decide)
 | func f s A B p =>
   simp only [Z0, Tr.list.injEq, List.cons.injEq] at hf
   obtain ⟨rfl, rfl⟩ := hf
   obtain rfl : a = 5 := by simp [Z4] at hlen; omega
   refine ⟨f, s, .atom f, .atom s, A, B, p, rfl, rfl, rfl, rfl, ?_⟩
   rintro i j rfl rfl
   exact ⟨rfl, by simp [plE, Z0, Qw, plQ, plI, Z4]⟩
theorem pl_let (free : List Nm) (m : List (Nm × Nm)) (k : Nat) {h : Tr} {ps : List Tr} {x : Ex} {a : Nat} (V : KidView h ps x a) (hx : Zt (.list (h :: ps)) = some x) (h2 : Z1 h = Yn) :
 ∃ (s : Nm) (e c : Ex), a = 2 ∧ h = .atom Yn ∧ x = .lete s e c ∧ ps = [.atom s, Z0 e, Z0 c] := by
 have hf := Xf _ _ hx
 have hlen := V.len
 have hnn := V.nn
 clear V hx
 cases x with
 | name s => exact absurd hnn (by simp [Vs])
 | num n => simp [Z0] at hf
 | two o p q =>
   simp only [Z0, Tr.list.injEq, List.cons.injEq] at hf
   rw [← hf.1] at h2
   cases o <;> exact absurd h2 (by decide)
 | one o p =>
   simp only [Z0, Tr.list.injEq, List.cons.injEq] at hf
   rw [← hf.1] at h2
   cases o <;> exact absurd h2 (by decide)
 | cond p q r =>
   simp only [Z0, Tr.list.injEq, List.cons.injEq] at hf
   rw [← hf.1] at h2
   exact absurd h2 (by decide)
 | lete s p q =>
   simp only [Z0, Tr.list.injEq, List.cons.injEq] at hf
   obtain ⟨rfl, rfl⟩ := hf
   obtain rfl : a = 2 := by simp [Z4] at hlen; omega
   exact ⟨s, p, q, rfl, rfl, rfl, rfl⟩
 | func f s A B p =>
   simp only [Z0, Tr.list.injEq, List.cons.injEq] at hf
   rw [← hf.1] at h2
   exact absurd h2 (by decide)
def PtPost (B : Nat) (T : Tr) (w : World) (e : Ending) (w' : World) : Prop := (∃ p m c, e = .returned (.agg #[.string (bs (Z1 T)), .slice p m c]) ∧ FV nS w' (fun k => k < B ∨ (w.heap.size ≤ k ∧ k < w'.heap.size)) T (nS T (.slice p m c))) ∧ Below w.heap.size w w'
def PutS (name : Nm) (b : Ex) (n : Nat) : Prop := ∀ (t : Tr) (x : Ex) (cs cb : List Value) (B : Nat) (w : World), Y4 name = true → t.depth < n → t.wf → t.bytes ≤ 12000 → Zt t = some x → FV nS w (fun k => k < B) t cs → FV nS w (fun k => k < B) (Z0 b) cb → B ≤ w.heap.size →
    Calls prog 55 #[.agg cs.toArray, .string (bs name), .agg cb.toArray] w fun e w' => PtPost B (Z0 (Z1c name b x)) w e w'
def PtC (name : Nm) (b x : Ex) : Prop := ∀ (v vb : Value) (B : Nat) (w : World), EV w (fun k => k < B) x v → EV w (fun k => k < B) b vb → B ≤ w.heap.size →
    Calls prog 52 #[v, .string (bs name), vb] w fun e w' => (∃ v', e = .returned v' ∧ EV w' (fun k => k < B) (Z1c name b x) v') ∧ Below w.heap.size w w'
end Go.Proofs.YtjaaalojcdbcpaaGreatDoor
