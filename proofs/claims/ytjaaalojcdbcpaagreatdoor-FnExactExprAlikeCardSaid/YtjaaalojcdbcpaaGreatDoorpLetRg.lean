/- The reference makes a binding plain: what holds within the statement that makes its body plain, whatever came up. -/
import Derived.Test.YtjaaalojcdbcpaaGreatDoorpSlots
import Derived.Test.YtjaaalojcdbcpaaGreatDoorpSpec2qM
set_option maxHeartbeats 20000000
set_option linter.unusedVariables false
set_option linter.unusedSimpArgs false
namespace Go.Proofs.YtjaaalojcdbcpaaGreatDoor
open Go.RowKit Go.Proofs.Tryz
set_option maxRecDepth 8000
def upL (L : Nat → Bool) (i : Nat) : Nat → Bool := fun j => if j = i then true else L j
theorem Z0p (L : Nat → Bool) (i : Nat) : upL L i i = true := by simp [upL]
theorem Zf {L : Nat → Bool} {i j : Nat} (h : j ≠ i) : upL L i j = L j := by simp [upL, h]
structure LtS (mN mT : List Nm) (s X : Nm) (L : Nat → Bool) (a : Act) (S : Nat → Option (Value × List Nm)) : Prop where
 c0 : L 6 = true → L 8 = false → S 0 = some (a.eval (.tmp 73), [])
 c1 : L 8 = true → L 15 = false → S 0 = some (a.eval (.tmp 75), mN)
 c2 : L 15 = true → S 0 = some (a.eval (.tmp 82), mN ++ [s])
 c3 : L 14 = true → S 1 = some (a.eval (.tmp 81), [s])
 c4 : L 16 = true → L 18 = false → S 2 = some (a.eval (.tmp 83), [])
 c5 : L 18 = true → L 21 = false → S 2 = some (a.eval (.tmp 85), mT)
 c6 : L 21 = true → S 2 = some (a.eval (.tmp 88), mT ++ [X])
 c7 : L 20 = true → S 3 = some (a.eval (.tmp 87), [X])
structure LtI (a0 : Act) (V : Nat → Option Value) (b : Nat) (vf : Value) (k1 : Nat) (W0 : World) (mN mT : List Nm) (s X : Nm) (Mid : Value → World → Prop) (Fin : World → Prop) (L : Nat → Bool) (a : Act) (w : World) : Prop where
 sz : a.tmps.size = a0.tmps.size
 keep : ∀ t : Nat, t < 67 → a.eval (.tmp t) = a0.eval (.tmp t)
 dfr : a.defers = a0.defers
 vals : ∀ j v, V j = some v → L j = true → a.eval (.tmp (67 + j)) = v
 core : L 25 = false → Only b W0 w
 rn : L 23 = false → RN w b vf k1
 slots : L 23 = false → ∃ S, Slots w W0.heap.size S ∧ LtS mN mT s X L a S
 mid : L 23 = true → L 25 = false → Mid (a.eval (.tmp 90)) w
 fin : L 25 = true → Fin w
section
variable {a0 : Act} {V : Nat → Option Value} {b : Nat} {vf : Value} {k1 : Nat} {W0 : World} {mN mT : List Nm} {s X : Nm} {Mid : Value → World → Prop} {Fin : World → Prop} {L : Nat → Bool} {a : Act} {w w' : World} {S : Nat → Option (Value × List Nm)}
def memI (i : Nat) : Bool := [6, 8, 14, 15, 16, 18, 20, 21, 23, 25].contains i
theorem Jf {i j : Nat} (h : memI i = false) (hj : memI j = true) : j ≠ i := fun e => by subst e; rw [h] at hj; cases hj
theorem LtI.pure (h : LtI a0 V b vf k1 W0 mN mT s X Mid Fin L a w) (i : Nat) (hm : memI i = false) (hi : i < 25) (hz : 92 ≤ a0.tmps.size) (v : Value) (hv : ∀ v', V i = some v' → v = v') : LtI a0 V b vf k1 W0 mN mT s X Mid Fin (upL L i) (a.put (some (67 + i)) v) w := by
 have n6 := Jf hm (j := 6) rfl
 have n8 := Jf hm (j := 8) rfl
 have n14 := Jf hm (j := 14) rfl
 have n15 := Jf hm (j := 15) rfl
 have n16 := Jf hm (j := 16) rfl
 have n18 := Jf hm (j := 18) rfl
 have n20 := Jf hm (j := 20) rfl
 have n21 := Jf hm (j := 21) rfl
 have n23 := Jf hm (j := 23) rfl
 have n25 := Jf hm (j := 25) rfl
 have hsz : 67 + i < a.tmps.size := by have := h.sz; omega
 have hne : ∀ t : Nat, t ≠ 67 + i → (a.put (some (67 + i)) v).eval (.tmp t) = a.eval (.tmp t) := fun t ht => by rw [Qg hsz, if_neg ht]
 have hkp : ∀ t : Nat, t < 67 → (a.put (some (67 + i)) v).eval (.tmp t) = a0.eval (.tmp t) := fun t ht => (hne t (by omega)).trans (h.keep t ht)
 refine ⟨by rw [Z2h]; exact h.sz, hkp, by rw [Z0c]; exact h.dfr, fun j u hj hL => ?_, ?_, ?_, ?_, ?_, ?_⟩
 · by_cases e : j = i
   · subst e
     rw [Qg hsz, if_pos rfl]
     exact hv u hj
   · rw [Zf e] at hL
     rw [hne (67 + j) (by omega)]
     exact h.vals j u hj hL
 · rw [Zf n25]; exact h.core
 · rw [Zf n23]; exact h.rn
 · rw [Zf n23]
   intro h23
   obtain ⟨S, q1, q2⟩ := h.slots h23
   refine ⟨S, q1, ?_⟩
   constructor
   · rw [Zf n6, Zf n8, hne _ (by omega)]; exact q2.c0
   · rw [Zf n8, Zf n15, hne _ (by omega)]; exact q2.c1
   · rw [Zf n15, hne _ (by omega)]; exact q2.c2
   · rw [Zf n14, hne _ (by omega)]; exact q2.c3
   · rw [Zf n16, Zf n18, hne _ (by omega)]; exact q2.c4
   · rw [Zf n18, Zf n21, hne _ (by omega)]; exact q2.c5
   · rw [Zf n21, hne _ (by omega)]; exact q2.c6
   · rw [Zf n20, hne _ (by omega)]; exact q2.c7
 · rw [Zf n23, Zf n25, hne _ (by omega)]; exact h.mid
 · rw [Zf n25]; exact h.fin
theorem LtI.row (h : LtI a0 V b vf k1 W0 mN mT s X Mid Fin L a w) (i : Nat) (hi : i < 22) (hz : 92 ≤ a0.tmps.size) (hV : V i = none) (h23 : L 23 = false) (h25 : L 25 = false) (v : Value) (ho : Only b W0 w') (hr : RN w' b vf k1)
 (hS : ∃ S, Slots w' W0.heap.size S ∧ LtS mN mT s X (upL L i) (a.put (some (67 + i)) v) S) : LtI a0 V b vf k1 W0 mN mT s X Mid Fin (upL L i) (a.put (some (67 + i)) v) w' := by
 have hsz : 67 + i < a.tmps.size := by have := h.sz; omega
 have hne : ∀ t : Nat, t ≠ 67 + i → (a.put (some (67 + i)) v).eval (.tmp t) = a.eval (.tmp t) := fun t ht => by rw [Qg hsz, if_neg ht]
 have hkp : ∀ t : Nat, t < 67 → (a.put (some (67 + i)) v).eval (.tmp t) = a0.eval (.tmp t) := fun t ht => (hne t (by omega)).trans (h.keep t ht)
 refine ⟨by rw [Z2h]; exact h.sz, hkp, by rw [Z0c]; exact h.dfr, fun j u hj hL => ?_, fun _ => ho, fun _ => hr, fun _ => hS, fun e => ?_, fun e => ?_⟩
 · by_cases e : j = i
   · subst e; rw [hV] at hj; cases hj
   · rw [Zf e] at hL
     rw [hne (67 + j) (by omega)]
     exact h.vals j u hj hL
 · rw [Zf (by omega), h23] at e; cases e
 · rw [Zf (by omega), h25] at e; cases e
theorem RN.of_stay {k : Nat} (h : RN w b vf k) (hs : w'.heap[b]? = w.heap[b]?) : RN w' b vf k := by unfold RN; rw [hs]; exact h
theorem LtS.made (q : LtS mN mT s X L a S) (i n : Nat) (v : Value) (l : List Nm) (hsz : 67 + i < a.tmps.size)
 (g0 : upL L i 6 = true → upL L i 8 = false → (n = 0 ∧ l = [] ∧ i = 6) ∨ (n ≠ 0 ∧ i ≠ 6 ∧ L 6 = true ∧ L 8 = false))
 (g1 : upL L i 8 = true → upL L i 15 = false → (n = 0 ∧ l = mN ∧ i = 8) ∨ (n ≠ 0 ∧ i ≠ 8 ∧ L 8 = true ∧ L 15 = false))
 (g2 : upL L i 15 = true → (n = 0 ∧ l = mN ++ [s] ∧ i = 15) ∨ (n ≠ 0 ∧ i ≠ 15 ∧ L 15 = true))
 (g3 : upL L i 14 = true → (n = 1 ∧ l = [s] ∧ i = 14) ∨ (n ≠ 1 ∧ i ≠ 14 ∧ L 14 = true))
 (g4 : upL L i 16 = true → upL L i 18 = false → (n = 2 ∧ l = [] ∧ i = 16) ∨ (n ≠ 2 ∧ i ≠ 16 ∧ L 16 = true ∧ L 18 = false))
 (g5 : upL L i 18 = true → upL L i 21 = false → (n = 2 ∧ l = mT ∧ i = 18) ∨ (n ≠ 2 ∧ i ≠ 18 ∧ L 18 = true ∧ L 21 = false))
 (g6 : upL L i 21 = true → (n = 2 ∧ l = mT ++ [X] ∧ i = 21) ∨ (n ≠ 2 ∧ i ≠ 21 ∧ L 21 = true))
 (g7 : upL L i 20 = true → (n = 3 ∧ l = [X] ∧ i = 20) ∨ (n ≠ 3 ∧ i ≠ 20 ∧ L 20 = true)) : LtS mN mT s X (upL L i) (a.put (some (67 + i)) v) (Jd S n (v, l)) := by
 have heq : (a.put (some (67 + i)) v).eval (.tmp (67 + i)) = v := by rw [Qg hsz, if_pos rfl]
 have hne : ∀ t : Nat, t ≠ 67 + i → (a.put (some (67 + i)) v).eval (.tmp t) = a.eval (.tmp t) := fun t ht => by rw [Qg hsz, if_neg ht]
 constructor
 · intro e1 e2
   rcases g0 e1 e2 with ⟨rfl, rfl, rfl⟩ | ⟨h1, h2, h3, h4⟩
   · rw [Yw]; exact congrArg some (Prod.ext heq.symm rfl)
   · rw [Xg _ (fun e => h1 e.symm), hne _ (by omega)]; exact q.c0 h3 h4
 · intro e1 e2
   rcases g1 e1 e2 with ⟨rfl, rfl, rfl⟩ | ⟨h1, h2, h3, h4⟩
   · rw [Yw]; exact congrArg some (Prod.ext heq.symm rfl)
   · rw [Xg _ (fun e => h1 e.symm), hne _ (by omega)]; exact q.c1 h3 h4
 · intro e1
   rcases g2 e1 with ⟨rfl, rfl, rfl⟩ | ⟨h1, h2, h3⟩
   · rw [Yw]; exact congrArg some (Prod.ext heq.symm rfl)
   · rw [Xg _ (fun e => h1 e.symm), hne _ (by omega)]; exact q.c2 h3
 · intro e1
   rcases g3 e1 with ⟨rfl, rfl, rfl⟩ | ⟨h1, h2, h3⟩
   · rw [Yw]; exact congrArg some (Prod.ext heq.symm rfl)
   · rw [Xg _ (fun e => h1 e.symm), hne _ (by omega)]; exact q.c3 h3
 · intro e1 e2
   rcases g4 e1 e2 with ⟨rfl, rfl, rfl⟩ | ⟨h1, h2, h3, h4⟩
   · rw [Yw]; exact congrArg some (Prod.ext heq.symm rfl)
   · rw [Xg _ (fun e => h1 e.symm), hne _ (by omega)]; exact q.c4 h3 h4
 · intro e1 e2
   rcases g5 e1 e2 with ⟨rfl, rfl, rfl⟩ | ⟨h1, h2, h3, h4⟩
   · rw [Yw]; exact congrArg some (Prod.ext heq.symm rfl)
   · rw [Xg _ (fun e => h1 e.symm), hne _ (by omega)]; exact q.c5 h3 h4
 · intro e1
   rcases g6 e1 with ⟨rfl, rfl, rfl⟩ | ⟨h1, h2, h3⟩
   · rw [Yw]; exact congrArg some (Prod.ext heq.symm rfl)
   · rw [Xg _ (fun e => h1 e.symm), hne _ (by omega)]; exact q.c6 h3
 · intro e1
   rcases g7 e1 with ⟨rfl, rfl, rfl⟩ | ⟨h1, h2, h3⟩
   · rw [Yw]; exact congrArg some (Prod.ext heq.symm rfl)
   · rw [Xg _ (fun e => h1 e.symm), hne _ (by omega)]; exact q.c7 h3
theorem LtI.make (h : LtI a0 V b vf k1 W0 mN mT s X Mid Fin L a w) (i n : Nat) (l : List Nm) (hi : i < 22) (hz : 92 ≤ a0.tmps.size) (hb : b < W0.heap.size) (hV : V i = none) (h23 : L 23 = false) (h25 : L 25 = false) (hl : l.length ≤ 1000000)
 (hS : ∀ S, LtS mN mT s X L a S → LtS mN mT s X (upL L i) (a.put (some (67 + i)) (.slice (some ⟨w.heap.size, 0, none⟩) l.length l.length)) (Jd S n (.slice (some ⟨w.heap.size, 0, none⟩) l.length l.length, l))) :
 LtI a0 V b vf k1 W0 mN mT s X Mid Fin (upL L i) (a.put (some (67 + i)) (.slice (some ⟨w.heap.size, 0, none⟩) l.length l.length)) (w.alloc (.cells (l.map Y2).toArray 9)) := by
 have hc := h.core h25
 obtain ⟨S, q1, q2⟩ := h.slots h23
 exact h.row i hi hz hV h23 h25 _ (hc.alloc _) ((h.rn h23).of_stay (heap_alloc_old _ _ (lt_of_block (h.rn h23)))) ⟨_, q1.make hc.size n l hl, hS S q2⟩
theorem LtI.grow (h : LtI a0 V b vf k1 W0 mN mT s X Mid Fin L a w) (i n : Nat) (v v' : Value) (l l' : List Nm) (hi : i < 22) (hz : 92 ≤ a0.tmps.size) (hb : b < W0.heap.size) (hV : V i = none) (h23 : L 23 = false) (h25 : L 25 = false)
 (ho : w'.ownsRow W0.heap.size 9 1 v' l'.length (l'.map Y2)) (hg : w.grownBy w' v.ownBlock) (hv : v'.ownBlock = v.ownBlock ∨ v'.ownBlock = some w.heap.size) (hown : ∀ q, v.ownBlock = some q → W0.heap.size ≤ q)
 (hS : ∀ S, LtS mN mT s X L a S → S n = some (v, l) ∧ LtS mN mT s X (upL L i) (a.put (some (67 + i)) v') (Jd S n (v', l'))) :
 LtI a0 V b vf k1 W0 mN mT s X Mid Fin (upL L i) (a.put (some (67 + i)) v') w' := by
 have hc := h.core h25
 obtain ⟨S, q1, q2⟩ := h.slots h23
 obtain ⟨e, q3⟩ := hS S q2
 have hrn := h.rn h23
 exact h.row i hi hz hV h23 h25 _ (hc.grown hg hown) (hrn.of_stay (hg.block b (lt_of_block hrn) (fun q => by have := hown b q.symm; omega))) ⟨_, q1.grow e ho hg hv, q3⟩
end
end Go.Proofs.YtjaaalojcdbcpaaGreatDoor
