/- The plain mathematics of chapter 1: forms as trees of atoms, read from a list of bytes and written as one. How a tree of forms lies in memory: a node's cells, and a row of cells for its parts. Append of one element to a row of the call's own: where the new row lies. Nodes by letters; blocks behind allocs and stores; 'Below' step by step. Types as trees; the three parts of a form in memory. What is written is read back. -/
import Derived.WalkKit
import Derived.WalkSpells
import Derived.WalkLawsBesides
import Derived.Lib.Hide
import Derived.Test.YtjaaalojcdbcpaaGreatDoorProg
set_option maxHeartbeats 20000000
set_option linter.unusedVariables false
set_option linter.unusedSimpArgs false
namespace Go.Proofs.YtjaaalojcdbcpaaGreatDoor
inductive Tr where
 | atom (s : List UInt8)
 | list (ts : List Tr)
deriving Inhabited
def bs (l : List UInt8) : ByteArray := ⟨l.toArray⟩
def J3 (b : UInt8) : Bool := (97 ≤ b.toNat && b.toNat ≤ 122) || (48 ≤ b.toNat && b.toNat ≤ 57) || b.toNat == 43 || b.toNat == 45 || b.toNat == 42 || b.toNat == 62
def Xz (l : List UInt8) : Option (Tr × List UInt8) :=
 if l.takeWhile J3 = [] then none else some (.atom (l.takeWhile J3), l.dropWhile J3)
def Xe (rd : List UInt8 → Option (Tr × List UInt8)) : Nat → List UInt8 → Option (List Tr × List UInt8)
 | 0, _ => none
 | n + 1, l =>
   match rd l with
   | none => none
   | some (t, r) =>
     match r with
     | [] => none
     | c :: r' => if c = 41 then some ([t], r') else if c = 32 then (Xe rd n r').map fun p => (t :: p.1, p.2) else none
def X8 : Nat → List UInt8 → Option (Tr × List UInt8)
 | 0, _ => none
 | d + 1, l =>
   match l with
   | [] => none
   | c :: r => if c = 40 then (Xe (X8 d) (r.length + 1) r).map fun p => (.list p.1, p.2) else Xz (c :: r)
def Zt (l : List UInt8) : Option Tr :=
 if 12000 < l.length then none else
 match X8 61 l with
 | some (t, []) => some t
 | _ => none
mutual
def Tr.size : Tr → Nat
 | .atom _ => 1
 | .list ts => Yd ts
def Yd : List Tr → Nat
 | [] => 0
 | t :: ts => t.size + Yd ts
end
mutual
def Tr.depth : Tr → Nat
 | .atom _ => 0
 | .list ts => Ys ts
def Ys : List Tr → Nat
 | [] => 0
 | t :: ts => max (1 + t.depth) (Ys ts)
end
mutual
def Tr.bytes : Tr → Nat
 | .atom a => a.length
 | .list ts => 1 + Zi ts
def Zi : List Tr → Nat
 | [] => 0
 | t :: ts => 1 + t.bytes + Zi ts
end
mutual
def Tr.text : Tr → List UInt8
 | .atom a => a
 | .list ts => 40 :: Xn ts ++ [41]
def Xn : List Tr → List UInt8
 | [] => []
 | [t] => t.text
 | t :: t' :: ts => t.text ++ 32 :: Xn (t' :: ts)
end
mutual
def Tr.wf : Tr → Prop
 | .atom a => a ≠ [] ∧ ∀ b ∈ a, J3 b = true
 | .list ts => ts ≠ [] ∧ wfs ts
def wfs : List Tr → Prop
 | [] => True
 | t :: ts => t.wf ∧ wfs ts
end
theorem read_nil (d : Nat) : X8 d [] = none := by cases d <;> rfl
theorem Z32 (d : Nat) (r : List UInt8) : X8 (d + 1) (40 :: r) = (Xe (X8 d) (r.length + 1) r).map fun p => (.list p.1, p.2) := by simp [X8]
theorem Z15 (d : Nat) (c : UInt8) (r : List UInt8) (h : c ≠ 40) : X8 (d + 1) (c :: r) = Xz (c :: r) := by simp [X8, h]
structure Got (d : Nat) (l : List UInt8) (t : Tr) (r : List UInt8) : Prop where
 wf : t.wf
 text : l = t.text ++ r
 depth : t.depth < d
 stop : ∀ c r', r = c :: r' → (∃ a, t = .atom a) → J3 c = false
theorem Z3l {l r : List UInt8} {t : Tr} (h : Xz l = some (t, r)) : t = .atom (l.takeWhile J3) ∧ r = l.dropWhile J3 ∧ l.takeWhile J3 ≠ [] := by
 unfold Xz at h
 split at h
 · simp at h
 · rename_i hne
   simp only [Option.some.injEq, Prod.mk.injEq] at h
   exact ⟨h.1.symm, h.2.symm, hne⟩
theorem Z3m (p : UInt8 → Bool) : ∀ (l : List UInt8), ∀ b ∈ l.takeWhile p, p b = true
 | [], _, h => by simp at h
 | a :: l, b, h => by
   rw [List.takeWhile_cons] at h
   split at h
   · rename_i ha
     rcases List.mem_cons.1 h with rfl | h
     · exact ha
     · exact Z3m p l b h
   · simp at h
theorem Z2q (p : UInt8 → Bool) : ∀ (l : List UInt8) (c : UInt8) (r : List UInt8), l.dropWhile p = c :: r → p c = false
 | [], _, _, h => by simp at h
 | a :: l, c, r, h => by
   rw [List.dropWhile_cons] at h
   split at h
   · exact Z2q p l c r h
   · rename_i ha
     simp only [List.cons.injEq] at h
     rw [← h.1]; simpa using ha
theorem readAtom_got {d : Nat} {l r : List UInt8} {t : Tr} (h : Xz l = some (t, r)) : Got (d + 1) l t r := by
 obtain ⟨rfl, rfl, hne⟩ := Z3l h
 exact ⟨⟨hne, Z3m _ _⟩, by simp [Tr.text, List.takeWhile_append_dropWhile], by simp [Tr.depth], fun c r' hc _ => Z2q _ _ _ _ hc⟩
theorem items_got {d : Nat} {rd : List UInt8 → Option (Tr × List UInt8)} (hrd : ∀ l t r, rd l = some (t, r) → Got d l t r) :
 ∀ (n : Nat) (l : List UInt8) (ts : List Tr) (r : List UInt8), Xe rd n l = some (ts, r) → ts ≠ [] ∧ wfs ts ∧ l = Xn ts ++ 41 :: r ∧ Ys ts ≤ d
 | 0, _, _, _, h => by simp [Xe] at h
 | n + 1, l, ts, r, h => by
   rw [Xe] at h
   split at h
   · simp at h
   · rename_i t r1 hr
     have g := hrd _ _ _ hr
     split at h
     · simp at h
     · rename_i c r'
       split at h
       · rename_i hc
         subst hc
         simp only [Option.some.injEq, Prod.mk.injEq] at h
         obtain ⟨rfl, rfl⟩ := h
         refine ⟨by simp, by simp [wfs, g.wf], by simp [Xn, g.text], ?_⟩
         have := g.depth
         simp only [Ys]; omega
       · split at h
         · rename_i hc
           subst hc
           simp only [Option.map_eq_some_iff] at h
           obtain ⟨⟨ts', r''⟩, h1, h2⟩ := h
           simp only [Prod.mk.injEq] at h2
           obtain ⟨rfl, rfl⟩ := h2
           obtain ⟨k1, k2, k3, k4⟩ := items_got hrd n _ _ _ h1
           refine ⟨by simp, by simp [wfs, g.wf, k2], ?_, ?_⟩
           · match ts', k1 with
             | a :: bs1, _ => rw [g.text, k3]; simp [Xn]
           · have := g.depth
             simp only [Ys]; omega
         · simp at h
theorem Vw : ∀ (d : Nat) (l : List UInt8) (t : Tr) (r : List UInt8), X8 d l = some (t, r) → Got d l t r
 | 0, _, _, _, h => by simp [X8] at h
 | d + 1, [], _, _, h => by simp [X8] at h
 | d + 1, c :: l, t, r, h => by
   by_cases hc : c = 40
   · subst hc
     rw [Z32] at h
     simp only [Option.map_eq_some_iff] at h
     obtain ⟨⟨ts, r'⟩, h1, h2⟩ := h
     simp only [Prod.mk.injEq] at h2
     obtain ⟨rfl, rfl⟩ := h2
     obtain ⟨k1, k2, k3, k4⟩ := items_got (Vw d) _ _ _ _ h1
     exact ⟨⟨k1, k2⟩, by rw [k3]; simp [Tr.text], by simp only [Tr.depth]; omega, fun _ _ _ ⟨a, ha⟩ => by simp at ha⟩
   · rw [Z15 _ _ _ hc] at h
     exact readAtom_got h
mutual
theorem Y4 : ∀ t : Tr, t.wf → t.text.length = t.bytes
 | .atom a, _ => by simp [Tr.text, Tr.bytes]
 | .list ts, h => by
   have := Z04 ts h.2 h.1
   simp only [Tr.text, Tr.bytes, List.length_append, List.length_cons, List.length_nil]; omega
theorem Z04 : ∀ ts : List Tr, wfs ts → ts ≠ [] → (Xn ts).length + 1 = Zi ts
 | [], _, h => absurd rfl h
 | [t], h, _ => by have := Y4 t h.1; simp only [Xn, Zi]; omega
 | t :: t' :: ts, h, _ => by
   have h1 := Y4 t h.1
   have h2 := Z04 (t' :: ts) h.2 (by simp)
   simp only [Xn, List.length_append, List.length_cons] at *
   rw [Zi]; omega
end
mutual
theorem Q9 : ∀ t : Tr, t.wf → t.size ≤ t.bytes ∧ 1 ≤ t.size
 | .atom a, h => by
   have : a.length ≠ 0 := by have := h.1; simpa using this
   simp only [Tr.size, Tr.bytes]; omega
 | .list ts, h => by
   have h1 := Z4g ts h.2
   match ts, h with
   | t :: ts, h =>
     have := (Q9 t h.2.1).2
     simp only [Tr.size, Tr.bytes, Yd] at *; omega
theorem Z4g : ∀ ts : List Tr, wfs ts → Yd ts ≤ Zi ts
 | [], _ => by simp [Yd]
 | t :: ts, h => by
   have h1 := (Q9 t h.1).1
   have h2 := Z4g ts h.2
   simp only [Yd, Zi]; omega
end
mutual
theorem Z4z : ∀ t : Tr, t.wf → t.depth ≤ t.bytes
 | .atom a, h => by simp [Tr.depth]
 | .list ts, h => by
   have h1 := Z5h ts h.2
   simp only [Tr.depth, Tr.bytes] at *; omega
theorem Z5h : ∀ ts : List Tr, wfs ts → Ys ts ≤ Zi ts
 | [], _ => by simp [Ys]
 | t :: ts, h => by
   have h1 := Z4z t h.1
   have h2 := Z5h ts h.2
   simp only [Ys, Zi]; omega
end
theorem Got.length {d : Nat} {l r : List UInt8} {t : Tr} (h : Got d l t r) : l.length = t.bytes + r.length := by
 have := congrArg List.length h.text
 rw [List.length_append, Y4 t h.wf] at this; exact this
theorem Got.drop {d : Nat} {S r : List UInt8} {i : Nat} {t : Tr} (hi : i ≤ S.length) (h : Got d (S.drop i) t r) : r = S.drop (S.length - r.length) ∧ r.length + t.bytes + i = S.length ∧ 1 ≤ t.bytes := by
 have h1 := h.length
 have h2 := Q9 t h.wf
 have h3 : (S.drop i).length = S.length - i := List.length_drop
 have h4 : r = (S.drop i).drop t.text.length := by rw [h.text]; simp
 rw [List.drop_drop, Y4 t h.wf] at h4
 refine ⟨?_, by omega, by omega⟩
 have h5 : S.length - r.length = i + t.bytes := by omega
 rw [h5]; exact h4
def Z5l (S : List UInt8) (i k : Nat) : Prop := (S.drop i).takeWhile J3 = (S.drop i).take k ++ (S.drop (i + k)).takeWhile J3 ∧ (S.drop i).dropWhile J3 = (S.drop (i + k)).dropWhile J3 ∧ i + k ≤ S.length
theorem Z5l.zero (S : List UInt8) (i : Nat) (h : i ≤ S.length) : Z5l S i 0 := ⟨by simp, by simp, by omega⟩
theorem Z5l.succ {S : List UInt8} {i k : Nat} (h : Z5l S i k) (hk : i + k < S.length) (hb : J3 S[i + k] = true) : Z5l S i (k + 1) := by
 have e : S.drop (i + k) = S[i + k] :: S.drop (i + k + 1) := List.drop_eq_getElem_cons hk
 refine ⟨?_, ?_, by omega⟩
 · rw [h.1, e, List.takeWhile_cons, if_pos hb, List.take_succ_eq_append_getElem (by simp; omega)]
   simp [Nat.add_assoc]
 · rw [h.2.1, e, List.dropWhile_cons, if_pos hb]; simp [Nat.add_assoc]
theorem Z5l.done {S : List UInt8} {i k : Nat} (h : Z5l S i k) (hk : ∀ h : i + k < S.length, J3 S[i + k] = false) :
 Xz (S.drop i) = if k = 0 then none else some (.atom ((S.drop i).take k), S.drop (i + k)) := by
 have e : (S.drop (i + k)).takeWhile J3 = [] ∧ (S.drop (i + k)).dropWhile J3 = S.drop (i + k) := by
  rcases Nat.lt_or_ge (i + k) S.length with hlt | hge
  · rw [List.drop_eq_getElem_cons hlt, List.takeWhile_cons, List.dropWhile_cons, hk hlt]; simp
  · rw [List.drop_eq_nil_of_le hge]; simp
 unfold Xz
 rw [h.1, h.2.1, e.1, e.2, List.append_nil]
 have := h.2.2
 by_cases hz : k = 0
 · subst hz; simp
 · rw [if_neg hz, if_neg]
   intro hh
   have := congrArg List.length hh
   simp at this; omega
def Z2v (S : List UInt8) (i p : Nat) : Prop := ∃ j, p = i + j ∧ Z5l S i j
theorem Z2v.zero (S : List UInt8) (i : Nat) (h : i ≤ S.length) : Z2v S i i := ⟨0, rfl, Z5l.zero S i h⟩
theorem Z2v.le {S : List UInt8} {i p : Nat} (h : Z2v S i p) : i ≤ p ∧ p ≤ S.length := by
 obtain ⟨j, rfl, h⟩ := h
 exact ⟨by omega, h.2.2⟩
theorem Z2v.succ {S : List UInt8} {i p : Nat} (h : Z2v S i p) (hk : p < S.length) (hb : J3 S[p] = true) : Z2v S i (p + 1) := by
 obtain ⟨j, rfl, h⟩ := h
 exact ⟨j + 1, rfl, h.succ hk hb⟩
theorem Z2v.done {S : List UInt8} {i p : Nat} (h : Z2v S i p) (hk : ∀ h : p < S.length, J3 S[p] = false) :
 Xz (S.drop i) = if p = i then none else some (.atom ((S.drop i).take (p - i)), S.drop p) := by
 obtain ⟨j, rfl, h⟩ := h
 rw [h.done hk]
 by_cases hj : j = 0
 · simp [hj]
 · rw [if_neg hj, if_neg (by omega), Nat.add_sub_cancel_left]
theorem sizes_snoc (ts : List Tr) (t : Tr) : Yd (ts ++ [t]) = Yd ts + t.size := by
 induction ts with
 | nil => simp [Yd]
 | cons a ts ih => simp only [List.cons_append, Yd, ih]; omega
theorem Z2s (ts : List Tr) (t : Tr) : Zi (ts ++ [t]) = Zi ts + (1 + t.bytes) := by
 induction ts with
 | nil => simp [Zi]
 | cons a ts ih => simp only [List.cons_append, Zi, ih]; omega
theorem depths_snoc (ts : List Tr) (t : Tr) : Ys (ts ++ [t]) = max (Ys ts) (1 + t.depth) := by
 induction ts with
 | nil => simp [Ys]
 | cons a ts ih => simp only [List.cons_append, Ys, ih]; omega
theorem Ki (ts : List Tr) (k : Nat) (h : k < ts.length) : ts.take (k + 1) = ts.take k ++ [ts[k]] := by
 rw [List.take_succ_eq_append_getElem h]
theorem Km (ts : List Tr) (k : Nat) (h : k < ts.length) : Yd (ts.take (k + 1)) = Yd (ts.take k) + ts[k].size := by rw [Ki _ _ h, sizes_snoc]
theorem Z66 (ts : List Tr) (k : Nat) (h : k < ts.length) : Zi (ts.take (k + 1)) = Zi (ts.take k) + (1 + ts[k].bytes) := by rw [Ki _ _ h, Z2s]
theorem depths_take (ts : List Tr) (k : Nat) (h : k < ts.length) : Ys (ts.take (k + 1)) = max (Ys (ts.take k)) (1 + ts[k].depth) := by rw [Ki _ _ h, depths_snoc]
theorem Qo (ts : List Tr) (k : Nat) : Yd (ts.take k) ≤ Yd ts := by
 induction ts generalizing k with
 | nil => simp [Yd]
 | cons t ts ih => cases k with
   | zero => simp [Yd]
   | succ k => have := ih k; simp only [List.take_succ_cons, Yd]; omega
theorem Jt (ts : List Tr) (k : Nat) : Zi (ts.take k) ≤ Zi ts := by
 induction ts generalizing k with
 | nil => simp [Zi]
 | cons t ts ih => cases k with
   | zero => simp [Zi]
   | succ k => have := ih k; simp only [List.take_succ_cons, Zi]; omega
theorem Z82 (ts : List Tr) (k : Nat) : Ys (ts.take k) ≤ Ys ts := by
 induction ts generalizing k with
 | nil => simp [Ys]
 | cons t ts ih => cases k with
   | zero => simp [Ys]
   | succ k => have := ih k; simp only [List.take_succ_cons, Ys]; omega
theorem Xi (ts : List Tr) : ts.length ≤ Zi ts := by
 induction ts with
 | nil => simp [Zi]
 | cons t ts ih => simp only [List.length_cons, Zi]; omega
theorem Xk {ts : List Tr} {i : Nat} (hi : i < ts.length) : ts[i].depth < (Tr.list ts).depth := by
 simp only [Tr.depth]
 induction ts generalizing i with
 | nil => simp at hi
 | cons t ts ih =>
   simp only [Ys]
   match i, hi with
   | 0, _ => simp only [List.getElem_cons_zero]; omega
   | i + 1, hi => have := ih (i := i) (by simpa using hi); simp only [List.getElem_cons_succ]; omega
theorem Ji {ts : List Tr} (h : wfs ts) {i : Nat} (hi : i < ts.length) : ts[i].wf := by
 induction ts generalizing i with
 | nil => simp at hi
 | cons t ts ih =>
   simp only [wfs] at h
   match i, hi with
   | 0, _ => exact h.1
   | i + 1, hi => exact ih h.2 (by simpa using hi)
theorem J5 {ts : List Tr} {i : Nat} (hi : i < ts.length) : ts[i].bytes < (Tr.list ts).bytes := by
 have h1 := Z66 ts i hi
 have h2 := Jt ts (i + 1)
 simp only [Tr.bytes]; omega
theorem parse_some {l : List UInt8} {t : Tr} (h : Zt l = some t) : l.length ≤ 12000 ∧ X8 61 l = some (t, []) := by
 unfold Zt at h
 split at h
 · cases h
 · rename_i hl
   split at h
   · rename_i t' hr
     simp only [Option.some.injEq] at h
     subst h
     exact ⟨by omega, hr⟩
   · cases h
theorem Yk {l : List UInt8} {t : Tr} (h : Zt l = some t) : t.wf ∧ t.bytes ≤ 12000 ∧ t.depth ≤ 60 ∧ l = t.text := by
 obtain ⟨h1, h2⟩ := parse_some h
 have g := Vw _ _ _ _ h2
 have := g.length
 have hd := g.depth
 have ht := g.text
 rw [List.append_nil] at ht
 simp only [List.length_nil] at this
 exact ⟨g.wf, by omega, by omega, ht⟩
end Go.Proofs.YtjaaalojcdbcpaaGreatDoor
namespace Go.Proofs.YtjaaalojcdbcpaaGreatDoor
open Go.RowKit Go.Proofs.Tryz
set_option maxRecDepth 8000
set_option maxHeartbeats 20000000
set_option linter.unusedVariables false
set_option linter.unusedSimpArgs false
theorem Zf {a b : Bool} (h : a = b) : Ending.returned (.bool a) = .returned (.bool b) := by rw [h]
theorem Z30 {k : IntKind} {a b : Int} (h : a = b) : Ending.returned (.int k a) = .returned (.int k b) := by rw [h]
def Yv (w : World) (r off : Nat) (xs : List Value) : Prop := ∀ j v, xs[j]? = some v → w.cell? ⟨r, off + j, none⟩ = some v
mutual
def FV (nd : Tr → Value → List Value) (w : World) (ok : Nat → Prop) : Tr → List Value → Prop
 | .atom a, cs => cs = nd (.atom a) (.slice none 0 0)
 | .list ts, cs => ∃ r off cap xs, cs = nd (.list ts) (.slice (some ⟨r, off, none⟩) ts.length cap) ∧ ok r ∧ ts.length ≤ cap ∧ cap ≤ maxLen ∧ Yv w r off xs ∧ FVs nd w ok ts xs
def FVs (nd : Tr → Value → List Value) (w : World) (ok : Nat → Prop) : List Tr → List Value → Prop
 | [], xs => xs = []
 | t :: ts, xs => ∃ a b, xs = a ++ b ∧ FV nd w ok t a ∧ FVs nd w ok ts b
end
theorem Yv.move {w w' : World} {r off : Nat} {xs : List Value} (h : Yv w r off xs) (hb : w'.heap[r]? = w.heap[r]?) : Yv w' r off xs :=
 fun j v hj => (World.cell?_of_block (w := w) (w' := w') (a := ⟨r, off + j, none⟩) hb).trans (h j v hj)
mutual
theorem FV.move {nd : Tr → Value → List Value} {w w' : World} {ok ok' : Nat → Prop} (hk : ∀ k, ok k → ok' k) (hb : ∀ k, ok k → w'.heap[k]? = w.heap[k]?) :
 ∀ (t : Tr) (cs : List Value), FV nd w ok t cs → FV nd w' ok' t cs
 | .atom _, _, h => by simpa only [FV] using h
 | .list ts, cs, h => by
   simp only [FV] at h ⊢
   obtain ⟨r, off, cap, xs, h1, h2, h3, h4, h5, h6⟩ := h
   exact ⟨r, off, cap, xs, h1, hk r h2, h3, h4, h5.move (hb r h2), FVs.move hk hb ts xs h6⟩
theorem FVs.move {nd : Tr → Value → List Value} {w w' : World} {ok ok' : Nat → Prop} (hk : ∀ k, ok k → ok' k) (hb : ∀ k, ok k → w'.heap[k]? = w.heap[k]?) :
 ∀ (ts : List Tr) (xs : List Value), FVs nd w ok ts xs → FVs nd w' ok' ts xs
 | [], _, h => by simpa only [FVs] using h
 | t :: ts, xs, h => by
   simp only [FVs] at h ⊢
   obtain ⟨a, b, h1, h2, h3⟩ := h
   exact ⟨a, b, h1, FV.move hk hb t a h2, FVs.move hk hb ts b h3⟩
end
theorem FV.below {nd : Tr → Value → List Value} {w w' : World} {ok : Nat → Prop} {B : Nat} {t : Tr} {cs : List Value} (h : FV nd w ok t cs) (hb : Below B w w') (hok : ∀ k, ok k → k < B) : FV nd w' ok t cs :=
 FV.move (fun _ h => h) (fun k hk => hb.block k (hok k hk)) t cs h
theorem FVs.below {nd : Tr → Value → List Value} {w w' : World} {ok : Nat → Prop} {B : Nat} {ts : List Tr} {xs : List Value} (h : FVs nd w ok ts xs) (hb : Below B w w') (hok : ∀ k, ok k → k < B) : FVs nd w' ok ts xs :=
 FVs.move (fun _ h => h) (fun k hk => hb.block k (hok k hk)) ts xs h
theorem FV.node {nd : Tr → Value → List Value} {w : World} {ok : Nat → Prop} : ∀ {t : Tr} {cs : List Value}, FV nd w ok t cs → ∃ p n c, cs = nd t (.slice p n c)
 | .atom _, _, h => by simp only [FV] at h; exact ⟨_, _, _, h⟩
 | .list _, _, h => by simp only [FV] at h; obtain ⟨r, off, cap, xs, h1, _⟩ := h; exact ⟨_, _, _, h1⟩
theorem FV.len_le {nd : Tr → Value → List Value} (hinj : ∀ t p q, nd t p = nd t q → p = q) {w : World} {ok : Nat → Prop} : ∀ {t : Tr} {p : Option Addr} {n c : Nat}, FV nd w ok t (nd t (.slice p n c)) → n ≤ maxLen
 | .atom _, _, _, _, h => by
   simp only [FV] at h
   have := hinj _ _ _ h
   simp only [Value.slice.injEq] at this; rw [this.2.1]; exact Nat.zero_le _
 | .list _, _, _, _, h => by
   simp only [FV] at h
   obtain ⟨r, off, cap, xs, h1, h2, h3, h4, _⟩ := h
   have := hinj _ _ _ h1
   simp only [Value.slice.injEq] at this; rw [this.2.1]; exact Nat.le_trans h3 h4
theorem FVs.get {nd : Tr → Value → List Value} {k : Nat} (hn : ∀ t p, (nd t p).length = k) {w : World} {ok : Nat → Prop} :
 ∀ {ts : List Tr} {xs : List Value} {r off : Nat}, FVs nd w ok ts xs → Yv w r off xs → ∀ i (hi : i < ts.length),
   ∃ cs, FV nd w ok ts[i] cs ∧ Yv w r (off + i * k) cs
 | [], _, _, _, _, _, i, hi => by simp at hi
 | t :: ts, xs, r, off, h, hr, i, hi => by
   simp only [FVs] at h
   obtain ⟨a, b, rfl, h2, h3⟩ := h
   have hla : a.length = k := by obtain ⟨p, n, c, rfl⟩ := h2.node; exact hn _ _
   match i, hi with
   | 0, _ => exact ⟨a, h2, fun j v hj => by
      have := hr j v (by rw [List.getElem?_append_left (List.getElem?_eq_some_iff.1 hj).1]; exact hj)
      simpa using this⟩
   | i + 1, hi =>
     have hb : Yv w r (off + k) b := fun j v hj => by
      have := hr (k + j) v (by rw [List.getElem?_append_right (by omega)]; rw [hla]; simpa using hj)
      rw [show off + k + j = off + (k + j) from by omega]; exact this
     obtain ⟨cs, c1, c2⟩ := FVs.get hn h3 hb i (by simpa using hi)
     exact ⟨cs, by simpa using c1, by rw [show off + (i + 1) * k = off + k + i * k from by rw [Nat.add_mul]; omega]; exact c2⟩
theorem FVs.length {nd : Tr → Value → List Value} {k : Nat} (hn : ∀ t p, (nd t p).length = k) {w : World} {ok : Nat → Prop} : ∀ {ts : List Tr} {xs : List Value}, FVs nd w ok ts xs → xs.length = ts.length * k
 | [], _, h => by simp only [FVs] at h; subst h; simp
 | t :: ts, xs, h => by
   simp only [FVs] at h
   obtain ⟨a, b, rfl, h2, h3⟩ := h
   have hla : a.length = k := by obtain ⟨p, n, c, rfl⟩ := h2.node; exact hn _ _
   have := FVs.length hn h3
   simp only [List.length_append, List.length_cons, hla, this, Nat.add_mul]; omega
theorem FVs.snoc {nd : Tr → Value → List Value} {w : World} {ok : Nat → Prop} {t : Tr} {cs : List Value} (ht : FV nd w ok t cs) : ∀ {ts : List Tr} {xs : List Value}, FVs nd w ok ts xs → FVs nd w ok (ts ++ [t]) (xs ++ cs)
 | [], xs, h => by simp only [FVs] at h; subst h; simp only [List.nil_append, FVs]; exact ⟨cs, [], by simp, ht, rfl⟩
 | t' :: ts, xs, h => by
   simp only [FVs, List.cons_append] at h ⊢
   obtain ⟨a, b, rfl, h2, h3⟩ := h
   exact ⟨a, b ++ cs, by simp, h2, FVs.snoc ht h3⟩
def Z1 : Tr → List UInt8 | .atom a => a | .list _ => []
def nS (t : Tr) (p : Value) : List Value := [.string (bs (Z1 t)), p]
def nI (t : Tr) (p : Value) : List Value := [.string (bs (Z1 t)), p, .int .i64 t.bytes, .int .i64 t.size, .int .i64 t.depth]
theorem Jn (t : Tr) (p : Value) : (nS t p).length = 2 := rfl
theorem nS_inj (t : Tr) (p q : Value) (h : nS t p = nS t q) : p = q := by simpa [nS] using h
theorem Z45 (t : Tr) (p q : Value) (h : nI t p = nI t q) : p = q := by simpa [nI] using h
theorem Z44 (t : Tr) (p : Value) : (nI t p).length = 5 := rfl
theorem Yv.at {w : World} {r off : Nat} {xs : List Value} (h : Yv w r off xs) (j : Nat) {v : Value} (hj : xs[j]? = some v) : w.cell? ⟨r, off + j, none⟩ = some v := h j v hj
theorem Z9 (l : List UInt8) : (bs l).toList = l := by simp [bs, ByteArray.toList_mk]
theorem K4 (l : List UInt8) : (bs l).data.toList = l := rfl
theorem Y0 (l : List UInt8) : (bs l).size = l.length := by simp [bs, ByteArray.size]
theorem Z5j {s : ByteArray} {l : List UInt8} (h : s.data.toList = l) : s = bs l := by subst h; cases s; rfl
theorem Xl (a b : List UInt8) : bs a ++ bs b = bs (a ++ b) := by apply Z5j; simp [bs]
theorem Kq (s : ByteArray) (i j : Nat) : s.extract i j = bs ((s.data.toList.drop i).take (j - i)) := by
 apply Z5j
 simp [ByteArray.data_extract, List.extract_eq_take_drop]
theorem Q2 (s : ByteArray) : s.data.toList.length = s.size := rfl
theorem Z5 (w : World) (a : Obj) : Below w.heap.size w (w.alloc a) := (Below.refl _ _).alloc (Nat.le_refl _) _
theorem Zl (w : World) (a b : Obj) : Below w.heap.size w ((w.alloc a).alloc b) := (Z5 w a).alloc (by simp) _
theorem Qf (w : World) (a b c : Obj) : Below w.heap.size w (((w.alloc a).alloc b).alloc c) := (Zl w a b).alloc (by simp; omega) _
theorem ext_empty (s : ByteArray) (i j : Nat) (h : i + j ≤ s.size) : (s.extract i (i + j)).toList.isEmpty = decide (j = 0) := by
 rw [Kq, Z9, Bool.eq_iff_iff, List.isEmpty_iff, decide_eq_true_eq, List.take_eq_nil_iff, List.drop_eq_nil_iff]
 have := Q2 s
 omega
theorem Yl {n : Nat} (h : n ≤ maxLen) : n ≤ 9223372036854775807 := by unfold maxLen at h; omega
theorem H_ {p : Prop} (h : p) : Hid p := Lib.hid h
theorem Z4 {w : World} {b j : Nat} {cs : Array Value} {t : TypeId} (h : w.heap[b]? = some (.cells cs t (0, 0))) : w.cell? ⟨b, j, none⟩ = cs[j]? := by simp [World.cell?, h]
theorem Yf {w : World} {b j : Nat} {cs : Array Value} {t : TypeId} (h : w.heap[b]? = some (.cells cs t (0, 0))) : w.frozen? ⟨b, j, none⟩ = false := by simp [World.frozen?, h]
theorem Zh {w : World} {b : Nat} {cs : Array Value} {t : TypeId} (h : w.heap[b]? = some (.cells cs t (0, 0))) : w.cell? ⟨b, 0, none⟩ = cs[0]? ∧ w.cell? ⟨b, 1, none⟩ = cs[1]? := ⟨Z4 h, Z4 h⟩
theorem cells3 {w : World} {b : Nat} {cs : Array Value} {t : TypeId} (h : w.heap[b]? = some (.cells cs t (0, 0))) : w.cell? ⟨b, 0, none⟩ = cs[0]? ∧ w.cell? ⟨b, 1, none⟩ = cs[1]? ∧ w.cell? ⟨b, 2, none⟩ = cs[2]? := ⟨Z4 h, Z4 h, Z4 h⟩
theorem Yo {w : World} {b : Nat} {cs : Array Value} {t : TypeId} (h : w.heap[b]? = some (.cells cs t (0, 0))) : w.cell? ⟨b, 0, none⟩ = cs[0]? ∧ w.cell? ⟨b, 1, none⟩ = cs[1]? ∧ w.cell? ⟨b, 2, none⟩ = cs[2]? ∧ w.cell? ⟨b, 3, none⟩ = cs[3]? ∧ w.cell? ⟨b, 4, none⟩ = cs[4]? := ⟨Z4 h, Z4 h, Z4 h, Z4 h, Z4 h⟩
theorem Xb {w : World} {b : Nat} {cs : Array Value} {t : TypeId} (h : w.heap[b]? = some (.cells cs t (0, 0))) : w.frozen? ⟨b, 0, none⟩ = false ∧ w.frozen? ⟨b, 1, none⟩ = false := ⟨Yf h, Yf h⟩
theorem Q7 {w : World} {b : Nat} {cs : Array Value} {t : TypeId} (h : w.heap[b]? = some (.cells cs t (0, 0))) : w.frozen? ⟨b, 0, none⟩ = false ∧ w.frozen? ⟨b, 1, none⟩ = false ∧ w.frozen? ⟨b, 2, none⟩ = false ∧ w.frozen? ⟨b, 3, none⟩ = false ∧ w.frozen? ⟨b, 4, none⟩ = false := ⟨Yf h, Yf h, Yf h, Yf h, Yf h⟩
theorem Z2 {B : Nat} {w w' : World} (h : Below B w w') {b : Nat} {o : Obj} (hb : b < B) (ho : w.heap[b]? = some o) : w'.heap[b]? = some o := by rw [h.block b hb]; exact ho
theorem Zx {w w' : World} {base : Nat} {e : TypeId} {size : Nat} {v : Value} {n : Nat} {xs : List Value} (h : w.ownsRow base e size v n xs) (hb : Below w.heap.size w w') : w'.ownsRow base e size v n xs :=
 h.kept (row := none) ⟨hb.os, hb.tape, hb.output, hb.size, fun k hk _ => hb.block k hk⟩ (by cases v.ownBlock <;> simp)
theorem read_list' (s : ByteArray) (i m : Nat) (hi : i < s.size) (hc : s[i] = 40) : X8 (m + 1) (s.data.toList.drop i) = (Xe (X8 m) (s.data.toList.drop (i + 1)).length.succ (s.data.toList.drop (i + 1))).map fun p => (.list p.1, p.2) := by
 have e : s.data.toList.drop i = 40 :: s.data.toList.drop (i + 1) := by
  rw [List.drop_eq_getElem_cons (by simpa using hi)]
  exact congrArg (· :: _) hc
 rw [e, Z32]
theorem read_other (s : ByteArray) (i m : Nat) (hc : ∀ h : i < s.size, s[i] ≠ 40) : X8 (m + 1) (s.data.toList.drop i) = Xz (s.data.toList.drop i) := by
 rcases Nat.lt_or_ge i s.size with hi | hi
 · rw [List.drop_eq_getElem_cons (by simpa using hi)]
   exact Z15 _ _ _ (hc hi)
 · rw [List.drop_eq_nil_of_le (by simpa using hi)]; rfl
theorem it_none {rd : List UInt8 → Option (Tr × List UInt8)} {f : Nat} {L : List UInt8} {ts : List Tr} {R : Option (List Tr × List UInt8)} (hres : rd L = none) (hR : Hid (R = (Xe rd f L).map fun p => (ts ++ p.1, p.2))) : R = none := by
 rw [hR.out]
 cases f with
 | zero => rfl
 | succ f => simp [Xe, hres]
theorem it_none2 {rd : List UInt8 → Option (Tr × List UInt8)} {f : Nat} {L : List UInt8} {ts : List Tr} {R : Option (List Tr × List UInt8)} {t : Tr} {r : List UInt8} (hres : rd L = some (t, r)) (hr : ∀ c r', r = c :: r' → c ≠ 41 ∧ c ≠ 32)
 (hR : Hid (R = (Xe rd f L).map fun p => (ts ++ p.1, p.2))) : R = none := by
 rw [hR.out]
 cases f with
 | zero => rfl
 | succ f =>
   cases r with
   | nil => simp [Xe, hres]
   | cons c r' => simp [Xe, hres, (hr c r' rfl).1, (hr c r' rfl).2]
theorem it_end {rd : List UInt8 → Option (Tr × List UInt8)} {f : Nat} {L : List UInt8} {ts : List Tr} {R : Option (List Tr × List UInt8)} {t : Tr} {c : UInt8} {r' : List UInt8} (hres : rd L = some (t, c :: r')) (hc : c = 41)
 (hf : L.length < f) (hR : Hid (R = (Xe rd f L).map fun p => (ts ++ p.1, p.2))) : R = some (ts ++ [t], r') := by
 rw [hR.out]
 cases f with
 | zero => omega
 | succ f => subst hc; simp [Xe, hres]
theorem it_next {rd : List UInt8 → Option (Tr × List UInt8)} {f : Nat} {L : List UInt8} {ts : List Tr} {R : Option (List Tr × List UInt8)} {t : Tr} {c : UInt8} {r' : List UInt8} (hres : rd L = some (t, c :: r')) (hc : c = 32)
 (hf : L.length < f) (hR : Hid (R = (Xe rd f L).map fun p => (ts ++ p.1, p.2))) : ∃ f', f = f' + 1 ∧ Hid (R = (Xe rd f' r').map fun p => ((ts ++ [t]) ++ p.1, p.2)) := by
 cases f with
 | zero => omega
 | succ f =>
   subst hc
   refine ⟨f, rfl, ?_⟩
   unfold Hid
   rw [hR.out]
   simp [Xe, hres, Function.comp_def]
theorem wfs_snoc {ts : List Tr} {t : Tr} (h : wfs ts) (ht : t.wf) : wfs (ts ++ [t]) := by
 induction ts with
 | nil => exact ⟨ht, trivial⟩
 | cons a ts ih => exact ⟨h.1, ih h.2⟩
theorem Zn {w : World} {base : Nat} {e : TypeId} {size : Nat} {v : Value} {n : Nat} {xs : List Value} (h : w.ownsRow base e size v n xs) : ∃ p c, v = .slice p n c := by
 rcases h.2 with ⟨rfl, rfl⟩ | ⟨g, cap, cur, rfl, _⟩
 · exact ⟨_, _, rfl⟩
 · exact ⟨_, _, rfl⟩
section
variable {P : Program} (w : World)
theorem Z73 (base : Nat) (t ty e : TypeId) (i : TypeInfo) (z : Value) (size bytes : Nat) (ht : P.underlying t = some (.slice e)) (hi : P.info? e = some i) (hz : i.zero = some z)
 (hsize : i.size = size) (hby : i.bytes = bytes) (hzs : z.cells.size = size) (hsz : 0 < size)
 (v : Value) (n : Nat) (xs : List Value) (hown : w.ownsRow base e size v n xs)
 (a : Addr) (news : List Value) (hl : news.length = size) (hnews : ∀ j u, news[j]? = some u → w.cell? (a.add j) = some u) (h1 : ∀ u ∈ news, u.oneCell' = true)
 (h63 : n + 1 ≤ maxLen) (hbytes : (n + 1) * bytes ≤ 140737488355328) (hbase : base ≤ w.heap.size) :
 ∃ g' c' w', (Builtin.append_ #[t, t] ty #[v, .slice (some a) 1 1]).run P w = .ok (.slice (some ⟨g', 0, none⟩) (n + 1) c') w' ∧ w'.ownsRow base e size (.slice (some ⟨g', 0, none⟩) (n + 1) c') (n + 1) (xs ++ news) ∧
   w.grownBy w' v.ownBlock ∧ (v.ownBlock = some g' ∨ g' = w.heap.size) := by
 obtain ⟨v', w', hr, h2, h3, _⟩ := run_append_own (P := P) w base t ty e i z size bytes ht hi hz hsize hby hzs hsz v n xs hown a 1 1 news (by omega) hnews h1 h63 hbytes hbase
 have hsmall : n + 1 ≤ 9223372036854775807 := by simp only [maxLen] at h63; omega
 subst hsize
 subst hby
 rcases hown.2 with ⟨rfl, rfl⟩ | ⟨g, cap, cur, rfl, hbg, hg, hnc, hcm, hcs, htake⟩
 · have hr2 := run_append_nil (P := P) w t ty e i z ht hi hz a 1 1 news (by omega) hnews (by omega) (by omega) (by omega)
   rw [hr] at hr2
   simp only [Result.ok.injEq] at hr2
   obtain ⟨rfl, _⟩ := hr2
   exact ⟨_, _, w', hr, h2, h3, .inr rfl⟩
 · by_cases hroom : n + 1 ≤ cap
   · have hfit : n * i.size + news.length ≤ cur.size := by rw [hl, hcs]; have := Nat.mul_le_mul_right i.size hroom; rw [Nat.add_mul] at this; omega
     have hr2 := run_append_room (P := P) w t ty e i ht hi g n cap cur hg a 1 1 news (by omega) hnews h1 hroom hfit
     rw [hr] at hr2
     simp only [Result.ok.injEq] at hr2
     obtain ⟨rfl, _⟩ := hr2
     exact ⟨_, _, w', hr, h2, h3, .inl rfl⟩
   · have holds : ∀ j u, xs[j]? = some u → w.cell? ((⟨g, 0, none⟩ : Addr).add j) = some u := hown.cells (g := g) rfl
     have hr2 := run_append_grow (P := P) w t ty e i z ht hi hz ⟨g, 0, none⟩ n cap xs hown.1 holds a 1 1 news (by omega) hnews (by omega) (by omega) (growslice_fits (by omega) hbytes)
     rw [hr] at hr2
     simp only [Result.ok.injEq] at hr2
     obtain ⟨rfl, _⟩ := hr2
     exact ⟨_, _, w', hr, h2, h3, .inr rfl⟩
theorem Z3e {o : Oper} {a : Act} {K : Act → World → Prop} {Q : Exit → Act → World → Prop} (s x : Operand) (t : TypeId)
 (ho : o.op = .call { callee := .builtin .append, args := #[s, x], argTypes := #[t, t] })
 (base : Nat) (e : TypeId) (i : TypeInfo) (z : Value) (size bytes : Nat) (ht : P.underlying t = some (.slice e)) (hi : P.info? e = some i) (hz : i.zero = some z)
 (hsize : i.size = size) (hby : i.bytes = bytes) (hzs : z.cells.size = size) (hsz : 0 < size)
 (v : Value) (n : Nat) (xs : List Value) (hs : a.eval s = v) (hown : w.ownsRow base e size v n xs)
 (ad : Addr) (news : List Value) (hx : a.eval x = .slice (some ad) 1 1) (hl : news.length = size) (hnews : ∀ j u, news[j]? = some u → w.cell? (ad.add j) = some u) (h1 : ∀ u ∈ news, u.oneCell' = true)
 (h63 : n + 1 ≤ maxLen) (hbytes : (n + 1) * bytes ≤ 140737488355328) (hbase : base ≤ w.heap.size)
 (h : ∀ g' c' w', w'.ownsRow base e size (.slice (some ⟨g', 0, none⟩) (n + 1) c') (n + 1) (xs ++ news) → w.grownBy w' v.ownBlock → (v.ownBlock = some g' ∨ g' = w.heap.size) → K (a.put o.dst (.slice (some ⟨g', 0, none⟩) (n + 1) c')) w') : o.wp P a w K Q := by
 obtain ⟨g', c', w', hr, h2, h3, h4⟩ := Z73 (P := P) w base t o.type e i z size bytes ht hi hz hsize hby hzs hsz v n xs hown ad news hl hnews h1 h63 hbytes hbase
 unfold Oper.wp execOp
 simp only [ho, resolve, invoke, builtin, Sem.run_bind, Sem.run_pure, Result.andThen_ok, List.map_toArray, List.map_cons, List.map_nil, hs, hx, hr]
 exact h g' c' w' h2 h3 h4
theorem Zm {ops : Array Oper} {rest : List Oper} {o : Oper} {a : Act} {Q : Exit → Act → World → Prop} (hgd : o.guard = none) (s x : Operand) (t : TypeId)
 (ho : o.op = .call { callee := .builtin .append, args := #[s, x], argTypes := #[t, t] })
 (base : Nat) (e : TypeId) (i : TypeInfo) (z : Value) (size bytes : Nat) (ht : P.underlying t = some (.slice e)) (hi : P.info? e = some i) (hz : i.zero = some z)
 (hsize : i.size = size) (hby : i.bytes = bytes) (hzs : z.cells.size = size) (hsz : 0 < size)
 (v : Value) (n : Nat) (xs : List Value) (hs : a.eval s = v) (hown : w.ownsRow base e size v n xs)
 (ad : Addr) (news : List Value) (hx : a.eval x = .slice (some ad) 1 1) (hl : news.length = size) (hnews : ∀ j u, news[j]? = some u → w.cell? (ad.add j) = some u) (h1 : ∀ u ∈ news, u.oneCell' = true)
 (h63 : n + 1 ≤ maxLen) (hbytes : (n + 1) * bytes ≤ 140737488355328) (hbase : base ≤ w.heap.size)
 (h : ∀ g' c' w', w'.ownsRow base e size (.slice (some ⟨g', 0, none⟩) (n + 1) c') (n + 1) (xs ++ news) → w.grownBy w' v.ownBlock → (v.ownBlock = some g' ∨ g' = w.heap.size) → wpList P ops Q rest (a.put o.dst (.slice (some ⟨g', 0, none⟩) (n + 1) c')) w') : wpList P ops Q (o :: rest) a w :=
 wpList_plain hgd fun _ hK => Z3e w s x t ho base e i z size bytes ht hi hz hsize hby hzs hsz v n xs hs hown ad news hx hl hnews h1 h63 hbytes hbase fun g' c' w' h2 h3 h4 => hK _ _ (h g' c' w' h2 h3 h4)
theorem Z6a {ops : Array Oper} {o : Oper} {a : Act} {K : Act → World → Prop} {Q : Exit → Act → World → Prop} {E : Prop} (hgd : o.guard = none) (s x : Operand) (t : TypeId)
 (ho : o.op = .call { callee := .builtin .append, args := #[s, x], argTypes := #[t, t] })
 (base : Nat) (e : TypeId) (i : TypeInfo) (z : Value) (size bytes : Nat) (ht : P.underlying t = some (.slice e)) (hi : P.info? e = some i) (hz : i.zero = some z)
 (hsize : i.size = size) (hby : i.bytes = bytes) (hzs : z.cells.size = size) (hsz : 0 < size)
 (v : Value) (n : Nat) (xs : List Value) (hs : a.eval s = v) (hown : w.ownsRow base e size v n xs)
 (ad : Addr) (news : List Value) (hx : a.eval x = .slice (some ad) 1 1) (hl : news.length = size) (hnews : ∀ j u, news[j]? = some u → w.cell? (ad.add j) = some u) (h1 : ∀ u ∈ news, u.oneCell' = true)
 (h63 : n + 1 ≤ maxLen) (hbytes : (n + 1) * bytes ≤ 140737488355328) (hbase : base ≤ w.heap.size) (H : Nat) (hH : w.heap.size = H)
 (h : ∀ g' c' w', w'.ownsRow base e size (.slice (some ⟨g', 0, none⟩) (n + 1) c') (n + 1) (xs ++ news) → w.grownBy w' v.ownBlock → (v.ownBlock = some g' ∨ g' = H) → K (a.put o.dst (.slice (some ⟨g', 0, none⟩) (n + 1) c')) w') :
 if Region.wanted o (yielded ops a.tmps) = true then Oper.wp P o a w K Q else E := by
 have hw : Region.wanted o (yielded ops a.tmps) = true := by simp [Region.wanted, hgd]
 rw [if_pos hw]
 subst hH
 exact Z3e w s x t ho base e i z size bytes ht hi hz hsize hby hzs hsz v n xs hs hown ad news hx hl hnews h1 h63 hbytes hbase h
end
theorem Xr {w : World} {b : Nat} {cs : Array Value} {t : TypeId} (h : w.heap[b]? = some (.cells cs t (0, 0))) : ∀ j u, cs.toList[j]? = some u → w.cell? ((⟨b, 0, none⟩ : Addr).add j) = some u := by
 intro j u hj
 have hadd : (⟨b, 0, none⟩ : Addr).add j = ⟨b, j, none⟩ := by unfold Addr.add; split <;> simp_all
 rw [hadd, Z4 h]; simpa using hj
theorem Z8 {w : World} {b : Nat} {o o' : Obj} (h : w.heap[b]? = some o) : (w.alloc o').heap[b]? = some o := by rw [heap_alloc_old (h := lt_of_block h)]; exact h
theorem Jg (w : World) (a : Obj) : (w.alloc a).heap.size = w.heap.size + 1 := by simp
theorem Za (w : World) (a b : Obj) : ((w.alloc a).alloc b).heap[w.heap.size + 1]? = some b := by simpa using heap_alloc_new (w.alloc a) b
theorem Ku {w w2 : World} {a b : Obj} {row : Option Nat} (h : ((w.alloc a).alloc b).grownBy w2 row) : w.heap.size + 2 ≤ w2.heap.size := by have := h.size; simp only [Jg] at this; omega
theorem Yc {W w2 : World} {row : Option Nat} (hg : W.grownBy w2 row) {b : Nat} {o : Obj} (ho : W.heap[b]? = some o) (hne : row ≠ some b) : w2.heap[b]? = some o := by rw [hg.block b (lt_of_block ho) (fun e => hne e.symm)]; exact ho
theorem Yu {w : World} {b j : Nat} {cs : Array Value} {t : TypeId} (h : w.heap[b]? = some (.cells cs t (0, 0))) (v : Value) : (w.setCell ⟨b, j, none⟩ v).heap[b]? = some (.cells (cs.setIfInBounds j v) t (0, 0)) := by
 have hlt := lt_of_block h
 have h' : w.heap[b] = .cells cs t (0, 0) := by simpa [Array.getElem?_eq_getElem hlt] using h
 show (w.heap.modify b _)[b]? = _
 rw [Array.getElem?_eq_getElem (by simpa using hlt), Array.getElem_modify_self, h']
 rfl
theorem Z3 {w : World} {b : Nat} {a : Addr} (v : Value) (hne : b ≠ a.block) : (w.setCell a v).heap[b]? = w.heap[b]? := Below.heap_setCell _ _ _ _ hne
theorem Xq {w : World} {base : Nat} {e : TypeId} {size : Nat} {v : Value} {n : Nat} {xs : List Value} (h : w.ownsRow base e size v n xs) {b : Nat} (hb : b < base) : v.ownBlock ≠ some b := fun e => by have := h.lt b e; omega
theorem X4 {w : World} {base : Nat} {e : TypeId} {size : Nat} {g c n : Nat} {xs : List Value} (h : w.ownsRow base e size (.slice (some ⟨g, 0, none⟩) n c) n xs) : Yv w g 0 xs := by
 intro j v hj
 have := h.cells (g := g) rfl j v hj
 have hadd : (⟨g, 0, none⟩ : Addr).add j = ⟨g, j, none⟩ := by unfold Addr.add; split <;> simp_all
 rw [hadd] at this
 rw [Nat.zero_add]; exact this
theorem Xx {w : World} {base : Nat} {e : TypeId} {size : Nat} {p : Option Addr} {c n : Nat} {xs : List Value} (h : w.ownsRow base e size (.slice p n c) n xs) : n ≤ c ∧ c ≤ maxLen := by
 rcases h.2 with ⟨h1, h2⟩ | ⟨g, cap, cur, h1, _, _, h2, h3, _⟩
 · simp only [Value.slice.injEq] at h1; rw [h1.2.2, h2]; exact ⟨Nat.le_refl _, Nat.zero_le _⟩
 · simp only [Value.slice.injEq] at h1; rw [h1.2.2]; exact ⟨h2, h3⟩
theorem FVs.grown {nd : Tr → Value → List Value} {w W w2 : World} {N : Nat} {v v' : Value} {g' : Nat} {ts : List Tr} {xs : List Value}
 (h : FVs nd w (fun q => N ≤ q ∧ q < w.heap.size ∧ v.ownBlock ≠ some q) ts xs) (hb : Below w.heap.size w W) (hg : W.grownBy w2 v.ownBlock) (hv : v'.ownBlock = some g') (hgg : v.ownBlock = some g' ∨ g' = W.heap.size) :
 FVs nd w2 (fun q => N ≤ q ∧ q < w2.heap.size ∧ v'.ownBlock ≠ some q) ts xs := by
 refine FVs.move ?_ ?_ ts xs h
 · rintro q ⟨h1, h2, h3⟩
   refine ⟨h1, Nat.lt_of_lt_of_le h2 (Nat.le_trans hb.size hg.size), ?_⟩
   rw [hv]
   rcases hgg with hgg | hgg
   · rw [← hgg]; exact h3
   · intro e
     have := hb.size
     simp only [Option.some.injEq] at e
     omega
 · rintro q ⟨h1, h2, h3⟩
   rw [hg.block q (Nat.lt_of_lt_of_le h2 hb.size) (fun e => h3 e.symm), hb.block q h2]
theorem FV.grown {nd : Tr → Value → List Value} {w w' W w2 : World} {N : Nat} {v v' : Value} {g' : Nat} {t : Tr} {cs : List Value}
 (h : FV nd w' (fun q => w.heap.size ≤ q ∧ q < w'.heap.size) t cs) (hN : N ≤ w.heap.size) (hb : Below w'.heap.size w' W) (hg : W.grownBy w2 v.ownBlock) (hv : v'.ownBlock = some g') (hgg : v.ownBlock = some g' ∨ g' = W.heap.size)
 (hold : ∀ q, v.ownBlock = some q → q < w.heap.size) :
 FV nd w2 (fun q => N ≤ q ∧ q < w2.heap.size ∧ v'.ownBlock ≠ some q) t cs := by
 refine FV.move ?_ ?_ t cs h
 · rintro q ⟨h1, h2⟩
   refine ⟨by omega, Nat.lt_of_lt_of_le h2 (Nat.le_trans hb.size hg.size), ?_⟩
   rw [hv]
   intro e
   simp only [Option.some.injEq] at e
   subst e
   rcases hgg with hgg | hgg
   · have := hold _ hgg; omega
   · have := hb.size; omega
 · rintro q ⟨h1, h2⟩
   rw [hg.block q (Nat.lt_of_lt_of_le h2 hb.size) (fun e => by have := hold q e.symm; omega), hb.block q h2]
theorem Jo (t : Tr) : ∃ u x y z, u = bs (Z1 t) ∧ x = (t.bytes : Int) ∧ y = (t.size : Int) ∧ z = (t.depth : Int) ∧ ∀ v, nI t v = [.string u, v, .int .i64 x, .int .i64 y, .int .i64 z] := ⟨_, _, _, _, rfl, rfl, rfl, rfl, fun _ => rfl⟩
theorem Yz (w : World) (a b c : Obj) : (((w.alloc a).alloc b).alloc c).heap[w.heap.size]? = some a ∧ (((w.alloc a).alloc b).alloc c).heap[w.heap.size + 1]? = some b ∧ (((w.alloc a).alloc b).alloc c).heap[w.heap.size + 2]? = some c :=
 ⟨Z8 (Z8 (heap_alloc_new _ _)), Z8 (Za _ _ _), by have := Za (w.alloc a) b c; simpa using this⟩
theorem set5 {B : Nat} {w w' : World} {b : Nat} (h : Below B w w') (hb : B ≤ b) (v0 v1 v2 v3 v4 : Value) : Below B w (((((w'.setCell ⟨b, 0, none⟩ v0).setCell ⟨b, 1, none⟩ v1).setCell ⟨b, 2, none⟩ v2).setCell ⟨b, 3, none⟩ v3).setCell ⟨b, 4, none⟩ v4) :=
 ((((h.setCell hb _).setCell hb _).setCell hb _).setCell hb _).setCell hb _
theorem Xm {w w1 : World} (h : Below w.heap.size w w1) : Below w.heap.size w w1 ∧ w.heap.size ≤ w1.heap.size := ⟨h, h.size⟩
theorem X9 {N : Nat} {a b c : World} (h : Below N a b ∧ N ≤ b.heap.size) (k : Below b.heap.size b c) : Below N a c ∧ N ≤ c.heap.size := ⟨h.1.trans (k.mono h.2), Nat.le_trans h.2 k.size⟩
def Q1 : Tr → Bool
 | .atom a => a == [105]
 | .list [h, a, b] => (Z1 h == [62] || Z1 h == [42]) && Q1 a && Q1 b
 | .list _ => false
def tyOrder : Tr → Nat
 | .list [h, a, b] => max (tyOrder a + if Z1 h = [62] then 1 else 0) (tyOrder b)
 | _ => 0
theorem Z5g (a : List UInt8) : Q1 (.atom a) = (a == [105]) := by simp [Q1]
theorem Z1p (h a b : Tr) : Q1 (.list [h, a, b]) = ((Z1 h == [62] || Z1 h == [42]) && Q1 a && Q1 b) := by rw [Q1]
theorem Z47 (ts : List Tr) (h : ts.length ≠ 3) : Q1 (.list ts) = false := by
 match ts, h with
 | [], _ => simp [Q1]
 | [_], _ => simp [Q1]
 | [_, _], _ => simp [Q1]
 | [_, _, _], h => exact absurd rfl h
 | _ :: _ :: _ :: _ :: _, _ => simp [Q1]
theorem Z0d {ts : List Tr} (h : Q1 (.list ts) = true) : ∃ x a b, ts = [x, a, b] ∧ (Z1 x = [62] ∨ Z1 x = [42]) ∧ Q1 a = true ∧ Q1 b = true := by
 by_cases h3 : ts.length = 3
 · match ts, h3 with
   | [x, a, b], _ =>
     rw [Z1p] at h
     simp only [Bool.and_eq_true, Bool.or_eq_true, beq_iff_eq] at h
     exact ⟨x, a, b, rfl, h.1.1, h.1.2, h.2⟩
 · rw [Z47 ts h3] at h; cases h
theorem Z25 {ts : List Tr} (h : ts.length = 3) : ∃ x a b, ts = [x, a, b] := by
 match ts, h with
 | [x, a, b], _ => exact ⟨x, a, b, rfl⟩
theorem Z1t (x a b : Tr) : x.depth < (Tr.list [x, a, b]).depth ∧ a.depth < (Tr.list [x, a, b]).depth ∧ b.depth < (Tr.list [x, a, b]).depth := by
 simp only [Tr.depth, Ys]; omega
theorem FVs.three {nd : Tr → Value → List Value} {k : Nat} (hn : ∀ t p, (nd t p).length = k) {w : World} {ok : Nat → Prop} {x a b : Tr} {xs : List Value} {r off : Nat} (h : FVs nd w ok [x, a, b] xs) (hr : Yv w r off xs) :
 (∃ p n c, FV nd w ok x (nd x (.slice p n c)) ∧ Yv w r off (nd x (.slice p n c))) ∧ (∃ p n c, FV nd w ok a (nd a (.slice p n c)) ∧ Yv w r (off + k) (nd a (.slice p n c))) ∧
   ∃ p n c, FV nd w ok b (nd b (.slice p n c)) ∧ Yv w r (off + 2 * k) (nd b (.slice p n c)) := by
 obtain ⟨c0, g0, r0⟩ := FVs.get hn h hr 0 (by simp)
 obtain ⟨c1, g1, r1⟩ := FVs.get hn h hr 1 (by simp)
 obtain ⟨c2, g2, r2⟩ := FVs.get hn h hr 2 (by simp)
 simp only [List.getElem_cons_zero, List.getElem_cons_succ] at g0 g1 g2
 obtain ⟨p0, n0, q0, rfl⟩ := g0.node
 obtain ⟨p1, n1, q1, rfl⟩ := g1.node
 obtain ⟨p2, n2, q2, rfl⟩ := g2.node
 refine ⟨⟨p0, n0, q0, g0, ?_⟩, ⟨p1, n1, q1, g1, ?_⟩, ⟨p2, n2, q2, g2, r2⟩⟩
 · simpa using r0
 · simpa using r1
def Qk (l : List UInt8) : Option Tr :=
 match Zt l with
 | none => none
 | some t => if (Q1 t && decide (t.size ≤ 16)) = true then some t else none
theorem Z5u {l : List UInt8} (h : Zt l = none) : Qk l = none := by simp [Qk, h]
theorem Z5t {l : List UInt8} {t : Tr} (h : Zt l = some t) : Qk l = if (Q1 t && decide (t.size ≤ 16)) = true then some t else none := by simp [Qk, h]
def orderOf (l : List UInt8) : Int := match Qk l with | some t => (tyOrder t : Int) | none => -1
def Xf (l : List UInt8) : Int := match Zt l with | some t => (t.size : Int) | none => -1
def depthOfText (l : List UInt8) : Int := match Zt l with | some t => (t.depth : Int) | none => -1
theorem Z74 {l : List UInt8} {t : Tr} (h : Qk l = some t) : t.wf ∧ t.bytes ≤ 12000 ∧ t.depth ≤ 60 ∧ l = t.text ∧ Q1 t = true ∧ t.size ≤ 16 := by
 unfold Qk at h
 cases hp : Zt l with
 | none => rw [hp] at h; cases h
 | some t' =>
   rw [hp] at h
   simp only at h
   split at h
   · rename_i ht
     simp only [Option.some.injEq] at h
     subst h
     simp only [Bool.and_eq_true, decide_eq_true_eq] at ht
     have g := Yk hp
     exact ⟨g.1, g.2.1, g.2.2.1, g.2.2.2, ht.1, ht.2⟩
   · cases h
def Z0z (hd : List UInt8) : Tr → Option (List UInt8 × List UInt8)
 | .list [x, a, b] => if Z1 x = hd then some (a.text, b.text) else none
 | _ => none
def Kg (hd : List UInt8) (l : List UInt8) : Option (List UInt8 × List UInt8) := (Qk l).bind (Z0z hd)
theorem Z72 (hd : List UInt8) {l : List UInt8} (h : Qk l = none) : Kg hd l = none := by simp [Kg, h]
theorem sides_atom (hd : List UInt8) {l : List UInt8} {a : List UInt8} (h : Qk l = some (.atom a)) : Kg hd l = none := by simp [Kg, h, Z0z]
theorem sides_no (hd : List UInt8) {l : List UInt8} {x a b : Tr} (h : Qk l = some (.list [x, a, b])) (hx : ¬ Z1 x = hd) : Kg hd l = none := by simp [Kg, h, Z0z, hx]
theorem sides_yes (hd : List UInt8) {l : List UInt8} {x a b : Tr} (h : Qk l = some (.list [x, a, b])) (hx : Z1 x = hd) : Kg hd l = some (a.text, b.text) := by simp [Kg, h, Z0z, hx]
theorem bytes3 (x a b : Tr) : x.bytes < (Tr.list [x, a, b]).bytes ∧ a.bytes < (Tr.list [x, a, b]).bytes ∧ b.bytes < (Tr.list [x, a, b]).bytes := by
 simp only [Tr.bytes, Zi]; omega
theorem FV.list_cells {nd : Tr → Value → List Value} {w : World} {ok : Nat → Prop} {ts : List Tr} {cs : List Value} (h : FV nd w ok (.list ts) cs) :
 ∃ r off cap xs, cs = nd (.list ts) (.slice (some ⟨r, off, none⟩) ts.length cap) ∧ ok r ∧ ts.length ≤ cap ∧ cap ≤ maxLen ∧ Yv w r off xs ∧ FVs nd w ok ts xs := by simpa only [FV] using h
theorem FV.wide {nd : Tr → Value → List Value} {w : World} {ok ok' : Nat → Prop} {t : Tr} {cs : List Value} (h : FV nd w ok t cs) (hk : ∀ k, ok k → ok' k) : FV nd w ok' t cs := FV.move hk (fun _ _ => rfl) t cs h
def TwoPost (r : Option (List UInt8 × List UInt8)) (e : Ending) : Prop :=
 match r with
 | none => e = .returned (.tuple #[.string ⟨#[]⟩, .string ⟨#[]⟩, .bool false])
 | some (a, b) => e = .returned (.tuple #[.string (bs a), .string (bs b), .bool true])
theorem Z3f {p : UInt8 → Bool} : ∀ {a r : List UInt8}, (∀ b ∈ a, p b = true) → (∀ c r', r = c :: r' → p c = false) → (a ++ r).takeWhile p = a ∧ (a ++ r).dropWhile p = r
 | [], [], _, _ => by simp
 | [], c :: r', _, hr => by simp [hr c r' rfl]
 | a :: bs1, r, ha, hr => by
   have h1 := ha a (by simp)
   have ih := Z3f (a := bs1) (r := r) (fun b hb => ha b (by simp [hb])) hr
   simp only [List.cons_append, List.takeWhile_cons, List.dropWhile_cons, h1, if_true, ih.1, ih.2, and_self]
def Stop (t : Tr) (r : List UInt8) : Prop := ∀ a, t = .atom a → ∀ c r', r = c :: r' → J3 c = false
theorem stop_of {t : Tr} {c : UInt8} {r : List UInt8} (h : J3 c = false) : Stop t (c :: r) := fun _ _ c' r' e => by simp only [List.cons.injEq] at e; rw [← e.1]; exact h
theorem Z7p {d : Nat} (h : ∀ t : Tr, t.wf → t.depth < d → ∀ r, Stop t r → X8 d (t.text ++ r) = some (t, r)) :
 ∀ (ts : List Tr) (n : Nat) (r : List UInt8), ts ≠ [] → wfs ts → Ys ts ≤ d → (Xn ts ++ 41 :: r).length < n → Xe (X8 d) n (Xn ts ++ 41 :: r) = some (ts, r)
 | [], _, _, h0, _, _, _ => absurd rfl h0
 | _, 0, _, _, _, _, hn => by omega
 | [t], n + 1, r, _, hw, hd, hn => by
   simp only [Ys] at hd
   rw [Xe]
   simp only [Xn]
   rw [h t hw.1 (by omega) _ (stop_of (by decide))]
   simp
 | t :: t' :: ts, n + 1, r, _, hw, hd, hn => by
   rw [Xe]
   have hd' := hd
   simp only [Ys] at hd'
   simp only [Xn, List.append_assoc, List.cons_append] at hn ⊢
   rw [h t hw.1 (by omega) _ (stop_of (by decide))]
   have hlt := Q9 t hw.1
   have htl := Y4 t hw.1
   have ih := Z7p h (t' :: ts) n r (by simp) hw.2 (by simp only [Ys] at hd ⊢; omega) (by simp only [List.length_append, List.length_cons] at hn ⊢; omega)
   simp [ih]
theorem Z31 : ∀ (d : Nat) (t : Tr), t.wf → t.depth < d → ∀ r, Stop t r → X8 d (t.text ++ r) = some (t, r)
 | 0, _, _, h, _, _ => by omega
 | d + 1, .atom a, hw, hd, r, hs => by
   have h1 := Z3f (p := J3) (a := a) (r := r) hw.2 (hs a rfl)
   obtain ⟨c, a', rfl⟩ : ∃ c a', a = c :: a' := by
    cases a with
    | nil => exact absurd rfl hw.1
    | cons c a' => exact ⟨c, a', rfl⟩
   simp only [Tr.text, List.cons_append] at h1 ⊢
   rw [Z15 _ _ _ (by intro e; have := hw.2 c (by simp); rw [e] at this; revert this; decide)]
   unfold Xz
   rw [h1.1, h1.2, if_neg (by simp)]
 | d + 1, .list ts, hw, hd, r, hs => by
   simp only [Tr.text, List.cons_append, List.append_assoc, List.nil_append]
   rw [Z32]
   simp only [Tr.depth] at hd
   rw [Z7p (Z31 d) ts _ r hw.1 hw.2 (by omega) (by omega)]
   simp
theorem Z1j {t : Tr} (hw : t.wf) (hb : t.bytes ≤ 12000) (hd : t.depth ≤ 60) : Zt t.text = some t := by
 have h := Z31 61 t hw (by omega) [] (fun _ _ c r' e => by cases e)
 rw [List.append_nil] at h
 have hl := Y4 t hw
 unfold Zt
 rw [if_neg (by omega), h]
theorem Z1z {t : Tr} (hw : t.wf) (h : ¬ (t.bytes ≤ 12000 ∧ t.depth ≤ 60)) : Zt t.text = none := by
 have hl := Y4 t hw
 cases hp : Zt t.text with
 | none => rfl
 | some t' =>
   obtain ⟨g1, g2, g3, g4⟩ := Yk hp
   exfalso
   have e1 := Z31 (t.depth + t'.depth + 1) t hw (by omega) [] (fun _ _ c r' e => by cases e)
   have e2 := Z31 (t.depth + t'.depth + 1) t' g1 (by omega) [] (fun _ _ c r' e => by cases e)
   rw [← g4, e1] at e2
   simp only [Option.some.injEq, Prod.mk.injEq, and_true] at e2
   subst e2
   exact h ⟨g2, g3⟩
theorem Vi : ∀ (n : Nat) (t : Tr), t.depth ≤ n → Q1 t = true → t.bytes ≤ 5 * t.size ∧ t.depth ≤ t.size ∧ t.wf
 | _, .atom a, _, h => by
   rw [Z5g] at h
   simp only [beq_iff_eq] at h
   subst h
   exact ⟨by simp [Tr.bytes, Tr.size], by simp [Tr.depth], by simp, by decide⟩
 | 0, .list ts, hd, h => by
   match ts, h with
   | [], h => simp [Q1] at h
   | t :: ts, _ => simp only [Tr.depth, Ys] at hd; omega
 | n + 1, .list ts, hd, h => by
   obtain ⟨x, a, b, rfl, hx, ha, hb⟩ := Z0d h
   have hdd := Z1t x a b
   obtain ⟨a1, a2, a3⟩ := Vi n a (by omega) ha
   obtain ⟨b1, b2, b3⟩ := Vi n b (by omega) hb
   have hxa : ∃ c, x = .atom [c] ∧ J3 c = true := by
    match x, hx with
    | .atom y, hx => rcases hx with hx | hx <;> simp only [Z1] at hx <;> subst hx <;> exact ⟨_, rfl, by decide⟩
    | .list _, hx => rcases hx with hx | hx <;> cases hx
   obtain ⟨c, rfl, hc⟩ := hxa
   refine ⟨?_, ?_, ?_⟩
   · simp only [Tr.bytes, Zi, Tr.size, Yd, List.length_cons, List.length_nil] at *; omega
   · simp only [Tr.depth, Ys, Tr.size, Yd] at *; omega
   · exact ⟨by simp, ⟨by simp, by simpa using hc⟩, a3, b3, trivial⟩
def makeT (c : UInt8) (a b : List UInt8) : Option Tr :=
 match Qk a, Qk b with
 | some ta, some tb => if 1 + ta.size + tb.size ≤ 16 then some (.list [.atom [c], ta, tb]) else none
 | _, _ => none
def MakePost (r : Option Tr) (e : Ending) : Prop :=
 match r with
 | none => e = .returned (.tuple #[.string ⟨#[]⟩, .bool false])
 | some t => e = .returned (.tuple #[.string (bs t.text), .bool true])
end Go.Proofs.YtjaaalojcdbcpaaGreatDoor
