/- Rows of texts of one's own, apart from each other: some are made, others grow. -/
import Derived.Test.YtjaaalojcdbcpaaGreatDoorpRegInv
import Derived.Test.YtjaaalojcdbcpaaGreatDoorpImpl2ma
import Derived.Test.YtjaaalojcdbcpaaGreatDoorpS1z
import Derived.Test.YtjaaalojcdbcpaaGreatDoorpDraw3M
set_option maxHeartbeats 20000000
set_option linter.unusedVariables false
set_option linter.unusedSimpArgs false
namespace Go.Proofs.YtjaaalojcdbcpaaGreatDoor
open Go.RowKit Go.Proofs.Tryz
set_option maxRecDepth 8000
theorem owns_stay {w w' : World} {base : Nat} {e : TypeId} {size : Nat} {v : Value} {n : Nat} {xs : List Value} (h : w.ownsRow base e size v n xs) (hs : ∀ q, v.ownBlock = some q → w'.heap[q]? = w.heap[q]?) : w'.ownsRow base e size v n xs := by
 refine ⟨h.1, ?_⟩
 rcases h.2 with h0 | ⟨g, cap, cur, rfl, h0, h3, h1, h2, h4, h5⟩
 · exact .inl h0
 · exact .inr ⟨g, cap, cur, rfl, h0, by rw [hs g rfl]; exact h3, h1, h2, h4, h5⟩
structure Slots (w : World) (base : Nat) (S : Nat → Option (Value × List Nm)) : Prop where
 own : ∀ i v l, S i = some (v, l) → w.ownsRow base 9 1 v l.length (l.map Y2)
 apart : ∀ i j v l u k q, i ≠ j → S i = some (v, l) → S j = some (u, k) → v.ownBlock = some q → u.ownBlock ≠ some q
def Jd (S : Nat → Option (Value × List Nm)) (i : Nat) (x : Value × List Nm) : Nat → Option (Value × List Nm) := fun j => if j = i then some x else S j
theorem Yw (S : Nat → Option (Value × List Nm)) (i : Nat) (x : Value × List Nm) : Jd S i x i = some x := by simp [Jd]
theorem Xg {S : Nat → Option (Value × List Nm)} {i j : Nat} (x : Value × List Nm) (h : j ≠ i) : Jd S i x j = S j := by simp [Jd, h]
theorem Slots.start (w : World) (base : Nat) : Slots w base (fun _ => none) := ⟨fun i v l h => (by cases h), fun i j v l u k q _ h => (by cases h)⟩
theorem Slots.stay {w w' : World} {base : Nat} {S : Nat → Option (Value × List Nm)} (h : Slots w base S) (hs : ∀ q, base ≤ q → q < w.heap.size → w'.heap[q]? = w.heap[q]?) : Slots w' base S :=
 ⟨fun i v l e => owns_stay (h.own i v l e) (fun q hq => hs q (Zu (h.own i v l e) hq).1 (Zu (h.own i v l e) hq).2), h.apart⟩
theorem Slots.put {w w' : World} {base : Nat} {S : Nat → Option (Value × List Nm)} (h : Slots w base S) (i : Nat) (v' : Value) (l' : List Nm) (ho : w'.ownsRow base 9 1 v' l'.length (l'.map Y2))
 (hs : ∀ j v l q, j ≠ i → S j = some (v, l) → v.ownBlock = some q → w'.heap[q]? = w.heap[q]? ∧ v'.ownBlock ≠ some q) : Slots w' base (Jd S i (v', l')) := by
 refine ⟨fun j v l e => ?_, fun j k v l u m q hjk e1 e2 hq => ?_⟩
 · by_cases hj : j = i
   · subst hj
     rw [Yw] at e
     cases e
     exact ho
   · rw [Xg _ hj] at e
     exact owns_stay (h.own j v l e) (fun q hq => (hs j v l q hj e hq).1)
 · by_cases hj : j = i
   · subst hj
     rw [Yw] at e1
     cases e1
     have hk : k ≠ j := fun e => hjk e.symm
     rw [Xg _ hk] at e2
     intro hu
     exact (hs k u m q hk e2 hu).2 hq
   · rw [Xg _ hj] at e1
     by_cases hk : k = i
     · subst hk
       rw [Yw] at e2
       cases e2
       exact (hs j v l q hj e1 hq).2
     · rw [Xg _ hk] at e2
       exact h.apart j k v l u m q hjk e1 e2 hq
theorem Slots.make {w : World} {base : Nat} {S : Nat → Option (Value × List Nm)} (h : Slots w base S) (hb : base ≤ w.heap.size) (i : Nat) (l : List Nm) (hl : l.length ≤ 1000000) :
 Slots (w.alloc (.cells (l.map Y2).toArray 9)) base (Jd S i (.slice (some ⟨w.heap.size, 0, none⟩) l.length l.length, l)) := by
 refine h.put i _ l ⟨by simp, .inr ⟨w.heap.size, l.length, (l.map Y2).toArray, rfl, hb, heap_alloc_new _ _, Nat.le_refl _, by unfold maxLen; omega, by simp, ?_⟩⟩ (fun j v k q hj e hq => ?_)
 · rw [List.take_of_length_le (by simp)]
 · have := (Zu (h.own j v k e) hq).2
   refine ⟨heap_alloc_old _ _ this, ?_⟩
   simp only [Value.ownBlock, ne_eq, Option.some.injEq]
   omega
theorem Slots.grow {w w' : World} {base : Nat} {S : Nat → Option (Value × List Nm)} (h : Slots w base S) {i : Nat} {v v' : Value} {l l' : List Nm} (e : S i = some (v, l)) (ho : w'.ownsRow base 9 1 v' l'.length (l'.map Y2)) (hg : w.grownBy w' v.ownBlock)
 (hv : v'.ownBlock = v.ownBlock ∨ v'.ownBlock = some w.heap.size) : Slots w' base (Jd S i (v', l')) := by
 refine h.put i v' l' ho (fun j u k q hj e2 hq => ?_)
 have hlt := (Zu (h.own j u k e2) hq).2
 have hne : v.ownBlock ≠ some q := fun hv0 => h.apart i j v l u k q (fun q => hj q.symm) e e2 hv0 hq
 refine ⟨hg.block q hlt (fun q0 => hne q0.symm), ?_⟩
 rcases hv with hv | hv
 · rw [hv]; exact hne
 · rw [hv]; simp only [ne_eq, Option.some.injEq]; omega
end Go.Proofs.YtjaaalojcdbcpaaGreatDoor
