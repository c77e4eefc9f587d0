/- Rows of names: appends, lists without some names; the ends of walks. -/
import Derived.Test.YtjfjlfhckfoehaaGreatDoorImpl2l
import Derived.Deep.RegionLaw
namespace Go.Proofs.YtjfjlfhckfoehaaGreatDoor
open Go.RowKit
set_option maxRecDepth 8000
set_option linter.unusedSimpArgs false
set_option linter.unusedVariables false
theorem own_kept {w w' : World} {base : Nat} {e : TypeId} {size : Nat} {v : Value} {n : Nat} {xs : List Value} {row : Option Nat} (h : w.ownsRow base e size v n xs) (hg : w.grownBy w' row) (hne : ∀ k, v.ownBlock = some k → row ≠ some k) : w'.ownsRow base e size v n xs := by
  refine ⟨h.1, ?_⟩
  rcases h.2 with ⟨rfl, h0⟩ | ⟨g, cap, cur, rfl, hb, hgg, h1, h2, h3, h4⟩
  · exact .inl ⟨rfl, h0⟩
  · exact .inr ⟨g, cap, cur, rfl, hb, by rw [hg.block g (lt_of_block hgg) (fun e => hne g rfl e.symm)]; exact hgg, h1, h2, h3, h4⟩
theorem let_fin {w w2 W w4 : World} {v2 v3 : Value} {P : List Nm} {base2 base3 n : Nat} {xs : List Value} (ho2 : w2.ownsRow base2 9 1 v2 P.length (P.map strV)) (hb2 : w.heap.size ≤ base2) (k2 : Below w.heap.size w w2)
    (h23 : Below w2.heap.size w2 W) (ho3 : W.ownsRow base3 9 1 v3 n xs) (hb3 : w2.heap.size ≤ base3) (hg4 : W.grownBy w4 v3.ownBlock) : Below w.heap.size w w4 ∧ w4.ownsRow w.heap.size 9 1 v2 P.length (P.map strV) := by
  have hk := k2.size
  refine ⟨below_grown2 k2 h23 hg4 (fun k hk2 => by have := (own_lt ho3 hk2).1; omega), ?_⟩
  refine own_kept (own_kept (row := none) (owns_base ho2 hb2) ⟨h23.os, h23.tape, h23.output, h23.size, fun k hk _ => h23.block k hk⟩ (fun _ _ => by simp)) hg4 (fun k hk1 hk2 => ?_)
  have h1 := (own_lt ho2 hk1).2
  have h2 := (own_lt ho3 hk2).1
  omega
theorem let_end {w w4 w5 : World} {v2 v5 : Value} {P Q : List Nm} (h4 : Below w.heap.size w w4) (ho : w4.ownsRow w.heap.size 9 1 v2 P.length (P.map strV)) (hg : w4.grownBy w5 v2.ownBlock) (ho5 : w5.ownsRow w.heap.size 9 1 v5 (P ++ Q).length ((P ++ Q).map strV)) : FpPost w (P ++ Q) (.returned v5) w5 :=
  ⟨⟨v5, rfl, ho5⟩, below_grown2 h4 (Below.refl _ _) hg (fun k hk => (own_lt ho hk).1)⟩
theorem step_append_str {P : Program} (w : World) {ops : Array Oper} {o : Oper} {a : Act} {K : Act → World → Prop} {Q : Exit → Act → World → Prop} {E : Prop} (hgd : o.guard = none) (s x : Operand) (t : TypeId)
    (ho : o.op = .call { callee := .builtin .append, args := #[s, x], argTypes := #[t, t] })
    (base : Nat) (e : TypeId) (i : TypeInfo) (ht : P.underlying t = some (.slice e)) (hi : P.info? e = some i) (hz : i.zero = some (.string ⟨#[]⟩)) (hsize : i.size = 1) (hby : i.bytes = 16)
    (v : Value) (l : List (List UInt8)) (hs : a.eval s = v) (hown : w.ownsRow base e 1 v l.length (l.map strV))
    (u : Value) (m : List (List UInt8)) (hx : a.eval x = u) (hu : StrS w u m) (hb : l.length + m.length ≤ 1000000) (hbase : base ≤ w.heap.size)
    (h : ∀ v' w', w'.ownsRow base e 1 v' (l ++ m).length ((l ++ m).map strV) → w.grownBy w' v.ownBlock → (v'.ownBlock = v.ownBlock ∨ v'.ownBlock = some w.heap.size) → K (a.put o.dst v') w') :
    if Region.wanted o (yielded ops a.tmps) = true then Oper.wp P o a w K Q else E := by
  have hw : Region.wanted o (yielded ops a.tmps) = true := by simp [Region.wanted, hgd]
  rw [if_pos hw]
  obtain ⟨v', w', hr, h2, h3, h4⟩ := run_append_str (P := P) w base t o.type e i ht hi hz hsize hby v l hown u m hu hb hbase
  unfold Oper.wp execOp
  simp only [ho, resolve, invoke, builtin, Sem.run_bind, Sem.run_pure, Result.andThen_ok, List.map_toArray, List.map_cons, List.map_nil, hs, hx, hr]
  exact h v' w' h2 h3 h4
theorem strS_madeI {w : World} {b : Nat} {l : List (List UInt8)} {t : TypeId} (h : w.heap[b]? = some (.cells (l.map strV).toArray t (0, 0))) (c : Nat) (hl : l.length ≤ 1000000) : StrS w (.slice (some ⟨b, 0, none⟩) l.length c) l :=
  ⟨_, c, rfl, by omega, fun _ => ⟨b, 0, rfl, fun j v hj => by rw [Nat.zero_add, cell_of h]; simpa using hj⟩⟩
theorem without_A {v3 : Value} {l : List Nm} {base : Nat} {w3 : World} (bl : List Nm) (hb : bl.length ≤ 1000000) (hl : l.length ≤ 1000000) (ho : w3.ownsRow base 9 1 v3 l.length (l.map strV)) :
    Calls Tryz.prog 152 #[v3, .slice (some ⟨w3.heap.size, 0, none⟩) bl.length bl.length] (w3.alloc (.cells (bl.map strV).toArray 9)) fun e w' => (∃ v', e = .returned v' ∧ w'.ownsRow base 9 1 v' (rm bl l).length ((rm bl l).map strV) ∧ v'.ownBlock = v3.ownBlock) ∧ (w3.alloc (.cells (bl.map strV).toArray 9)).grownBy w' v3.ownBlock :=
  without_c v3 _ l bl base _ hl (ho.alloc _) (strS_madeI (heap_alloc_new _ _) _ hb) (fun k hk => by
    have hk : w3.heap.size = k := by injection hk
    subst hk
    exact ⟨fun e => by have := (own_lt ho e).2; omega, by simp⟩)
theorem without_B {v3 : Value} {l : List Nm} {base g : Nat} {w3 : World} (bl : List Nm) (hb : bl.length ≤ 1000000) (hl : l.length ≤ 1000000) (ho : w3.ownsRow base 9 1 v3 l.length (l.map strV)) (hq : w3.heap[g]? = some (.cells (bl.map strV).toArray 9 (0, 0))) (hg : g < base) :
    Calls Tryz.prog 152 #[v3, .slice (some ⟨g, 0, none⟩) bl.length bl.length] w3 fun e w' => (∃ v', e = .returned v' ∧ w'.ownsRow base 9 1 v' (rm bl l).length ((rm bl l).map strV) ∧ v'.ownBlock = v3.ownBlock) ∧ w3.grownBy w' v3.ownBlock :=
  without_c v3 _ l bl base _ hl ho (strS_madeI hq _ hb) (fun k hk => by
    have hk : g = k := by injection hk
    subst hk
    exact ⟨fun e => by have := (own_lt ho e).1; omega, lt_of_block hq⟩)
end Go.Proofs.YtjfjlfhckfoehaaGreatDoor
