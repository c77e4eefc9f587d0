/- A region that draws its order, by an invariant: each operation is looked at once, whatever came up before it. -/
import Derived.Deep.RegionHeld3
set_option maxHeartbeats 20000000
set_option linter.unusedVariables false
set_option linter.unusedSimpArgs false
namespace Go.Proofs.YtjaaalojcdbcpaaGreatDoor
theorem Z49 : ∀ (l : List Bool) (i : Nat), l[i]? = some false → (l.set i true).countP (fun b => !b) + 1 = l.countP (fun b => !b)
 | [], i, h => by simp at h
 | b :: l, 0, h => by
   simp only [List.getElem?_cons_zero, Option.some.injEq] at h
   subst h
   simp
 | b :: l, i + 1, h => by
   simp only [List.getElem?_cons_succ] at h
   have ih := Z49 l i h
   simp only [List.set_cons_succ, List.countP_cons]
   omega
theorem Z7v {L : Array Bool} {i : Nat} (h : L.getD i true = false) : i < L.size ∧ L.toList[i]? = some false := by
 by_cases hi : i < L.size
 · refine ⟨hi, ?_⟩
   have h' : L[i] = false := by simp only [Array.getD, hi, dif_pos] at h; exact h
   simp [hi, h']
 · simp [Array.getD, hi] at h
def lsF (L : Array Bool) : Nat → Bool := fun j => L.getD j false
theorem lsF_set {L : Array Bool} {i : Nat} (hi : i < L.size) : lsF (L.setIfInBounds i true) = fun j => if j = i then true else lsF L j := by
 funext j
 unfold lsF
 by_cases e : j = i
 · subst e; simp [Array.getD, hi]
 · rw [if_neg e]
   simp only [Array.getD, Array.size_setIfInBounds]
   by_cases hj : j < L.size
   · have e2 : ¬ i = j := fun q => e q.symm
     simp [hj, Array.getElem_setIfInBounds, e2]
   · simp [hj]
theorem wpAny_inv {P : Program} {ops : Array Oper} {Q : Exit → Act → World → Prop} {md : Region.Mode} {I : (Nat → Bool) → Act → World → Prop}
 (hlow : ∀ (j : Nat) (o : Oper), ops[j]? = some o → ∀ e ∈ o.after, e.on < j)
 (hs : ∀ (L : Nat → Bool) (a : Act) (w : World) (i : Nat) (o : Oper), ops[i]? = some o → L i = false → (∀ e ∈ o.after, Region.binds md e = true → L e.on = true) → I L a w → wpOp P ops Q i (fun a' w' => I (fun j => if j = i then true else L j) a' w') a w)
 (he : ∀ (L : Nat → Bool) (a : Act) (w : World), (∀ j, j < ops.size → L j = true) → I L a w → Q .normal a w) :
 ∀ (fuel : Nat) (L : Array Bool) (a : Act) (w : World), L.size = ops.size → L.toList.countP (fun b => !b) ≤ fuel → I (lsF L) a w → wpAny P md ops Q fuel L a w := by
 have hdone : ∀ (L : Array Bool), L.size = ops.size → Region.ready md ops L = [] → ∀ n j, j < n → j < ops.size → lsF L j = true := by
  intro L hL hr n
  induction n with
  | zero => intro j h; omega
  | succ n ih =>
    intro j hj hjs
    by_cases hjn : j < n
    · exact ih j hjn hjs
    · obtain rfl : j = n := by omega
      cases h : lsF L j with
      | true => rfl
      | false =>
        have hm : j ∈ Region.ready md ops L := by
         refine mem_ready.2 ⟨?_, ops[j], by simp [hjs], ?_⟩
         · unfold lsF at h
           simp only [Array.getD, hL, hjs, dif_pos] at h ⊢
           exact h
         · intro e he hb
           exact ih e.on (hlow j ops[j] (by simp [hjs]) e he) (by have := hlow j ops[j] (by simp [hjs]) e he; omega)
        rw [hr] at hm
        cases hm
 intro fuel
 induction fuel with
 | zero =>
   intro L a w hL hc hI
   have hnone : Region.ready md ops L = [] := by
    cases hr : Region.ready md ops L with
    | nil => rfl
    | cons i rs =>
      have hi : i ∈ Region.ready md ops L := by rw [hr]; simp
      obtain ⟨h1, -⟩ := mem_ready.1 hi
      have := Z49 L.toList i (Z7v h1).2
      omega
   exact ⟨hnone, he _ a w (fun j hj => hdone L hL hnone (j + 1) j (by omega) hj) hI⟩
 | succ fuel ih =>
   intro L a w hL hc hI
   refine ⟨fun hr => he _ a w (fun j hj => hdone L hL hr (j + 1) j (by omega) hj) hI, fun i hi => ?_⟩
   obtain ⟨h1, o, ho, h2⟩ := mem_ready.1 hi
   obtain ⟨g1, g2⟩ := Z7v h1
   have hLi : lsF L i = false := by
    unfold lsF
    simp only [Array.getD, g1, dif_pos] at h1 ⊢
    exact h1
   refine wpOp_mono (fun a' w' h => ih _ a' w' (by simpa using hL) ?_ (by rw [lsF_set g1]; exact h)) (hs (lsF L) a w i o ho hLi (fun e he hb => h2 e he hb) hI)
   have := Z49 L.toList i g2
   simp only [Array.toList_setIfInBounds]
   omega
theorem wp_region_inv {P : Program} {ops : Array Oper} {Q : Exit → Act → World → Prop} {I : (Nat → Bool) → Act → World → Prop} {id : Nat} {a : Act} {w : World} (hm : P.follows .mixedOrders = true)
 (hlow : ∀ (j : Nat) (o : Oper), ops[j]? = some o → ∀ e ∈ o.after, e.on < j)
 (h0 : I (fun _ => false) a w.drew)
 (hs : ∀ (L : Nat → Bool) (a : Act) (w : World) (i : Nat) (o : Oper), ops[i]? = some o → L i = false → (∀ e ∈ o.after, Region.binds .any e = true → L e.on = true) → I L a w → wpOp P ops Q i (fun a' w' => I (fun j => if j = i then true else L j) a' w') a w)
 (he : ∀ (L : Nat → Bool) (a : Act) (w : World), (∀ j, j < ops.size → L j = true) → I L a w → Q .normal a w) : (Code.region id ops true).wp P Q a w := by
 refine wp_region_any hm (wpAny_inv hlow hs he ops.size _ a _ (by simp) ?_ ?_)
 · have := List.countP_le_length (p := fun b => !b) (l := (Array.replicate ops.size false).toList)
   simpa using this
 · have e : lsF (Array.replicate ops.size false) = fun _ => false := by
    funext j
    unfold lsF
    simp only [Array.getD]
    split <;> simp
   rw [e]
   exact h0
def lowB (ops : Array Oper) : Bool := (List.range ops.size).all fun j => match ops[j]? with | none => true | some o => o.after.all fun e => decide (e.on < j)
theorem lowB_spec {ops : Array Oper} (h : lowB ops = true) (j : Nat) (o : Oper) (ho : ops[j]? = some o) : ∀ e ∈ o.after, e.on < j := by
 intro e he
 obtain ⟨hj, -⟩ := Array.getElem?_eq_some_iff.1 ho
 have h1 := List.all_eq_true.1 h j (List.mem_range.2 hj)
 rw [ho] at h1
 have h2 := Array.all_eq_true'.1 h1 e he
 simpa using h2
def ShutL (ops : Array Oper) (L : Nat → Bool) : Prop := ∀ j o, ops[j]? = some o → L j = true → ∀ e ∈ o.after, Region.binds .any e = true → L e.on = true
def depB (ops : Array Oper) (j k : Nat) : Bool := match ops[j]? with | none => false | some o => o.after.any fun e => Region.binds .any e && e.on == k
theorem depB_spec {ops : Array Oper} {L : Nat → Bool} (h : ShutL ops L) {j k : Nat} (hd : depB ops j k = true) (hL : L j = true) : L k = true := by
 unfold depB at hd
 cases ho : ops[j]? with
 | none => rw [ho] at hd; cases hd
 | some o =>
   rw [ho] at hd
   obtain ⟨e, he, hb⟩ := Array.any_eq_true'.1 hd
   simp only [Bool.and_eq_true, beq_iff_eq] at hb
   have := h j o ho hL e he hb.1
   rwa [hb.2] at this
theorem Z6v {P : Program} {ops : Array Oper} {Q : Exit → Act → World → Prop} {I : (Nat → Bool) → Act → World → Prop} {id : Nat} {a : Act} {w : World} (hm : P.follows .mixedOrders = true)
 (hlow : lowB ops = true)
 (h0 : I (fun _ => false) a w.drew)
 (hs : ∀ (L : Nat → Bool) (a : Act) (w : World) (i : Nat) (o : Oper), ops[i]? = some o → L i = false → (∀ e ∈ o.after, Region.binds .any e = true → L e.on = true) → ShutL ops L → I L a w → wpOp P ops Q i (fun a' w' => I (fun j => if j = i then true else L j) a' w') a w)
 (he : ∀ (L : Nat → Bool) (a : Act) (w : World), (∀ j, j < ops.size → L j = true) → I L a w → Q .normal a w) : (Code.region id ops true).wp P Q a w := by
 refine wp_region_inv (I := fun L a w => ShutL ops L ∧ I L a w) hm (lowB_spec hlow) ⟨fun j o _ hj => (by cases hj), h0⟩ ?_ (fun L a w h1 h2 => he L a w h1 h2.2)
 intro L a w i o ho hL hd ⟨h1, h2⟩
 refine wpOp_mono (fun a' w' h => ⟨?_, h⟩) (hs L a w i o ho hL hd h1 h2)
 intro j o' ho' hj e he hb
 simp only at hj ⊢
 by_cases hji : j = i
 · subst hji
   rw [ho] at ho'
   cases ho'
   have := hd e he hb
   simp only [this]
   split <;> rfl
 · rw [if_neg hji] at hj
   have := h1 j o' ho' hj e he hb
   simp only [this]
   split <;> rfl
theorem Z6w {P : Program} {ops : Array Oper} {Q : Exit → Act → World → Prop} (I : Act → (Nat → Bool) → Act → World → Prop) {id : Nat} {a : Act} {w : World} (hm : P.follows .mixedOrders = true)
 (hlow : lowB ops = true)
 (h0 : I a (fun _ => false) a w.drew)
 (hs : ∀ (L : Nat → Bool) (a' : Act) (w' : World) (i : Nat) (o : Oper), ops[i]? = some o → L i = false → (∀ e ∈ o.after, Region.binds .any e = true → L e.on = true) → ShutL ops L → I a L a' w' → wpOp P ops Q i (fun a'' w'' => I a (fun j => if j = i then true else L j) a'' w'') a' w')
 (he : ∀ (L : Nat → Bool) (a' : Act) (w' : World), (∀ j, j < ops.size → L j = true) → I a L a' w' → Q .normal a' w') : (Code.region id ops true).wp P Q a w := Z6v (I := I a) hm hlow h0 hs he
theorem Zq {ops : Array Oper} {L : Nat → Bool} (h : ShutL ops L) {j k : Nat} (hd : depB ops j k = true) (hL : L k = false) : L j = false := by
 cases hj : L j with
 | false => rfl
 | true => rw [depB_spec h hd hj] at hL; cases hL
theorem Ye {P : Program} {ops : Array Oper} {Q : Exit → Act → World → Prop} {i : Nat} {o : Oper} {K : Act → World → Prop} {a : Act} {w w' : World} {v : Value} (ho : ops[i]? = some o) (hg : o.guard = none) (hr : (execOp a.eval o).run P w = .ok (.value v) w') (h : K (a.put o.dst v) w') : wpOp P ops Q i K a w := by
 unfold wpOp
 rw [ho]
 have hw : Region.wanted o (yielded ops a.tmps) = true := by unfold Region.wanted; rw [hg]
 simp only [hw, if_true]
 left
 unfold Oper.wp
 rw [hr]
 exact h
theorem wpOp_skip {P : Program} {ops : Array Oper} {Q : Exit → Act → World → Prop} {i : Nat} {o : Oper} {K : Act → World → Prop} {a : Act} {w w' : World} (ho : ops[i]? = some o) (hg : o.guard = none) (hr : (execOp a.eval o).run P w = .ok .skip w') (h : K (a.put o.dst undef) w') : wpOp P ops Q i K a w := by
 unfold wpOp
 rw [ho]
 have hw : Region.wanted o (yielded ops a.tmps) = true := by unfold Region.wanted; rw [hg]
 simp only [hw, if_true]
 left
 unfold Oper.wp
 rw [hr]
 exact h
theorem wpOp_enter {P : Program} {ops : Array Oper} {Q : Exit → Act → World → Prop} {i : Nat} {o : Oper} {K : Act → World → Prop} {a : Act} {w w' : World} {f : FuncId} {args : Array Value} {R : Ending → World → Prop} (ho : ops[i]? = some o) (hg : o.guard = none) (hr : (execOp a.eval o).run P w = .ok (.enter f args) w') (hc : Calls P f args w' R) (h : ∀ e w'', R e w'' → ∃ v, e = .returned v ∧ K (a.put o.dst v) w'') : wpOp P ops Q i K a w := by
 unfold wpOp
 rw [ho]
 have hw : Region.wanted o (yielded ops a.tmps) = true := by unfold Region.wanted; rw [hg]
 simp only [hw, if_true]
 left
 unfold Oper.wp
 rw [hr]
 exact Calls.mono hc (fun e w'' hR => by obtain ⟨v, rfl, hK⟩ := h e w'' hR; exact hK)
theorem Jr {a : Act} {d t : Nat} {v : Value} (h : d < a.tmps.size) : (a.put (some d) v).eval (.tmp t) = if t = d then v else a.eval (.tmp t) := by
 by_cases e : t = d
 · subst e
   simp [Act.put, Act.eval, Array.getD, h]
 · rw [if_neg e]
   have e2 : ¬ d = t := fun q => e q.symm
   simp only [Act.put, Act.eval]
   by_cases ht : t < a.tmps.size
   · simp [Array.getD, ht, Array.getElem_setIfInBounds, e2]
   · simp [Array.getD, ht]
theorem Z77 {a : Act} {d : Option Tmp} {v : Value} : (a.put d v).tmps.size = a.tmps.size := by cases d <;> simp [Act.put]
theorem Z40 {a : Act} {d : Option Tmp} {v : Value} : (a.put d v).defers = a.defers := by cases d <;> rfl
end Go.Proofs.YtjaaalojcdbcpaaGreatDoor
