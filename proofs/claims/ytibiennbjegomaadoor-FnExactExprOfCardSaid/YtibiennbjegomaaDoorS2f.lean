/- The reference model counts free places. The reference model's free names. -/
import Derived.Test.YtibiennbjegomaaDoorS2d
import Derived.Test.YtibiennbjegomaaDoorImpl2ma
import Derived.Deep.RegionHeldLaw
namespace Go.Proofs.YtibiennbjegomaaDoor
open Go.RowKit
set_option maxRecDepth 8000
set_option linter.unusedSimpArgs false
set_option linter.unusedVariables false
theorem cnt_atom {a : List UInt8} {x : Ex} {name : Nm} (h : asEx (.atom a) = some x) (hn : isNm name = true) : (freeP x).count name = if a = name then 1 else 0 := by
  simp only [asEx, atomEx] at h
  cases hm : numOf a with
  | some n =>
    simp only [hm, Option.some.injEq] at h
    subst h
    have hne : ¬ a = name := fun e => by subst e; rw [numOf_notNm hm] at hn; cases hn
    rw [if_neg hne]; rfl
  | none =>
    simp only [hm] at h
    split at h
    · simp only [Option.some.injEq] at h
      subst h
      simp only [freeP, List.count_cons, List.count_nil]
      by_cases e : a = name <;> simp [e]
    · cases h
theorem freeP_len : ∀ (n : Nat) (t : Tr) (x : Ex), t.depth < n → t.wf → asEx t = some x → (freeP x).length ≤ t.size
  | 0, t, x, h, _, _ => by omega
  | n + 1, .atom a, x, _, _, h => by
    simp only [asEx, atomEx] at h
    simp only [Tr.size]
    split at h
    · simp only [Option.some.injEq] at h; subst h; simp [freeP]
    · split at h
      · simp only [Option.some.injEq] at h; subst h; simp [freeP]
      · cases h
  | n + 1, .list [], x, _, hw, h => by simp [Tr.wf] at hw
  | n + 1, .list (h :: ps), x, hd, hw, e => by
    obtain ⟨a, V⟩ := kidView e
    rw [freeP_kids x V.nn]
    simp only [Tr.wf] at hw
    have hstep : ∀ j, j ≤ (kidsE x).length → (freeKs (bindE x) 0 ((kidsE x).take j)).length ≤ sizes ((h :: ps).take (a + j)) := by
      intro j
      induction j with
      | zero => intro _; simp [freeKs]
      | succ j ih =>
        intro hj
        have hj' : j < (kidsE x).length := by omega
        have hb := kids_bound V hj'
        have h1 := ih (by omega)
        have h2 := V.kid j hj' hb
        have h3 := freeP_len n _ _ (by have := depth_lt hb; omega) (wf_get hw.2 hb) h2
        have h4 := rm_len (bindE x j) (freeP ((kidsE x)[j]))
        have h5 := sizes_take (h :: ps) (a + j) hb
        rw [freeKs_take _ _ _ hj', List.length_append, show a + (j + 1) = a + j + 1 by omega, h5]
        omega
    have h1 := hstep _ (Nat.le_refl _)
    rw [List.take_length] at h1
    have h2 := sizes_take_le (h :: ps) (a + (kidsE x).length)
    simp only [Tr.size]
    omega
/-- The kid with an index, as it lies in memory. -/
theorem kid_at {h : Tr} {ps : List Tr} {x : Ex} {a n : Nat} (V : KidView h ps x a) {w : World} {ok : Nat → Prop} {xs : List Value} {r off k j : Nat} (hk : k = a + j) (hj : j < (kidsE x).length) (hd : (Tr.list (h :: ps)).depth < n + 1) (hwf : wfs (h :: ps)) (hby : bytess (h :: ps) ≤ 12000)
    (h5 : hasRow w r off xs) (h6 : FVs nS w ok (h :: ps) xs) : ∃ tk p pn pc, FV nS w ok tk (nS tk (.slice p pn pc)) ∧ w.cell? ⟨r, off + k * 2, none⟩ = some (.string (bs (atomOf tk))) ∧ w.cell? ⟨r, off + k * 2 + 1, none⟩ = some (.slice p pn pc) ∧ tk.depth < n ∧ tk.bytes ≤ 12000 ∧ tk.wf ∧ asEx tk = some ((kidsE x)[j]) := by
  subst hk
  have hbd := kids_bound V hj
  obtain ⟨cs, g1, g2⟩ := FVs.get nS_len h6 h5 (a + j) hbd
  obtain ⟨p, pn, pc, rfl⟩ := g1.node
  exact ⟨_, p, pn, pc, g1, g2 0 _ rfl, g2 1 _ rfl, by have := depth_lt hbd; omega, by have := bytes_lt hbd; simp only [Tr.bytes] at this; omega, wf_get hwf hbd, V.kid j hj hbd⟩
/-- How often a name stands free in the expression that is a text. -/
def cntE (l n : List UInt8) : Int := match readEx l with | none => -1 | some x => if isNm n = true then ((freeP x).count n : Nat) else -1
theorem cntE_none {l n : List UInt8} (h : readEx l = none) : cntE l n = -1 := by simp [cntE, h]
theorem cntE_no {l n : List UInt8} (h : isNm n = false) : cntE l n = -1 := by unfold cntE; cases readEx l <;> simp [h]
theorem cntE_some {l n : List UInt8} {x : Ex} (h : readEx l = some x) (hn : isNm n = true) : cntE l n = ((freeP x).count n : Nat) := by simp [cntE, h, hn]
theorem readEx_asEx' {l : List UInt8} {t : Tr} (h : parseE l = some t) : ∃ x, readEx l = some x ∧ asEx t = some x := by
  obtain ⟨h1, h2, h3⟩ := parseE_got h
  rw [readEx_some h1, if_pos h3]
  unfold isEx at h2
  cases hx : asEx t with
  | none => rw [hx] at h2; cases h2
  | some x => exact ⟨x, rfl, rfl⟩
theorem readEx_none2 {l : List UInt8} (h : parseE l = none) : readEx l = none := by
  have := readEx_parseE l
  rw [h] at this
  cases hx : readEx l with
  | none => rfl
  | some x => rw [hx] at this; cases this
end Go.Proofs.YtibiennbjegomaaDoor
namespace Go.Proofs.YtibiennbjegomaaDoor
open Go.RowKit
set_option maxRecDepth 8000
set_option linter.unusedSimpArgs false
set_option linter.unusedVariables false
theorem free_atom {a : List UInt8} {x : Ex} (h : asEx (.atom a) = some x) (bnd l : List Nm) : addF bnd l (freeP x) = if isNm a = true then (if a ∈ bnd ∨ a ∈ l then l else l ++ [a]) else l := by
  simp only [asEx, atomEx] at h
  cases hm : numOf a with
  | some n =>
    simp only [hm, Option.some.injEq] at h
    subst h
    rw [numOf_notNm hm]; rfl
  | none =>
    simp only [hm] at h
    split at h
    · rename_i hn
      simp only [Option.some.injEq] at h
      subst h
      rw [if_pos hn]
      exact addF_one bnd l a
    · cases h
theorem strS_alloc {w : World} {vb : Value} {l : List Nm} (h : StrS w vb l) (hb : ∀ k, vb.ownBlock = some k → k < w.heap.size) (o : Obj) : StrS (w.alloc o) vb l := StrS.move h (fun k hk => heap_alloc_old _ _ (hb k hk))
/-- A slice of texts that reads lies in a block that is there, or has none. -/
theorem strS_keep2 {w w' : World} {v : Value} {l : List Nm} (h : StrS w v l) (hb : Below w.heap.size w w') : StrS w' v l := by
  obtain ⟨p, c, rfl, h1, h2⟩ := h
  refine ⟨p, c, rfl, h1, fun hne => ?_⟩
  obtain ⟨r, off, rfl, h3⟩ := h2 hne
  refine ⟨r, off, rfl, h3.move (hb.block r ?_)⟩
  cases l with
  | nil => exact absurd rfl hne
  | cons x l =>
    have hc := h3 0 (strV x) (by simp)
    by_cases hr : r < w.heap.size
    · exact hr
    · simp [World.cell?, Array.getElem?_eq_none (Nat.le_of_not_lt hr)] at hc
/-- .. and through what turns one row alone that is not its own. -/
theorem strS_far2 {w W w' : World} {v : Value} {l : List Nm} {row : Option Nat} (h : StrS w v l) (hW : ∀ k, k < w.heap.size → W.heap[k]? = w.heap[k]?) (hs : w.heap.size ≤ W.heap.size) (hg : W.grownBy w' row) (hne : ∀ k, k < w.heap.size → v.ownBlock = some k → row ≠ some k) : StrS w' v l := by
  obtain ⟨p, c, rfl, h1, h2⟩ := h
  refine ⟨p, c, rfl, h1, fun hne2 => ?_⟩
  obtain ⟨r, off, rfl, h3⟩ := h2 hne2
  have hr : r < w.heap.size := by
    cases l with
    | nil => exact absurd rfl hne2
    | cons x l =>
      have hc := h3 0 (strV x) (by simp)
      by_cases hr : r < w.heap.size
      · exact hr
      · simp [World.cell?, Array.getElem?_eq_none (Nat.le_of_not_lt hr)] at hc
  exact ⟨r, off, rfl, h3.move ((hg.block r (by omega) (fun e => hne r hr rfl e.symm)).trans (hW r hr))⟩
theorem gB_below2 {a b c : World} {row : Option Nat} (h : Below a.heap.size a b) (hg : b.grownBy c row) : a.grownBy c row :=
  ⟨hg.os.trans h.os, hg.tape.trans h.tape, hg.output.trans h.output, Nat.le_trans h.size hg.size, fun i hi hne => (hg.block i (Nat.lt_of_lt_of_le hi h.size) hne).trans (h.block i hi)⟩
theorem kid_at2 {h : Tr} {ps : List Tr} {x : Ex} {a n : Nat} (V : KidView h ps x a) {w : World} {ok : Nat → Prop} {xs : List Value} {r off k j : Nat} (hk : k = a + j) (hj : j < (kidsE x).length) (hd : (Tr.list (h :: ps)).depth < n + 1) (hwf : wfs (h :: ps)) (hby : bytess (h :: ps) ≤ 12000)
    (h5 : hasRow w r off xs) (h6 : FVs nS w ok (h :: ps) xs) : ∃ tk p pn pc, FV nS w ok tk (nS tk (.slice p pn pc)) ∧ w.cell? ⟨r, off + k * 2, none⟩ = some (.string (bs (atomOf tk))) ∧ w.cell? ⟨r, off + k * 2 + 1, none⟩ = some (.slice p pn pc) ∧ tk.depth < n ∧ tk.bytes ≤ 12000 ∧ tk.wf ∧ asEx tk = some ((kidsE x)[j]) ∧ ∃ hb : a + j < (h :: ps).length, tk = (h :: ps)[a + j] := by
  subst hk
  have hbd := kids_bound V hj
  obtain ⟨cs, g1, g2⟩ := FVs.get nS_len h6 h5 (a + j) hbd
  obtain ⟨p, pn, pc, rfl⟩ := g1.node
  exact ⟨_, p, pn, pc, g1, g2 0 _ rfl, g2 1 _ rfl, by have := depth_lt hbd; omega, by have := bytes_lt hbd; simp only [Tr.bytes] at this; omega, wf_get hwf hbd, V.kid j hj hbd, hbd, rfl⟩
theorem freeKs_len {h : Tr} {ps : List Tr} {x : Ex} {a : Nat} (V : KidView h ps x a) (hw : wfs (h :: ps)) : ∀ j, j ≤ (kidsE x).length → (freeKs (bindE x) 0 ((kidsE x).take j)).length ≤ sizes ((h :: ps).take (a + j)) := by
  intro j
  induction j with
  | zero => intro _; simp [freeKs]
  | succ j ih =>
    intro hj
    have hj' : j < (kidsE x).length := by omega
    have hb := kids_bound V hj'
    have h1 := ih (by omega)
    have h3 := freeP_len _ _ _ (Nat.lt_succ_self _) (wf_get hw hb) (V.kid j hj' hb)
    have h4 := rm_len (bindE x j) (freeP ((kidsE x)[j]))
    have h5 := sizes_take (h :: ps) (a + j) hb
    rw [freeKs_take _ _ _ hj', List.length_append, show a + (j + 1) = a + j + 1 by omega, h5]
    omega
theorem bindE_len (x : Ex) (j : Nat) : (bindE x j).length ≤ 2 := by
  cases x <;> simp only [bindE] <;> first | (split <;> simp; done) | simp
def accF (x : Ex) (bnd l : List Nm) (j : Nat) : List Nm := addF bnd l (freeKs (bindE x) 0 ((kidsE x).take j))
theorem accF_zero (x : Ex) (bnd l : List Nm) : accF x bnd l 0 = l := by simp [accF, freeKs, addF_nil]
theorem accF_succ (x : Ex) (bnd l : List Nm) (j : Nat) (h : j < (kidsE x).length) : accF x bnd l (j + 1) = addF (bnd ++ bindE x j) (accF x bnd l j) (freeP ((kidsE x)[j])) := by
  rw [accF, freeKs_take _ _ _ h, addF_append, ← addF_rm]; rfl
theorem owns_empty {W : World} {b base : Nat} (h : W.heap[b]? = some (.cells #[] 9 (0, 0))) (hb : base ≤ b) : W.ownsRow base 9 1 (.slice (some ⟨b, 0, none⟩) 0 0) ([] : List Nm).length (([] : List Nm).map strV) := ⟨rfl, .inr ⟨b, 0, _, rfl, hb, h, Nat.le_refl _, Nat.zero_le _, rfl, rfl⟩⟩
end Go.Proofs.YtibiennbjegomaaDoor
