/- Free names of expressions; the kids of an expression and the names bound in them. -/
import Derived.Test.YtlinjnflhpldfaaGreatDoorPureE
import Derived.Test.YtlinjnflhpldfaaGreatDoorPure6
namespace Go.Proofs.YtlinjnflhpldfaaGreatDoor
open Go.RowKit
set_option maxRecDepth 8000
set_option linter.unusedSimpArgs false
set_option linter.unusedVariables false
abbrev Nm := List UInt8
/-- A list without some names. -/
def rm (bs : List Nm) (l : List Nm) : List Nm := l.filter (fun n => decide (n ∉ bs))
theorem rm_append (bs l m : List Nm) : rm bs (l ++ m) = rm bs l ++ rm bs m := by simp [rm]
theorem rm_nil (l : List Nm) : rm [] l = l := by simp [rm]
theorem rm_rm (a b l : List Nm) : rm a (rm b l) = rm (a ++ b) l := by
  simp only [rm, List.filter_filter]
  congr 1
  funext n
  simp [List.mem_append, not_or]
theorem rm_len (a l : List Nm) : (rm a l).length ≤ l.length := List.length_filter_le _ _
theorem rm_count (a l : List Nm) (n : Nm) : (rm a l).count n = if n ∈ a then 0 else l.count n := by
  induction l with
  | nil => simp [rm]
  | cons b l ih =>
    have ih' : (l.filter (fun n => decide (n ∉ a))).count n = if n ∈ a then 0 else l.count n := ih
    simp only [rm, List.filter_cons]
    by_cases hb : b ∈ a
    · rw [if_neg (by simpa using hb), ih']
      by_cases hn : n ∈ a
      · rw [if_pos hn, if_pos hn]
      · rw [if_neg hn, if_neg hn, List.count_cons]
        have hne : (b == n) = false := by simp; intro e; subst e; exact hn hb
        simp [hne]
    · rw [if_pos (by simpa using hb), List.count_cons, ih', List.count_cons]
      by_cases hn : n ∈ a
      · rw [if_pos hn, if_pos hn]
        have hne : (b == n) = false := by simp; intro e; subst e; exact hb hn
        simp [hne]
      · rw [if_neg hn, if_neg hn]
/-- The places where names stand free, in order. -/
def freeP : Ex → List Nm
  | .name s => [s]
  | .num _ => []
  | .two _ a b => freeP a ++ freeP b
  | .one _ a => freeP a
  | .cond a b c => freeP a ++ freeP b ++ freeP c
  | .lete x e b => freeP e ++ rm [x] (freeP b)
  | .func f x _ _ e => rm [f, x] (freeP e)
def kidsE : Ex → List Ex
  | .name _ => []
  | .num _ => []
  | .two _ a b => [a, b]
  | .one _ a => [a]
  | .cond a b c => [a, b, c]
  | .lete _ e b => [e, b]
  | .func _ _ _ _ e => [e]
def bindE : Ex → Nat → List Nm
  | .lete x _ _, j => if j = 1 then [x] else []
  | .func f x _ _ _, _ => [f, x]
  | _, _ => []
def freeKs (b : Nat → List Nm) : Nat → List Ex → List Nm
  | _, [] => []
  | j, k :: ks => rm (b j) (freeP k) ++ freeKs b (j + 1) ks
theorem freeKs_snoc (b : Nat → List Nm) (e : Ex) : ∀ (ks : List Ex) (j : Nat), freeKs b j (ks ++ [e]) = freeKs b j ks ++ rm (b (j + ks.length)) (freeP e)
  | [], j => by simp [freeKs]
  | k :: ks, j => by
    simp only [List.cons_append, freeKs, freeKs_snoc b e ks (j + 1), List.length_cons, List.append_assoc]
    rw [show j + 1 + ks.length = j + (ks.length + 1) by omega]
theorem freeKs_take (b : Nat → List Nm) (ks : List Ex) (j : Nat) (h : j < ks.length) : freeKs b 0 (ks.take (j + 1)) = freeKs b 0 (ks.take j) ++ rm (b j) (freeP ks[j]) := by
  rw [List.take_succ_eq_append_getElem h, freeKs_snoc]
  simp [Nat.min_eq_left (Nat.le_of_lt h)]
theorem freeKs_pre (b : Nat → List Nm) : ∀ (ks : List Ex) (j i : Nat), (freeKs b i (ks.take j)) <+: (freeKs b i ks)
  | [], j, i => by simp [freeKs]
  | k :: ks, 0, i => by simp [freeKs]
  | k :: ks, j + 1, i => by
    simp only [List.take_succ_cons, freeKs]
    exact (List.prefix_append_right_inj _).2 (freeKs_pre b ks j (i + 1))
def notName : Ex → Prop | .name _ => False | _ => True
theorem freeP_kids : ∀ (x : Ex), notName x → freeP x = freeKs (bindE x) 0 (kidsE x)
  | .name s, h => h.elim
  | .num _, _ => rfl
  | .two _ a b, _ => by simp [freeP, kidsE, freeKs, bindE, rm_nil]
  | .one _ a, _ => by simp [freeP, kidsE, freeKs, bindE, rm_nil]
  | .cond a b c, _ => by simp [freeP, kidsE, freeKs, bindE, rm_nil]
  | .lete x e b, _ => by simp [freeP, kidsE, freeKs, bindE, rm_nil]
  | .func f x _ _ e, _ => by simp [freeP, kidsE, freeKs, bindE, rm_nil]
/-- Free names each once, those in 'bnd' left out, behind a list. -/
def addF (bnd l P : List Nm) : List Nm := (rm bnd P).foldl addA l
theorem addF_append (bnd l P Q : List Nm) : addF bnd l (P ++ Q) = addF bnd (addF bnd l P) Q := by simp [addF, rm_append]
theorem addF_rm (bnd b l P : List Nm) : addF bnd l (rm b P) = addF (bnd ++ b) l P := by rw [addF, rm_rm]; rfl
theorem addF_nil (bnd l : List Nm) : addF bnd l [] = l := rfl
theorem addF_one (bnd l : List Nm) (s : Nm) : addF bnd l [s] = if s ∈ bnd ∨ s ∈ l then l else l ++ [s] := by
  unfold addF rm
  by_cases h1 : s ∈ bnd
  · simp [h1]
  · by_cases h2 : s ∈ l
    · simp [h1, h2, addA]
    · simp [h1, h2, addA]
theorem foldA_len (P : List Nm) : ∀ l : List Nm, l.length ≤ (P.foldl addA l).length ∧ (P.foldl addA l).length ≤ l.length + P.length := by
  induction P with
  | nil => intro l; simp
  | cons a P ih =>
    intro l
    have h1 := ih (addA l a)
    have h2 := addA_len l a
    simp only [List.foldl_cons, List.length_cons]
    omega
theorem addF_len (bnd l P : List Nm) : l.length ≤ (addF bnd l P).length ∧ (addF bnd l P).length ≤ l.length + P.length := by
  have h1 := foldA_len (rm bnd P) l
  have h2 := rm_len bnd P
  unfold addF
  omega
theorem foldA_nil (P : List Nm) : P.foldl addA [] = [] ↔ P = [] := by
  cases P with
  | nil => simp
  | cons a P =>
    have h := (foldA_len P (addA [] a)).1
    have h2 : (addA [] a).length = 1 := by simp [addA]
    constructor
    · intro e
      simp only [List.foldl_cons] at e
      rw [e] at h
      simp only [List.length_nil] at h; omega
    · intro e; cases e
theorem size_pos : ∀ t : Tr, t.wf → 1 ≤ t.size
  | .atom a, _ => by simp [Tr.size]
  | .list ts, h => by
    cases ts with
    | nil => simp [Tr.wf] at h
    | cons a b =>
      have := size_pos a (by simp only [Tr.wf, wfs] at h; exact h.2.1)
      simp only [Tr.size, sizes]
      omega
/-- The names that the reference model takes for bound in the part with an index. -/
def bindT (h : Tr) (ps : List Tr) (i : Nat) : List Nm :=
  if atomOf h = kLet ∧ i = 3 then [atomOf (ps.getD 0 default)] else if atomOf h = kFun then [atomOf (ps.getD 0 default), atomOf (ps.getD 1 default)] else []
/-- An expression's parts, as the reference model goes through them. -/
structure KidView (h : Tr) (ps : List Tr) (x : Ex) (a : Nat) : Prop where
  at_ : kidsAt (atomOf h) = (a, ps.length + 1)
  pos : 1 ≤ a
  le : a ≤ ps.length + 1
  len : a + (kidsE x).length = ps.length + 1
  kid : ∀ j (hj : j < (kidsE x).length) (hi : a + j < (h :: ps).length), asEx ((h :: ps)[a + j]) = some ((kidsE x)[j])
  bind : ∀ j, j < (kidsE x).length → bindT h ps (a + j) = bindE x j
  two : (atomOf h = kLet → 2 ≤ ps.length) ∧ (atomOf h = kFun → 2 ≤ ps.length)
  nn : notName x
theorem kidsEx_get : ∀ (ts : List Tr) (es : List Ex), kidsEx ts = some es → ∀ j (hj : j < ts.length) (hj2 : j < es.length), asEx ts[j] = some es[j]
  | [], es, h, j, hj, _ => by simp at hj
  | t :: ts, es, h, j, hj, hj2 => by
    simp only [kidsEx] at h
    split at h
    · cases h
    · rename_i e he
      split at h
      · cases h
      · rename_i es' hs
        simp only [Option.some.injEq] at h
        subst h
        cases j with
        | zero => simpa using he
        | succ j => simpa using kidsEx_get ts es' hs j (by simpa using hj) (by simpa using hj2)
theorem mkHead_kids {h : List UInt8} {es : List Ex} {x : Ex} (e : mkHead h es = some x) : kidsE x = es ∧ (∀ j, bindE x j = []) ∧ notName x := by
  match es, e with
  | [], e => cases e
  | [a], e =>
    simp only [mkHead, Option.map_eq_some_iff] at e
    obtain ⟨o, ho, rfl⟩ := e
    exact ⟨rfl, fun _ => rfl, trivial⟩
  | [a, b], e =>
    simp only [mkHead, Option.map_eq_some_iff] at e
    obtain ⟨o, ho, rfl⟩ := e
    exact ⟨rfl, fun _ => rfl, trivial⟩
  | [a, b, c], e =>
    simp only [mkHead] at e
    split at e
    · simp only [Option.some.injEq] at e
      subst e; exact ⟨rfl, fun _ => rfl, trivial⟩
    · cases e
  | _ :: _ :: _ :: _ :: _, e => cases e
theorem kidView {h : Tr} {ps : List Tr} {x : Ex} (e : asEx (.list (h :: ps)) = some x) : ∃ a, KidView h ps x a := by
  have hok := asExs_isSome h ps
  have e2 : asExs (h :: ps) = some x := by simpa only [asEx] using e
  simp only [e2, Option.isSome_some] at hok
  have hok1 := hok.symm
  simp only [Bool.and_eq_true] at hok1
  have hoh := hok1.1
  simp only [okHead, Bool.and_eq_true, decide_eq_true_eq] at hoh
  obtain ⟨⟨⟨k0, klen⟩, _⟩, _⟩ := hoh
  simp only [asExs] at e2
  split at e2
  · rename_i hl
    unfold asLetE at e2
    split at e2
    · rename_i x0 e0 b0
      split at e2
      · split at e2
        · cases e2
        · rename_i e' he
          split at e2
          · cases e2
          · rename_i b' hb
            simp only [Option.some.injEq] at e2
            subst e2
            refine ⟨2, ⟨by rw [hl]; rfl, by omega, by simp, by simp [kidsE], ?_, ?_, by simp, trivial⟩⟩
            · intro j hj hi
              match j, hj with
              | 0, _ => simpa [kidsE] using he
              | 1, _ => simpa [kidsE] using hb
            · intro j hj
              match j, hj with
              | 0, _ => simp [bindT, bindE, hl, kLet, kFun]
              | 1, _ => simp [bindT, bindE, hl]
      · cases e2
    · cases e2
  · rename_i hl
    split at e2
    · rename_i hf
      unfold asFunE at e2
      split at e2
      · rename_i f0 x0 A0 B0 e0
        split at e2
        · split at e2
          · cases e2
          · rename_i e' he
            simp only [Option.some.injEq] at e2
            subst e2
            refine ⟨5, ⟨by rw [hf]; rfl, by omega, by simp, by simp [kidsE], ?_, ?_, by simp, trivial⟩⟩
            · intro j hj hi
              match j, hj with
              | 0, _ => simpa [kidsE] using he
            · intro j hj
              match j, hj with
              | 0, _ => simp [bindT, bindE, hf, hl, kLet, kFun]
        · cases e2
      · cases e2
    · rename_i hf
      cases hk : kidsEx ps with
      | none => simp [hk] at e2
      | some es =>
        simp only [hk, Option.bind_some] at e2
        obtain ⟨q1, q2, q3⟩ := mkHead_kids e2
        have hlen := kidsEx_length ps es hk
        have ha : (kidsAt (atomOf h)).1 = 1 := by
          rcases kidsAt_cases (atomOf h) with ⟨c, k⟩ | ⟨c, k⟩ | ⟨_, _, ⟨_, _, _, k⟩ | ⟨_, _, _, k⟩ | ⟨_, _, _, k⟩ | ⟨_, _, _, k⟩⟩
          · exact absurd c hl
          · exact absurd c hf
          all_goals first | (rw [k]; done) | (rw [k] at k0; exact absurd rfl k0)
        refine ⟨1, ⟨Prod.ext ha klen.symm, Nat.le_refl _, by omega, by rw [q1]; omega, ?_, ?_, ?_, q3⟩⟩
        · intro j hj hi
          have hj2 : j < es.length := by rw [q1] at hj; exact hj
          have := kidsEx_get ps es hk j (by omega) hj2
          simp only [q1]
          rw [← this]
          congr 1
          rw [List.getElem_cons]
          rw [dif_neg (by omega)]
          congr 1
          omega
        · intro j hj
          rw [q2]
          simp [bindT, hl, hf]
        · exact ⟨fun hh => absurd hh hl, fun hh => absurd hh hf⟩
theorem sizes_get {ts : List Tr} {i : Nat} (h : i < ts.length) : ts[i].size ≤ sizes ts := by
  induction ts generalizing i with
  | nil => simp at h
  | cons t ts ih =>
    simp only [sizes]
    cases i with
    | zero => simp
    | succ i => have := ih (i := i) (by simpa using h); simp only [List.getElem_cons_succ]; omega
end Go.Proofs.YtlinjnflhpldfaaGreatDoor
