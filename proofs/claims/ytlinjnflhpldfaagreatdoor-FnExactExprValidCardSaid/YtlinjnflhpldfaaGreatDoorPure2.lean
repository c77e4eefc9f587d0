/- Types as trees; the three parts of a form in memory. -/
import Derived.Test.YtlinjnflhpldfaaGreatDoorApp
namespace Go.Proofs.YtlinjnflhpldfaaGreatDoor
open Go.RowKit
set_option maxRecDepth 8000
set_option linter.unusedSimpArgs false
set_option linter.unusedVariables false
/-- A type, of any size. -/
def isTy : Tr → Bool
  | .atom a => a == [105]
  | .list [h, a, b] => (atomOf h == [62] || atomOf h == [42]) && isTy a && isTy b
  | .list _ => false
def tyOrder : Tr → Nat
  | .list [h, a, b] => max (tyOrder a + if atomOf h = [62] then 1 else 0) (tyOrder b)
  | _ => 0
theorem isTy_atom (a : List UInt8) : isTy (.atom a) = (a == [105]) := by simp [isTy]
theorem isTy_three (h a b : Tr) : isTy (.list [h, a, b]) = ((atomOf h == [62] || atomOf h == [42]) && isTy a && isTy b) := by rw [isTy]
theorem isTy_other (ts : List Tr) (h : ts.length ≠ 3) : isTy (.list ts) = false := by
  match ts, h with
  | [], _ => simp [isTy]
  | [_], _ => simp [isTy]
  | [_, _], _ => simp [isTy]
  | [_, _, _], h => exact absurd rfl h
  | _ :: _ :: _ :: _ :: _, _ => simp [isTy]
theorem isTy_list {ts : List Tr} (h : isTy (.list ts) = true) : ∃ x a b, ts = [x, a, b] ∧ (atomOf x = [62] ∨ atomOf x = [42]) ∧ isTy a = true ∧ isTy b = true := by
  by_cases h3 : ts.length = 3
  · match ts, h3 with
    | [x, a, b], _ =>
      rw [isTy_three] at h
      simp only [Bool.and_eq_true, Bool.or_eq_true, beq_iff_eq] at h
      exact ⟨x, a, b, rfl, h.1.1, h.1.2, h.2⟩
  · rw [isTy_other ts h3] at h; cases h
theorem three_of {ts : List Tr} (h : ts.length = 3) : ∃ x a b, ts = [x, a, b] := by
  match ts, h with
  | [x, a, b], _ => exact ⟨x, a, b, rfl⟩
theorem tyOrder_atom (a : List UInt8) : tyOrder (.atom a) = 0 := by simp [tyOrder]
theorem tyOrder_three (h a b : Tr) : tyOrder (.list [h, a, b]) = max (tyOrder a + if atomOf h = [62] then 1 else 0) (tyOrder b) := by rw [tyOrder]
theorem tyOrder_le : ∀ (n : Nat) (t : Tr), t.depth ≤ n → tyOrder t ≤ t.depth
  | _, .atom _, _ => by rw [tyOrder_atom]; exact Nat.zero_le _
  | 0, .list ts, h => by
    match ts, h with
    | [], _ => simp [tyOrder]
    | t :: ts, h => simp only [Tr.depth, depths] at h; omega
  | n + 1, .list ts, h => by
    by_cases h3 : ts.length = 3
    · obtain ⟨x, a, b, rfl⟩ := three_of h3
      rw [tyOrder_three]
      simp only [Tr.depth, depths] at h ⊢
      have h1 := tyOrder_le n a (by omega)
      have h2 := tyOrder_le n b (by omega)
      split <;> omega
    · have : tyOrder (.list ts) = 0 := by
        match ts, h3 with
        | [], _ => simp [tyOrder]
        | [_], _ => simp [tyOrder]
        | [_, _], _ => simp [tyOrder]
        | [_, _, _], h => exact absurd rfl h
        | _ :: _ :: _ :: _ :: _, _ => simp [tyOrder]
      omega
theorem depths3 (x a b : Tr) : x.depth < (Tr.list [x, a, b]).depth ∧ a.depth < (Tr.list [x, a, b]).depth ∧ b.depth < (Tr.list [x, a, b]).depth := by
  simp only [Tr.depth, depths]; omega
/-- The three parts of a form where they lie. -/
theorem FVs.three {nd : Tr → Value → List Value} {k : Nat} (hn : ∀ t p, (nd t p).length = k) {w : World} {ok : Nat → Prop} {x a b : Tr} {xs : List Value} {r off : Nat} (h : FVs nd w ok [x, a, b] xs) (hr : hasRow w r off xs) :
    (∃ p n c, FV nd w ok x (nd x (.slice p n c)) ∧ hasRow w r off (nd x (.slice p n c))) ∧ (∃ p n c, FV nd w ok a (nd a (.slice p n c)) ∧ hasRow w r (off + k) (nd a (.slice p n c))) ∧
      ∃ p n c, FV nd w ok b (nd b (.slice p n c)) ∧ hasRow w r (off + 2 * k) (nd b (.slice p n c)) := by
  obtain ⟨c0, g0, r0⟩ := FVs.get hn h hr 0 (by simp)
  obtain ⟨c1, g1, r1⟩ := FVs.get hn h hr 1 (by simp)
  obtain ⟨c2, g2, r2⟩ := FVs.get hn h hr 2 (by simp)
  simp only [List.getElem_cons_zero, List.getElem_cons_succ] at g0 g1 g2
  obtain ⟨p0, n0, q0, rfl⟩ := g0.node
  obtain ⟨p1, n1, q1, rfl⟩ := g1.node
  obtain ⟨p2, n2, q2, rfl⟩ := g2.node
  refine ⟨⟨p0, n0, q0, g0, ?_⟩, ⟨p1, n1, q1, g1, ?_⟩, ⟨p2, n2, q2, g2, r2⟩⟩
  · simpa using r0
  · simpa using r1
/-- A type that is read. -/
def readTy (l : List UInt8) : Option Tr :=
  match parse l with
  | none => none
  | some t => if (isTy t && decide (t.size ≤ 16)) = true then some t else none
theorem readTy_none {l : List UInt8} (h : parse l = none) : readTy l = none := by simp [readTy, h]
theorem readTy_some {l : List UInt8} {t : Tr} (h : parse l = some t) : readTy l = if (isTy t && decide (t.size ≤ 16)) = true then some t else none := by simp [readTy, h]
/-- The answers that are numbers. -/
def orderOf (l : List UInt8) : Int := match readTy l with | some t => (tyOrder t : Int) | none => -1
def sizeOfText (l : List UInt8) : Int := match parse l with | some t => (t.size : Int) | none => -1
def depthOfText (l : List UInt8) : Int := match parse l with | some t => (t.depth : Int) | none => -1
theorem readTy_got {l : List UInt8} {t : Tr} (h : readTy l = some t) : t.wf ∧ t.bytes ≤ 12000 ∧ t.depth ≤ 60 ∧ l = t.text ∧ isTy t = true ∧ t.size ≤ 16 := by
  unfold readTy at h
  cases hp : parse l with
  | none => rw [hp] at h; cases h
  | some t' =>
    rw [hp] at h
    simp only at h
    split at h
    · rename_i ht
      simp only [Option.some.injEq] at h
      subst h
      simp only [Bool.and_eq_true, decide_eq_true_eq] at ht
      have g := parse_got hp
      exact ⟨g.1, g.2.1, g.2.2.1, g.2.2.2, ht.1, ht.2⟩
    · cases h
/-- The texts of both types of a type with a head. -/
def sidesT (hd : List UInt8) : Tr → Option (List UInt8 × List UInt8)
  | .list [x, a, b] => if atomOf x = hd then some (a.text, b.text) else none
  | _ => none
def sidesOf (hd : List UInt8) (l : List UInt8) : Option (List UInt8 × List UInt8) := (readTy l).bind (sidesT hd)
theorem sides_none (hd : List UInt8) {l : List UInt8} (h : readTy l = none) : sidesOf hd l = none := by simp [sidesOf, h]
theorem sides_atom (hd : List UInt8) {l : List UInt8} {a : List UInt8} (h : readTy l = some (.atom a)) : sidesOf hd l = none := by simp [sidesOf, h, sidesT]
theorem sides_no (hd : List UInt8) {l : List UInt8} {x a b : Tr} (h : readTy l = some (.list [x, a, b])) (hx : ¬ atomOf x = hd) : sidesOf hd l = none := by simp [sidesOf, h, sidesT, hx]
theorem sides_yes (hd : List UInt8) {l : List UInt8} {x a b : Tr} (h : readTy l = some (.list [x, a, b])) (hx : atomOf x = hd) : sidesOf hd l = some (a.text, b.text) := by simp [sidesOf, h, sidesT, hx]
theorem bytes3 (x a b : Tr) : x.bytes < (Tr.list [x, a, b]).bytes ∧ a.bytes < (Tr.list [x, a, b]).bytes ∧ b.bytes < (Tr.list [x, a, b]).bytes := by
  simp only [Tr.bytes, bytess]; omega
theorem FV.list_cells {nd : Tr → Value → List Value} {w : World} {ok : Nat → Prop} {ts : List Tr} {cs : List Value} (h : FV nd w ok (.list ts) cs) :
    ∃ r off cap xs, cs = nd (.list ts) (.slice (some ⟨r, off, none⟩) ts.length cap) ∧ ok r ∧ ts.length ≤ cap ∧ cap ≤ maxLen ∧ hasRow w r off xs ∧ FVs nd w ok ts xs := by simpa only [FV] using h
theorem FV.wide {nd : Tr → Value → List Value} {w : World} {ok ok' : Nat → Prop} {t : Tr} {cs : List Value} (h : FV nd w ok t cs) (hk : ∀ k, ok k → ok' k) : FV nd w ok' t cs := FV.move hk (fun _ _ => rfl) t cs h
/-- The texts of both types. -/
def TwoPost (r : Option (List UInt8 × List UInt8)) (e : Ending) : Prop :=
  match r with
  | none => e = .returned (.tuple #[.string ⟨#[]⟩, .string ⟨#[]⟩, .bool false])
  | some (a, b) => e = .returned (.tuple #[.string (bs a), .string (bs b), .bool true])
end Go.Proofs.YtlinjnflhpldfaaGreatDoor
