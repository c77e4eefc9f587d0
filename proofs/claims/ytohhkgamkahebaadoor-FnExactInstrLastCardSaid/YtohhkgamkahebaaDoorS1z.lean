/- The reference model's orders, and its functions that answer numbers and bools. The reference model's answers on types. The reference model's text of a form. The reference model's parts of a form. The reference model's atoms. -/
import Derived.Test.YtohhkgamkahebaaDoorS1y
import Derived.Test.YtohhkgamkahebaaDoorI1y
import Derived.Test.YtohhkgamkahebaaDoorB2
import Derived.Test.YtohhkgamkahebaaDoorB3
import Derived.Test.YtohhkgamkahebaaDoorB1
import Derived.Deep.LoopGhost
namespace Go.Proofs.YtohhkgamkahebaaDoor
open Go.RowKit
set_option maxRecDepth 8000
set_option linter.unusedSimpArgs false
set_option linter.unusedVariables false
end Go.Proofs.YtohhkgamkahebaaDoor
namespace Go.Proofs.YtohhkgamkahebaaDoor
open Go.RowKit
set_option linter.unusedSimpArgs false
set_option linter.unusedVariables false
theorem l1Parse_none {s : ByteArray} (hs : s.size ≤ 1048576) (hp : parse s.data.toList = none) (W : World) : Calls Tryd.prog 9 #[.string s] W fun e w' => (∃ a p n c, e = .returned (.tuple #[.agg #[.string a, .slice p n c], .bool false]) ∧ n ≤ maxLen) ∧ Below W.heap.size W w' :=
  (l1Parse_c s hs W).mono fun e w' ⟨h1, h2⟩ => ⟨by rw [hp] at h1; exact h1, h2⟩
theorem l1Parse_some {s : ByteArray} (hs : s.size ≤ 1048576) {t : Tr} (hp : parse s.data.toList = some t) (W : World) : Calls Tryd.prog 9 #[.string s] W fun e w' => (∃ p n c, e = .returned (.tuple #[.agg #[.string (bs (atomOf t)), .slice p n c], .bool true]) ∧ FV nS w' (fun k => W.heap.size ≤ k ∧ k < w'.heap.size) t (nS t (.slice p n c))) ∧ Below W.heap.size W w' :=
  (l1Parse_c s hs W).mono fun e w' ⟨h1, h2⟩ => ⟨by rw [hp] at h1; exact h1, h2⟩
end Go.Proofs.YtohhkgamkahebaaDoor
namespace Go.Proofs.YtohhkgamkahebaaDoor
open Go.RowKit
set_option linter.unusedSimpArgs false
set_option linter.unusedVariables false
theorem texts_snocS : ∀ (ts : List Tr) (t : Tr), texts (ts ++ [t]) = if ts = [] then t.text else texts ts ++ 32 :: t.text
  | [], t => by simp [texts]
  | [a], t => by simp [texts]
  | a :: b :: ts, t => by
    have ih := texts_snocS (b :: ts) t
    simp only [List.cons_append, texts] at ih ⊢
    rw [ih]; simp
theorem wfs_takeS {ts : List Tr} (h : wfs ts) (k : Nat) : wfs (ts.take k) := by
  induction ts generalizing k with
  | nil => simp [wfs]
  | cons a ts ih => cases k with
    | zero => simp [wfs]
    | succ k => exact ⟨h.1, ih h.2 k⟩
/-- What of a list's text has been written ahead of the part with an index. -/
def preS (ts : List Tr) (k : Nat) : List UInt8 := 40 :: texts (ts.take k)
theorem preS_succ (ts : List Tr) (k : Nat) (h : k < ts.length) : preS ts (k + 1) = (if k = 0 then preS ts k else preS ts k ++ [32]) ++ ts[k].text := by
  unfold preS
  rw [take_snoc' _ _ h, texts_snocS]
  by_cases hk : k = 0
  · subst hk; simp [texts]
  · rw [if_neg hk, if_neg (by intro e; rcases List.take_eq_nil_iff.1 e with h1 | h1; exact hk h1; subst h1; simp at h)]; simp
theorem preS_end (ts : List Tr) : preS ts ts.length ++ [41] = (Tr.list ts).text := by
  unfold preS
  rw [List.take_length]; simp [Tr.text]
theorem preS_length (ts : List Tr) (k : Nat) (hw : wfs ts) : (preS ts k).length ≤ bytess ts + 1 := by
  unfold preS
  by_cases h : ts.take k = []
  · rw [h]; simp [texts]
  · have h1 := texts_length (ts.take k) (wfs_takeS hw k) h
    have h2 := bytess_take_le ts k
    simp only [List.length_cons]; omega
end Go.Proofs.YtohhkgamkahebaaDoor
namespace Go.Proofs.YtohhkgamkahebaaDoor
open Go.RowKit
set_option linter.unusedSimpArgs false
set_option linter.unusedVariables false
theorem Tryd.infoStr : (Tryd.prog.info? 9).map (fun i => (i.zero, i.size, i.bytes)) = some (some (.string ⟨#[]⟩), 1, 16) := by kernel_rfl
/-- The texts of the parts of a form that is no atom. -/
def partsOf (l : List UInt8) : Option (List (List UInt8)) :=
  match parse l with
  | some (.list ts) => some (ts.map Tr.text)
  | _ => none
/-- A slice of texts of the call's own, and whether there is one. -/
def PartsPost (B : Nat) (r : Option (List (List UInt8))) (e : Ending) (w' : World) : Prop :=
  ∃ v, e = .returned (.tuple #[v, .bool r.isSome]) ∧ w'.ownsRow B 9 1 v (r.getD []).length ((r.getD []).map strV)
theorem parts_take (ts : List Tr) (k : Nat) (h : k < ts.length) : ((ts.take (k + 1)).map (fun t => strV t.text)) = (ts.take k).map (fun t => strV t.text) ++ [.string (bs ts[k].text)] := by
  rw [take_snoc' _ _ h, List.map_append]; rfl
theorem owns_base {w : World} {base B : Nat} {e : TypeId} {size : Nat} {v : Value} {n : Nat} {xs : List Value} (h : w.ownsRow base e size v n xs) (hB : B ≤ base) : w.ownsRow B e size v n xs := by
  refine ⟨h.1, ?_⟩
  rcases h.2 with h2 | ⟨g, cap, cur, hv, hb, hr⟩
  · exact .inl h2
  · exact .inr ⟨g, cap, cur, hv, by omega, hr⟩
theorem made_none {w w1 : World} {o : Obj} (hb1 : Below w.heap.size w w1) : ((w1.alloc o).alloc (.cells #[] 9)).ownsRow w.heap.size 9 1 (.slice (some ⟨w1.heap.size + 1, 0, none⟩) 0 0) 0 [] := by
  have := World.ownsRow_made (w1.alloc o) #[] 0 (base := w.heap.size) (e := 9) (size := 1) (by have := hb1.size; simp; omega) (by decide) rfl
  simpa using this
end Go.Proofs.YtohhkgamkahebaaDoor
namespace Go.Proofs.YtohhkgamkahebaaDoor
open Go.RowKit
set_option linter.unusedSimpArgs false
set_option linter.unusedVariables false
/-- What adding atoms hands back. -/
def AtPost (B N : Nat) (v : Value) (l' : List (List UInt8)) (w : World) (e : Ending) (w' : World) : Prop :=
  ∃ v', e = .returned v' ∧ w'.ownsRow B 9 1 v' l'.length (l'.map strV) ∧ w.grownBy w' v.ownBlock ∧ (v'.ownBlock = v.ownBlock ∨ ∀ q, v'.ownBlock = some q → N ≤ q)
theorem owns_strS6 {w : World} {B : Nat} {v : Value} {l : List (List UInt8)} (h : w.ownsRow B 9 1 v l.length (l.map strV)) (hl : l.length ≤ 9223372036854775807) : StrS w v l := by
  rcases h.2 with ⟨rfl, h0⟩ | ⟨g, cap, cur, rfl, hb, hg, h1, h2, h3, h4⟩
  · exact ⟨none, 0, by rw [h0], hl, fun hne => absurd (List.eq_nil_of_length_eq_zero h0) hne⟩
  · exact ⟨_, cap, rfl, hl, fun _ => ⟨g, 0, rfl, owns_row h⟩⟩
theorem gB_alloc {w : World} (o : Obj) (row : Option Nat) : w.grownBy (w.alloc o) row := World.grownBy_alloc w o row
theorem gB_trans6 {a b c : World} {row : Option Nat} (h : a.grownBy b row) (k : b.grownBy c row) : a.grownBy c row :=
  ⟨k.os.trans h.os, k.tape.trans h.tape, k.output.trans h.output, Nat.le_trans h.size k.size, fun i hi hne => (k.block i (Nat.lt_of_lt_of_le hi h.size) hne).trans (h.block i hi hne)⟩
/-- .. where the row's block may be a new one by now. -/
theorem gB_next {a b c : World} {v v' : Value} (h : a.grownBy b v.ownBlock) (hv : v'.ownBlock = v.ownBlock ∨ ∀ q, v'.ownBlock = some q → a.heap.size ≤ q) (k : b.grownBy c v'.ownBlock) : a.grownBy c v.ownBlock :=
  ⟨k.os.trans h.os, k.tape.trans h.tape, k.output.trans h.output, Nat.le_trans h.size k.size, fun i hi hne => (k.block i (Nat.lt_of_lt_of_le hi h.size) (by
    rcases hv with hv | hv
    · rw [hv]; exact hne
    · intro e; have := hv i e.symm; omega)).trans (h.block i hi hne)⟩
theorem addA_yes {l : List (List UInt8)} {a : List UInt8} (h : a ∈ l) : addA l a = l := by rw [addA, if_pos h]
theorem addA_no {l : List (List UInt8)} {a : List UInt8} (h : a ∉ l) : addA l a = l ++ [a] := by rw [addA, if_neg h]
end Go.Proofs.YtohhkgamkahebaaDoor
