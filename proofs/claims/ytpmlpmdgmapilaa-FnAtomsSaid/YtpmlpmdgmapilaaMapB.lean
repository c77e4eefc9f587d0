/- A set of texts: a map to bools of the call's own. -/
import Derived.Test.YtpmlpmdgmapilaaS1z
import Derived.Maps.Own
import Derived.Maps.OwnOps
import Derived.Maps.Views
namespace Go.Proofs.Ytpmlpmdgmapilaa
open Go.RowKit Go.Maps
set_option linter.unusedSimpArgs false
set_option linter.unusedVariables false
theorem plainElem_bool_inv' {H : Type} {P : Program} {e : TypeId} (he : P.underlying e = some .bool) {v : Value} {z : DataW H × List MemPlace} (h : plainElem P e v = some z) : ∃ c, v = .bool c ∧ z = (.lit (.bool c), []) := by
  unfold plainElem at h
  rw [he] at h
  cases v <;> simp at h
  exact ⟨_, rfl, h.symm⟩
theorem wpList_lookup_own_bool {H : Type} {P : Program} (w : World) {ops : Array Oper} {rest : List Oper} {o : Oper} {a : Act} {Q : Exit → Act → World → Prop}
    (hg : o.guard = none) (m x : Operand) (t : TypeId) (hop : o.op = Op.lookup t m x false)
    (k e : TypeId) (K : Keyed P k) (ht : P.underlying t = some (.map k e)) (he : P.underlying e = some .bool) (hz : (zeroValue e).run P w = .ok (.bool false) w) (b n : Nat) (D : DataW H)
    (hm : a.eval m = .map (some b)) (hown : w.ownsMap P k (plainElem P e) b n D) (key : Value) (kl : Lit) (hx : a.eval x = key) (hkey : keyOf P k key = some kl)
    (hK : ∀ c : Bool, D.atKey kl (.lit (.bool false)) = .lit (.bool c) → wpList P ops Q rest (a.put o.dst (.bool c)) w) :
    wpList P ops Q (o :: rest) a w := by
  refine wpList_plain hg fun K' hK' => ?_
  obtain ⟨v, ps, hrun, hv⟩ := hown.lookup K ht hz (plainElem_bool he false) hkey
  obtain ⟨c, rfl, hc⟩ := plainElem_bool_inv' he hv
  simp only [Prod.mk.injEq] at hc
  unfold Oper.wp
  simp [execOp, hop, hm, hx, hrun, Result.andThen]
  exact hK' _ _ (hK c hc.1)
theorem lawStr : Keyed Try.prog 9 := string_keyed Try.underlying9
theorem zeroBool (w : World) : (zeroValue 4).run Try.prog w = .ok (.bool false) w := by kernel_rfl
/-- Block b is a map that holds these texts. -/
def SetOf (w : World) (b : Nat) (l : List (List UInt8)) (D : DataW Unit) : Prop :=
  w.ownsMap Try.prog 9 (plainElem Try.prog 4) b l.length D ∧ IsMap D ∧ ∀ x : List UInt8, D.atKey (.string x) (.lit (.bool false)) = .lit (.bool (decide (x ∈ l)))
theorem SetOf.made (w : World) : SetOf (w.alloc (.map #[] 0)) w.heap.size [] (.map []) :=
  ⟨World.ownsMap_made _ _ _ _, isMap_empty, fun x => rfl⟩
theorem SetOf.lt {w : World} {b : Nat} {l : List (List UInt8)} {D : DataW Unit} (h : SetOf w b l D) : b < w.heap.size := h.1.lt
theorem SetOf.kept {w w' : World} {b : Nat} {l : List (List UInt8)} {D : DataW Unit} {row : Option Nat} (h : SetOf w b l D) (hg : w.grownBy w' row) (hne : some b ≠ row) : SetOf w' b l D := ⟨h.1.kept hg hne, h.2⟩
theorem gB_below6 {a b : World} (h : Below a.heap.size a b) (row : Option Nat) : a.grownBy b row := ⟨h.os, h.tape, h.output, h.size, fun i hi _ => h.block i hi⟩
theorem SetOf.below {w w' : World} {b : Nat} {l : List (List UInt8)} {D : DataW Unit} (h : SetOf w b l D) (hb : Below w.heap.size w w') : SetOf w' b l D := h.kept (gB_below6 hb none) (by simp)
theorem SetOf.add {w : World} {b : Nat} {l : List (List UInt8)} {D : DataW Unit} (h : SetOf w b l D) (x : List UInt8) {w' : World} (k : w'.ownsMap Try.prog 9 (plainElem Try.prog 4) b (l.length + 1) (D.put (.string x) (.lit (.bool true)))) : SetOf w' b (l ++ [x]) (D.put (.string x) (.lit (.bool true))) := by
  refine ⟨by simpa using k, h.2.1.put _ _, fun y => ?_⟩
  by_cases e : y = x
  · subst e
    rw [atKey_put_same h.2.1 (by trivial)]
    simp
  · rw [atKey_put_other (by intro q; simp only [Lit.string.injEq] at q; exact e q), h.2.2 y]
    simp [e]
/-- A world behind another: but for a row's block and the map's nothing that was there has turned. -/
structure Two (w w' : World) (row : Option Nat) (b : Nat) : Prop where
  os : w'.os = w.os
  tape : w'.tape = w.tape
  output : w'.output = w.output
  size : w.heap.size ≤ w'.heap.size
  block : ∀ i, i < w.heap.size → row ≠ some i → i ≠ b → w'.heap[i]? = w.heap[i]?
theorem Two.of {w w' : World} {row : Option Nat} (h : w.grownBy w' row) (b : Nat) : Two w w' row b := ⟨h.os, h.tape, h.output, h.size, fun i hi hne _ => h.block i hi (fun e => hne e.symm)⟩
theorem Two.ofMap {w w' : World} {b : Nat} (h : w.grownBy w' (some b)) (row : Option Nat) : Two w w' row b := ⟨h.os, h.tape, h.output, h.size, fun i hi _ hne => h.block i hi (fun e => hne (by simpa using e))⟩
theorem Two.below {w w' : World} (h : Below w.heap.size w w') (row : Option Nat) (b : Nat) : Two w w' row b := Two.of (gB_below6 h row) b
theorem Two.trans {a c d : World} {row : Option Nat} {b : Nat} (h : Two a c row b) (k : Two c d row b) : Two a d row b :=
  ⟨k.os.trans h.os, k.tape.trans h.tape, k.output.trans h.output, Nat.le_trans h.size k.size, fun i hi h1 h2 => (k.block i (Nat.lt_of_lt_of_le hi h.size) h1 h2).trans (h.block i hi h1 h2)⟩
theorem Two.next {a c d : World} {v v' : Value} {b : Nat} (h : Two a c v.ownBlock b) (hv : v'.ownBlock = v.ownBlock ∨ ∀ q, v'.ownBlock = some q → a.heap.size ≤ q) (k : Two c d v'.ownBlock b) : Two a d v.ownBlock b :=
  ⟨k.os.trans h.os, k.tape.trans h.tape, k.output.trans h.output, Nat.le_trans h.size k.size, fun i hi h1 h2 => (k.block i (Nat.lt_of_lt_of_le hi h.size) (by
    rcases hv with hv | hv
    · rw [hv]; exact h1
    · intro e; have := hv i e; omega) h2).trans (h.block i hi h1 h2)⟩
theorem Two.toBelow {a c : World} {row : Option Nat} {b B : Nat} (h : Two a c row b) (hB : B ≤ a.heap.size) (hb : B ≤ b) (hr : ∀ q, row = some q → B ≤ q) : Below B a c :=
  ⟨h.os, h.tape, h.output, h.size, fun k hk => h.block k (by omega) (fun e => by have := hr k e; omega) (by omega)⟩
end Go.Proofs.Ytpmlpmdgmapilaa
