/- The program's free places: what binds no names. -/
import Derived.Test.YtibiennbjegomaaDoorI2j
namespace Go.Proofs.YtibiennbjegomaaDoor
open Go.RowKit
set_option maxRecDepth 8000
set_option linter.unusedSimpArgs false
set_option linter.unusedVariables false
/-- How many names and numerals there are. -/
def lvs : Ex → Nat
  | .name _ => 1
  | .num _ => 1
  | .two _ a b => lvs a + lvs b
  | .one _ a => lvs a
  | .cond a b c => lvs a + lvs b + lvs c
  | .lete _ e b => lvs e + lvs b
  | .func _ _ _ _ e => lvs e
theorem freeP_lvs : ∀ x : Ex, (freeP x).length ≤ lvs x
  | .name _ => Nat.le_refl _
  | .num _ => Nat.zero_le _
  | .two _ a b => by have := freeP_lvs a; have := freeP_lvs b; simp only [freeP, lvs, List.length_append]; omega
  | .one _ a => freeP_lvs a
  | .cond a b c => by have := freeP_lvs a; have := freeP_lvs b; have := freeP_lvs c; simp only [freeP, lvs, List.length_append]; omega
  | .lete x e b => by have := freeP_lvs e; have := freeP_lvs b; have := rm_len [x] (freeP b); simp only [freeP, lvs, List.length_append]; omega
  | .func f x _ _ e => by have := freeP_lvs e; have := rm_len [f, x] (freeP e); simp only [freeP, lvs]; omega
def FpPost (w : World) (P : List Nm) (e : Ending) (w' : World) : Prop := (∃ v, e = .returned v ∧ w'.ownsRow w.heap.size 9 1 v P.length (P.map strV)) ∧ Below w.heap.size w w'
theorem owns_made {w : World} {b base : Nat} {l : List Nm} (h : w.heap[b]? = some (.cells (l.map strV).toArray 9 (0, 0))) (hb : base ≤ b) (hl : l.length ≤ 1000000) : w.ownsRow base 9 1 (.slice (some ⟨b, 0, none⟩) l.length l.length) l.length (l.map strV) :=
  ⟨by simp, .inr ⟨b, l.length, _, rfl, hb, h, Nat.le_refl _, by unfold maxLen; omega, by simp, List.take_of_length_le (by simp)⟩⟩
theorem own_lt {w : World} {base : Nat} {e : TypeId} {size : Nat} {v : Value} {n : Nat} {xs : List Value} (h : w.ownsRow base e size v n xs) {k : Nat} (hk : v.ownBlock = some k) : base ≤ k ∧ k < w.heap.size := h.lt k hk
structure FpInv (w : World) (b : Nat) (kvs : List Value) (P : List Nm) (v1 : Value) (wr : World) : Prop where
  own : wr.ownsRow w.heap.size 9 1 v1 P.length (P.map strV)
  below : Below w.heap.size w wr
  blk : wr.heap[b]? = some (.cells kvs.toArray 39 (0, 0))
  ne : v1.ownBlock ≠ some b
theorem below_grown2 {w wr w2 w3 : World} {row : Option Nat} (h : Below w.heap.size w wr) (h2 : Below wr.heap.size wr w2) (hg : w2.grownBy w3 row) (hr : ∀ k, row = some k → w.heap.size ≤ k) : Below w.heap.size w w3 :=
  have h12 := h.trans (h2.mono h.size)
  ⟨hg.os.trans h12.os, hg.tape.trans h12.tape, hg.output.trans h12.output, Nat.le_trans h12.size hg.size, fun k hk => (hg.block k (Nat.lt_of_lt_of_le hk h12.size) (fun e => by have := hr k e.symm; omega)).trans (h12.block k hk)⟩
theorem FpInv.step {w wr w2 w3 : World} {b : Nat} {kvs : List Value} {P Q : List Nm} {v1 v3 : Value} (h : FpInv w b kvs P v1 wr) (h2 : Below wr.heap.size wr w2) (hg : w2.grownBy w3 v1.ownBlock)
    (ho : w3.ownsRow w.heap.size 9 1 v3 (P ++ Q).length ((P ++ Q).map strV)) (hv : v3.ownBlock = v1.ownBlock ∨ v3.ownBlock = some w2.heap.size) : FpInv w b kvs (P ++ Q) v3 w3 where
  own := ho
  below := below_grown2 h.below h2 hg (fun k hk => (own_lt h.own hk).1)
  blk := by
    have hb := lt_of_block h.blk
    rw [hg.block b (Nat.lt_of_lt_of_le hb h2.size) (fun e => h.ne e.symm), h2.block b hb]
    exact h.blk
  ne := by
    have hb := lt_of_block h.blk
    rcases hv with hv | hv
    · rw [hv]; exact h.ne
    · rw [hv]; intro e; have := h2.size; simp at e; omega
theorem FpInv.start {w w1 : World} {b : Nat} {kvs : List Value} (h1 : Below w.heap.size w w1) (hb : w1.heap[b]? = some (.cells kvs.toArray 39 (0, 0))) : FpInv w b kvs [] (.slice none 0 0) w1 where
  own := World.ownsRow_nil w1 _ _ _
  below := h1
  blk := hb
  ne := by simp [Value.ownBlock]
theorem FpInv.fin {w wr : World} {b : Nat} {kvs : List Value} {P : List Nm} {v1 : Value} (h : FpInv w b kvs P v1 wr) : FpPost w P (.returned v1) wr := ⟨⟨v1, rfl, h.own⟩, h.below⟩
end Go.Proofs.YtibiennbjegomaaDoor
