/- The reference's draws: a function that counts down. Rows of texts of the call's own; lists with more texts behind. The reference's draws: expressions. -/
import Derived.Test.YtpaaglamcmfdjaaDraw3
import Derived.Test.YtpaaglamcmfdjaaDec
import Derived.OwnWalk
import Derived.Deep.RegionHeld3
import Derived.Deep.LoopGhost
namespace Go.Proofs.Ytpaaglamcmfdjaa
open Go.RowKit
set_option maxRecDepth 8000
set_option linter.unusedSimpArgs false
set_option linter.unusedVariables false
theorem bsz (a : Array UInt8) : (ByteArray.mk a).size = a.size := rfl
def loopBodies : List (List UInt8) := [[40, 43, 32, 120, 56, 32, 40, 99, 97, 108, 108, 32, 102, 56, 32, 40, 45, 32, 120, 56, 32, 49, 41, 41, 41], [40, 99, 97, 108, 108, 32, 102, 56, 32, 40, 45, 32, 120, 56, 32, 49, 41, 41], [40, 42, 32, 120, 56, 32, 40, 99, 97, 108, 108, 32, 102, 56, 32, 40, 45, 32, 120, 56, 32, 49, 41, 41, 41], [40, 45, 32, 48, 32, 40, 99, 97, 108, 108, 32, 102, 56, 32, 40, 45, 32, 120, 56, 32, 49, 41, 41, 41]]
end Go.Proofs.Ytpaaglamcmfdjaa
namespace Go.Proofs.Ytpaaglamcmfdjaa
open Go.RowKit
set_option maxRecDepth 8000
set_option linter.unusedSimpArgs false
set_option linter.unusedVariables false
theorem Try.infoStrD : (Try.prog.info? 9).map (fun i => (i.zero, i.size, i.bytes)) = some (some (.string ⟨#[]⟩), 1, 16) := by kernel_rfl
theorem own_ltD {w : World} {base : Nat} {e : TypeId} {size : Nat} {v : Value} {n : Nat} {xs : List Value} (h : w.ownsRow base e size v n xs) {k : Nat} (hk : v.ownBlock = some k) : base ≤ k ∧ k < w.heap.size := h.lt k hk
theorem below_grown2D {w wr w2 w3 : World} {row : Option Nat} (h : Below w.heap.size w wr) (h2 : Below wr.heap.size wr w2) (hg : w2.grownBy w3 row) (hr : ∀ k, row = some k → w.heap.size ≤ k) : Below w.heap.size w w3 :=
  have h12 := h.trans (h2.mono h.size)
  ⟨hg.os.trans h12.os, hg.tape.trans h12.tape, hg.output.trans h12.output, Nat.le_trans h12.size hg.size, fun k hk => (hg.block k (Nat.lt_of_lt_of_le hk h12.size) (fun e => by have := hr k e.symm; omega)).trans (h12.block k hk)⟩
theorem owns_strS6D {w : World} {B : Nat} {v : Value} {l : List (List UInt8)} (h : w.ownsRow B 9 1 v l.length (l.map strV)) (hl : l.length ≤ 9223372036854775807) : StrS w v l := by
  rcases h.2 with ⟨rfl, h0⟩ | ⟨g, cap, cur, rfl, hb, hg, h1, h2, h3, h4⟩
  · exact ⟨none, 0, by rw [h0], hl, fun hne => absurd (List.eq_nil_of_length_eq_zero h0) hne⟩
  · exact ⟨_, cap, rfl, hl, fun _ => ⟨g, 0, rfl, owns_row h⟩⟩
theorem strS_keep2D {w w' : World} {v : Value} {l : List Nm} (h : StrS w v l) (hb : Below w.heap.size w w') : StrS w' v l := by
  obtain ⟨p, c, rfl, h1, h2⟩ := h
  refine ⟨p, c, rfl, h1, fun hne => ?_⟩
  obtain ⟨r, off, rfl, h3⟩ := h2 hne
  refine ⟨r, off, rfl, h3.move (hb.block r ?_)⟩
  cases l with
  | nil => exact absurd rfl hne
  | cons x l =>
    have hc := h3 0 (strV x) (by simp)
    by_cases hr : r < w.heap.size
    · exact hr
    · simp [World.cell?, Array.getElem?_eq_none (Nat.le_of_not_lt hr)] at hc
theorem owns_emptyD {W : World} {b base : Nat} (h : W.heap[b]? = some (.cells #[] 9 (0, 0))) (hb : base ≤ b) : W.ownsRow base 9 1 (.slice (some ⟨b, 0, none⟩) 0 0) ([] : List Nm).length (([] : List Nm).map strV) := ⟨rfl, .inr ⟨b, 0, _, rfl, hb, h, Nat.le_refl _, Nat.zero_le _, rfl, rfl⟩⟩
set_option maxHeartbeats 1000000 in
theorem l3With_d (v1 v2 : Value) (l m : List Nm) (w : World) (h1 : StrS w v1 l) (h2 : StrS w v2 m) (hb : l.length + m.length ≤ 1000000) :
    Calls Try.prog 17 #[v1, v2] w fun e w' => (∃ v, e = .returned v ∧ StrS w' v (l ++ m) ∧ ∀ k, v.ownBlock = some k → w.heap.size ≤ k ∧ k < w'.heap.size) ∧ Below w.heap.size w w' := by
  obtain ⟨i0, hi0, hz0, hz1, hz2⟩ := info_parts Try.infoStrD
  have H1 := Lib.hid h1
  have H2 := Lib.hid h2
  obtain ⟨p1, c1, rfl, -, -⟩ := h1
  obtain ⟨p2, c2, rfl, -, -⟩ := h2
  have HE : Hid ((w.alloc (.cells #[] 9)).ownsRow w.heap.size 9 1 (.slice (some ⟨w.heap.size, 0, none⟩) 0 0) ([] : List Nm).length (([] : List Nm).map strV)) := Lib.hid (owns_emptyD (heap_alloc_new w _) (Nat.le_refl _))
  go_enter Try.func17, Try.ntmps17
  go_wp2_with (first | (at_builtin; refine wpList_append_str _ rfl _ _ 23 rfl w.heap.size 9 i0 Try.underlying23 hi0 hz0 hz1 hz2 _ l rfl ho3 _ m rfl (strS_keep2D H2.out hB3) (by omega) hs3 ?_; intro v4 w4 ho4 hg4 hv4) | (at_builtin; go_must (refine wpList_append_str _ rfl _ _ 23 rfl w.heap.size 9 i0 Try.underlying23 hi0 hz0 hz1 hz2 _ [] rfl HE.out _ l rfl (strS_keep2D H1.out (below1 w _)) (by simp; omega) (by simp) ?_; intro v3 w3 ho3 hg3 hv3; have hB3 := below_grown2D (Below.refl _ w) (below1 w _) hg3 (fun k hk => (own_ltD HE.out hk).1); have hs3 := hB3.size; simp only [List.nil_append] at ho3)))
  go_ret
  have hB4 := below_grown2D hB3 (Below.refl _ _) hg4 (fun k hk => (own_ltD ho3 hk).1)
  exact ⟨⟨v4, rfl, owns_strS6D ho4 (by simp; omega), fun k hk => ho4.lt k hk⟩, hB4⟩
end Go.Proofs.Ytpaaglamcmfdjaa
namespace Go.Proofs.Ytpaaglamcmfdjaa
open Go.RowKit
set_option maxRecDepth 8000
set_option linter.unusedSimpArgs false
set_option linter.unusedVariables false
theorem StrS.onlyD {w w' : World} {b : Nat} {v : Value} {l : List Nm} (h : StrS w v l) (ho : Only b w w') (hne : ∀ q, v.ownBlock = some q → q ≠ b ∧ q < w.heap.size) : StrS w' v l := StrS.move h (fun q hq => ho.block q (hne q hq).2 (hne q hq).1)
/-- A scope: names and their types, in blocks other than the reader's. -/
def ScL (w : World) (q : Nat) (v : Value) (l : List Nm) : Prop := StrS w v l ∧ ∀ k, v.ownBlock = some k → k ≠ q ∧ k < w.heap.size
theorem ScL.only {w w' : World} {q : Nat} {v : Value} {l : List Nm} (h : ScL w q v l) (ho : Only q w w') : ScL w' q v l := ⟨h.1.onlyD ho h.2, fun k hk => ⟨(h.2 k hk).1, Nat.lt_of_lt_of_le (h.2 k hk).2 ho.size⟩⟩
def Sc (w : World) (q : Nat) (v1 v2 : Value) (n : Nat) : Prop := ∃ ns ts, ScL w q v1 ns ∧ ScL w q v2 ts ∧ ns.length = ts.length ∧ ns.length ≤ n ∧ ∀ x ∈ ns, x.length ≤ 10
theorem Sc.only {w w' : World} {q : Nat} {v1 v2 : Value} {n : Nat} (h : Sc w q v1 v2 n) (ho : Only q w w') : Sc w' q v1 v2 n := by
  obtain ⟨ns, ts, h1, h2, h3⟩ := h
  exact ⟨ns, ts, h1.only ho, h2.only ho, h3⟩
theorem Sc.mono {w : World} {q : Nat} {v1 v2 : Value} {n m : Nat} (h : Sc w q v1 v2 n) (hn : n ≤ m) : Sc w q v1 v2 m := by
  obtain ⟨ns, ts, h1, h2, h3, h4, h5⟩ := h
  exact ⟨ns, ts, h1, h2, h3, by omega, h5⟩
theorem new3 (w : World) (a b c : Obj) : (((w.alloc a).alloc b).alloc c).heap[w.heap.size + 1 + 1]? = some c := by
  have := heap_alloc_new ((w.alloc a).alloc b) c
  rwa [show ((w.alloc a).alloc b).heap.size = w.heap.size + 1 + 1 by simp] at this
theorem StrS.shape {w : World} {v : Value} {l : List Nm} (h : StrS w v l) : ∃ p n c, v = .slice p n c := by
  obtain ⟨p, c, h1, -, -⟩ := h
  exact ⟨p, _, c, h1⟩
theorem str_at {w : World} {b : Nat} {l : List Nm} {t : TypeId} (h : w.heap[b]? = some (.cells (l.map strV).toArray t (0, 0))) (hl : l.length ≤ 1000) : StrS w (.slice (some ⟨b, 0, none⟩) l.length l.length) l :=
  ⟨_, _, rfl, by omega, fun _ => ⟨b, 0, rfl, fun j v hj => by rw [Nat.zero_add, cell_of h]; simpa using hj⟩⟩
theorem str_one {w : World} {s : Nm} : StrS (w.alloc (.cells #[.string (bs s)] 9)) (.slice (some ⟨w.heap.size, 0, none⟩) 1 1) [s] := str_new (l := [s]) (by simp)
end Go.Proofs.Ytpaaglamcmfdjaa
