/- Instructions: the program's packages; an instruction in memory. -/
import Derived.Test.YtfknoigbkleanaaGreatDoorIn6
import Derived.Deep.RegionWith
namespace Go.Proofs.YtfknoigbkleanaaGreatDoor
open Go.RowKit
set_option maxRecDepth 8000
set_option linter.unusedSimpArgs false
set_option linter.unusedVariables false
theorem field0I (w : World) (S : ByteArray) (p : Option Addr) (m c : Nat) (x y z : Int) : (Instr.field 56 (.agg #[.string S, .slice p m c, .int .i64 x, .int .i64 y, .int .i64 z]) 0).run Tryz.prog w = .ok (.string S) w := by kernel_rfl
set_option maxHeartbeats 1000000 in
theorem isPackage_c (t : Tr) (p : Option Addr) (m c : Nat) (ok : Nat → Prop) (w : World) (hwf : t.wf) (hbt : t.bytes ≤ 12000) (hv : FV nI w ok t (nI t (.slice p m c))) (hok : ∀ k, ok k → k < w.heap.size) :
    Calls Tryz.prog 167 #[.agg #[.string (bs (atomOf t)), .slice p m c, .int .i64 t.bytes, .int .i64 t.size, .int .i64 t.depth]] w fun e w' => e = .returned (.bool (pkB t)) ∧ Below w.heap.size w w' := by
  have C0 : Hid (∀ W, Below w.heap.size w W → Calls Tryz.prog 191 #[.agg #[.string (bs (atomOf t)), .slice p m c, .int .i64 t.bytes, .int .i64 t.size, .int .i64 t.depth], .int .i64 0] W fun e w' => (∃ p' m' c' x y z, e = .returned (.agg #[.string (bs (hdT t)), .slice p' m' c', .int .i64 x, .int .i64 y, .int .i64 z])) ∧ Below W.heap.size W w') := Lib.hid (fun W hW => part0_c t p m c ok W hwf (hv.below hW hok) (fun j hj => Nat.lt_of_lt_of_le (hok j hj) hW.size))
  have C1 : Hid (∀ W, Below w.heap.size w W → Calls Tryz.prog 168 #[.agg #[.string (bs (atomOf t)), .slice p m c, .int .i64 t.bytes, .int .i64 t.size, .int .i64 t.depth]] W fun e w' => e = .returned (.bool (tgt noU false t)) ∧ Below W.heap.size W w') := Lib.hid (fun W hW => isTarget_c t p m c ok W hwf hbt (hv.below hW hok) (fun j hj => Nat.lt_of_lt_of_le (hok j hj) hW.size))
  obtain ⟨S, hS⟩ : ∃ S, S = bs (hdT t) := ⟨_, rfl⟩
  have HR : Hid (pkB t = (decide (hdT t = [101]) && tgt noU false t)) := Lib.hid rfl
  rw [HR.out]
  rw [← hS] at C0
  have e1 : (S.toList == [101]) = decide (hdT t = [101]) := by
    rw [hS, bs_toList]
    by_cases h : hdT t = [101] <;> simp [h]
  cases hd : decide (hdT t = [101]) with
  | true =>
    rw [hd] at e1
    have e2 : S.toList = [101] := by simpa using e1
    clear hd hv hok hwf hbt HR hS
    generalize bs (atomOf t) = A at *
    generalize tgt noU false t = R at *
    generalize t.bytes = t1 at *
    generalize t.size = t2 at *
    generalize t.depth = t3 at *
    go_enter Tryz.func167, Tryz.ntmps167
    go_wp2_with (first | (go_at_call 191; go_must (refine (C0.out _ (below1 _ _)).mono ?_; rintro e w1 ⟨⟨p', m', c', x, y, z, rfl⟩, hb1⟩; have hF := field0I w1 S p' m' c' x y z; have HB1 := Lib.hid (show Below w.heap.size w w1 from (below1 w _).trans (hb1.mono (by simp))); have X1 := below_blk hb1 (by simp) (heap_alloc_new w (.cells #[.string A, .slice p m c, .int .i64 t1, .int .i64 t2, .int .i64 t3] 56)); have x0 := cell_of (j := 0) X1; have x1 := cell_of (j := 1) X1; have x2 := cell_of (j := 2) X1; have x3 := cell_of (j := 3) X1; have x4 := cell_of (j := 4) X1)) | (go_at_call 168; go_must (refine (C1.out _ HB1.out).mono ?_; rintro e w2 ⟨rfl, hb2⟩)))
    go_ret
    exact ⟨ret_bool (by simp), HB1.out.trans (hb2.mono HB1.out.size)⟩
  | false =>
    rw [hd] at e1
    have e2 : ¬ S.toList = [101] := by simpa using e1
    clear hd hv hok hwf hbt HR hS
    generalize bs (atomOf t) = A at *
    generalize tgt noU false t = R at *
    generalize t.bytes = t1 at *
    generalize t.size = t2 at *
    generalize t.depth = t3 at *
    go_enter Tryz.func167, Tryz.ntmps167
    go_wp2_with (first | (go_at_call 191; go_must (refine (C0.out _ (below1 _ _)).mono ?_; rintro e w1 ⟨⟨p', m', c', x, y, z, rfl⟩, hb1⟩; have hF := field0I w1 S p' m' c' x y z; have HB1 := Lib.hid (show Below w.heap.size w w1 from (below1 w _).trans (hb1.mono (by simp))); have X1 := below_blk hb1 (by simp) (heap_alloc_new w (.cells #[.string A, .slice p m c, .int .i64 t1, .int .i64 t2, .int .i64 t3] 56)); have x0 := cell_of (j := 0) X1; have x1 := cell_of (j := 1) X1; have x2 := cell_of (j := 2) X1; have x3 := cell_of (j := 3) X1; have x4 := cell_of (j := 4) X1)))
    go_ret
    exact ⟨ret_bool (by simp), HB1.out⟩
/-- What may lie in a cell of an instruction. -/
def okC (k : Nat) (v : Value) : Prop :=
  if k = 0 ∨ k = 4 ∨ k = 5 ∨ k = 10 then ∃ s, v = .string s else if k = 2 ∨ k = 6 ∨ k = 11 then ∃ p n c, v = .slice p n c else ∃ a, v = .int .i64 a
/-- The instruction in block b: its head, and a row of registers of its own. -/
def InB (w : World) (b base : Nat) (H : ByteArray) (M : Nat) : Prop := ∃ (cs : Array Value) (v : Value) (m : Nat) (xs : List Value), w.heap[b]? = some (.cells cs 78 (0, 0)) ∧ cs.size = 15 ∧ cs[0]? = some (.string H) ∧ cs[2]? = some v ∧ w.ownsRow base 3 1 v m xs ∧ m ≤ M ∧ ∀ k u, cs[k]? = some u → okC k u
theorem owns_setO {w : World} {b base : Nat} {T T' : TypeId} {size : Nat} {v : Value} {m : Nat} {xs : List Value} {cs : Array Value} (ho : w.ownsRow base T size v m xs) (hb : w.heap[b]? = some (.cells cs T' (0, 0))) (hT : T ≠ T') (j : Nat) (u : Value) : (w.setCell ⟨b, j, none⟩ u).ownsRow base T size v m xs := by
  refine ⟨ho.1, ?_⟩
  rcases ho.2 with h | ⟨g, cap, cur, e, h0, h3, h1, h2, h4, h5⟩
  · exact .inl h
  · refine .inr ⟨g, cap, cur, e, h0, ?_, h1, h2, h4, h5⟩
    rw [blk_set_other _ (show g ≠ b from fun q => by
      subst q
      rw [h3] at hb
      simp only [Option.some.injEq, Obj.cells.injEq] at hb
      exact hT hb.2.1)]
    exact h3
theorem okC_set {cs : Array Value} (h : ∀ k u, cs[k]? = some u → okC k u) {j : Nat} {v : Value} (hv : okC j v) : ∀ k u, (cs.setIfInBounds j v)[k]? = some u → okC k u := by
  intro k u hk
  by_cases e : j = k
  · subst e
    rw [Array.getElem?_setIfInBounds_self] at hk
    split at hk
    · injection hk with hk; subst hk; exact hv
    · cases hk
  · rw [Array.getElem?_setIfInBounds_ne e] at hk
    exact h k u hk
theorem InB.set {w : World} {b base : Nat} {H : ByteArray} {M : Nat} (h : InB w b base H M) {j : Nat} (h0 : j ≠ 0) (h2 : j ≠ 2) (u : Value) (hu : okC j u) : InB (w.setCell ⟨b, j, none⟩ u) b base H M := by
  obtain ⟨cs, v, m, xs, k1, k2, k3, k4, k5, k6, k7⟩ := h
  refine ⟨cs.setIfInBounds j u, v, m, xs, blk_set k1 u, by simpa using k2, ?_, ?_, owns_setO k5 k1 (by decide) j u, k6, okC_set k7 hu⟩
  · rw [Array.getElem?_setIfInBounds_ne h0]; exact k3
  · rw [Array.getElem?_setIfInBounds_ne h2]; exact k4
theorem InB.below {w w' : World} {b base : Nat} {H : ByteArray} {M : Nat} (h : InB w b base H M) (hb : Below w.heap.size w w') : InB w' b base H M := by
  obtain ⟨cs, v, m, xs, k1, k2, k3, k4, k5, k6, k7⟩ := h
  exact ⟨cs, v, m, xs, below_blk hb (lt_of_block k1) k1, k2, k3, k4, owns_below k5 hb, k6, k7⟩
theorem InB.cell {w : World} {b base : Nat} {H : ByteArray} {M : Nat} (h : InB w b base H M) {j : Nat} (hj : j < 15) : (∃ u, w.cell? ⟨b, j, none⟩ = some u) ∧ w.frozen? ⟨b, j, none⟩ = false := by
  obtain ⟨cs, v, m, xs, k1, k2, k3, k4, k5, k6, k7⟩ := h
  exact ⟨⟨cs[j]'(by omega), by rw [cell_of k1]; exact Array.getElem?_eq_getElem (by omega)⟩, free_of k1⟩
theorem InB.mono {w : World} {b base : Nat} {H : ByteArray} {M M' : Nat} (h : InB w b base H M) (hM : M ≤ M') : InB w b base H M' := by
  obtain ⟨cs, v, m, xs, k1, k2, k3, k4, k5, k6, k7⟩ := h
  exact ⟨cs, v, m, xs, k1, k2, k3, k4, k5, by omega, k7⟩
/-- The cells of an instruction, by their shapes. -/
structure InC (w : World) (b : Nat) (H : ByteArray) (a1 a3 a7 a8 a9 a12 a13 a14 : Int) (s4 s5 s10 : ByteArray) (p2 p6 p11 : Option Addr) (n2 c2 n6 c6 n11 c11 : Nat) : Prop where
  blk : w.heap[b]? = some (.cells #[.string H, .int .i64 a1, .slice p2 n2 c2, .int .i64 a3, .string s4, .string s5, .slice p6 n6 c6, .int .i64 a7, .int .i64 a8, .int .i64 a9, .string s10, .slice p11 n11 c11, .int .i64 a12, .int .i64 a13, .int .i64 a14] 78 (0, 0))
theorem InB.cells {w : World} {b base : Nat} {H : ByteArray} {M : Nat} (h : InB w b base H M) : ∃ a1 a3 a7 a8 a9 a12 a13 a14 s4 s5 s10 p2 p6 p11 n2 c2 n6 c6 n11 c11, InC w b H a1 a3 a7 a8 a9 a12 a13 a14 s4 s5 s10 p2 p6 p11 n2 c2 n6 c6 n11 c11 := by
  obtain ⟨cs, v, m, xs, k1, k2, k3, k4, k5, k6, k7⟩ := h
  have hI : ∀ k, k < 15 → (¬ (k = 0 ∨ k = 4 ∨ k = 5 ∨ k = 10)) → (¬ (k = 2 ∨ k = 6 ∨ k = 11)) → ∃ a, cs[k]? = some (.int .i64 a) := fun k hk h1 h2 => by
    have := k7 k _ (Array.getElem?_eq_getElem (by omega))
    unfold okC at this
    rw [if_neg h1, if_neg h2] at this
    obtain ⟨a, ha⟩ := this
    exact ⟨a, by rw [Array.getElem?_eq_getElem (by omega), ha]⟩
  have hS : ∀ k, k < 15 → (k = 0 ∨ k = 4 ∨ k = 5 ∨ k = 10) → ∃ a, cs[k]? = some (.string a) := fun k hk h1 => by
    have := k7 k _ (Array.getElem?_eq_getElem (by omega))
    unfold okC at this
    rw [if_pos h1] at this
    obtain ⟨a, ha⟩ := this
    exact ⟨a, by rw [Array.getElem?_eq_getElem (by omega), ha]⟩
  have hP : ∀ k, k < 15 → (¬ (k = 0 ∨ k = 4 ∨ k = 5 ∨ k = 10)) → (k = 2 ∨ k = 6 ∨ k = 11) → ∃ p n c, cs[k]? = some (.slice p n c) := fun k hk h1 h2 => by
    have := k7 k _ (Array.getElem?_eq_getElem (by omega))
    unfold okC at this
    rw [if_neg h1, if_pos h2] at this
    obtain ⟨p, n, c, ha⟩ := this
    exact ⟨p, n, c, by rw [Array.getElem?_eq_getElem (by omega), ha]⟩
  obtain ⟨a1, e1⟩ := hI 1 (by decide) (by decide) (by decide)
  obtain ⟨p2, n2, c2, e2⟩ := hP 2 (by decide) (by decide) (by decide)
  obtain ⟨a3, e3⟩ := hI 3 (by decide) (by decide) (by decide)
  obtain ⟨s4, e4⟩ := hS 4 (by decide) (by decide)
  obtain ⟨s5, e5⟩ := hS 5 (by decide) (by decide)
  obtain ⟨p6, n6, c6, e6⟩ := hP 6 (by decide) (by decide) (by decide)
  obtain ⟨a7, e7⟩ := hI 7 (by decide) (by decide) (by decide)
  obtain ⟨a8, e8⟩ := hI 8 (by decide) (by decide) (by decide)
  obtain ⟨a9, e9⟩ := hI 9 (by decide) (by decide) (by decide)
  obtain ⟨s10, e10⟩ := hS 10 (by decide) (by decide)
  obtain ⟨p11, n11, c11, e11⟩ := hP 11 (by decide) (by decide) (by decide)
  obtain ⟨a12, e12⟩ := hI 12 (by decide) (by decide) (by decide)
  obtain ⟨a13, e13⟩ := hI 13 (by decide) (by decide) (by decide)
  obtain ⟨a14, e14⟩ := hI 14 (by decide) (by decide) (by decide)
  refine ⟨a1, a3, a7, a8, a9, a12, a13, a14, s4, s5, s10, p2, p6, p11, n2, c2, n6, c6, n11, c11, ⟨?_⟩⟩
  rw [k1]
  congr 2
  apply Array.ext_getElem?
  intro i
  match i with
  | 0 => exact k3
  | 1 => exact e1
  | 2 => exact e2
  | 3 => exact e3
  | 4 => exact e4
  | 5 => exact e5
  | 6 => exact e6
  | 7 => exact e7
  | 8 => exact e8
  | 9 => exact e9
  | 10 => exact e10
  | 11 => exact e11
  | 12 => exact e12
  | 13 => exact e13
  | 14 => exact e14
  | i + 15 => rw [Array.getElem?_eq_none (by omega), Array.getElem?_eq_none (by simp)]
end Go.Proofs.YtfknoigbkleanaaGreatDoor
