/- The program's types. -/
import Derived.Test.YtlinjnflhpldfaaGreatDoorImpl1e
import Derived.Test.YtlinjnflhpldfaaGreatDoorPure2
namespace Go.Proofs.YtlinjnflhpldfaaGreatDoor
open Go.RowKit
set_option maxRecDepth 8000
set_option linter.unusedSimpArgs false
set_option linter.unusedVariables false
/-- A type with a head, of any size. -/
def isTyW (hd : List UInt8) : Tr → Bool
  | .list [h, a, b] => atomOf h == hd && isTy a && isTy b
  | _ => false
theorem isTyW_three (hd : List UInt8) (h a b : Tr) : isTyW hd (.list [h, a, b]) = (atomOf h == hd && isTy a && isTy b) := rfl
theorem isTyW_other (hd : List UInt8) (ts : List Tr) (h : ts.length ≠ 3) : isTyW hd (.list ts) = false := by
  match ts, h with
  | [], _ => rfl
  | [_], _ => rfl
  | [_, _], _ => rfl
  | [_, _, _], h => exact absurd rfl h
  | _ :: _ :: _ :: _ :: _, _ => rfl
theorem isTy_W (ts : List Tr) : isTy (.list ts) = (isTyW [62] (.list ts) || isTyW [42] (.list ts)) := by
  by_cases h3 : ts.length = 3
  · obtain ⟨x, a, b, rfl⟩ := three_of h3
    rw [isTy_three, isTyW_three, isTyW_three]
    cases atomOf x == [62] <;> cases atomOf x == [42] <;> cases isTy a <;> cases isTy b <;> rfl
  · rw [isTy_other _ h3, isTyW_other _ _ h3, isTyW_other _ _ h3]; rfl
set_option maxHeartbeats 400000 in
theorem isAtom_yes (s : ByteArray) (p : Option Addr) (c : Nat) (b z d : Int) (w : World) :
    Calls Tryz.prog 79 #[.agg #[.string s, .slice p 0 c, .int .i64 b, .int .i64 z, .int .i64 d]] w fun e w' => e = .returned (.bool true) ∧ Below w.heap.size w w' := by
  go_enter Tryz.func79, Tryz.ntmps79
  go_wp2
  go_ret
  exact ⟨rfl, below1 _ _⟩
set_option maxHeartbeats 400000 in
theorem isAtom_no (s : ByteArray) (p : Option Addr) (n c : Nat) (hn : n ≠ 0) (b z d : Int) (w : World) :
    Calls Tryz.prog 79 #[.agg #[.string s, .slice p n c, .int .i64 b, .int .i64 z, .int .i64 d]] w fun e w' => e = .returned (.bool false) ∧ Below w.heap.size w w' := by
  go_enter Tryz.func79, Tryz.ntmps79
  go_wp2
  go_ret
  exact ⟨ret_bool (by simp; omega), below1 _ _⟩
/-- The contract of isType at forms of a depth below n. -/
def IsTypeC (n : Nat) : Prop := ∀ (t : Tr) (p : Option Addr) (m c : Nat) (ok : Nat → Prop) (w : World), t.depth < n → t.wf → FV nI w ok t (nI t (.slice p m c)) → (∀ k, ok k → k < w.heap.size) →
    Calls Tryz.prog 115 #[.agg #[.string (bs (atomOf t)), .slice p m c, .int .i64 t.bytes, .int .i64 t.size, .int .i64 t.depth]] w fun e w' => e = .returned (.bool (isTy t)) ∧ Below w.heap.size w w'
set_option maxHeartbeats 1000000 in
theorem isTypeWith_c (n : Nat) (ih : IsTypeC n) (hd : List UInt8) (ts : List Tr) (p : Option Addr) (m c : Nat) (ok : Nat → Prop) (w : World) (hdep : (Tr.list ts).depth < n + 1) (hwf : (Tr.list ts).wf) (hv : FV nI w ok (.list ts) (nI (.list ts) (.slice p m c))) (hok : ∀ k, ok k → k < w.heap.size) :
    Calls Tryz.prog 123 #[.agg #[.string (bs []), .slice p m c, .int .i64 (Tr.list ts).bytes, .int .i64 (Tr.list ts).size, .int .i64 (Tr.list ts).depth], .string (bs hd)] w fun e w' => e = .returned (.bool (isTyW hd (.list ts))) ∧ Below w.heap.size w w' := by
  simp only [FV] at hv
  obtain ⟨r, off, cap, xs, hh, h2, h3, h4, h5, h6⟩ := hv
  have hh := nI_inj _ _ _ hh
  simp only [Value.slice.injEq] at hh
  obtain ⟨rfl, rfl, rfl⟩ := hh
  have h3' := maxLen_le h4
  have hrlt := hok r h2
  by_cases hl : ts.length = 3
  · obtain ⟨x, a, b, rfl⟩ := three_of hl
    obtain ⟨⟨p0, n0, q0, v0, r0⟩, ⟨p1, n1, q1, v1, r1⟩, ⟨p2, n2, q2, v2, r2⟩⟩ := FVs.three nI_len h6 h5
    have hdd := depths3 x a b
    have e0 : w.cell? ⟨r, off, none⟩ = some (.string (bs (atomOf x))) := r0 0 _ rfl
    have e1 : w.cell? ⟨r, off + 5, none⟩ = some (.string (bs (atomOf a))) := r1 0 _ rfl
    have e2 : w.cell? ⟨r, off + 5 + 1, none⟩ = some (.slice p1 n1 q1) := r1 1 _ rfl
    have e3 : w.cell? ⟨r, off + 5 + 2, none⟩ = some (.int .i64 a.bytes) := r1 2 _ rfl
    have e4 : w.cell? ⟨r, off + 5 + 3, none⟩ = some (.int .i64 a.size) := r1 3 _ rfl
    have e5 : w.cell? ⟨r, off + 5 + 4, none⟩ = some (.int .i64 a.depth) := r1 4 _ rfl
    have k1 : w.cell? ⟨r, off + 10, none⟩ = some (.string (bs (atomOf b))) := r2 0 _ rfl
    have k2 : w.cell? ⟨r, off + 10 + 1, none⟩ = some (.slice p2 n2 q2) := r2 1 _ rfl
    have k3 : w.cell? ⟨r, off + 10 + 2, none⟩ = some (.int .i64 b.bytes) := r2 2 _ rfl
    have k4 : w.cell? ⟨r, off + 10 + 3, none⟩ = some (.int .i64 b.size) := r2 3 _ rfl
    have k5 : w.cell? ⟨r, off + 10 + 4, none⟩ = some (.int .i64 b.depth) := r2 4 _ rfl
    have HT := Lib.hid (isTyW_three hd x a b)
    have hwa : a.wf := hwf.2.2.1
    have hwb : b.wf := hwf.2.2.2.1
    have C1 : Hid (∀ W, Below w.heap.size w W → Calls Tryz.prog 115 #[.agg #[.string (bs (atomOf a)), .slice p1 n1 q1, .int .i64 a.bytes, .int .i64 a.size, .int .i64 a.depth]] W fun e w' => e = .returned (.bool (isTy a)) ∧ Below W.heap.size W w') :=
      Lib.hid (fun W hW => ih a p1 n1 q1 ok W (by omega) hwa (v1.below hW hok) (fun j hj => Nat.lt_of_lt_of_le (hok j hj) hW.size))
    have C2 : Hid (∀ W, Below w.heap.size w W → Calls Tryz.prog 115 #[.agg #[.string (bs (atomOf b)), .slice p2 n2 q2, .int .i64 b.bytes, .int .i64 b.size, .int .i64 b.depth]] W fun e w' => e = .returned (.bool (isTy b)) ∧ Below W.heap.size W w') :=
      Lib.hid (fun W hW => ih b p2 n2 q2 ok W (by omega) hwb (v2.below hW hok) (fun j hj => Nat.lt_of_lt_of_le (hok j hj) hW.size))
    clear ih hl
    cases hx : (atomOf x == hd) with
    | false =>
      have hx2 : ((bs (atomOf x)).toList == (bs hd).toList) = false := by rw [bs_toList, bs_toList]; exact hx
      go_enter Tryz.func123, Tryz.ntmps123
      go_wp2_with fail
      go_ret
      exact ⟨ret_bool (by rw [HT.out, hx]; rfl), below1 _ _⟩
    | true =>
      have hx2 : ((bs (atomOf x)).toList == (bs hd).toList) = true := by rw [bs_toList, bs_toList]; exact hx
      have hx3 := Lib.hid hx
      clear hx
      cases hta : isTy a with
      | false =>
        rw [hta] at C1
        go_enter Tryz.func123, Tryz.ntmps123
        go_wp2_with (go_at_call 115; go_must (refine (C1.out _ (below1 _ _)).mono ?_; rintro e w1 ⟨rfl, hb1⟩))
        go_ret
        exact ⟨ret_bool (by rw [HT.out, hx3.out, hta]; rfl), (below1 w _).trans (hb1.mono (by simp))⟩
      | true =>
        rw [hta] at C1
        go_enter Tryz.func123, Tryz.ntmps123
        go_wp2_with (go_at_call 115; first | ((with_reducible refine (C1.out _ (below1 _ _)).mono ?_); rintro e w1 ⟨rfl, hb1⟩; have hw1 := (below1 w _).trans (hb1.mono (by simp)); have c1 := below_blk hb1 (by simp) (heap_alloc_new _ _); have d1 := cell_of (j := 1) c1; have g1 := (hw1.cell (p := ⟨r, off + 10, none⟩) hrlt).trans k1; have g2 := (hw1.cell (p := ⟨r, off + 10 + 1, none⟩) hrlt).trans k2; have g3 := (hw1.cell (p := ⟨r, off + 10 + 2, none⟩) hrlt).trans k3; have g4 := (hw1.cell (p := ⟨r, off + 10 + 3, none⟩) hrlt).trans k4; have g5 := (hw1.cell (p := ⟨r, off + 10 + 4, none⟩) hrlt).trans k5) | (refine (C2.out _ hw1).mono ?_; rintro e w2 ⟨rfl, hb2⟩))
        go_ret
        exact ⟨ret_bool (by rw [HT.out, hx3.out, hta]; simp), hw1.trans (hb2.mono hw1.size)⟩
  · have HT := Lib.hid (isTyW_other hd ts hl)
    have hl' : ((ts.length : Int) == 3) = false := by simp; omega
    go_enter Tryz.func123, Tryz.ntmps123
    go_wp2_with fail
    go_ret
    exact ⟨ret_bool HT.out.symm, below1 _ _⟩
theorem isType_zero : IsTypeC 0 := fun t _ _ _ _ _ h => by omega
set_option maxHeartbeats 1000000 in
theorem isType_succ (n : Nat) (ih : IsTypeC n) : IsTypeC (n + 1) := by
  intro t p m c ok w hd hwf hv hok
  match t, hv with
  | .atom a, hv =>
    simp only [FV] at hv
    have hh := nI_inj _ _ _ hv
    simp only [Value.slice.injEq] at hh
    obtain ⟨rfl, rfl, rfl⟩ := hh
    clear hv
    have HT := Lib.hid (isTy_atom a)
    go_enter Tryz.func115, Tryz.ntmps115
    simp only [atomOf]
    go_wp2_with (go_at_call 79; go_must (refine (isAtom_yes _ _ _ _ _ _ _).mono ?_; rintro e w1 ⟨rfl, hb1⟩; have c1 := below_blk hb1 (by simp) (heap_alloc_new _ _); have d0 := cell_of (j := 0) c1))
    go_ret
    exact ⟨ret_bool (by rw [HT.out, bs_toList]), (below1 w _).trans (hb1.mono (by simp))⟩
  | .list ts, hv =>
    have hne : m ≠ 0 := by
      have hv' := hv
      simp only [FV] at hv'
      obtain ⟨r, off, cap, xs, hh, _⟩ := hv'
      have hh := nI_inj _ _ _ hh
      simp only [Value.slice.injEq] at hh
      rw [hh.2.1]
      have := hwf.1
      cases ts with
      | nil => exact absurd rfl this
      | cons _ _ => simp
    have C : Hid (∀ (hd' : List UInt8) W, Below w.heap.size w W → Calls Tryz.prog 123 #[.agg #[.string (bs []), .slice p m c, .int .i64 (Tr.list ts).bytes, .int .i64 (Tr.list ts).size, .int .i64 (Tr.list ts).depth], .string (bs hd')] W fun e w' => e = .returned (.bool (isTyW hd' (.list ts))) ∧ Below W.heap.size W w') :=
      Lib.hid (fun hd' W hW => isTypeWith_c n ih hd' ts p m c ok W hd hwf (hv.below hW hok) (fun j hj => Nat.lt_of_lt_of_le (hok j hj) hW.size))
    have HT := Lib.hid (isTy_W ts)
    clear hv ih
    have C1 : Hid (∀ W, Below w.heap.size w W → Calls Tryz.prog 123 #[.agg #[.string ⟨#[]⟩, .slice p m c, .int .i64 (Tr.list ts).bytes, .int .i64 (Tr.list ts).size, .int .i64 (Tr.list ts).depth], .string ⟨#[62]⟩] W fun e w' => e = .returned (.bool (isTyW [62] (.list ts))) ∧ Below W.heap.size W w') := C.out [62]
    have C2 : Hid (∀ W, Below w.heap.size w W → Calls Tryz.prog 123 #[.agg #[.string ⟨#[]⟩, .slice p m c, .int .i64 (Tr.list ts).bytes, .int .i64 (Tr.list ts).size, .int .i64 (Tr.list ts).depth], .string ⟨#[42]⟩] W fun e w' => e = .returned (.bool (isTyW [42] (.list ts))) ∧ Below W.heap.size W w') := C.out [42]
    clear C
    cases h62 : isTyW [62] (.list ts) with
    | true =>
      rw [h62] at C1
      go_enter Tryz.func115, Tryz.ntmps115
      simp only [atomOf, bs]
      go_wp2_with (first | (go_at_call 79; go_must (refine (isAtom_no _ _ _ _ hne _ _ _ _).mono ?_; rintro e w1 ⟨rfl, hb1⟩; have c1 := below_blk hb1 (by simp) (heap_alloc_new _ _); have d0 := cell_of (j := 0) c1; have d1 := cell_of (j := 1) c1; have d2 := cell_of (j := 2) c1; have d3 := cell_of (j := 3) c1; have d4 := cell_of (j := 4) c1; have hw1 := (below1 w _).trans (hb1.mono (by simp)))) | (go_at_call 123; go_must (refine (C1.out _ hw1).mono ?_; rintro e w2 ⟨rfl, hb2⟩)))
      go_ret
      exact ⟨ret_bool (by rw [HT.out, h62]; rfl), hw1.trans (hb2.mono hw1.size)⟩
    | false =>
      rw [h62] at C1
      go_enter Tryz.func115, Tryz.ntmps115
      simp only [atomOf, bs]
      go_wp2_with (first | (go_at_call 79; go_must (refine (isAtom_no _ _ _ _ hne _ _ _ _).mono ?_; rintro e w1 ⟨rfl, hb1⟩; have c1 := below_blk hb1 (by simp) (heap_alloc_new _ _); have d0 := cell_of (j := 0) c1; have d1 := cell_of (j := 1) c1; have d2 := cell_of (j := 2) c1; have d3 := cell_of (j := 3) c1; have d4 := cell_of (j := 4) c1; have hw1 := (below1 w _).trans (hb1.mono (by simp)))) | (go_at_call 123; first | ((with_reducible refine (C1.out _ hw1).mono ?_); rintro e w2 ⟨rfl, hb2⟩; have c2 := below_blk hb2 (lt_of_block c1) c1; have t0 := cell_of (j := 0) c2; have t1 := cell_of (j := 1) c2; have t2 := cell_of (j := 2) c2; have t3 := cell_of (j := 3) c2; have t4 := cell_of (j := 4) c2; have hw2 := hw1.trans (hb2.mono hw1.size)) | (refine (C2.out _ hw2).mono ?_; rintro e w3 ⟨rfl, hb3⟩)))
      go_ret
      exact ⟨ret_bool (by rw [HT.out, h62]; rfl), hw2.trans (hb3.mono hw2.size)⟩
theorem isType_all : ∀ n, IsTypeC n
  | 0 => isType_zero
  | n + 1 => isType_succ n (isType_all n)
end Go.Proofs.YtlinjnflhpldfaaGreatDoor
