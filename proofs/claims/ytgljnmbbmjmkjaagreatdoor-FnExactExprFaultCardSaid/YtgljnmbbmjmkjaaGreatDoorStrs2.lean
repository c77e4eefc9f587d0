/- The helpers of the laws on arguments that are slices of strings: their size, their copy. -/
import Derived.Test.YtgljnmbbmjmkjaaGreatDoorB2
import Derived.OwnWalk
import Derived.Deep.LoopGhost
namespace Go.Proofs.YtgljnmbbmjmkjaaGreatDoor
open Go.RowKit
set_option maxRecDepth 8000
set_option linter.unusedSimpArgs false
set_option linter.unusedVariables false
/-- The sum of the lengths. -/
def lens : List (List UInt8) → Nat
  | [] => 0
  | x :: l => x.length + lens l
theorem lens_take : ∀ (l : List (List UInt8)) (k : Nat) (h : k < l.length), lens (l.take (k + 1)) = lens (l.take k) + l[k].length
  | x :: l, 0, _ => by simp [lens]
  | x :: l, k + 1, h => by
    have := lens_take l k (by simpa using h)
    simp only [List.take_succ_cons, lens, List.getElem_cons_succ] at this ⊢; omega
theorem lens_take_le : ∀ (l : List (List UInt8)) (k : Nat), lens (l.take k) ≤ lens l
  | [], k => by simp [lens]
  | x :: l, 0 => by simp [lens]
  | x :: l, k + 1 => by have := lens_take_le l k; simp only [List.take_succ_cons, lens]; omega
theorem length_le_lens : ∀ (l : List (List UInt8)) (k : Nat) (h : k < l.length), l[k].length ≤ lens l := fun l k h => by
  have := lens_take l k h; have := lens_take_le l (k + 1); omega
/-- What is left behind texts of a list. -/
def leftS (l : List (List UInt8)) (left : Nat) : Int := if l.length + lens l ≤ left then ((left - (l.length + lens l) : Nat) : Int) else -1
set_option maxHeartbeats 1000000 in
theorem szS_c (v : Value) (l : List (List UInt8)) (left : Nat) (hl : left ≤ 1048576) (w : World) (h : StrS w v l) (hm : ∀ x ∈ l, x.length ≤ 9223372036854775807) :
    Calls Tryz.prog 29 #[v, .int .i64 left] w fun e w' => e = .returned (.int .i64 (leftS l left)) ∧ w' = w := by
  obtain ⟨p, c, rfl, h1, h2⟩ := h
  by_cases hlen : l.length ≤ left
  · by_cases hz : l = []
    · subst hz
      have HF : Hid (leftS [] left = (left : Int)) := Lib.hid (by simp [leftS, lens])
      clear h2 hlen hm
      go_enter Tryz.func29, Tryz.ntmps29
      go_wp2_with fail
      refine wp_loop_rounds 1 ?_
      rw [rounds_succ]
      go_wp2_with fail
      go_ret
      exact ⟨ret_int (by first | exact HF.out.symm | (rw [HF.out]; simp)), rfl⟩
    · obtain ⟨r, off, rfl, h3⟩ := h2 hz
      obtain ⟨F, hF⟩ : ∃ F, F = leftS l left := ⟨_, rfl⟩
      rw [← hF]
      have HF := Lib.hid hF
      have h63 : (left : Int) - l.length ≥ 0 := by omega
      have HM : Hid (∀ k (h : k < l.length), l[k].length ≤ 9223372036854775807) := Lib.hid (fun k h => hm _ (List.getElem_mem h))
      clear h2 hF hm
      go_enter Tryz.func29, Tryz.ntmps29
      go_wp2_with fail
      go_loop [1, 5] (fun m i => ∃ k : Nat, k ≤ l.length ∧ i = .int .i64 k ∧ l.length + lens (l.take k) ≤ left ∧ m = .int .i64 ((left : Int) - (l.length + lens (l.take k) : Nat))) (fun m i => l.length - (intOf i).toNat)
      case atStart => exact ⟨0, Nat.zero_le _, rfl, by simp [lens]; omega, by simp [lens]⟩
      case round =>
        obtain ⟨k, hk, rfl, hle, rfl⟩ := hrel
        by_cases hlt : k < l.length
        · have c1 : w.cell? ⟨r, off + k, none⟩ = some (.string (bs l[k])) := StrS.cell h3 hlt
          have hsz := bs_size l[k]
          have hmk := HM.out k hlt
          have T := Lib.hid (lens_take l k hlt)
          have T2 := lens_take_le l (k + 1)
          obtain ⟨q, hq⟩ : ∃ q, q = lens (l.take k) := ⟨_, rfl⟩
          rw [← hq] at hle T ⊢
          have HQ := Lib.hid hq
          clear hq
          obtain ⟨L, hL⟩ : ∃ L, L = l[k].length := ⟨_, rfl⟩
          rw [← hL] at hsz hmk T
          obtain ⟨s, hs⟩ : ∃ s, s = bs l[k] := ⟨_, rfl⟩
          rw [← hs] at hsz c1
          clear hL hs
          by_cases hnx : l.length + q + L ≤ left
          · have hd : decide ((left : Int) - ((l.length + q : Nat) : Int) - (L : Int) < 0) = false := by simp; omega
            have hd2 : ¬ ((left : Int) - ((l.length + q : Nat) : Int) - (L : Int) < 0) := by omega
            go_wp2_with fail
            exact ⟨⟨k + 1, by omega, by go_num, by rw [T.out]; omega, by rw [T.out]; exact congrArg (Value.int .i64) (by omega)⟩, by simp [intOf]; omega⟩
          · have hd2 : ((left : Int) - ((l.length + q : Nat) : Int) - (L : Int) < 0) := by omega
            go_wp2_with fail
            go_ret
            refine ⟨ret_int ?_, rfl⟩
            rw [HF.out, leftS, if_neg (by rw [T.out] at T2; omega)]
        · have : k = l.length := by omega
          subst this
          have HL := Lib.hid (show l.take l.length = l from List.take_length)
          rw [HL.out] at hle
          go_wp2_with fail
          go_ret
          exact ⟨ret_int (by rw [HF.out, leftS, if_pos hle]; omega), rfl⟩
  · have HF : Hid (leftS l left = -1) := Lib.hid (by rw [leftS, if_neg (by omega)])
    have hd : ((left : Int) - (l.length : Int) < 0) := by omega
    clear h2
    go_enter Tryz.func29, Tryz.ntmps29
    go_wp2_with fail
    go_ret
    exact ⟨ret_int (by rw [HF.out]), rfl⟩
/-- The copied cells so far. -/
def cpRow (l : List (List UInt8)) (k : Nat) : List Value := (l.take k).map strV ++ List.replicate (l.length - k) (.string ⟨#[]⟩)
theorem cpRow_zero (l : List (List UInt8)) : cpRow l 0 = List.replicate l.length (.string ⟨#[]⟩) := by simp [cpRow]
theorem cpRow_end (l : List (List UInt8)) : cpRow l l.length = l.map strV := by simp [cpRow]
theorem cpRow_step (l : List (List UInt8)) (k : Nat) (h : k < l.length) : (cpRow l k).set k (strV l[k]) = cpRow l (k + 1) := by
  have e : List.replicate (l.length - k) (Value.string ⟨#[]⟩) = .string ⟨#[]⟩ :: List.replicate (l.length - (k + 1)) (.string ⟨#[]⟩) := by
    rw [show l.length - k = (l.length - (k + 1)) + 1 from by omega, List.replicate_succ]
  unfold cpRow
  rw [e, List.take_succ_eq_append_getElem h, List.map_append]
  have hlen : ((l.take k).map strV).length = k := by simp; omega
  rw [List.set_append_right _ _ (by omega), hlen]
  simp
theorem cpRow_len (l : List (List UInt8)) (k : Nat) (h : k ≤ l.length) : (cpRow l k).length = l.length := by simp [cpRow]; omega
theorem toList_inj {a b : Array Value} (h : a.toList = b.toList) : a = b := by cases a; cases b; simpa using h
theorem madeStr (n : Nat) : (madeCells (Value.string ⟨#[]⟩).cells (n * 1)).toList = List.replicate n (.string ⟨#[]⟩) := by
  simp only [madeCells, Value.cells, Nat.mul_one, Array.toList_map, Array.toList_range]
  refine List.ext_getElem (by simp) fun i h1 h2 => ?_
  simp [Nat.mod_one]
theorem row_ofS {w : World} {b : Nat} {cs : Array Value} {t : TypeId} (h : w.heap[b]? = some (.cells cs t (0, 0))) : hasRow w b 0 cs.toList := by
  intro j v hj
  rw [cell_of h]; simpa using hj
theorem Tryz.infoStr2 : (Tryz.prog.info? 9).map (fun i => (i.zero, i.size, i.bytes)) = some (some (.string ⟨#[]⟩), 1, 16) := by kernel_rfl
/-- A copy of texts, in a row of the call's own. -/
def CopyS (B : Nat) (l : List (List UInt8)) (e : Ending) (w' : World) : Prop := ∃ v, e = .returned v ∧ StrS w' v l ∧ (∀ k, v.ownBlock = some k → B ≤ k ∧ k < w'.heap.size)
set_option maxHeartbeats 1000000 in
theorem toS_c (v : Value) (l : List (List UInt8)) (hl : l.length ≤ 1048576) (w : World) (h : StrS w v l) :
    Calls Tryz.prog 30 #[v] w fun e w' => CopyS w.heap.size l e w' ∧ Below w.heap.size w w' := by
  obtain ⟨p, c, rfl, h1, h2⟩ := h
  obtain ⟨i0, hi0, hz0, hz1, hz2⟩ := info_parts Tryz.infoStr2
  have HS : Hid (l ≠ [] → ∃ r off, p = some ⟨r, off, none⟩ ∧ hasRow w r off (l.map strV)) := Lib.hid h2
  clear h2
  go_enter Tryz.func30, Tryz.ntmps30
  go_wp2_with (at_make; go_must (refine wpList_make_full _ rfl _ _ 26 rfl w.heap.size 9 i0 (.string ⟨#[]⟩) 1 Tryz.underlying26 hi0 hz0 hz1 _ _ _ _ l.length rfl rfl rfl rfl (by rw [hz2]; omega) (by unfold maxLen; omega) (Nat.le_refl _) ?_; intro w3 ho3 hg3))
  rw [madeStr] at ho3
  have hB3 : Below w.heap.size w w3 := ⟨hg3.os, hg3.tape, hg3.output, hg3.size, fun k hk => hg3.block k hk (by simp)⟩
  obtain ⟨arr, harr, hal⟩ : ∃ arr : Array Value, w3.heap[w.heap.size]? = some (.cells arr 9 (0, 0)) ∧ arr.toList = List.replicate l.length (.string ⟨#[]⟩) := by
    rcases ho3.2 with ⟨e1, _⟩ | ⟨g, cap, cur, e1, e2, e3, e4, e5, e6, e7⟩
    · cases e1
    · simp only [Value.slice.injEq, Option.some.injEq, Addr.mk.injEq, and_true] at e1
      obtain ⟨rfl, -, rfl⟩ := e1
      refine ⟨cur, e3, ?_⟩
      rw [← e7, Nat.mul_one, List.take_of_length_le (by simp; omega)]
  have hs3 := lt_of_block harr
  have HB := Lib.hid hB3
  clear ho3 hg3 hB3
  go_loopw [4] (fun i wr => ∃ (k : Nat) (ar : Array Value), k ≤ l.length ∧ i = .int .i64 k ∧ wr.heap[w.heap.size]? = some (.cells ar 9 (0, 0)) ∧ Hid (ar.toList = cpRow l k) ∧ Hid (Below w.heap.size w wr)) (fun i _ => l.length - (intOf i).toNat)
  case atStart => exact ⟨0, arr, Nat.zero_le _, rfl, harr, Lib.hid (by rw [hal, cpRow_zero]), HB⟩
  case round =>
    obtain ⟨k, ar, hk, rfl, hb0, har, hbl⟩ := hrel
    by_cases hlt : k < l.length
    · obtain ⟨r, off, rfl, h3⟩ := HS.out (by intro e; rw [e] at hlt; simp at hlt)
      have hrl : r < w.heap.size := World.block_lt_of_cell? w ⟨r, off + k, none⟩ (StrS.cell h3 hlt)
      have c1 : wr.cell? ⟨r, off + k, none⟩ = some (.string (bs l[k])) := by rw [hbl.out.cell (by exact hrl)]; exact StrS.cell h3 hlt
      have hsa : ar.size = l.length := by rw [← Array.length_toList, har.out, cpRow_len l k hk]
      have d1 : wr.cell? ⟨w.heap.size, k, none⟩ = some (ar[k]'(by omega)) := by rw [cell_of hb0]; simp [hsa, hlt]
      have f1 : wr.frozen? ⟨w.heap.size, k, none⟩ = false := free_of hb0
      go_wp2_with fail
      go_roundw
      case rel => exact ⟨k + 1, _, by omega, by go_num, blk_set hb0 _, Lib.hid (by rw [Array.toList_setIfInBounds, har.out]; exact cpRow_step l k hlt), Lib.hid (hbl.out.setCell (by simp) _)⟩
      case measure => simp [intOf]; omega
    · have : k = l.length := by omega
      subst this
      go_wp2_with fail
      go_ret
      refine ⟨⟨_, rfl, ⟨_, _, rfl, h1, fun _ => ⟨_, _, rfl, ?_⟩⟩, fun k hk => ?_⟩, hbl.out⟩
      · have := row_ofS hb0
        rw [har.out, cpRow_end] at this
        exact this
      · have hk' : w.heap.size = k := by simpa [Value.ownBlock] using hk
        have := lt_of_block hb0
        omega
theorem StrS.below {w w' : World} {v : Value} {l : List (List UInt8)} (h : StrS w v l) (hb : Below w.heap.size w w') : StrS w' v l := by
  obtain ⟨p, c, rfl, h1, h2⟩ := h
  refine ⟨p, c, rfl, h1, fun hne => ?_⟩
  obtain ⟨r, off, rfl, h3⟩ := h2 hne
  refine ⟨r, off, rfl, h3.move (hb.block r ?_)⟩
  have h0 : 0 < l.length := List.length_pos_iff.2 hne
  exact World.block_lt_of_cell? w ⟨r, off + 0, none⟩ (StrS.cell h3 h0)
theorem leftS_neg {l : List (List UInt8)} {left : Nat} (h : ¬ l.length + lens l ≤ left) : leftS l left = -1 := by rw [leftS, if_neg h]
theorem leftS_nonneg {l : List (List UInt8)} {left : Nat} (h : l.length + lens l ≤ left) : ∃ n : Nat, leftS l left = (n : Int) ∧ n ≤ left := ⟨_, by rw [leftS, if_pos h], by omega⟩
end Go.Proofs.YtgljnmbbmjmkjaaGreatDoor
