/- The helpers of the laws on arguments that are slices of strings: their size, their copy. The reference's look-up in an environment. -/
import Derived.Test.YtndbdiccjmlegaaGreatDoorB2
import Derived.OwnWalk
import Derived.Deep.LoopGhost
import Derived.Test.YtndbdiccjmlegaaGreatDoorPureT
import Derived.Test.YtndbdiccjmlegaaGreatDoorSpec2a
import Derived.Test.YtndbdiccjmlegaaGreatDoorS1z
namespace Go.Proofs.YtndbdiccjmlegaaGreatDoor
open Go.RowKit
set_option maxRecDepth 8000
set_option linter.unusedSimpArgs false
set_option linter.unusedVariables false
/-- The sum of the lengths. -/
def lens : List (List UInt8) → Nat
  | [] => 0
  | x :: l => x.length + lens l
theorem lens_take : ∀ (l : List (List UInt8)) (k : Nat) (h : k < l.length), lens (l.take (k + 1)) = lens (l.take k) + l[k].length
  | x :: l, 0, _ => by simp [lens]
  | x :: l, k + 1, h => by
    have := lens_take l k (by simpa using h)
    simp only [List.take_succ_cons, lens, List.getElem_cons_succ] at this ⊢; omega
theorem lens_take_le : ∀ (l : List (List UInt8)) (k : Nat), lens (l.take k) ≤ lens l
  | [], k => by simp [lens]
  | x :: l, 0 => by simp [lens]
  | x :: l, k + 1 => by have := lens_take_le l k; simp only [List.take_succ_cons, lens]; omega
theorem length_le_lens : ∀ (l : List (List UInt8)) (k : Nat) (h : k < l.length), l[k].length ≤ lens l := fun l k h => by
  have := lens_take l k h; have := lens_take_le l (k + 1); omega
/-- What is left behind texts of a list. -/
def leftS (l : List (List UInt8)) (left : Nat) : Int := if l.length + lens l ≤ left then ((left - (l.length + lens l) : Nat) : Int) else -1
/-- The copied cells so far. -/
def cpRow (l : List (List UInt8)) (k : Nat) : List Value := (l.take k).map strV ++ List.replicate (l.length - k) (.string ⟨#[]⟩)
theorem cpRow_zero (l : List (List UInt8)) : cpRow l 0 = List.replicate l.length (.string ⟨#[]⟩) := by simp [cpRow]
theorem cpRow_end (l : List (List UInt8)) : cpRow l l.length = l.map strV := by simp [cpRow]
theorem cpRow_step (l : List (List UInt8)) (k : Nat) (h : k < l.length) : (cpRow l k).set k (strV l[k]) = cpRow l (k + 1) := by
  have e : List.replicate (l.length - k) (Value.string ⟨#[]⟩) = .string ⟨#[]⟩ :: List.replicate (l.length - (k + 1)) (.string ⟨#[]⟩) := by
    rw [show l.length - k = (l.length - (k + 1)) + 1 from by omega, List.replicate_succ]
  unfold cpRow
  rw [e, List.take_succ_eq_append_getElem h, List.map_append]
  have hlen : ((l.take k).map strV).length = k := by simp; omega
  rw [List.set_append_right _ _ (by omega), hlen]
  simp
theorem cpRow_len (l : List (List UInt8)) (k : Nat) (h : k ≤ l.length) : (cpRow l k).length = l.length := by simp [cpRow]; omega
theorem toList_inj {a b : Array Value} (h : a.toList = b.toList) : a = b := by cases a; cases b; simpa using h
theorem madeStr (n : Nat) : (madeCells (Value.string ⟨#[]⟩).cells (n * 1)).toList = List.replicate n (.string ⟨#[]⟩) := by
  simp only [madeCells, Value.cells, Nat.mul_one, Array.toList_map, Array.toList_range]
  refine List.ext_getElem (by simp) fun i h1 h2 => ?_
  simp [Nat.mod_one]
theorem row_ofS {w : World} {b : Nat} {cs : Array Value} {t : TypeId} (h : w.heap[b]? = some (.cells cs t (0, 0))) : hasRow w b 0 cs.toList := by
  intro j v hj
  rw [cell_of h]; simpa using hj
theorem Tryz.infoStr2 : (Tryz.prog.info? 9).map (fun i => (i.zero, i.size, i.bytes)) = some (some (.string ⟨#[]⟩), 1, 16) := by kernel_rfl
/-- A copy of texts, in a row of the call's own. -/
def CopyS (B : Nat) (l : List (List UInt8)) (e : Ending) (w' : World) : Prop := ∃ v, e = .returned v ∧ StrS w' v l ∧ (∀ k, v.ownBlock = some k → B ≤ k ∧ k < w'.heap.size)
theorem StrS.below {w w' : World} {v : Value} {l : List (List UInt8)} (h : StrS w v l) (hb : Below w.heap.size w w') : StrS w' v l := by
  obtain ⟨p, c, rfl, h1, h2⟩ := h
  refine ⟨p, c, rfl, h1, fun hne => ?_⟩
  obtain ⟨r, off, rfl, h3⟩ := h2 hne
  refine ⟨r, off, rfl, h3.move (hb.block r ?_)⟩
  have h0 : 0 < l.length := List.length_pos_iff.2 hne
  exact World.block_lt_of_cell? w ⟨r, off + 0, none⟩ (StrS.cell h3 h0)
theorem leftS_neg {l : List (List UInt8)} {left : Nat} (h : ¬ l.length + lens l ≤ left) : leftS l left = -1 := by rw [leftS, if_neg h]
theorem leftS_nonneg {l : List (List UInt8)} {left : Nat} (h : l.length + lens l ≤ left) : ∃ n : Nat, leftS l left = (n : Int) ∧ n ≤ left := ⟨_, by rw [leftS, if_pos h], by omega⟩
end Go.Proofs.YtndbdiccjmlegaaGreatDoor
namespace Go.Proofs.YtndbdiccjmlegaaGreatDoor
open Go.RowKit
set_option maxRecDepth 8000
set_option linter.unusedSimpArgs false
set_option linter.unusedVariables false
set_option maxHeartbeats 2000000 in
theorem l3Look_c (v1 v2 : Value) (ns : List Nm) (ts : List (List UInt8)) (s : Nm) (w : World) (h1 : StrS w v1 ns) (h2 : StrS w v2 ts) (hl : ns.length = ts.length) (hsz : ns.length ≤ 1000000) :
    Calls Tryz.prog 132 #[v1, v2, .string (bs s)] w fun e w' => e = .returned (.string (bs (lookK ns ts s ns.length))) ∧ w' = w := by
  obtain ⟨R, hR⟩ : ∃ R, R = bs (lookK ns ts s ns.length) := ⟨_, rfl⟩
  rw [← hR]
  have HR := Lib.hid hR
  obtain ⟨p1, c1, rfl, l1, hrow1⟩ := h1
  obtain ⟨p2, c2, rfl, l2, hrow2⟩ := h2
  have HS1 := Lib.hid hrow1
  have HS2 := Lib.hid hrow2
  have HL := Lib.hid hl
  clear hR hrow1 hrow2 hl
  go_enter Tryz.func132, Tryz.ntmps132
  go_wp2_with fail
  go_loop [7] (fun i => ∃ (k : Nat) (n : Int), k ≤ ns.length ∧ i = .int .i64 n ∧ n + 1 = k ∧ Hid (lookK ns ts s ns.length = lookK ns ts s k)) (fun i => ((intOf i) + 1).toNat)
  case atStart => exact ⟨ns.length, _, Nat.le_refl _, rfl, by omega, Lib.hid rfl⟩
  case round =>
    obtain ⟨k, n, hk, rfl, hn, hA⟩ := hrel
    cases k with
    | zero =>
      obtain rfl : n = -1 := by omega
      have HF := Lib.hid (show R = bs [] by rw [HR.out, hA.out]; rfl)
      clear hA
      go_wp2_with fail
      go_ret
      exact ⟨by rw [HF.out]; rfl, rfl⟩
    | succ k =>
      obtain rfl : n = (k : Int) := by omega
      have hlt : k < ns.length := by omega
      have hlt2 : k < ts.length := by rw [← HL.out]; exact hlt
      obtain ⟨r, off, rfl, h3⟩ := HS1.out (by intro e; rw [e] at hlt; simp at hlt)
      obtain ⟨r2, off2, rfl, h4⟩ := HS2.out (by intro e; rw [e] at hlt2; simp at hlt2)
      have x1 : w.cell? ⟨r, off + k, none⟩ = some (.string (bs ns[k])) := StrS.cell h3 hlt
      have x2 : w.cell? ⟨r2, off2 + k, none⟩ = some (.string (bs ts[k])) := StrS.cell h4 hlt2
      have hk0 : (0 : Int) ≤ (k : Int) := by omega
      have hltI : (k : Int) < (ns.length : Int) := by omega
      have hltI2 : (k : Int) < (ts.length : Int) := by omega
      have HG := Lib.hid (show lookK ns ts s (k + 1) = if ns[k] = s then ts[k] else lookK ns ts s k by simp [lookK, hlt, hlt2])
      by_cases he : ns[k] = s
      · have hx2 : ((bs ns[k]).toList == (bs s).toList) = true := by rw [bs_toList, bs_toList]; simpa using he
        have hx3 : (bs ns[k]).toList = (bs s).toList := by rw [bs_toList, bs_toList]; exact he
        have HF := Lib.hid (show R = bs ts[k] by rw [HR.out, hA.out, HG.out, if_pos he])
        generalize bs ns[k] = sa at *
        generalize bs ts[k] = sb at *
        clear hA HG he h3 h4
        go_wp2_with fail
        go_ret
        exact ⟨by rw [HF.out]; rfl, rfl⟩
      · have hx2 : ((bs ns[k]).toList == (bs s).toList) = false := by rw [bs_toList, bs_toList]; simpa using he
        have hx3 : ¬ (bs ns[k]).toList = (bs s).toList := by rw [bs_toList, bs_toList]; exact he
        have HF := Lib.hid (show lookK ns ts s ns.length = lookK ns ts s k by rw [hA.out, HG.out, if_neg he])
        generalize bs ns[k] = sa at *
        generalize bs ts[k] = sb at *
        clear hA HG he h3 h4
        go_wp2_with fail
        exact ⟨⟨k, _, by omega, rfl, by omega, HF⟩, by first | (simp [intOf]; done) | (simp [intOf]; omega)⟩
/-- What a look-up hands back. -/
def LkPost (r : Option (List UInt8)) (e : Ending) : Prop := e = .returned (.tuple #[.string (bs (r.getD [])), .bool r.isSome])
end Go.Proofs.YtndbdiccjmlegaaGreatDoor
