/- The reference model's names and heads. The helpers of the laws on arguments that are slices of strings: their size, their copy. The reference's look-up in an environment. -/
import Derived.Test.YtjncmmnbdabjnaaGreatDoorNumSM
import Derived.Test.YtjncmmnbdabjnaaGreatDoorB3
import Derived.OwnWalk
import Derived.Deep.LoopGhost
import Derived.Test.YtjncmmnbdabjnaaGreatDoorPureT
import Derived.Test.YtjncmmnbdabjnaaGreatDoorS1z
namespace Go.Proofs.YtjncmmnbdabjnaaGreatDoor
open Go.RowKit
set_option maxRecDepth 8000
set_option linter.unusedSimpArgs false
set_option linter.unusedVariables false
theorem isNm_len {l : List UInt8} (h : ¬ (1 ≤ l.length ∧ l.length ≤ 4)) : isNm l = false := by
  cases l with
  | nil => rfl
  | cons b r =>
    simp only [isNm, List.length_cons] at h ⊢
    have : decide (r.length ≤ 3) = false := by simp; omega
    simp [this]
theorem isNm_first {l : List UInt8} {b : UInt8} (hb : l[0]? = some b) (h : ¬ (97 ≤ b.toNat ∧ b.toNat ≤ 122)) : isNm l = false := by
  cases l with
  | nil => rfl
  | cons c r =>
    simp only [List.getElem?_cons_zero, Option.some.injEq] at hb
    subst hb
    have : (decide (97 ≤ c.toNat) && decide (c.toNat ≤ 122)) = false := by
      rw [Bool.and_eq_false_iff]
      by_cases h1 : 97 ≤ c.toNat
      · right; simp; omega
      · left; simp; omega
    simp [isNm, this]
theorem isNm_rest {l : List UInt8} {b : UInt8} (hb : l[0]? = some b) (hl : l.length ≤ 4) (h : 97 ≤ b.toNat ∧ b.toNat ≤ 122) : isNm l = (Lib.decFrom 0 (l.drop 1)).isSome := by
  cases l with
  | nil => simp at hb
  | cons c r =>
    simp only [List.getElem?_cons_zero, Option.some.injEq] at hb
    subst hb
    simp only [List.length_cons] at hl
    simp [isNm, h.1, h.2, show r.length ≤ 3 by omega]
theorem first_of (s : ByteArray) (h : 0 < s.size) : s.data.toList[0]? = some s[0] := by rw [List.getElem?_eq_getElem (by simpa using h)]; rfl
set_option maxHeartbeats 1000000 in
theorem l2Name_c (s : ByteArray) (hs : s.size ≤ 1048576) (w : World) : Calls Tryz.prog 76 #[.string s] w fun e w' => e = .returned (.bool (isNm s.data.toList)) ∧ w' = w := by
  obtain ⟨R, hR⟩ : ∃ R, R = isNm s.data.toList := ⟨_, rfl⟩
  rw [← hR]
  have HR := Lib.hid hR
  clear hR
  by_cases hin : 1 ≤ s.size ∧ s.size ≤ 4
  · have hin2 : decide ((1 : Int) ≤ (s.size : Int) ∧ (s.size : Int) ≤ 4) = true := by simp; omega
    have h0 : 0 < s.size := by omega
    have h4 : s.size ≤ 4 := hin.2
    have h0' : (0 : Int) < (s.size : Int) := by omega
    have hf := first_of s h0
    obtain ⟨b, hb⟩ : ∃ b, b = s[0] := ⟨_, rfl⟩
    rw [← hb] at hf
    have hb8 : s[0] = b := hb.symm
    by_cases hlet : 97 ≤ b.toNat ∧ b.toNat ≤ 122
    · have HN := Lib.hid (isNm_rest hf (by simpa using h4) hlet)
      have hd1 : ¬ ((b.toNat : Int) < 97) := by omega
      have hd2 : ¬ ((122 : Int) < b.toNat) := by omega
      clear hin hf hb hlet
      go_enter Tryz.func76, Tryz.ntmps76
      go_wp2_with (go_at_call 110; go_must (refine (l6In_c _ _ _ _).mono ?_; rintro e w1 ⟨rfl, rfl⟩; rw [hin2]))
      go_loop [3] (fun i => ∃ k : Nat, 1 ≤ k ∧ k ≤ s.size ∧ i = .int .i64 k ∧ Hid (∃ m, Lib.decFrom 0 ((s.data.toList.drop 1).take (k - 1)) = some m)) (fun i => s.size - (intOf i).toNat)
      case atStart => exact ⟨1, Nat.le_refl _, by omega, rfl, Lib.hid ⟨0, rfl⟩⟩
      case round =>
        obtain ⟨k, hk1, hk, rfl, hm⟩ := hrel
        by_cases hlt : k < s.size
        · have hbk : (s.data.toList.drop 1)[k - 1]? = some s[k] := by rw [List.getElem?_drop, show 1 + (k - 1) = k by omega, List.getElem?_eq_getElem (by simpa using hlt)]; rfl
          have hk0 : (0 : Int) ≤ (k : Int) := by omega
          obtain ⟨c, hc⟩ : ∃ c, c = s[k] := ⟨_, rfl⟩
          by_cases hdg : 48 ≤ c.toNat ∧ c.toNat ≤ 57
          · have hdv : Lib.digitVal s[k] = some (c.toNat - 48) := by rw [← hc]; simp [Lib.digitVal, hdg]
            have HS : Hid (∃ m, Lib.decFrom 0 ((s.data.toList.drop 1).take (k + 1 - 1)) = some m) := Lib.hid (by obtain ⟨m, h⟩ := hm.out; rw [show k + 1 - 1 = k - 1 + 1 by omega]; exact ⟨_, Lib.decFrom_take _ (k - 1) 0 m _ _ h hbk hdv⟩)
            have hd3 : ¬ ((c.toNat : Int) < 48) := by omega
            have hd4 : ¬ ((57 : Int) < c.toNat) := by omega
            have hc8 : s[k] = c := hc.symm
            clear hc hbk hdv
            go_wp2_with fail
            exact ⟨⟨k + 1, by omega, by omega, by go_num, HS⟩, by simp [intOf]; omega⟩
          · have hdv : Lib.digitVal s[k] = none := by rw [← hc]; simp only [Lib.digitVal]; rw [if_neg hdg]
            have HNN := Lib.hid (decFrom_bad (s.data.toList.drop 1) 0 (k - 1) _ hbk hdv)
            have hc8 : s[k] = c := hc.symm
            clear hc hbk hdv
            by_cases hd3 : ((c.toNat : Int) < 48)
            · go_wp2_with fail
              go_ret
              exact ⟨ret_bool (by rw [HR.out, HN.out, HNN.out]; rfl), rfl⟩
            · have hd4 : (57 : Int) < c.toNat := by omega
              go_wp2_with fail
              go_ret
              exact ⟨ret_bool (by rw [HR.out, HN.out, HNN.out]; rfl), rfl⟩
        · have : k = s.size := by omega
          subst this
          have hm' := hm.out
          rw [List.take_of_length_le (by simp)] at hm'
          have HM := Lib.hid hm'
          clear hm'
          go_wp2_with fail
          go_ret
          exact ⟨ret_bool (by obtain ⟨m, h⟩ := HM.out; rw [HR.out, HN.out, h]; rfl), rfl⟩
    · have HN := Lib.hid (isNm_first hf hlet)
      clear hin hf hb
      by_cases hd1 : ((b.toNat : Int) < 97)
      · go_enter Tryz.func76, Tryz.ntmps76
        go_wp2_with (go_at_call 110; go_must (refine (l6In_c _ _ _ _).mono ?_; rintro e w1 ⟨rfl, rfl⟩; rw [hin2]))
        go_ret
        exact ⟨ret_bool (by rw [HR.out, HN.out]), rfl⟩
      · have hd2 : (122 : Int) < b.toNat := by omega
        go_enter Tryz.func76, Tryz.ntmps76
        go_wp2_with (go_at_call 110; go_must (refine (l6In_c _ _ _ _).mono ?_; rintro e w1 ⟨rfl, rfl⟩; rw [hin2]))
        go_ret
        exact ⟨ret_bool (by rw [HR.out, HN.out]), rfl⟩
  · have hin2 : decide ((1 : Int) ≤ (s.size : Int) ∧ (s.size : Int) ≤ 4) = false := by simp; omega
    have HN := Lib.hid (isNm_len (l := s.data.toList) (by simpa using hin))
    clear hin
    go_enter Tryz.func76, Tryz.ntmps76
    go_wp2_with (go_at_call 110; go_must (refine (l6In_c _ _ _ _).mono ?_; rintro e w1 ⟨rfl, rfl⟩; rw [hin2]))
    go_ret
    exact ⟨ret_bool (by rw [HR.out, HN.out]), rfl⟩
theorem l2Name_bs (l : List UInt8) (hl : l.length ≤ 1048576) (w : World) : Calls Tryz.prog 76 #[.string (bs l)] w fun e w' => e = .returned (.bool (isNm l)) ∧ w' = w := by
  have := l2Name_c (bs l) (by rw [bs_size]; exact hl) w
  rw [bs_data] at this
  exact this
set_option maxHeartbeats 1000000 in
theorem l2Kids_c (l : List UInt8) (w : World) : Calls Tryz.prog 89 #[.string (bs l)] w fun e w' => e = .returned (.tuple #[.int .i64 ((kidsAt l).1 : Int), .int .i64 ((kidsAt l).2 : Int)]) ∧ w' = w := by
  by_cases h0 : l = [43]
  · subst h0
    have HN := Lib.hid (show kidsAt [43] = (1, 3) by decide)
    rw [show bs [43] = ⟨#[43]⟩ from rfl]
    go_enter Tryz.func89, Tryz.ntmps89
    go_wp2_with fail
    go_ret2
    exact ⟨by rw [HN.out]; rfl, rfl⟩
  have e0 : ((bs l).toList == [43]) = false := by rw [bs_toList]; simpa using h0
  by_cases h1 : l = [45]
  · subst h1
    have HN := Lib.hid (show kidsAt [45] = (1, 3) by decide)
    clear e0 h0
    rw [show bs [45] = ⟨#[45]⟩ from rfl]
    go_enter Tryz.func89, Tryz.ntmps89
    go_wp2_with fail
    go_ret2
    exact ⟨by rw [HN.out]; rfl, rfl⟩
  have e1 : ((bs l).toList == [45]) = false := by rw [bs_toList]; simpa using h1
  by_cases h2 : l = [42]
  · subst h2
    have HN := Lib.hid (show kidsAt [42] = (1, 3) by decide)
    clear e0 h0 e1 h1
    rw [show bs [42] = ⟨#[42]⟩ from rfl]
    go_enter Tryz.func89, Tryz.ntmps89
    go_wp2_with fail
    go_ret2
    exact ⟨by rw [HN.out]; rfl, rfl⟩
  have e2 : ((bs l).toList == [42]) = false := by rw [bs_toList]; simpa using h2
  by_cases h3 : l = [99, 97, 108, 108]
  · subst h3
    have HN := Lib.hid (show kidsAt [99, 97, 108, 108] = (1, 3) by decide)
    clear e0 h0 e1 h1 e2 h2
    rw [show bs [99, 97, 108, 108] = ⟨#[99, 97, 108, 108]⟩ from rfl]
    go_enter Tryz.func89, Tryz.ntmps89
    go_wp2_with fail
    go_ret2
    exact ⟨by rw [HN.out]; rfl, rfl⟩
  have e3 : ((bs l).toList == [99, 97, 108, 108]) = false := by rw [bs_toList]; simpa using h3
  by_cases h4 : l = [112, 97, 105, 114]
  · subst h4
    have HN := Lib.hid (show kidsAt [112, 97, 105, 114] = (1, 3) by decide)
    clear e0 h0 e1 h1 e2 h2 e3 h3
    rw [show bs [112, 97, 105, 114] = ⟨#[112, 97, 105, 114]⟩ from rfl]
    go_enter Tryz.func89, Tryz.ntmps89
    go_wp2_with fail
    go_ret2
    exact ⟨by rw [HN.out]; rfl, rfl⟩
  have e4 : ((bs l).toList == [112, 97, 105, 114]) = false := by rw [bs_toList]; simpa using h4
  by_cases h5 : l = [105, 102]
  · subst h5
    have HN := Lib.hid (show kidsAt [105, 102] = (1, 4) by decide)
    clear e0 h0 e1 h1 e2 h2 e3 h3 e4 h4
    rw [show bs [105, 102] = ⟨#[105, 102]⟩ from rfl]
    go_enter Tryz.func89, Tryz.ntmps89
    go_wp2_with fail
    go_ret2
    exact ⟨by rw [HN.out]; rfl, rfl⟩
  have e5 : ((bs l).toList == [105, 102]) = false := by rw [bs_toList]; simpa using h5
  by_cases h6 : l = [108, 101, 116]
  · subst h6
    have HN := Lib.hid (show kidsAt [108, 101, 116] = (2, 4) by decide)
    clear e0 h0 e1 h1 e2 h2 e3 h3 e4 h4 e5 h5
    rw [show bs [108, 101, 116] = ⟨#[108, 101, 116]⟩ from rfl]
    go_enter Tryz.func89, Tryz.ntmps89
    go_wp2_with fail
    go_ret2
    exact ⟨by rw [HN.out]; rfl, rfl⟩
  have e6 : ((bs l).toList == [108, 101, 116]) = false := by rw [bs_toList]; simpa using h6
  by_cases h7 : l = [102, 117, 110]
  · subst h7
    have HN := Lib.hid (show kidsAt [102, 117, 110] = (5, 6) by decide)
    clear e0 h0 e1 h1 e2 h2 e3 h3 e4 h4 e5 h5 e6 h6
    rw [show bs [102, 117, 110] = ⟨#[102, 117, 110]⟩ from rfl]
    go_enter Tryz.func89, Tryz.ntmps89
    go_wp2_with fail
    go_ret2
    exact ⟨by rw [HN.out]; rfl, rfl⟩
  have e7 : ((bs l).toList == [102, 117, 110]) = false := by rw [bs_toList]; simpa using h7
  by_cases h8 : l = [102, 115, 116]
  · subst h8
    have HN := Lib.hid (show kidsAt [102, 115, 116] = (1, 2) by decide)
    clear e0 h0 e1 h1 e2 h2 e3 h3 e4 h4 e5 h5 e6 h6 e7 h7
    rw [show bs [102, 115, 116] = ⟨#[102, 115, 116]⟩ from rfl]
    go_enter Tryz.func89, Tryz.ntmps89
    go_wp2_with fail
    go_ret2
    exact ⟨by rw [HN.out]; rfl, rfl⟩
  have e8 : ((bs l).toList == [102, 115, 116]) = false := by rw [bs_toList]; simpa using h8
  by_cases h9 : l = [115, 110, 100]
  · subst h9
    have HN := Lib.hid (show kidsAt [115, 110, 100] = (1, 2) by decide)
    clear e0 h0 e1 h1 e2 h2 e3 h3 e4 h4 e5 h5 e6 h6 e7 h7 e8 h8
    rw [show bs [115, 110, 100] = ⟨#[115, 110, 100]⟩ from rfl]
    go_enter Tryz.func89, Tryz.ntmps89
    go_wp2_with fail
    go_ret2
    exact ⟨by rw [HN.out]; rfl, rfl⟩
  have e9 : ((bs l).toList == [115, 110, 100]) = false := by rw [bs_toList]; simpa using h9
  have HN : Hid (kidsAt l = (0, 0)) := Lib.hid (by simp [kidsAt, kIf, kLet, kFun, h0, h1, h2, h3, h4, h5, h6, h7, h8, h9])
  clear h0 h1 h2 h3 h4 h5 h6 h7 h8 h9
  go_enter Tryz.func89, Tryz.ntmps89
  go_wp2_with fail
  go_ret2
  exact ⟨by rw [HN.out]; rfl, rfl⟩
end Go.Proofs.YtjncmmnbdabjnaaGreatDoor
namespace Go.Proofs.YtjncmmnbdabjnaaGreatDoor
open Go.RowKit
set_option maxRecDepth 8000
set_option linter.unusedSimpArgs false
set_option linter.unusedVariables false
/-- The sum of the lengths. -/
def lens : List (List UInt8) → Nat
  | [] => 0
  | x :: l => x.length + lens l
theorem lens_take : ∀ (l : List (List UInt8)) (k : Nat) (h : k < l.length), lens (l.take (k + 1)) = lens (l.take k) + l[k].length
  | x :: l, 0, _ => by simp [lens]
  | x :: l, k + 1, h => by
    have := lens_take l k (by simpa using h)
    simp only [List.take_succ_cons, lens, List.getElem_cons_succ] at this ⊢; omega
theorem lens_take_le : ∀ (l : List (List UInt8)) (k : Nat), lens (l.take k) ≤ lens l
  | [], k => by simp [lens]
  | x :: l, 0 => by simp [lens]
  | x :: l, k + 1 => by have := lens_take_le l k; simp only [List.take_succ_cons, lens]; omega
theorem length_le_lens : ∀ (l : List (List UInt8)) (k : Nat) (h : k < l.length), l[k].length ≤ lens l := fun l k h => by
  have := lens_take l k h; have := lens_take_le l (k + 1); omega
/-- What is left behind texts of a list. -/
def leftS (l : List (List UInt8)) (left : Nat) : Int := if l.length + lens l ≤ left then ((left - (l.length + lens l) : Nat) : Int) else -1
/-- The copied cells so far. -/
def cpRow (l : List (List UInt8)) (k : Nat) : List Value := (l.take k).map strV ++ List.replicate (l.length - k) (.string ⟨#[]⟩)
theorem cpRow_zero (l : List (List UInt8)) : cpRow l 0 = List.replicate l.length (.string ⟨#[]⟩) := by simp [cpRow]
theorem cpRow_end (l : List (List UInt8)) : cpRow l l.length = l.map strV := by simp [cpRow]
theorem cpRow_step (l : List (List UInt8)) (k : Nat) (h : k < l.length) : (cpRow l k).set k (strV l[k]) = cpRow l (k + 1) := by
  have e : List.replicate (l.length - k) (Value.string ⟨#[]⟩) = .string ⟨#[]⟩ :: List.replicate (l.length - (k + 1)) (.string ⟨#[]⟩) := by
    rw [show l.length - k = (l.length - (k + 1)) + 1 from by omega, List.replicate_succ]
  unfold cpRow
  rw [e, List.take_succ_eq_append_getElem h, List.map_append]
  have hlen : ((l.take k).map strV).length = k := by simp; omega
  rw [List.set_append_right _ _ (by omega), hlen]
  simp
theorem cpRow_len (l : List (List UInt8)) (k : Nat) (h : k ≤ l.length) : (cpRow l k).length = l.length := by simp [cpRow]; omega
theorem toList_inj {a b : Array Value} (h : a.toList = b.toList) : a = b := by cases a; cases b; simpa using h
theorem madeStr (n : Nat) : (madeCells (Value.string ⟨#[]⟩).cells (n * 1)).toList = List.replicate n (.string ⟨#[]⟩) := by
  simp only [madeCells, Value.cells, Nat.mul_one, Array.toList_map, Array.toList_range]
  refine List.ext_getElem (by simp) fun i h1 h2 => ?_
  simp [Nat.mod_one]
theorem row_ofS {w : World} {b : Nat} {cs : Array Value} {t : TypeId} (h : w.heap[b]? = some (.cells cs t (0, 0))) : hasRow w b 0 cs.toList := by
  intro j v hj
  rw [cell_of h]; simpa using hj
theorem Tryz.infoStr2 : (Tryz.prog.info? 9).map (fun i => (i.zero, i.size, i.bytes)) = some (some (.string ⟨#[]⟩), 1, 16) := by kernel_rfl
/-- A copy of texts, in a row of the call's own. -/
def CopyS (B : Nat) (l : List (List UInt8)) (e : Ending) (w' : World) : Prop := ∃ v, e = .returned v ∧ StrS w' v l ∧ (∀ k, v.ownBlock = some k → B ≤ k ∧ k < w'.heap.size)
theorem StrS.below {w w' : World} {v : Value} {l : List (List UInt8)} (h : StrS w v l) (hb : Below w.heap.size w w') : StrS w' v l := by
  obtain ⟨p, c, rfl, h1, h2⟩ := h
  refine ⟨p, c, rfl, h1, fun hne => ?_⟩
  obtain ⟨r, off, rfl, h3⟩ := h2 hne
  refine ⟨r, off, rfl, h3.move (hb.block r ?_)⟩
  have h0 : 0 < l.length := List.length_pos_iff.2 hne
  exact World.block_lt_of_cell? w ⟨r, off + 0, none⟩ (StrS.cell h3 h0)
theorem leftS_neg {l : List (List UInt8)} {left : Nat} (h : ¬ l.length + lens l ≤ left) : leftS l left = -1 := by rw [leftS, if_neg h]
theorem leftS_nonneg {l : List (List UInt8)} {left : Nat} (h : l.length + lens l ≤ left) : ∃ n : Nat, leftS l left = (n : Int) ∧ n ≤ left := ⟨_, by rw [leftS, if_pos h], by omega⟩
end Go.Proofs.YtjncmmnbdabjnaaGreatDoor
namespace Go.Proofs.YtjncmmnbdabjnaaGreatDoor
open Go.RowKit
set_option maxRecDepth 8000
set_option linter.unusedSimpArgs false
set_option linter.unusedVariables false
set_option maxHeartbeats 2000000 in
theorem l3Look_c (v1 v2 : Value) (ns : List Nm) (ts : List (List UInt8)) (s : Nm) (w : World) (h1 : StrS w v1 ns) (h2 : StrS w v2 ts) (hl : ns.length = ts.length) (hsz : ns.length ≤ 1000000) :
    Calls Tryz.prog 45 #[v1, v2, .string (bs s)] w fun e w' => e = .returned (.string (bs (lookK ns ts s ns.length))) ∧ w' = w := by
  obtain ⟨R, hR⟩ : ∃ R, R = bs (lookK ns ts s ns.length) := ⟨_, rfl⟩
  rw [← hR]
  have HR := Lib.hid hR
  obtain ⟨p1, c1, rfl, l1, hrow1⟩ := h1
  obtain ⟨p2, c2, rfl, l2, hrow2⟩ := h2
  have HS1 := Lib.hid hrow1
  have HS2 := Lib.hid hrow2
  have HL := Lib.hid hl
  clear hR hrow1 hrow2 hl
  go_enter Tryz.func45, Tryz.ntmps45
  go_wp2_with fail
  go_loop [7] (fun i => ∃ (k : Nat) (n : Int), k ≤ ns.length ∧ i = .int .i64 n ∧ n + 1 = k ∧ Hid (lookK ns ts s ns.length = lookK ns ts s k)) (fun i => ((intOf i) + 1).toNat)
  case atStart => exact ⟨ns.length, _, Nat.le_refl _, rfl, by omega, Lib.hid rfl⟩
  case round =>
    obtain ⟨k, n, hk, rfl, hn, hA⟩ := hrel
    cases k with
    | zero =>
      obtain rfl : n = -1 := by omega
      have HF := Lib.hid (show R = bs [] by rw [HR.out, hA.out]; rfl)
      clear hA
      go_wp2_with fail
      go_ret
      exact ⟨by rw [HF.out]; rfl, rfl⟩
    | succ k =>
      obtain rfl : n = (k : Int) := by omega
      have hlt : k < ns.length := by omega
      have hlt2 : k < ts.length := by rw [← HL.out]; exact hlt
      obtain ⟨r, off, rfl, h3⟩ := HS1.out (by intro e; rw [e] at hlt; simp at hlt)
      obtain ⟨r2, off2, rfl, h4⟩ := HS2.out (by intro e; rw [e] at hlt2; simp at hlt2)
      have x1 : w.cell? ⟨r, off + k, none⟩ = some (.string (bs ns[k])) := StrS.cell h3 hlt
      have x2 : w.cell? ⟨r2, off2 + k, none⟩ = some (.string (bs ts[k])) := StrS.cell h4 hlt2
      have hk0 : (0 : Int) ≤ (k : Int) := by omega
      have hltI : (k : Int) < (ns.length : Int) := by omega
      have hltI2 : (k : Int) < (ts.length : Int) := by omega
      have HG := Lib.hid (show lookK ns ts s (k + 1) = if ns[k] = s then ts[k] else lookK ns ts s k by simp [lookK, hlt, hlt2])
      by_cases he : ns[k] = s
      · have hx2 : ((bs ns[k]).toList == (bs s).toList) = true := by rw [bs_toList, bs_toList]; simpa using he
        have hx3 : (bs ns[k]).toList = (bs s).toList := by rw [bs_toList, bs_toList]; exact he
        have HF := Lib.hid (show R = bs ts[k] by rw [HR.out, hA.out, HG.out, if_pos he])
        generalize bs ns[k] = sa at *
        generalize bs ts[k] = sb at *
        clear hA HG he h3 h4
        go_wp2_with fail
        go_ret
        exact ⟨by rw [HF.out]; rfl, rfl⟩
      · have hx2 : ((bs ns[k]).toList == (bs s).toList) = false := by rw [bs_toList, bs_toList]; simpa using he
        have hx3 : ¬ (bs ns[k]).toList = (bs s).toList := by rw [bs_toList, bs_toList]; exact he
        have HF := Lib.hid (show lookK ns ts s ns.length = lookK ns ts s k by rw [hA.out, HG.out, if_neg he])
        generalize bs ns[k] = sa at *
        generalize bs ts[k] = sb at *
        clear hA HG he h3 h4
        go_wp2_with fail
        exact ⟨⟨k, _, by omega, rfl, by omega, HF⟩, by first | (simp [intOf]; done) | (simp [intOf]; omega)⟩
/-- What a look-up hands back. -/
def LkPost (r : Option (List UInt8)) (e : Ending) : Prop := e = .returned (.tuple #[.string (bs (r.getD [])), .bool r.isSome])
end Go.Proofs.YtjncmmnbdabjnaaGreatDoor
