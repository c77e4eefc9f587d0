/- The helpers of the laws on slices of strings: marks. Append of a whole slice of texts to a row of the call's own: where the new row lies. -/
import Derived.Test.YtjfjlfhckfoehaaGreatDoorProg
import Derived.Test.YtjfjlfhckfoehaaGreatDoorB1
import Derived.Deep.QuietTactic
import Derived.BigQuiet
import Derived.Deep.RegionHeld3
namespace Go.Proofs.YtjfjlfhckfoehaaGreatDoor
open Go.RowKit
set_option maxRecDepth 8000
set_option linter.unusedSimpArgs false
set_option linter.unusedVariables false
/-- The digits of a number ahead of a text. -/
def digs : Nat → Nat → List UInt8 → List UInt8
  | 0, _, acc => acc
  | f + 1, k, acc => if k = 0 then acc else digs f (k / 10) (UInt8.ofNat (48 + k % 10) :: acc)
def markT (k : Nat) : List UInt8 := 109 :: (if k = 0 then [48] else digs k k [])
theorem digs_fuel : ∀ (f g k : Nat) (acc : List UInt8), k ≤ f → k ≤ g → digs f k acc = digs g k acc
  | 0, 0, _, _, _, _ => rfl
  | 0, g + 1, k, acc, h, _ => by have : k = 0 := by omega
                                 subst this; simp [digs]
  | f + 1, 0, k, acc, _, h => by have : k = 0 := by omega
                                 subst this; simp [digs]
  | f + 1, g + 1, k, acc, h1, h2 => by
    rw [digs, digs]
    by_cases hk : k = 0
    · rw [if_pos hk, if_pos hk]
    · rw [if_neg hk, if_neg hk]
      exact digs_fuel f g (k / 10) _ (by omega) (by omega)
theorem digs_step (k : Nat) (acc : List UInt8) (h : 0 < k) : digs k k acc = digs (k / 10) (k / 10) (UInt8.ofNat (48 + k % 10) :: acc) := by
  cases k with
  | zero => omega
  | succ k =>
    rw [digs, if_neg (by omega)]
    exact digs_fuel _ _ _ _ (by omega) (Nat.le_refl _)
theorem digs_length : ∀ (f k : Nat) (acc : List UInt8), (digs f k acc).length ≤ acc.length + f
  | 0, _, _ => by simp [digs]
  | f + 1, k, acc => by
    rw [digs]
    split
    · omega
    · have := digs_length f (k / 10) (UInt8.ofNat (48 + k % 10) :: acc)
      simp only [List.length_cons] at this; omega
theorem drewN_drewN (w : World) (a b : Nat) : (w.drewN a).drewN b = w.drewN (a + b) := by simp [World.drewN, Nat.add_assoc]
theorem str_digit (q : Nat) (acc : List UInt8) : strOfNums [48 + (q : Int) % 10] ++ bs acc = bs (UInt8.ofNat (48 + q % 10) :: acc) := by
  have h : strOfNums [48 + (q : Int) % 10] = bs [UInt8.ofNat (48 + q % 10)] := by
    simp only [strOfNums, List.map_cons, List.map_nil, bs]
    rw [show (48 + (q : Int) % 10).toNat = 48 + q % 10 from by omega]
  rw [h, bs_append]; rfl
theorem conv_one (wr : World) (x : Int) : (convert 22 9 (.slice (some ⟨wr.heap.size, 0, none⟩) 1 1)).run Tryz.prog (wr.alloc (.cells #[.int .u8 x] 5)) = .ok (.string (strOfNums [x])) (wr.alloc (.cells #[.int .u8 x] 5)) := by
  refine run_convert_bytes_arg (P := Tryz.prog) (wr.alloc (.cells #[.int .u8 x] 5)) 22 5 Tryz.underlying22 Tryz.underlying5 wr.heap.size 0 1 1 [x] rfl (fun i hi => ?_) 9 Tryz.underlying9
  obtain rfl : i = 0 := by omega
  simp
set_option maxHeartbeats 400000 in
theorem markText_c (k : Nat) (hk : k ≤ 100000) (w : World) :
    Calls Tryz.prog 83 #[.int .i64 k] w fun e w' => e = .returned (.string (bs (markT k))) ∧ Below w.heap.size w w' := by
  by_cases h0 : k = 0
  · subst h0
    go_enter Tryz.func83, Tryz.ntmps83
    go_wp2_with fail
    go_ret
    exact ⟨rfl, Below.refl _ _⟩
  · have hpos : (0 : Int) < k := by omega
    have HM := Lib.hid (show markT k = 109 :: digs k k [] from by simp [markT, h0])
    go_enter Tryz.func83, Tryz.ntmps83
    go_wp2_with fail
    go_loopw [0, 3] (fun v o wr => ∃ (q : Nat) (acc : List UInt8), v = .int .i64 q ∧ o = .string (bs acc) ∧ q ≤ k ∧ Hid (digs k k [] = digs q q acc) ∧ Below w.heap.size w wr ∧ acc.length + q ≤ k) (fun v _ _ => (intOf v).toNat)
    case atStart => exact ⟨k, [], rfl, rfl, Nat.le_refl _, Lib.hid rfl, Below.refl _ _, by simp⟩
    case round =>
      obtain ⟨q, acc, rfl, rfl, hq, hd, hb, hl⟩ := hrel
      by_cases hq0 : 0 < q
      · have hqp : (0 : Int) < q := by omega
        have hm : 0 ≤ (q : Int) % 10 ∧ (q : Int) % 10 < 10 := by omega
        have hconv := conv_one wr
        have hs1 : (strOfNums [48 + (q : Int) % 10]).size = 1 := strOfNums_size _
        have HE := Lib.hid (str_digit q acc)
        have hsz := bs_size acc
        have hacc : acc.length ≤ 100000 := by omega
        go_wp2_with fail
        go_roundw
        case rel => exact ⟨q / 10, UInt8.ofNat (48 + q % 10) :: acc, by go_num, by rw [HE.out], by omega, Lib.hid (by rw [hd.out, digs_step _ _ hq0]), hb.alloc hb.size _, by simp; omega⟩
        case measure => simp [intOf]; omega
      · have : q = 0 := by omega
        subst this
        have hsz := bs_size acc
        have hacc : acc.length ≤ 100000 := by omega
        go_wp2_with fail
        go_ret
        exact ⟨by rw [HM.out, hd.out]; exact congrArg (fun x => Ending.returned (.string x)) (bs_append [109] acc), hb⟩

def strV (l : List UInt8) : Value := .string (bs l)
/-- A slice that reads as these texts. -/
def StrS (w : World) (v : Value) (l : List (List UInt8)) : Prop :=
  ∃ p c, v = .slice p l.length c ∧ l.length ≤ 9223372036854775807 ∧ (l ≠ [] → ∃ r off, p = some ⟨r, off, none⟩ ∧ hasRow w r off (l.map strV))
theorem StrS.move {w w' : World} {v : Value} {l : List (List UInt8)} (h : StrS w v l) (hb : ∀ k, v.ownBlock = some k → w'.heap[k]? = w.heap[k]?) : StrS w' v l := by
  obtain ⟨p, c, rfl, h1, h2⟩ := h
  refine ⟨p, c, rfl, h1, fun hne => ?_⟩
  obtain ⟨r, off, rfl, h3⟩ := h2 hne
  exact ⟨r, off, rfl, h3.move (hb r rfl)⟩
theorem StrS.cell {w : World} {r off : Nat} {l : List (List UInt8)} (h : hasRow w r off (l.map strV)) {k : Nat} (hk : k < l.length) : w.cell? ⟨r, off + k, none⟩ = some (.string (bs l[k])) :=
  h k _ (by simp [hk, strV])
set_option maxHeartbeats 1000000 in
theorem eqS_c (va vb : Value) (la lb : List (List UInt8)) (w : World) (ha : StrS w va la) (hb : StrS w vb lb) :
    Calls Tryz.prog 38 #[va, vb] w fun e w' => e = .returned (.bool (decide (la = lb))) ∧ ∃ n, w' = w.drewN n := by
  obtain ⟨pa, ca, rfl, ha1, ha2⟩ := ha
  obtain ⟨pb, cb, rfl, hb1, hb2⟩ := hb
  by_cases hlen : la.length = lb.length
  · by_cases hz : la = []
    · subst hz
      have hlb : lb = [] := List.eq_nil_of_length_eq_zero (by simpa using hlen.symm)
      subst hlb
      clear ha2 hb2 hlen
      go_enter Tryz.func38, Tryz.ntmps38
      go_wp2_with fail
      refine wp_loop_rounds 1 ?_
      rw [rounds_succ]
      go_wp2_with fail
      go_ret
      exact ⟨ret_bool (by simp), 0, rfl⟩
    · have hzb : lb ≠ [] := by intro e; subst e; exact hz (List.eq_nil_of_length_eq_zero (by simpa using hlen))
      obtain ⟨ra, oa, rfl, ha3⟩ := ha2 hz
      obtain ⟨rb, ob, rfl, hb3⟩ := hb2 hzb
      have he : ((la.length : Int) == (lb.length : Int)) = true := by simp; omega
      have HL := Lib.hid hlen
      have hle : la.length ≤ lb.length ∧ lb.length ≤ la.length := by omega
      clear hlen ha2 hb2
      go_enter Tryz.func38, Tryz.ntmps38
      go_wp2_with fail
      go_loopw [5] (fun v wr => ∃ k : Nat, k ≤ la.length ∧ v = .int .i64 k ∧ Hid (la.take k = lb.take k) ∧ ∃ n, Hid (wr = w.drewN n)) (fun v _ => la.length - (intOf v).toNat)
      case atStart => exact ⟨0, Nat.zero_le _, rfl, Lib.hid rfl, 0, Lib.hid rfl⟩
      case round =>
        obtain ⟨k, hk, rfl, ht, n, hw⟩ := hrel
        by_cases hlt : k < la.length
        · have hltb : k < lb.length := by omega
          have c1 : wr.cell? ⟨ra, oa + k, none⟩ = some (.string (bs la[k])) := by rw [hw.out]; exact StrS.cell ha3 hlt
          have c2 : wr.cell? ⟨rb, ob + k, none⟩ = some (.string (bs lb[k])) := by rw [hw.out]; exact StrS.cell hb3 hltb
          have b1 : (0 : Int) ≤ k := by omega
          cases hx : (la[k] == lb[k]) with
          | true =>
            have hx2 : ((bs la[k]).toList == (bs lb[k]).toList) = true := by rw [bs_toList, bs_toList]; exact hx
            have HX := Lib.hid hx
            clear hx
            go_wp2_with fail
            go_quiet (fail)
            go_wp2_with fail
            go_roundw
            case rel => exact ⟨k + 1, by omega, by go_num, Lib.hid (by rw [List.take_succ_eq_append_getElem hlt, List.take_succ_eq_append_getElem hltb, ht.out, show la[k] = lb[k] from by simpa using HX.out]), n + nq, Lib.hid (by rw [hw.out, drewN_drewN])⟩
            case measure => simp [intOf]; omega
          | false =>
            have hx2 : ((bs la[k]).toList == (bs lb[k]).toList) = false := by rw [bs_toList, bs_toList]; exact hx
            have HX := Lib.hid hx
            clear hx
            go_wp2_with fail
            go_quiet (fail)
            go_wp2_with fail
            go_ret
            exact ⟨ret_bool (by simp only [Bool.false_eq, decide_eq_false_iff_not]; intro e; subst e; have := HX.out; simp at this), n + nq, by rw [hw.out, drewN_drewN]⟩
        · have : k = la.length := by omega
          subst this
          go_wp2_with fail
          go_ret
          exact ⟨ret_bool (by simp only [Bool.true_eq, decide_eq_true_eq]; have := ht.out; rw [List.take_length, HL.out, List.take_length] at this; exact this), n, hw.out⟩
  · have he : ((la.length : Int) == (lb.length : Int)) = false := by simp; omega
    have HN := Lib.hid (show la ≠ lb from fun e => hlen (by rw [e]))
    clear hlen ha2 hb2
    go_enter Tryz.func38, Tryz.ntmps38
    go_wp2_with fail
    go_ret
    exact ⟨ret_bool (by simp [HN.out]), 0, rfl⟩

theorem gB_trans {a b c : World} {row : Option Nat} (h : a.grownBy b row) (k : b.grownBy c row) : a.grownBy c row :=
  ⟨k.os.trans h.os, k.tape.trans h.tape, k.output.trans h.output, Nat.le_trans h.size k.size, fun i hi hne => (k.block i (Nat.lt_of_lt_of_le hi h.size) hne).trans (h.block i hi hne)⟩
theorem gB_below {a b : World} (h : Below a.heap.size a b) (row : Option Nat) : a.grownBy b row := ⟨h.os, h.tape, h.output, h.size, fun i hi _ => h.block i hi⟩
theorem fin_belowT {w w1 W : World} {p : Prop} (h : Below w.heap.size w w1) (k : Below w1.heap.size w1 W ∧ p) : Below w.heap.size w W := h.trans (k.1.mono h.size)
def marks (k n : Nat) : List (List UInt8) := (List.range n).map fun j => markT (k + j)
theorem marks_len (k n : Nat) : (marks k n).length = n := by simp [marks]
theorem marks_get (k n j : Nat) (h : j < n) : (marks k n)[j]'(by rw [marks_len]; exact h) = markT (k + j) := by simp [marks]
theorem marks_step (k n : Nat) (xs : List Value) (j : Nat) (hx : xs.length = n) (h : j < n) :
    ((marks k j).map strV ++ xs.drop j).set j (strV (markT (k + j))) = (marks k (j + 1)).map strV ++ xs.drop (j + 1) := by
  have h1 : ((marks k j).map strV).length = j := by simp [marks]
  rw [List.drop_eq_getElem_cons (by omega), List.set_append_right _ _ (by omega), h1, Nat.sub_self, List.set_cons_zero]
  simp [marks, List.range_succ, strV]
set_option maxHeartbeats 1000000 in
theorem mark_c (base : Nat) (v : Value) (n k : Nat) (xs : List Value) (w : World) (hown : w.ownsRow base 9 1 v n xs) (hn : n ≤ 50000) (hk : k ≤ 1) :
    Calls Tryz.prog 39 #[v, .int .i64 k] w fun e w' => e = .returned (.int .i64 (k + n : Nat)) ∧ w'.ownsRow base 9 1 v n ((marks k n).map strV) ∧ w.grownBy w' v.ownBlock := by
  have hxl : xs.length = n := by have := hown.1; omega
  rcases hown.2 with ⟨rfl, rfl⟩ | ⟨g, cap, cur, rfl, _⟩
  · have hx0 : xs = [] := List.eq_nil_of_length_eq_zero hxl
    subst hx0
    have HO := Lib.hid hown
    clear hown hxl
    go_enter Tryz.func39, Tryz.ntmps39
    go_wp2_with fail
    refine wp_loop_rounds 1 ?_
    rw [rounds_succ]
    go_wp2_with fail
    go_ret
    exact ⟨rfl, HO.out, ⟨rfl, rfl, rfl, Nat.le_refl _, fun _ _ _ => rfl⟩⟩
  · have HO := Lib.hid hown
    have HX := Lib.hid hxl
    clear hown hxl
    go_enter Tryz.func39, Tryz.ntmps39
    go_wp2_with fail
    go_loopw [1, 5] (fun m v wr => ∃ j : Nat, j ≤ n ∧ v = .int .i64 j ∧ m = .int .i64 (k + j : Nat) ∧ Hid (wr.ownsRow base 9 1 (.slice (some ⟨g, 0, none⟩) n cap) n ((marks k j).map strV ++ xs.drop j)) ∧ Hid (w.grownBy wr (some g))) (fun _ v _ => n - (intOf v).toNat)
    case atStart => exact ⟨0, Nat.zero_le _, rfl, rfl, Lib.hid (by simpa [marks] using HO.out), Lib.hid ⟨rfl, rfl, rfl, Nat.le_refl _, fun _ _ _ => rfl⟩⟩
    case round =>
      obtain ⟨j, hj, rfl, rfl, ho, hg⟩ := hrel
      by_cases hlt : j < n
      · have hb0 : (0 : Int) ≤ j := by omega
        have HM := Lib.hid (fun W => markText_c (k + j) (by omega) W)
        have HS := Lib.hid (marks_step k n xs j HX.out hlt)
        go_wp2_with (go_at_call 83; go_must (refine (HM.out _).mono ?_; rintro e w1 ⟨rfl, hb1⟩; have ho1 := Lib.hid (owns_below ho.out hb1); have c1 := (ho1.out.cellAt j (by omega)).trans (List.getElem?_eq_getElem (by simp [marks_len, HX.out]; omega)); have f1 := ho1.out.frozenAt j))
        go_roundw
        case rel =>
          refine ⟨j + 1, by omega, by go_num, by go_num, Lib.hid ?_, Lib.hid ?_⟩
          · have := (ho1.out.stored j (strV (markT (k + j)))).1
            rw [HS.out] at this; exact this
          · exact gB_trans (gB_trans hg.out (gB_below hb1 _)) (ho1.out.stored j (strV (markT (k + j)))).2
        case measure => simp [intOf]; omega
      · have : j = n := by omega
        subst this
        go_wp2_with fail
        go_ret
        exact ⟨rfl, by have := ho.out; rwa [List.drop_of_length_le (by rw [HX.out]; exact Nat.le_refl _), List.append_nil] at this, hg.out⟩

set_option maxHeartbeats 1000000 in
theorem held_c (base : Nat) (v : Value) (n k : Nat) (w : World) (hown : w.ownsRow base 9 1 v n ((marks k n).map strV)) (hn : n ≤ 50000) (hk : k ≤ 1) :
    Calls Tryz.prog 40 #[v, .int .i64 k] w fun e w' => e = .returned (.int .i64 (k + n : Nat)) ∧ Below w.heap.size w w' := by
  rcases hown.2 with ⟨rfl, rfl⟩ | ⟨g, cap, cur, rfl, _⟩
  · clear hown
    go_enter Tryz.func40, Tryz.ntmps40
    go_wp2_with fail
    refine wp_loop_rounds 1 ?_
    rw [rounds_succ]
    go_wp2_with fail
    go_ret
    exact ⟨rfl, Below.refl _ _⟩
  · have HO := Lib.hid hown
    have hgl := (hown.lt g rfl).2
    clear hown
    go_enter Tryz.func40, Tryz.ntmps40
    go_wp2_with fail
    go_loopw [1, 5] (fun m v wr => ∃ j : Nat, j ≤ n ∧ v = .int .i64 j ∧ m = .int .i64 (k + j : Nat) ∧ Hid (Below w.heap.size w wr)) (fun _ v _ => n - (intOf v).toNat)
    case atStart => exact ⟨0, Nat.zero_le _, rfl, rfl, Lib.hid (Below.refl _ _)⟩
    case round =>
      obtain ⟨j, hj, rfl, rfl, hb⟩ := hrel
      by_cases hlt : j < n
      · have hb0 : (0 : Int) ≤ j := by omega
        have HM : Hid (∀ W, Calls Tryz.prog 83 #[.int .i64 ((k : Int) + j)] W fun e w' => e = .returned (.string (bs (markT (k + j)))) ∧ Below W.heap.size W w') := Lib.hid (fun W => markText_c (k + j) (by omega) W)
        have c1 : w.cell? ⟨g, j, none⟩ = some (.string (bs (markT (k + j)))) := by
          rw [HO.out.cellAt j (by omega)]
          rw [List.getElem?_eq_getElem (by simp [marks_len]; omega)]
          simp [marks, strV]
        have K : Hid (∀ W, Below wr.heap.size wr W → (fun W => Below wr.heap.size wr W ∧ W.cell? ⟨g, j, none⟩ = some (.string (bs (markT (k + j))))) W) := Lib.hid (fun W hW => ⟨hW, (hW.cell (p := ⟨g, j, none⟩) (Nat.lt_of_lt_of_le hgl hb.out.size)).trans ((hb.out.cell (p := ⟨g, j, none⟩) hgl).trans c1)⟩)
        have S0 := Lib.hid (K.out _ ((Below.refl _ _).drew))
        clear c1
        go_wp2_with fail
        go_region_held3 (fun W => Below wr.heap.size wr W ∧ W.cell? ⟨g, j, none⟩ = some (.string (bs (markT (k + j)))))
          (first | exact S0.out | assumption | fail)
          (first | (go_at_call 83; have hh := And.left (by assumption : Below wr.heap.size wr _ ∧ _); (with_reducible refine (HM.out _).mono ?_); rintro e w' ⟨rfl, hb9⟩; have hS2 := K.out _ (hh.trans (hb9.mono hh.size))) | fail)
        all_goals
          go_wp2_with fail
          go_roundw
          case rel => exact ⟨j + 1, by omega, by go_num, by go_num, Lib.hid (fin_belowT hb.out (by assumption))⟩
          case measure => simp [intOf]; omega
      · have : j = n := by omega
        subst this
        go_wp2_with fail
        go_ret
        exact ⟨rfl, hb.out⟩
end Go.Proofs.YtjfjlfhckfoehaaGreatDoor
namespace Go.Proofs.YtjfjlfhckfoehaaGreatDoor
open Go.RowKit
set_option linter.unusedSimpArgs false
set_option linter.unusedVariables false
section
variable {P : Program} (w : World)
theorem run_append_str (base : Nat) (t ty e : TypeId) (i : TypeInfo) (ht : P.underlying t = some (.slice e)) (hi : P.info? e = some i) (hz : i.zero = some (.string ⟨#[]⟩)) (hsize : i.size = 1) (hby : i.bytes = 16)
    (v : Value) (l : List (List UInt8)) (hown : w.ownsRow base e 1 v l.length (l.map strV))
    (u : Value) (m : List (List UInt8)) (hu : StrS w u m) (hb : l.length + m.length ≤ 1000000) (hbase : base ≤ w.heap.size) :
    ∃ v' w', (Builtin.append_ #[t, t] ty #[v, u]).run P w = .ok v' w' ∧ w'.ownsRow base e 1 v' (l ++ m).length ((l ++ m).map strV) ∧ w.grownBy w' v.ownBlock ∧ (v'.ownBlock = v.ownBlock ∨ v'.ownBlock = some w.heap.size) := by
  obtain ⟨p, c, rfl, h1, h2⟩ := hu
  by_cases hm : m = []
  · subst hm
    refine ⟨v, w, ?_, by simpa using hown, ⟨rfl, rfl, rfl, Nat.le_refl _, fun _ _ _ => rfl⟩, .inl rfl⟩
    rcases hown.2 with ⟨rfl, hn⟩ | ⟨g, cap, cur, rfl, _, _, hnc, _⟩
    · cases p with
      | none => simp [Builtin.append_, run_underlying ht, sizeOf, typeInfo, hi, Builtin.lenOf, Builtin.firstCells, hn]
      | some a => simp [Builtin.append_, run_underlying ht, sizeOf, typeInfo, hi, Builtin.lenOf, Builtin.firstCells, loadCells, loadCellsFrom, hn]
    · cases p with
      | none => simp [Builtin.append_, run_underlying ht, sizeOf, typeInfo, hi, Builtin.lenOf, Builtin.firstCells, hnc, storeCells]
      | some a => simp [Builtin.append_, run_underlying ht, sizeOf, typeInfo, hi, Builtin.lenOf, Builtin.firstCells, loadCells, loadCellsFrom, hnc, storeCells]
  · obtain ⟨r, off, rfl, h3⟩ := h2 hm
    have hadd : ∀ j, (⟨r, off, none⟩ : Addr).add j = ⟨r, off + j, none⟩ := fun j => by unfold Addr.add; split <;> simp_all
    have hnews : ∀ j x, (m.map strV)[j]? = some x → w.cell? ((⟨r, off, none⟩ : Addr).add j) = some x := fun j x hj => by rw [hadd]; exact h3 j x hj
    have h1' : ∀ x ∈ m.map strV, x.oneCell' = true := fun x hx => by obtain ⟨y, _, rfl⟩ := List.mem_map.1 hx; rfl
    have hl : (m.map strV).length = m.length * 1 := by simp
    have hmp : 0 < m.length := List.length_pos_iff.2 hm
    have hzs : (Value.string ⟨#[]⟩).cells.size = 1 := rfl
    obtain ⟨v', w', hr, g2, g3, g4⟩ := run_append_own (P := P) w base t ty e i _ 1 16 ht hi hz hsize hby hzs (by decide) v l.length _ hown ⟨r, off, none⟩ m.length c (m.map strV) hl hnews h1' (by unfold maxLen; omega) (by omega) hbase
    refine ⟨v', w', hr, by simpa using g2, g3, ?_⟩
    rcases hown.2 with ⟨rfl, hn⟩ | ⟨g, cap, cur, rfl, hbg, hg, hnc, hcm, hcs, htake⟩
    · have hr2 := run_append_nil (P := P) w t ty e i _ ht hi hz ⟨r, off, none⟩ m.length c (m.map strV) (by rw [hsize]; exact hl) hnews hmp (by omega) (by rw [hby]; omega)
      rw [hr] at hr2
      simp only [Result.ok.injEq] at hr2
      obtain ⟨rfl, _⟩ := hr2
      exact .inr rfl
    · by_cases hroom : l.length + m.length ≤ cap
      · have hfit : l.length * i.size + (m.map strV).length ≤ cur.size := by rw [hl, hcs, hsize]; omega
        have hr2 := run_append_room (P := P) w t ty e i ht hi g l.length cap cur hg ⟨r, off, none⟩ m.length c (m.map strV) (by rw [hsize]; exact hl) hnews h1' hroom hfit
        rw [hr] at hr2
        simp only [Result.ok.injEq] at hr2
        obtain ⟨rfl, _⟩ := hr2
        exact .inl rfl
      · have holds : ∀ j u, (l.map strV)[j]? = some u → w.cell? ((⟨g, 0, none⟩ : Addr).add j) = some u := hown.cells (g := g) rfl
        have hr2 := run_append_grow (P := P) w t ty e i _ ht hi hz ⟨g, 0, none⟩ l.length cap _ (by rw [hsize]; exact hown.1) holds ⟨r, off, none⟩ m.length c (m.map strV) (by rw [hsize]; exact hl) hnews (by omega) (by omega) (growslice_fits (by omega) (by rw [hby]; omega))
        rw [hr] at hr2
        simp only [Result.ok.injEq] at hr2
        obtain ⟨rfl, _⟩ := hr2
        exact .inr rfl
theorem wpList_append_str {ops : Array Oper} {rest : List Oper} {o : Oper} {a : Act} {Q : Exit → Act → World → Prop} (hgd : o.guard = none) (s x : Operand) (t : TypeId)
    (ho : o.op = .call { callee := .builtin .append, args := #[s, x], argTypes := #[t, t] })
    (base : Nat) (e : TypeId) (i : TypeInfo) (ht : P.underlying t = some (.slice e)) (hi : P.info? e = some i) (hz : i.zero = some (.string ⟨#[]⟩)) (hsize : i.size = 1) (hby : i.bytes = 16)
    (v : Value) (l : List (List UInt8)) (hs : a.eval s = v) (hown : w.ownsRow base e 1 v l.length (l.map strV))
    (u : Value) (m : List (List UInt8)) (hx : a.eval x = u) (hu : StrS w u m) (hb : l.length + m.length ≤ 1000000) (hbase : base ≤ w.heap.size)
    (h : ∀ v' w', w'.ownsRow base e 1 v' (l ++ m).length ((l ++ m).map strV) → w.grownBy w' v.ownBlock → (v'.ownBlock = v.ownBlock ∨ v'.ownBlock = some w.heap.size) → wpList P ops Q rest (a.put o.dst v') w') : wpList P ops Q (o :: rest) a w :=
  wpList_plain hgd fun _ hK => by
    obtain ⟨v', w', hr, h2, h3, h4⟩ := run_append_str (P := P) w base t o.type e i ht hi hz hsize hby v l hown u m hu hb hbase
    unfold Oper.wp execOp
    simp only [ho, resolve, invoke, builtin, Sem.run_bind, Sem.run_pure, Result.andThen_ok, List.map_toArray, List.map_cons, List.map_nil, hs, hx, hr]
    exact hK _ _ (h v' w' h2 h3 h4)
end
end Go.Proofs.YtjfjlfhckfoehaaGreatDoor
