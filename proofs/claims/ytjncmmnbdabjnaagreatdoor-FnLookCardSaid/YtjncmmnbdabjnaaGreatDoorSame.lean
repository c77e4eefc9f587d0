/- Lists of texts: are two the same, is a text in one? -/
import Derived.Test.YtjncmmnbdabjnaaGreatDoorS1z
import Derived.OwnWalk
namespace Go.Proofs.YtjncmmnbdabjnaaGreatDoor
open Go.RowKit
set_option maxRecDepth 8000
set_option linter.unusedSimpArgs false
set_option linter.unusedVariables false
set_option maxHeartbeats 1000000 in
theorem sameT_c (va vb : Value) (la lb : List (List UInt8)) (w : World) (ha : StrS w va la) (hb : StrS w vb lb) :
    Calls Tryz.prog 31 #[va, vb] w fun e w' => e = .returned (.bool (decide (la = lb))) ∧ ∃ n, w' = w.drewN n := by
  obtain ⟨pa, ca, rfl, ha1, ha2⟩ := ha
  obtain ⟨pb, cb, rfl, hb1, hb2⟩ := hb
  by_cases hlen : la.length = lb.length
  · by_cases hz : la = []
    · subst hz
      have hlb : lb = [] := List.eq_nil_of_length_eq_zero (by simpa using hlen.symm)
      subst hlb
      clear ha2 hb2 hlen
      go_enter Tryz.func31, Tryz.ntmps31
      go_wp2_with fail
      refine wp_loop_rounds 1 ?_
      rw [rounds_succ]
      go_wp2_with fail
      go_ret
      exact ⟨ret_bool (by simp), 0, rfl⟩
    · have hzb : lb ≠ [] := by intro e; subst e; exact hz (List.eq_nil_of_length_eq_zero (by simpa using hlen))
      obtain ⟨ra, oa, rfl, ha3⟩ := ha2 hz
      obtain ⟨rb, ob, rfl, hb3⟩ := hb2 hzb
      have he : ((la.length : Int) == (lb.length : Int)) = true := by simp; omega
      have HL := Lib.hid hlen
      have hle : la.length ≤ lb.length ∧ lb.length ≤ la.length := by omega
      clear hlen ha2 hb2
      go_enter Tryz.func31, Tryz.ntmps31
      go_wp2_with fail
      go_loopw [5] (fun v wr => ∃ k : Nat, k ≤ la.length ∧ v = .int .i64 k ∧ Hid (la.take k = lb.take k) ∧ ∃ n, Hid (wr = w.drewN n)) (fun v _ => la.length - (intOf v).toNat)
      case atStart => exact ⟨0, Nat.zero_le _, rfl, Lib.hid rfl, 0, Lib.hid rfl⟩
      case round =>
        obtain ⟨k, hk, rfl, ht, n, hw⟩ := hrel
        by_cases hlt : k < la.length
        · have hltb : k < lb.length := by omega
          have c1 : wr.cell? ⟨ra, oa + k, none⟩ = some (.string (bs la[k])) := by rw [hw.out]; exact StrS.cell ha3 hlt
          have c2 : wr.cell? ⟨rb, ob + k, none⟩ = some (.string (bs lb[k])) := by rw [hw.out]; exact StrS.cell hb3 hltb
          have b1 : (0 : Int) ≤ k := by omega
          cases hx : (la[k] == lb[k]) with
          | true =>
            have hx2 : ((bs la[k]).toList == (bs lb[k]).toList) = true := by rw [bs_toList, bs_toList]; exact hx
            have HX := Lib.hid hx
            clear hx
            go_wp2_with fail
            go_quiet (fail)
            go_wp2_with fail
            go_roundw
            case rel => exact ⟨k + 1, by omega, by go_num, Lib.hid (by rw [List.take_succ_eq_append_getElem hlt, List.take_succ_eq_append_getElem hltb, ht.out, show la[k] = lb[k] from by simpa using HX.out]), n + nq, Lib.hid (by rw [hw.out, drewN_drewN])⟩
            case measure => simp [intOf]; omega
          | false =>
            have hx2 : ((bs la[k]).toList == (bs lb[k]).toList) = false := by rw [bs_toList, bs_toList]; exact hx
            have HX := Lib.hid hx
            clear hx
            go_wp2_with fail
            go_quiet (fail)
            go_wp2_with fail
            go_ret
            exact ⟨ret_bool (by simp only [Bool.false_eq, decide_eq_false_iff_not]; intro e; subst e; have := HX.out; simp at this), n + nq, by rw [hw.out, drewN_drewN]⟩
        · have : k = la.length := by omega
          subst this
          go_wp2_with fail
          go_ret
          exact ⟨ret_bool (by simp only [Bool.true_eq, decide_eq_true_eq]; have := ht.out; rw [List.take_length, HL.out, List.take_length] at this; exact this), n, hw.out⟩
  · have he : ((la.length : Int) == (lb.length : Int)) = false := by simp; omega
    have HN := Lib.hid (show la ≠ lb from fun e => hlen (by rw [e]))
    clear hlen ha2 hb2
    go_enter Tryz.func31, Tryz.ntmps31
    go_wp2_with fail
    go_ret
    exact ⟨ret_bool (by simp [HN.out]), 0, rfl⟩

set_option maxHeartbeats 1000000 in
theorem hasT_c (v : Value) (l : List (List UInt8)) (a : List UInt8) (w : World) (h : StrS w v l) :
    Calls Tryz.prog 34 #[v, .string (bs a)] w fun e w' => e = .returned (.bool (decide (a ∈ l))) ∧ w' = w := by
  obtain ⟨p, c, rfl, h1, h2⟩ := h
  by_cases hz : l = []
  · subst hz
    clear h2
    go_enter Tryz.func34, Tryz.ntmps34
    go_wp2_with fail
    refine wp_loop_rounds 1 ?_
    rw [rounds_succ]
    go_wp2_with fail
    go_ret
    exact ⟨ret_bool (by simp), rfl⟩
  · obtain ⟨r, off, rfl, h3⟩ := h2 hz
    obtain ⟨F, hF⟩ : ∃ F, F = decide (a ∈ l) := ⟨_, rfl⟩
    rw [← hF]
    have HF := Lib.hid hF
    clear h2 hF
    go_enter Tryz.func34, Tryz.ntmps34
    go_wp2_with fail
    go_loop [5] (fun i => ∃ k : Nat, k ≤ l.length ∧ i = .int .i64 k ∧ Hid (a ∉ l.take k)) (fun i => l.length - (intOf i).toNat)
    case atStart => exact ⟨0, Nat.zero_le _, rfl, Lib.hid (by simp)⟩
    case round =>
      obtain ⟨k, hk, rfl, hno⟩ := hrel
      by_cases hlt : k < l.length
      · have c1 : w.cell? ⟨r, off + k, none⟩ = some (.string (bs l[k])) := StrS.cell h3 hlt
        have hk0 : (0 : Int) ≤ (k : Int) := by omega
        by_cases hx : l[k] = a
        · have hx2 : ((bs l[k]).toList == (bs a).toList) = true := by rw [bs_toList, bs_toList]; simpa using hx
          have hx3 : (bs l[k]).toList = (bs a).toList := by rw [bs_toList, bs_toList]; exact hx
          have HX := Lib.hid hx
          obtain ⟨s, hs⟩ : ∃ s, s = bs l[k] := ⟨_, rfl⟩
          rw [← hs] at c1 hx2 hx3
          clear hx hs
          go_wp2_with fail
          go_ret
          exact ⟨ret_bool (by rw [HF.out]; symm; rw [decide_eq_true_eq, ← HX.out]; exact List.getElem_mem hlt), rfl⟩
        · have hx2 : ((bs l[k]).toList == (bs a).toList) = false := by rw [bs_toList, bs_toList]; simpa using hx
          have hx3 : ¬ (bs l[k]).toList = (bs a).toList := by rw [bs_toList, bs_toList]; exact hx
          have HX := Lib.hid hx
          obtain ⟨s, hs⟩ : ∃ s, s = bs l[k] := ⟨_, rfl⟩
          rw [← hs] at c1 hx2 hx3
          clear hx hs
          go_wp2_with fail
          exact ⟨⟨k + 1, by omega, by go_num, Lib.hid (by rw [List.take_succ_eq_append_getElem hlt]; simp only [List.mem_append, List.mem_singleton, not_or]; exact ⟨hno.out, fun e => HX.out e.symm⟩)⟩, by simp [intOf]; omega⟩
      · have : k = l.length := by omega
        subst this
        have hn := hno.out
        rw [List.take_length] at hn
        have HN := Lib.hid hn
        clear hn
        go_wp2_with fail
        go_ret
        exact ⟨ret_bool (by rw [HF.out]; simp [HN.out]), rfl⟩
end Go.Proofs.YtjncmmnbdabjnaaGreatDoor
