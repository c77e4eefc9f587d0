/- The reference's draws: types; what laws ask of lists of texts. -/
import Derived.Test.YtpmlpmdgmapilaaDraw5
import Derived.Test.YtpmlpmdgmapilaaS1z
import Derived.OwnWalk
namespace Go.Proofs.Ytpmlpmdgmapilaa
open Go.RowKit
set_option maxRecDepth 8000
set_option linter.unusedSimpArgs false
set_option linter.unusedVariables false
def oddTypes : List (List UInt8) := [[], [120], [40, 62, 32, 105, 41], [40, 42, 32, 105, 32, 105, 32, 105, 41], [40, 43, 32, 105, 32, 105, 41], [40, 105, 32, 105, 32, 105, 41]]
set_option maxHeartbeats 2000000 in
theorem l91Typed_d {q : Nat} {a : Option Addr} {L c p : Nat} {zs : List Int} {w : World} (h : Rd w q a L c p zs) (hp : p ≤ 400000) :
    Calls Try.prog 73 #[.pointer (some ⟨q, 0, none⟩)] w fun e w' => DrPost q a L c p zs 6000 6000 w e w' := by
  have CP := Lib.hid (pick_d (n := 16) h (by omega) (by omega))
  clear h
  go_enter Try.func73, Try.ntmps73
  go_wp2_with fail
  refine (CP.out).mono ?_
  rintro e w2 ⟨⟨k, rfl, hk0, hk1⟩, hR2, ho2⟩
  have HO2 := Lib.hid ho2
  clear ho2
  by_cases h0 : k = 0
  · subst h0
    have C1 := Lib.hid (of_new (l := oddTypes) (N := 9) hR2 (by omega) (by decide) (by decide) (by decide))
    clear hR2
    go_wp2_with fail
    refine (C1.out).mono ?_
    rintro e w3 ⟨s3, p3, rfl, b1, b2, hR3, ho3⟩
    go_wp2_with fail
    go_ret
    exact ⟨_, p3, rfl, by omega, by omega, hR3, HO2.out.trans ho3⟩
  · have e0 : (k == 0) = false := by simpa using h0
    by_cases h1 : k = 1
    · subst h1
      have C1 : Hid (∀ (W : World) p9, Rd W q a L c p9 zs → p9 ≤ 500000 → Calls Try.prog 87 #[.pointer (some ⟨q, 0, none⟩), .int .i64 4] W fun e w' => DrPost q a L c p9 zs 2560 2560 W e w') := Lib.hid (fun W p9 h hp => l91Type_d 4 p9 W h (by decide) (by omega))
      go_wp2_with fail
      refine (C1.out _ _ hR2 (by omega)).mono ?_
      rintro e w3 ⟨s3, p3, rfl, b1, b2, hR3, ho3⟩
      go_wp2_with fail
      refine (C1.out _ _ hR3 (by omega)).mono ?_
      rintro e w4 ⟨s4, p4, rfl, b3, b4, hR4, ho4⟩
      go_wp2_with fail
      go_ret
      exact ⟨_, p4, rfl, by have y1 := sz41; have y2 := sz32; have y3 : (⟨#[40, 42, 32]⟩ : ByteArray).size = 3 := rfl; simp; omega, by omega, hR4, (HO2.out.trans ho3).trans ho4⟩
    · have e1 : (k == 1) = false := by simpa using h1
      have C1 : Hid (Calls Try.prog 87 #[.pointer (some ⟨q, 0, none⟩), .int .i64 3] w2 fun e w' => DrPost q a L c (p + 1) zs 640 640 w2 e w') := Lib.hid (l91Type_d 3 (p + 1) w2 hR2 (by decide) (by omega))
      go_wp2_with fail
      refine (C1.out).mono ?_
      rintro e w3 ⟨s3, p3, rfl, b1, b2, hR3, ho3⟩
      go_wp2_with fail
      go_ret
      exact ⟨_, p3, rfl, by omega, by omega, hR3, HO2.out.trans ho3⟩
/-- What a drawn text's function answers, a longer one. -/
def DTl (w : World) (e : Ending) (w' : World) : Prop := (∃ s : ByteArray, e = .returned (.string s) ∧ s.size ≤ 20000) ∧ Below w.heap.size w w'
theorem dtl_of {q : Nat} {a : Option Addr} {L c p : Nat} {zs : List Int} {N M : Nat} {w w1 w' : World} {e : Ending} (hb : Below w.heap.size w w1) (hq : w.heap.size ≤ q) (h : DrPost q a L c p zs N M w1 e w') (hN : N ≤ 20000) : DTl w e w' := by
  obtain ⟨s, p', rfl, h2, h3, h4, h5⟩ := h
  exact ⟨⟨s, rfl, by omega⟩, Only.fresh hb h5 hq hb.size⟩
set_option maxHeartbeats 400000 in
theorem drawTypeValid_c (a : Option Addr) (L c : Nat) (zs : List Int) (w : World) (hr : BRow w a L c zs) : Calls Try.prog 38 #[.slice a L c] w fun e w' => DTl w e w' := by
  have CO := Lib.hid (l6Open_c a L c zs w hr)
  clear hr
  go_enter Try.func38, Try.ntmps38
  go_wp2_with fail
  refine (CO.out).mono ?_
  rintro e w1 ⟨rfl, ⟨L', c', hR1⟩, hb1⟩
  have HB1 := Lib.hid hb1
  have C := Lib.hid (l91Typed_d hR1 (by omega))
  clear hb1 hR1
  go_wp2_with fail
  refine (C.out).mono ?_
  rintro e w2 ⟨s, p', rfl, h2, h3, h4, h5⟩
  have HF := Lib.hid (dtl_of HB1.out (Nat.le_refl _) ⟨s, p', rfl, h2, h3, h4, h5⟩ (by decide))
  go_wp2_with fail
  go_ret
  exact HF.out
set_option maxHeartbeats 400000 in
theorem drawTypeFun_c (a : Option Addr) (L c : Nat) (zs : List Int) (w : World) (hr : BRow w a L c zs) : Calls Try.prog 44 #[.slice a L c] w fun e w' => DTl w e w' := by
  have CO := Lib.hid (l6Open_c a L c zs w hr)
  clear hr
  go_enter Try.func44, Try.ntmps44
  go_wp2_with fail
  refine (CO.out).mono ?_
  rintro e w1 ⟨rfl, ⟨L', c', hR1⟩, hb1⟩
  have HB1 := Lib.hid hb1
  have C := Lib.hid (l91Typed_d hR1 (by omega))
  clear hb1 hR1
  go_wp2_with fail
  refine (C.out).mono ?_
  rintro e w2 ⟨s, p', rfl, h2, h3, h4, h5⟩
  have HF := Lib.hid (dtl_of HB1.out (Nat.le_refl _) ⟨s, p', rfl, h2, h3, h4, h5⟩ (by decide))
  go_wp2_with fail
  go_ret
  exact HF.out
set_option maxHeartbeats 400000 in
theorem drawTypePair_c (a : Option Addr) (L c : Nat) (zs : List Int) (w : World) (hr : BRow w a L c zs) : Calls Try.prog 47 #[.slice a L c] w fun e w' => DTl w e w' := by
  have CO := Lib.hid (l6Open_c a L c zs w hr)
  clear hr
  go_enter Try.func47, Try.ntmps47
  go_wp2_with fail
  refine (CO.out).mono ?_
  rintro e w1 ⟨rfl, ⟨L', c', hR1⟩, hb1⟩
  have HB1 := Lib.hid hb1
  have C := Lib.hid (l91Typed_d hR1 (by omega))
  clear hb1 hR1
  go_wp2_with fail
  refine (C.out).mono ?_
  rintro e w2 ⟨s, p', rfl, h2, h3, h4, h5⟩
  have HF := Lib.hid (dtl_of HB1.out (Nat.le_refl _) ⟨s, p', rfl, h2, h3, h4, h5⟩ (by decide))
  go_wp2_with fail
  go_ret
  exact HF.out
set_option maxHeartbeats 400000 in
theorem drawTypeOrder_c (a : Option Addr) (L c : Nat) (zs : List Int) (w : World) (hr : BRow w a L c zs) : Calls Try.prog 49 #[.slice a L c] w fun e w' => DTl w e w' := by
  have CO := Lib.hid (l6Open_c a L c zs w hr)
  clear hr
  go_enter Try.func49, Try.ntmps49
  go_wp2_with fail
  refine (CO.out).mono ?_
  rintro e w1 ⟨rfl, ⟨L', c', hR1⟩, hb1⟩
  have HB1 := Lib.hid hb1
  have C := Lib.hid (l91Typed_d hR1 (by omega))
  clear hb1 hR1
  go_wp2_with fail
  refine (C.out).mono ?_
  rintro e w2 ⟨s, p', rfl, h2, h3, h4, h5⟩
  have HF := Lib.hid (dtl_of HB1.out (Nat.le_refl _) ⟨s, p', rfl, h2, h3, h4, h5⟩ (by decide))
  go_wp2_with fail
  go_ret
  exact HF.out
set_option maxHeartbeats 1000000 in
theorem drawTypeMake_c (a : Option Addr) (L c : Nat) (zs : List Int) (w : World) (hr : BRow w a L c zs) : Calls Try.prog 51 #[.slice a L c] w fun e w' => (∃ (z : Bool) (s t : ByteArray), e = .returned (.tuple #[.bool z, .string s, .string t]) ∧ s.size ≤ 20000 ∧ t.size ≤ 20000) ∧ Below w.heap.size w w' := by
  have CO := Lib.hid (l6Open_c a L c zs w hr)
  clear hr
  go_enter Try.func51, Try.ntmps51
  go_wp2_with fail
  refine (CO.out).mono ?_
  rintro e w1 ⟨rfl, ⟨L', c', hR1⟩, hb1⟩
  have HB1 := Lib.hid hb1
  have C := Lib.hid (l91Typed_d hR1 (by omega))
  clear hb1 hR1
  go_wp2_with fail
  refine (C.out).mono ?_
  rintro e w2 ⟨s, p2, rfl, h2, h3, hR2, ho2⟩
  have C2 := Lib.hid (pick_d (n := 2) hR2 (by omega) (by omega))
  clear hR2
  go_wp2_with fail
  refine (C2.out).mono ?_
  rintro e w3 ⟨⟨k, rfl, hk0, hk1⟩, hR3, ho3⟩
  have C3 := Lib.hid (l91Typed_d hR3 (by omega))
  clear hR3
  go_wp2_with fail
  refine (C3.out).mono ?_
  rintro e w4 ⟨t, p4, rfl, h4, h5, hR4, ho4⟩
  have HF := Lib.hid (Only.fresh HB1.out ((ho2.trans ho3).trans ho4) (Nat.le_refl _) HB1.out.size)
  go_wp2_with fail
  go_ret3
  exact ⟨⟨_, s, t, rfl, by omega, by omega⟩, HF.out⟩
set_option maxHeartbeats 1000000 in
theorem sameT_c (va vb : Value) (la lb : List (List UInt8)) (w : World) (ha : StrS w va la) (hb : StrS w vb lb) :
    Calls Try.prog 24 #[va, vb] w fun e w' => e = .returned (.bool (decide (la = lb))) ∧ ∃ n, w' = w.drewN n := by
  obtain ⟨pa, ca, rfl, ha1, ha2⟩ := ha
  obtain ⟨pb, cb, rfl, hb1, hb2⟩ := hb
  by_cases hlen : la.length = lb.length
  · by_cases hz : la = []
    · subst hz
      have hlb : lb = [] := List.eq_nil_of_length_eq_zero (by simpa using hlen.symm)
      subst hlb
      clear ha2 hb2 hlen
      go_enter Try.func24, Try.ntmps24
      go_wp2_with fail
      refine wp_loop_rounds 1 ?_
      rw [rounds_succ]
      go_wp2_with fail
      go_ret
      exact ⟨ret_bool (by simp), 0, rfl⟩
    · have hzb : lb ≠ [] := by intro e; subst e; exact hz (List.eq_nil_of_length_eq_zero (by simpa using hlen))
      obtain ⟨ra, oa, rfl, ha3⟩ := ha2 hz
      obtain ⟨rb, ob, rfl, hb3⟩ := hb2 hzb
      have he : ((la.length : Int) == (lb.length : Int)) = true := by simp; omega
      have HL := Lib.hid hlen
      have hle : la.length ≤ lb.length ∧ lb.length ≤ la.length := by omega
      clear hlen ha2 hb2
      go_enter Try.func24, Try.ntmps24
      go_wp2_with fail
      go_loopw [5] (fun v wr => ∃ k : Nat, k ≤ la.length ∧ v = .int .i64 k ∧ Hid (la.take k = lb.take k) ∧ ∃ n, Hid (wr = w.drewN n)) (fun v _ => la.length - (intOf v).toNat)
      case atStart => exact ⟨0, Nat.zero_le _, rfl, Lib.hid rfl, 0, Lib.hid rfl⟩
      case round =>
        obtain ⟨k, hk, rfl, ht, n, hw⟩ := hrel
        by_cases hlt : k < la.length
        · have hltb : k < lb.length := by omega
          have c1 : wr.cell? ⟨ra, oa + k, none⟩ = some (.string (bs la[k])) := by rw [hw.out]; exact StrS.cell ha3 hlt
          have c2 : wr.cell? ⟨rb, ob + k, none⟩ = some (.string (bs lb[k])) := by rw [hw.out]; exact StrS.cell hb3 hltb
          have b1 : (0 : Int) ≤ k := by omega
          cases hx : (la[k] == lb[k]) with
          | true =>
            have hx2 : ((bs la[k]).toList == (bs lb[k]).toList) = true := by rw [bs_toList, bs_toList]; exact hx
            have HX := Lib.hid hx
            clear hx
            go_wp2_with fail
            go_quiet (fail)
            go_wp2_with fail
            go_roundw
            case rel => exact ⟨k + 1, by omega, by go_num, Lib.hid (by rw [List.take_succ_eq_append_getElem hlt, List.take_succ_eq_append_getElem hltb, ht.out, show la[k] = lb[k] from by simpa using HX.out]), n + nq, Lib.hid (by rw [hw.out, drewN_drewN])⟩
            case measure => simp [intOf]; omega
          | false =>
            have hx2 : ((bs la[k]).toList == (bs lb[k]).toList) = false := by rw [bs_toList, bs_toList]; exact hx
            have HX := Lib.hid hx
            clear hx
            go_wp2_with fail
            go_quiet (fail)
            go_wp2_with fail
            go_ret
            exact ⟨ret_bool (by simp only [Bool.false_eq, decide_eq_false_iff_not]; intro e; subst e; have := HX.out; simp at this), n + nq, by rw [hw.out, drewN_drewN]⟩
        · have : k = la.length := by omega
          subst this
          go_wp2_with fail
          go_ret
          exact ⟨ret_bool (by simp only [Bool.true_eq, decide_eq_true_eq]; have := ht.out; rw [List.take_length, HL.out, List.take_length] at this; exact this), n, hw.out⟩
  · have he : ((la.length : Int) == (lb.length : Int)) = false := by simp; omega
    have HN := Lib.hid (show la ≠ lb from fun e => hlen (by rw [e]))
    clear hlen ha2 hb2
    go_enter Try.func24, Try.ntmps24
    go_wp2_with fail
    go_ret
    exact ⟨ret_bool (by simp [HN.out]), 0, rfl⟩

set_option maxHeartbeats 1000000 in
theorem hasT_c (v : Value) (l : List (List UInt8)) (a : List UInt8) (w : World) (h : StrS w v l) :
    Calls Try.prog 35 #[v, .string (bs a)] w fun e w' => e = .returned (.bool (decide (a ∈ l))) ∧ w' = w := by
  obtain ⟨p, c, rfl, h1, h2⟩ := h
  by_cases hz : l = []
  · subst hz
    clear h2
    go_enter Try.func35, Try.ntmps35
    go_wp2_with fail
    refine wp_loop_rounds 1 ?_
    rw [rounds_succ]
    go_wp2_with fail
    go_ret
    exact ⟨ret_bool (by simp), rfl⟩
  · obtain ⟨r, off, rfl, h3⟩ := h2 hz
    obtain ⟨F, hF⟩ : ∃ F, F = decide (a ∈ l) := ⟨_, rfl⟩
    rw [← hF]
    have HF := Lib.hid hF
    clear h2 hF
    go_enter Try.func35, Try.ntmps35
    go_wp2_with fail
    go_loop [5] (fun i => ∃ k : Nat, k ≤ l.length ∧ i = .int .i64 k ∧ Hid (a ∉ l.take k)) (fun i => l.length - (intOf i).toNat)
    case atStart => exact ⟨0, Nat.zero_le _, rfl, Lib.hid (by simp)⟩
    case round =>
      obtain ⟨k, hk, rfl, hno⟩ := hrel
      by_cases hlt : k < l.length
      · have c1 : w.cell? ⟨r, off + k, none⟩ = some (.string (bs l[k])) := StrS.cell h3 hlt
        have hk0 : (0 : Int) ≤ (k : Int) := by omega
        by_cases hx : l[k] = a
        · have hx2 : ((bs l[k]).toList == (bs a).toList) = true := by rw [bs_toList, bs_toList]; simpa using hx
          have hx3 : (bs l[k]).toList = (bs a).toList := by rw [bs_toList, bs_toList]; exact hx
          have HX := Lib.hid hx
          obtain ⟨s, hs⟩ : ∃ s, s = bs l[k] := ⟨_, rfl⟩
          rw [← hs] at c1 hx2 hx3
          clear hx hs
          go_wp2_with fail
          go_ret
          exact ⟨ret_bool (by rw [HF.out]; symm; rw [decide_eq_true_eq, ← HX.out]; exact List.getElem_mem hlt), rfl⟩
        · have hx2 : ((bs l[k]).toList == (bs a).toList) = false := by rw [bs_toList, bs_toList]; simpa using hx
          have hx3 : ¬ (bs l[k]).toList = (bs a).toList := by rw [bs_toList, bs_toList]; exact hx
          have HX := Lib.hid hx
          obtain ⟨s, hs⟩ : ∃ s, s = bs l[k] := ⟨_, rfl⟩
          rw [← hs] at c1 hx2 hx3
          clear hx hs
          go_wp2_with fail
          exact ⟨⟨k + 1, by omega, by go_num, Lib.hid (by rw [List.take_succ_eq_append_getElem hlt]; simp only [List.mem_append, List.mem_singleton, not_or]; exact ⟨hno.out, fun e => HX.out e.symm⟩)⟩, by simp [intOf]; omega⟩
      · have : k = l.length := by omega
        subst this
        have hn := hno.out
        rw [List.take_length] at hn
        have HN := Lib.hid hn
        clear hn
        go_wp2_with fail
        go_ret
        exact ⟨ret_bool (by rw [HF.out]; simp [HN.out]), rfl⟩
end Go.Proofs.Ytpmlpmdgmapilaa
