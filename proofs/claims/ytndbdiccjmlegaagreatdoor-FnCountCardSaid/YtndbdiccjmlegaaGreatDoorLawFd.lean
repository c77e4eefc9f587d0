/- The law FnCount: its walk. Free occurrences are atoms. -/
import Derived.Test.YtndbdiccjmlegaaGreatDoorDrawC
import Derived.Test.YtndbdiccjmlegaaGreatDoorI2p
import Derived.Test.YtndbdiccjmlegaaGreatDoorI1z
import Derived.Test.YtndbdiccjmlegaaGreatDoorS2f
import Derived.OwnWalk
namespace Go.Proofs.YtndbdiccjmlegaaGreatDoor
open Go.RowKit
set_option maxRecDepth 8000
set_option linter.unusedSimpArgs false
set_option linter.unusedVariables false
set_option maxHeartbeats 400000 in
theorem implFormSizeF_c (s : ByteArray) (hs : s.size ≤ 1048576) (w : World) :
    Calls Tryz.prog 23 #[.string s] w fun e w' => e = .returned (.int .i64 (sizeOfText s.data.toList)) ∧ Below w.heap.size w w' := by
  cases hp : parse s.data.toList with
  | none =>
    have C := Lib.hid (readForm_none hs hp)
    have HD := Lib.hid (show sizeOfText s.data.toList = -1 from by simp [sizeOfText, hp])
    clear hp
    go_enter Tryz.func23, Tryz.ntmps23
    go_wp2_with (go_at_call 45; go_must (refine (C.out _).mono ?_; rintro e w1 ⟨rfl, hb1⟩))
    go_ret
    exact ⟨ret_int HD.out.symm, hb1.alloc hb1.size _⟩
  | some t =>
    have C := Lib.hid (readForm_some hs hp)
    have HD := Lib.hid (show sizeOfText s.data.toList = (t.size : Int) from by simp [sizeOfText, hp])
    clear hp
    go_enter Tryz.func23, Tryz.ntmps23
    go_wp2_with (go_at_call 45; go_must (refine (C.out _).mono ?_; rintro e w1 ⟨⟨p, n, c, rfl, hv⟩, hb1⟩))
    go_ret
    exact ⟨ret_int HD.out.symm, hb1.alloc hb1.size _⟩

set_option maxHeartbeats 1000000 in
theorem sameTF_c (va vb : Value) (la lb : List (List UInt8)) (w : World) (ha : StrS w va la) (hb : StrS w vb lb) :
    Calls Tryz.prog 13 #[va, vb] w fun e w' => e = .returned (.bool (decide (la = lb))) ∧ ∃ n, w' = w.drewN n := by
  obtain ⟨pa, ca, rfl, ha1, ha2⟩ := ha
  obtain ⟨pb, cb, rfl, hb1, hb2⟩ := hb
  by_cases hlen : la.length = lb.length
  · by_cases hz : la = []
    · subst hz
      have hlb : lb = [] := List.eq_nil_of_length_eq_zero (by simpa using hlen.symm)
      subst hlb
      clear ha2 hb2 hlen
      go_enter Tryz.func13, Tryz.ntmps13
      go_wp2_with fail
      refine wp_loop_rounds 1 ?_
      rw [rounds_succ]
      go_wp2_with fail
      go_ret
      exact ⟨ret_bool (by simp), 0, rfl⟩
    · have hzb : lb ≠ [] := by intro e; subst e; exact hz (List.eq_nil_of_length_eq_zero (by simpa using hlen))
      obtain ⟨ra, oa, rfl, ha3⟩ := ha2 hz
      obtain ⟨rb, ob, rfl, hb3⟩ := hb2 hzb
      have he : ((la.length : Int) == (lb.length : Int)) = true := by simp; omega
      have HL := Lib.hid hlen
      have hle : la.length ≤ lb.length ∧ lb.length ≤ la.length := by omega
      clear hlen ha2 hb2
      go_enter Tryz.func13, Tryz.ntmps13
      go_wp2_with fail
      go_loopw [5] (fun v wr => ∃ k : Nat, k ≤ la.length ∧ v = .int .i64 k ∧ Hid (la.take k = lb.take k) ∧ ∃ n, Hid (wr = w.drewN n)) (fun v _ => la.length - (intOf v).toNat)
      case atStart => exact ⟨0, Nat.zero_le _, rfl, Lib.hid rfl, 0, Lib.hid rfl⟩
      case round =>
        obtain ⟨k, hk, rfl, ht, n, hw⟩ := hrel
        by_cases hlt : k < la.length
        · have hltb : k < lb.length := by omega
          have c1 : wr.cell? ⟨ra, oa + k, none⟩ = some (.string (bs la[k])) := by rw [hw.out]; exact StrS.cell ha3 hlt
          have c2 : wr.cell? ⟨rb, ob + k, none⟩ = some (.string (bs lb[k])) := by rw [hw.out]; exact StrS.cell hb3 hltb
          have b1 : (0 : Int) ≤ k := by omega
          cases hx : (la[k] == lb[k]) with
          | true =>
            have hx2 : ((bs la[k]).toList == (bs lb[k]).toList) = true := by rw [bs_toList, bs_toList]; exact hx
            have HX := Lib.hid hx
            clear hx
            go_wp2_with fail
            go_quiet (fail)
            go_wp2_with fail
            go_roundw
            case rel => exact ⟨k + 1, by omega, by go_num, Lib.hid (by rw [List.take_succ_eq_append_getElem hlt, List.take_succ_eq_append_getElem hltb, ht.out, show la[k] = lb[k] from by simpa using HX.out]), n + nq, Lib.hid (by rw [hw.out, drewN_drewN])⟩
            case measure => simp [intOf]; omega
          | false =>
            have hx2 : ((bs la[k]).toList == (bs lb[k]).toList) = false := by rw [bs_toList, bs_toList]; exact hx
            have HX := Lib.hid hx
            clear hx
            go_wp2_with fail
            go_quiet (fail)
            go_wp2_with fail
            go_ret
            exact ⟨ret_bool (by simp only [Bool.false_eq, decide_eq_false_iff_not]; intro e; subst e; have := HX.out; simp at this), n + nq, by rw [hw.out, drewN_drewN]⟩
        · have : k = la.length := by omega
          subst this
          go_wp2_with fail
          go_ret
          exact ⟨ret_bool (by simp only [Bool.true_eq, decide_eq_true_eq]; have := ht.out; rw [List.take_length, HL.out, List.take_length] at this; exact this), n, hw.out⟩
  · have he : ((la.length : Int) == (lb.length : Int)) = false := by simp; omega
    have HN := Lib.hid (show la ≠ lb from fun e => hlen (by rw [e]))
    clear hlen ha2 hb2
    go_enter Tryz.func13, Tryz.ntmps13
    go_wp2_with fail
    go_ret
    exact ⟨ret_bool (by simp [HN.out]), 0, rfl⟩

set_option maxHeartbeats 1000000 in
theorem hasTF_c (v : Value) (l : List (List UInt8)) (a : List UInt8) (w : World) (h : StrS w v l) :
    Calls Tryz.prog 16 #[v, .string (bs a)] w fun e w' => e = .returned (.bool (decide (a ∈ l))) ∧ w' = w := by
  obtain ⟨p, c, rfl, h1, h2⟩ := h
  by_cases hz : l = []
  · subst hz
    clear h2
    go_enter Tryz.func16, Tryz.ntmps16
    go_wp2_with fail
    refine wp_loop_rounds 1 ?_
    rw [rounds_succ]
    go_wp2_with fail
    go_ret
    exact ⟨ret_bool (by simp), rfl⟩
  · obtain ⟨r, off, rfl, h3⟩ := h2 hz
    obtain ⟨F, hF⟩ : ∃ F, F = decide (a ∈ l) := ⟨_, rfl⟩
    rw [← hF]
    have HF := Lib.hid hF
    clear h2 hF
    go_enter Tryz.func16, Tryz.ntmps16
    go_wp2_with fail
    go_loop [5] (fun i => ∃ k : Nat, k ≤ l.length ∧ i = .int .i64 k ∧ Hid (a ∉ l.take k)) (fun i => l.length - (intOf i).toNat)
    case atStart => exact ⟨0, Nat.zero_le _, rfl, Lib.hid (by simp)⟩
    case round =>
      obtain ⟨k, hk, rfl, hno⟩ := hrel
      by_cases hlt : k < l.length
      · have c1 : w.cell? ⟨r, off + k, none⟩ = some (.string (bs l[k])) := StrS.cell h3 hlt
        have hk0 : (0 : Int) ≤ (k : Int) := by omega
        by_cases hx : l[k] = a
        · have hx2 : ((bs l[k]).toList == (bs a).toList) = true := by rw [bs_toList, bs_toList]; simpa using hx
          have hx3 : (bs l[k]).toList = (bs a).toList := by rw [bs_toList, bs_toList]; exact hx
          have HX := Lib.hid hx
          obtain ⟨s, hs⟩ : ∃ s, s = bs l[k] := ⟨_, rfl⟩
          rw [← hs] at c1 hx2 hx3
          clear hx hs
          go_wp2_with fail
          go_ret
          exact ⟨ret_bool (by rw [HF.out]; symm; rw [decide_eq_true_eq, ← HX.out]; exact List.getElem_mem hlt), rfl⟩
        · have hx2 : ((bs l[k]).toList == (bs a).toList) = false := by rw [bs_toList, bs_toList]; simpa using hx
          have hx3 : ¬ (bs l[k]).toList = (bs a).toList := by rw [bs_toList, bs_toList]; exact hx
          have HX := Lib.hid hx
          obtain ⟨s, hs⟩ : ∃ s, s = bs l[k] := ⟨_, rfl⟩
          rw [← hs] at c1 hx2 hx3
          clear hx hs
          go_wp2_with fail
          exact ⟨⟨k + 1, by omega, by go_num, Lib.hid (by rw [List.take_succ_eq_append_getElem hlt]; simp only [List.mem_append, List.mem_singleton, not_or]; exact ⟨hno.out, fun e => HX.out e.symm⟩)⟩, by simp [intOf]; omega⟩
      · have : k = l.length := by omega
        subst this
        have hn := hno.out
        rw [List.take_length] at hn
        have HN := Lib.hid hn
        clear hn
        go_wp2_with fail
        go_ret
        exact ⟨ret_bool (by rw [HF.out]; simp [HN.out]), rfl⟩
theorem numF_wf {l : List UInt8} {n : Int} (h : numOf l = some n) : (Tr.atom l).wf ∧ l.length ≤ 4 := by
  by_cases h0 : l = [48]
  · subst h0; exact ⟨⟨by decide, by decide⟩, by decide⟩
  · by_cases hc : 1 ≤ (digitsOf l).length ∧ (digitsOf l).length ≤ 3 ∧ (digitsOf l).head? ≠ some 48
    · rw [numOf_yes h0 hc] at h
      have hl := digitsOf_len l
      refine ⟨⟨fun e => by subst e; simp [digitsOf] at hc, ?_⟩, by omega⟩
      have hall : ∀ b ∈ digitsOf l, isAB b = true := fun b hb => by
        obtain ⟨k, hk, rfl⟩ := List.getElem_of_mem hb
        cases hv : Lib.digitVal (digitsOf l)[k] with
        | none =>
          rw [decFrom_bad (digitsOf l) 0 k _ (List.getElem?_eq_getElem hk) hv] at h
          cases h
        | some d =>
          have h2 := (digit_back hv)
          rw [← h2.2]
          have h3 := h2.1
          have : ∀ d : Nat, d < 10 → isAB (UInt8.ofNat (48 + d)) = true := by decide
          exact this d h3
      intro b hb
      cases l with
      | nil => cases hb
      | cons c r =>
        simp only [digitsOf] at hall
        split at hall
        · rename_i hc45
          rcases List.mem_cons.1 hb with rfl | hb
          · rw [hc45]; decide
          · exact hall b hb
        · exact hall b hb
    · rw [numOf_no h0 hc] at h; cases h
theorem nmF_wf {l : List UInt8} (h : isNm l = true) : (Tr.atom l).wf ∧ l.length ≤ 4 := by
  cases l with
  | nil => simp [isNm] at h
  | cons b r =>
    simp only [isNm, Bool.and_eq_true, decide_eq_true_eq] at h
    obtain ⟨⟨h1, h2, h3⟩, h4⟩ := h
    obtain ⟨m, hm⟩ := Option.isSome_iff_exists.1 h4
    refine ⟨⟨by simp, fun c hc => ?_⟩, by simp; omega⟩
    rcases List.mem_cons.1 hc with rfl | hc
    · have : ∀ d : Nat, 97 ≤ d → d ≤ 122 → isAB (UInt8.ofNat d) = true := by
        intro d e1 e2
        have : ∀ k : Fin 26, isAB (UInt8.ofNat (97 + k.val)) = true := by decide
        have h5 := this ⟨d - 97, by omega⟩
        rwa [show 97 + (d - 97) = d by omega] at h5
      have h5 := this c.toNat h2 h3
      rwa [UInt8.ofNat_toNat] at h5
    · obtain ⟨k, hk, rfl⟩ := List.getElem_of_mem hc
      cases hv : Lib.digitVal r[k] with
      | none =>
        rw [decFrom_bad r 0 k _ (List.getElem?_eq_getElem hk) hv] at hm
        cases hm
      | some d =>
        have h5 := digit_back hv
        rw [← h5.2]
        have : ∀ d : Nat, d < 10 → isAB (UInt8.ofNat (48 + d)) = true := by decide
        exact this d h5.1
theorem kid_small {x k : Ex} (hk : k ∈ kidsE x) : (formOf k).size ≤ (formOf x).size ∧ (formOf k).bytes ≤ (formOf x).bytes ∧ (formOf k).depth ≤ (formOf x).depth ∧ ((formOf x).wf → (formOf k).wf) ∧ (good x → good k) := by
  cases x with
  | name s => cases hk
  | num n => cases hk
  | two o a b =>
    simp only [kidsE, List.mem_cons, List.not_mem_nil, or_false] at hk
    simp only [formOf, Tr.size, sizes, Tr.bytes, bytess, Tr.depth, depths, Tr.wf, wfs]
    rcases hk with rfl | rfl
    · exact ⟨by omega, by omega, by omega, fun h => h.2.2.1, fun h => ((good_two _ _ _).1 h).1⟩
    · exact ⟨by omega, by omega, by omega, fun h => h.2.2.2.1, fun h => ((good_two _ _ _).1 h).2⟩
  | one o a =>
    simp only [kidsE, List.mem_cons, List.not_mem_nil, or_false] at hk
    subst hk
    simp only [formOf, Tr.size, sizes, Tr.bytes, bytess, Tr.depth, depths, Tr.wf, wfs]
    exact ⟨by omega, by omega, by omega, fun h => h.2.2.1, fun h => (good_one _ _).1 h⟩
  | cond a b d =>
    simp only [kidsE, List.mem_cons, List.not_mem_nil, or_false] at hk
    simp only [formOf, Tr.size, sizes, Tr.bytes, bytess, Tr.depth, depths, Tr.wf, wfs]
    rcases hk with rfl | rfl | rfl
    · exact ⟨by omega, by omega, by omega, fun h => h.2.2.1, fun h => ((good_cond _ _ _).1 h).1⟩
    · exact ⟨by omega, by omega, by omega, fun h => h.2.2.2.1, fun h => ((good_cond _ _ _).1 h).2.1⟩
    · exact ⟨by omega, by omega, by omega, fun h => h.2.2.2.2.1, fun h => ((good_cond _ _ _).1 h).2.2⟩
  | lete s a b =>
    simp only [kidsE, List.mem_cons, List.not_mem_nil, or_false] at hk
    simp only [formOf, Tr.size, sizes, Tr.bytes, bytess, Tr.depth, depths, Tr.wf, wfs]
    rcases hk with rfl | rfl
    · exact ⟨by omega, by omega, by omega, fun h => h.2.2.2.1, fun h => ((good_lete _ _ _).1 h).2.1⟩
    · exact ⟨by omega, by omega, by omega, fun h => h.2.2.2.2.1, fun h => ((good_lete _ _ _).1 h).2.2⟩
  | func f s A B e =>
    simp only [kidsE, List.mem_cons, List.not_mem_nil, or_false] at hk
    subst hk
    simp only [formOf, Tr.size, sizes, Tr.bytes, bytess, Tr.depth, depths, Tr.wf, wfs]
    exact ⟨by omega, by omega, by omega, fun h => h.2.2.2.2.2.2.1, fun h => ((good_func _ _ _ _ _).1 h).2⟩
theorem read_all {l : List UInt8} {x : Ex} (h : readEx l = some x) : parse l = some (formOf x) ∧ l = (formOf x).text ∧ (formOf x).size ≤ 120 ∧ (formOf x).bytes ≤ 12000 ∧ (formOf x).depth ≤ 60 ∧ (formOf x).wf ∧ good x := by
  unfold readEx at h
  cases hp : parse l with
  | none => simp [hp] at h
  | some t =>
    simp only [hp] at h
    split at h
    · rename_i hs
      have g := parse_got hp
      have e := formOf_eq _ _ h
      rw [e]
      exact ⟨rfl, g.2.2.2, hs, g.2.1, g.2.2.1, g.1, good_of h⟩
    · cases h
theorem read_made {x : Ex} (h1 : (formOf x).size ≤ 120) (h2 : (formOf x).bytes ≤ 12000) (h3 : (formOf x).depth ≤ 60) (h4 : (formOf x).wf) (h5 : good x) : readEx (formOf x).text = some x := by
  rw [readEx_some (parse_text h4 h2 h3), if_pos h1]
  exact h5
theorem kid_read {l : List UInt8} {x k : Ex} (h : readEx l = some x) (hk : k ∈ kidsE x) : readEx (formOf k).text = some k ∧ (formOf k).text.length ≤ 12000 := by
  obtain ⟨-, -, h1, h2, h3, h4, h5⟩ := read_all h
  obtain ⟨k1, k2, k3, k4, k5⟩ := kid_small hk
  exact ⟨read_made (by omega) (by omega) (by omega) (k4 h4) (k5 h5), by rw [text_length _ (k4 h4)]; omega⟩
theorem head_ne (x : Ex) : headOf x ≠ [] := by cases x with
  | two o a b => cases o <;> simp [headOf, op2N]
  | one o a => cases o <;> simp [headOf, op1N]
  | _ => simp [headOf, sName, sNumber, kIf, kLet, kFun]
theorem parseE_readS {l : List UInt8} : (parseE l).isSome = (readEx l).isSome := by
  cases h : parseE l with
  | none => rw [readEx_none2 h]; rfl
  | some t => obtain ⟨x, h1, -⟩ := readEx_asEx' h; rw [h1]; rfl
theorem good_zero : good (.num 0) := by
  unfold good
  rw [zero_text]
  simp [asEx, atomEx, numOf_zero]
theorem bound_read {l n : List UInt8} {x y : Ex} (hx : readEx l = some x) (hn : isNm n = true) (h : readEx (formOf (.lete n (.num 0) x)).text = some y) : (freeP y).count n = 0 := by
  obtain ⟨-, -, -, -, -, hw, hg⟩ := read_all hx
  obtain ⟨hp, -, -, -, -, -, hgy⟩ := read_all h
  have hW : (formOf (.lete n (.num 0) x)).wf := by
    simp only [formOf, Tr.wf, wfs]
    refine ⟨by simp, ⟨by decide, by decide⟩, (nmF_wf hn).1, ?_, hw, trivial⟩
    have := (numF_wf (l := [48]) (n := 0) numOf_zero).1
    rw [show Lib.itoa 0 = [48] from by simp [Lib.itoa, dd1]]
    exact this
  by_cases hl : (formOf (.lete n (.num 0) x)).bytes ≤ 12000 ∧ (formOf (.lete n (.num 0) x)).depth ≤ 60
  · rw [parse_text hW hl.1 hl.2] at hp
    simp only [Option.some.injEq] at hp
    have h1 : asEx (formOf y) = some y := hgy
    rw [← hp] at h1
    have h2 : asEx (formOf (.lete n (.num 0) x)) = some (.lete n (.num 0) x) := (good_lete _ _ _).2 ⟨hn, good_zero, hg⟩
    rw [h2] at h1
    simp only [Option.some.injEq] at h1
    rw [← h1]
    simp [freeP, rm, List.count_eq_zero]
  · rw [parse_text_none hW hl] at hp
    cases hp
theorem bound_text (l n : List UInt8) (x : Ex) (hl : l = (formOf x).text) : ((ByteArray.mk #[40, 108, 101, 116, 32]) ++ bs n ++ (ByteArray.mk #[32, 48, 32]) ++ bs l ++ (ByteArray.mk #[41])).data.toList = (formOf (.lete n (.num 0) x)).text := by
  have e : Lib.itoa 0 = [48] := by simp [Lib.itoa, dd1]
  simp [formOf, Tr.text, texts, kLet, bs, hl, e]
theorem mem_foldA (n : Nm) : ∀ (P l : List Nm), n ∈ P.foldl addA l ↔ n ∈ l ∨ n ∈ P
  | [], l => by simp
  | a :: P, l => by
    simp only [List.foldl_cons, mem_foldA n P, List.mem_cons]
    unfold addA
    split
    · rename_i h
      constructor
      · rintro (h1 | h1)
        · exact .inl h1
        · exact .inr (.inr h1)
      · rintro (h1 | rfl | h1)
        · exact .inl h1
        · exact .inl h
        · exact .inr h1
    · simp only [List.mem_append, List.mem_singleton]
      constructor
      · rintro ((h1 | h1) | h1)
        · exact .inl h1
        · exact .inr (.inl h1)
        · exact .inr (.inr h1)
      · rintro (h1 | h1 | h1)
        · exact .inl (.inl h1)
        · exact .inl (.inr h1)
        · exact .inr h1
set_option maxHeartbeats 4000000 in
theorem walk_FnCount (a : Option Addr) (L c : Nat) (zs : List Int) (w : World) (hr : BRow w a L c zs) :
    Calls Tryz.prog 5 #[.slice a L c] w fun e w' => e = .returned (.bool true) ∧ Below w.heap.size w w' := by
  by_cases h0 : L ≤ 1048576
  · have hd0 : decide (1048576 < (L : Int)) = false := by simp; omega
    have C := Lib.hid (drawExprCount_c a L c zs w hr)
    clear hr
    go_enter Tryz.func5, Tryz.ntmps5
    go_wp2_with fail
    refine (C.out).mono ?_
    rintro e w1 ⟨⟨s, t, rfl, hs, ht⟩, hb1⟩
    have HB := Lib.hid hb1
    clear hb1 C
    obtain ⟨l, rfl⟩ := as_bsD s
    obtain ⟨n, rfl⟩ := as_bsD t
    have hll : l.length ≤ 1000010 := by rw [bs_size] at hs; exact hs
    have hnl : n.length ≤ 2 := by rw [bs_size] at ht; exact ht
    have hbl : (bs l).data.toList = l := by simp [bs]
    have hbn : (bs n).data.toList = n := by simp [bs]
    have CI := Lib.hid (fun W => implExprCount_c (bs l) (bs n) (by omega) (by omega) W)
    have CS := Lib.hid (fun W => specExprCount_c (bs l) (bs n) (by omega) (by omega) W)
    unfold Hid at CI CS
    rw [hbl, hbn] at CI CS
    have hneg : cntE l n = -1 ∨ ∃ x, readEx l = some x ∧ isNm n = true := by
      cases hc : readEx l with
      | none => exact .inl (cntE_none hc)
      | some x =>
        cases hm : isNm n with
        | false => exact .inl (cntE_no hm)
        | true => exact .inr ⟨x, rfl, rfl⟩
    rcases hneg with hneg | ⟨x, hc, hm⟩
    · rw [hneg] at CI CS
      have CI := Lib.hid CI
      have CS := Lib.hid CS
      clear hbl hbn hneg
      generalize bs l = S at *
      generalize bs n = N at *
      go_wp2_with (first | (go_at_call 17; go_must (refine (CI.out _).mono ?_; rintro e wn ⟨rfl, hbn⟩; have HB := Lib.hid ((nextB (firstB HB.out) hbn).1); clear hbn)) | (go_at_call 22; go_must (refine (CS.out _).mono ?_; rintro e wn ⟨rfl, hbn⟩; have HB := Lib.hid ((nextB (firstB HB.out) hbn).1); clear hbn)))
      go_ret
      exact ⟨ret_bool (by simp), HB.out⟩
    · rw [cntE_some hc hm] at CI CS
      have CI := Lib.hid CI
      have CS := Lib.hid CS
      obtain ⟨hp, hlt, hsz, -, -, hw, hg⟩ := read_all hc
      have hcnt : (freeP x).count n ≤ (formOf x).size := by
        have h1 := lvs_le ((formOf x).depth + 1) (formOf x) x (by omega) hw hg
        have h2 := freeP_lvs x
        have h3 := List.count_le_length (a := n) (l := freeP x)
        omega
      obtain ⟨z, hz⟩ : ∃ z, z = decide (n ∈ (freeP x).foldl addA []) := ⟨_, rfl⟩
      have hz2 : z = decide (0 < (freeP x).count n) := by
        rw [hz]
        simp only [mem_foldA, List.not_mem_nil, false_or, List.count_pos_iff]
      have CF : Hid (∀ W, Calls Tryz.prog 11 #[.string (bs l)] W fun e w' => (∃ v, e = .returned (.tuple #[v, .bool true]) ∧ StrS w' v ((freeP x).foldl addA [])) ∧ Below W.heap.size W w') := Lib.hid (fun W => (implExprFree_c (bs l) (by omega) W).mono fun e w' ⟨⟨v, h1, h2⟩, h3⟩ => ⟨by
        rw [hbl, freeE_some hc] at h1 h2
        exact ⟨v, h1, owns_strS6D h2 (by have h := freeE_len (l := l); rw [freeE_some hc] at h; simp only [Option.getD_some] at h ⊢; omega)⟩, h3⟩)
      have CZ : Hid (∀ W, Calls Tryz.prog 23 #[.string (bs l)] W fun e w' => e = .returned (.int .i64 ((formOf x).size : Nat)) ∧ Below W.heap.size W w') := Lib.hid (fun W => (implFormSizeF_c (bs l) (by omega) W).mono fun e w' ⟨h1, h2⟩ => ⟨by rw [h1, hbl]; simp [sizeOfText, hp], h2⟩)
      have CH : Hid (∀ W v, StrS W v ((freeP x).foldl addA []) → Calls Tryz.prog 16 #[v, .string (bs n)] W fun e w' => e = .returned (.bool z) ∧ w' = W) := Lib.hid (fun W v hv => by rw [hz]; exact hasTF_c v _ n W hv)
      obtain ⟨BT, hBT⟩ : ∃ BT, BT = (ByteArray.mk #[40, 108, 101, 116, 32]) ++ bs n ++ (ByteArray.mk #[32, 48, 32]) ++ bs l ++ (ByteArray.mk #[41]) := ⟨_, rfl⟩
      have hBl : BT.data.toList = (formOf (.lete n (.num 0) x)).text := by rw [hBT]; exact bound_text l n x hlt
      have hBs : BT.size ≤ 1048576 := by rw [hBT]; simp [bsz]; omega
      obtain ⟨y, hy⟩ : ∃ y, y = (readEx BT.data.toList).isSome := ⟨_, rfl⟩
      have CV : Hid (∀ W, Calls Tryz.prog 24 #[.string BT] W fun e w' => e = .returned (.bool y) ∧ Below W.heap.size W w') := Lib.hid (fun W => by rw [hy]; exact implExprValid_c BT hBs W)
      have CB : Hid (y = true → ∀ W, Calls Tryz.prog 17 #[.string BT, .string (bs n)] W fun e w' => e = .returned (.int .i64 0) ∧ Below W.heap.size W w') := Lib.hid (fun h W => (implExprCount_c BT (bs n) hBs (by omega) W).mono fun e w' ⟨h1, h2⟩ => ⟨by
        rw [hy] at h
        obtain ⟨u, hu⟩ := Option.isSome_iff_exists.1 h
        rw [h1, hbn, cntE_some hu hm]
        rw [hBl] at hu
        rw [bound_read hc hm hu]; rfl, h2⟩)
      have hBT2 := Lib.hid hBT
      have hzI : decide ((0 : Int) < (((freeP x).count n : Nat) : Int)) = z := by rw [hz2]; simp
      have hcI : ((((freeP x).count n : Nat) : Int)) ≤ (((formOf x).size : Nat) : Int) := by omega
      have hM0 : (0 : Int) ≤ (((freeP x).count n : Nat) : Int) := by omega
      generalize (freeP x).count n = M at *
      generalize (formOf x).size = SZ at *
      generalize (freeP x).foldl addA [] = fl at *
      rw [hBT] at CV CB
      clear hc hm hp hlt hsz hw hg hcnt hz hz2 hBT hBl hBs hy hbl hbn hBT2
      have tok1 : True := trivial
      have hlS : (bs l).size ≤ 1000010 := by omega
      have hnS : (bs n).size ≤ 2 := by omega
      generalize bs l = S at *
      generalize bs n = N at *
      cases y with
      | false =>
        clear CB
        cases z with
        | false =>
          have hM1 : M = 0 := by simp at hzI; omega
          subst hM1
          go_wp2_with (first | (go_at_call 17; clear tok1; go_must (refine (CI.out _).mono ?_; rintro e wn ⟨rfl, hbn⟩; have HB := Lib.hid ((nextB (firstB HB.out) hbn).1); clear hbn)) | (go_at_call 22; go_must (refine (CS.out _).mono ?_; rintro e wn ⟨rfl, hbn⟩; have HB := Lib.hid ((nextB (firstB HB.out) hbn).1); clear hbn)) | (go_at_call 11; go_must (refine (CF.out _).mono ?_; rintro e wn ⟨⟨v, rfl, hv⟩, hbn⟩; obtain ⟨pf, nf, cf, rfl⟩ := StrS.shape hv; have HB := Lib.hid ((nextB (firstB HB.out) hbn).1); clear hbn)) | (go_at_call 23; go_must (refine (CZ.out _).mono ?_; rintro e wn ⟨rfl, hbn⟩; have hv := strS_keep2D hv hbn; have HB := Lib.hid ((nextB (firstB HB.out) hbn).1); clear hbn)) | (go_at_call 16; go_must (refine (CH.out _ _ hv).mono ?_; rintro e wn ⟨rfl, rfl⟩)) | (go_at_call 24; go_must (refine (CV.out _).mono ?_; rintro e wn ⟨rfl, hbn⟩; have HB := Lib.hid ((nextB (firstB HB.out) hbn).1); clear hbn)) | (go_at_call 17; go_must (refine (CB2.out _).mono ?_; rintro e wn ⟨rfl, hbn⟩; have HB := Lib.hid ((nextB (firstB HB.out) hbn).1); clear hbn)))
          go_ret
          exact ⟨ret_bool (by simp), HB.out⟩
        | true =>
          have hM1 : (0 : Int) < (M : Int) := by simpa using hzI
          go_wp2_with (first | (go_at_call 17; clear tok1; go_must (refine (CI.out _).mono ?_; rintro e wn ⟨rfl, hbn⟩; have HB := Lib.hid ((nextB (firstB HB.out) hbn).1); clear hbn)) | (go_at_call 22; go_must (refine (CS.out _).mono ?_; rintro e wn ⟨rfl, hbn⟩; have HB := Lib.hid ((nextB (firstB HB.out) hbn).1); clear hbn)) | (go_at_call 11; go_must (refine (CF.out _).mono ?_; rintro e wn ⟨⟨v, rfl, hv⟩, hbn⟩; obtain ⟨pf, nf, cf, rfl⟩ := StrS.shape hv; have HB := Lib.hid ((nextB (firstB HB.out) hbn).1); clear hbn)) | (go_at_call 23; go_must (refine (CZ.out _).mono ?_; rintro e wn ⟨rfl, hbn⟩; have hv := strS_keep2D hv hbn; have HB := Lib.hid ((nextB (firstB HB.out) hbn).1); clear hbn)) | (go_at_call 16; go_must (refine (CH.out _ _ hv).mono ?_; rintro e wn ⟨rfl, rfl⟩)) | (go_at_call 24; go_must (refine (CV.out _).mono ?_; rintro e wn ⟨rfl, hbn⟩; have HB := Lib.hid ((nextB (firstB HB.out) hbn).1); clear hbn)) | (go_at_call 17; go_must (refine (CB2.out _).mono ?_; rintro e wn ⟨rfl, hbn⟩; have HB := Lib.hid ((nextB (firstB HB.out) hbn).1); clear hbn)))
          go_ret
          exact ⟨ret_bool (by simp), HB.out⟩
      | true =>
        have CB2 := Lib.hid (CB.out rfl)
        clear CB
        cases z with
        | false =>
          have hM1 : M = 0 := by simp at hzI; omega
          subst hM1
          go_wp2_with (first | (go_at_call 17; clear tok1; go_must (refine (CI.out _).mono ?_; rintro e wn ⟨rfl, hbn⟩; have HB := Lib.hid ((nextB (firstB HB.out) hbn).1); clear hbn)) | (go_at_call 22; go_must (refine (CS.out _).mono ?_; rintro e wn ⟨rfl, hbn⟩; have HB := Lib.hid ((nextB (firstB HB.out) hbn).1); clear hbn)) | (go_at_call 11; go_must (refine (CF.out _).mono ?_; rintro e wn ⟨⟨v, rfl, hv⟩, hbn⟩; obtain ⟨pf, nf, cf, rfl⟩ := StrS.shape hv; have HB := Lib.hid ((nextB (firstB HB.out) hbn).1); clear hbn)) | (go_at_call 23; go_must (refine (CZ.out _).mono ?_; rintro e wn ⟨rfl, hbn⟩; have hv := strS_keep2D hv hbn; have HB := Lib.hid ((nextB (firstB HB.out) hbn).1); clear hbn)) | (go_at_call 16; go_must (refine (CH.out _ _ hv).mono ?_; rintro e wn ⟨rfl, rfl⟩)) | (go_at_call 24; go_must (refine (CV.out _).mono ?_; rintro e wn ⟨rfl, hbn⟩; have HB := Lib.hid ((nextB (firstB HB.out) hbn).1); clear hbn)) | (go_at_call 17; go_must (refine (CB2.out _).mono ?_; rintro e wn ⟨rfl, hbn⟩; have HB := Lib.hid ((nextB (firstB HB.out) hbn).1); clear hbn)))
          go_ret
          exact ⟨ret_bool (by simp), HB.out⟩
        | true =>
          have hM1 : (0 : Int) < (M : Int) := by simpa using hzI
          go_wp2_with (first | (go_at_call 17; clear tok1; go_must (refine (CI.out _).mono ?_; rintro e wn ⟨rfl, hbn⟩; have HB := Lib.hid ((nextB (firstB HB.out) hbn).1); clear hbn)) | (go_at_call 22; go_must (refine (CS.out _).mono ?_; rintro e wn ⟨rfl, hbn⟩; have HB := Lib.hid ((nextB (firstB HB.out) hbn).1); clear hbn)) | (go_at_call 11; go_must (refine (CF.out _).mono ?_; rintro e wn ⟨⟨v, rfl, hv⟩, hbn⟩; obtain ⟨pf, nf, cf, rfl⟩ := StrS.shape hv; have HB := Lib.hid ((nextB (firstB HB.out) hbn).1); clear hbn)) | (go_at_call 23; go_must (refine (CZ.out _).mono ?_; rintro e wn ⟨rfl, hbn⟩; have hv := strS_keep2D hv hbn; have HB := Lib.hid ((nextB (firstB HB.out) hbn).1); clear hbn)) | (go_at_call 16; go_must (refine (CH.out _ _ hv).mono ?_; rintro e wn ⟨rfl, rfl⟩)) | (go_at_call 24; go_must (refine (CV.out _).mono ?_; rintro e wn ⟨rfl, hbn⟩; have HB := Lib.hid ((nextB (firstB HB.out) hbn).1); clear hbn)) | (go_at_call 17; go_must (refine (CB2.out _).mono ?_; rintro e wn ⟨rfl, hbn⟩; have HB := Lib.hid ((nextB (firstB HB.out) hbn).1); clear hbn)))
          go_ret
          exact ⟨ret_bool (by simp), HB.out⟩
  · have hd0 : decide (1048576 < (L : Int)) = true := by simp; omega
    have hm0 : L ≤ 9223372036854775807 := hr.bound
    go_enter Tryz.func5, Tryz.ntmps5
    go_wp2_with fail
    go_ret
    exact ⟨rfl, Below.refl _ _⟩
end Go.Proofs.YtndbdiccjmlegaaGreatDoor
