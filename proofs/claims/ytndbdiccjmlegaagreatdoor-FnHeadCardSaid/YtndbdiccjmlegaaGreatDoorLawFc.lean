/- The law FnHead: its walk. Heads tell how many parts there are. -/
import Derived.Test.YtndbdiccjmlegaaGreatDoorDrawC
import Derived.Test.YtndbdiccjmlegaaGreatDoorImpl2v
import Derived.Test.YtndbdiccjmlegaaGreatDoorS2d
import Derived.Test.YtndbdiccjmlegaaGreatDoorNumI
import Derived.OwnWalk
namespace Go.Proofs.YtndbdiccjmlegaaGreatDoor
open Go.RowKit
set_option maxRecDepth 8000
set_option linter.unusedSimpArgs false
set_option linter.unusedVariables false
set_option maxHeartbeats 1000000 in
theorem sameTF_c (va vb : Value) (la lb : List (List UInt8)) (w : World) (ha : StrS w va la) (hb : StrS w vb lb) :
    Calls Tryz.prog 13 #[va, vb] w fun e w' => e = .returned (.bool (decide (la = lb))) ∧ ∃ n, w' = w.drewN n := by
  obtain ⟨pa, ca, rfl, ha1, ha2⟩ := ha
  obtain ⟨pb, cb, rfl, hb1, hb2⟩ := hb
  by_cases hlen : la.length = lb.length
  · by_cases hz : la = []
    · subst hz
      have hlb : lb = [] := List.eq_nil_of_length_eq_zero (by simpa using hlen.symm)
      subst hlb
      clear ha2 hb2 hlen
      go_enter Tryz.func13, Tryz.ntmps13
      go_wp2_with fail
      refine wp_loop_rounds 1 ?_
      rw [rounds_succ]
      go_wp2_with fail
      go_ret
      exact ⟨ret_bool (by simp), 0, rfl⟩
    · have hzb : lb ≠ [] := by intro e; subst e; exact hz (List.eq_nil_of_length_eq_zero (by simpa using hlen))
      obtain ⟨ra, oa, rfl, ha3⟩ := ha2 hz
      obtain ⟨rb, ob, rfl, hb3⟩ := hb2 hzb
      have he : ((la.length : Int) == (lb.length : Int)) = true := by simp; omega
      have HL := Lib.hid hlen
      have hle : la.length ≤ lb.length ∧ lb.length ≤ la.length := by omega
      clear hlen ha2 hb2
      go_enter Tryz.func13, Tryz.ntmps13
      go_wp2_with fail
      go_loopw [5] (fun v wr => ∃ k : Nat, k ≤ la.length ∧ v = .int .i64 k ∧ Hid (la.take k = lb.take k) ∧ ∃ n, Hid (wr = w.drewN n)) (fun v _ => la.length - (intOf v).toNat)
      case atStart => exact ⟨0, Nat.zero_le _, rfl, Lib.hid rfl, 0, Lib.hid rfl⟩
      case round =>
        obtain ⟨k, hk, rfl, ht, n, hw⟩ := hrel
        by_cases hlt : k < la.length
        · have hltb : k < lb.length := by omega
          have c1 : wr.cell? ⟨ra, oa + k, none⟩ = some (.string (bs la[k])) := by rw [hw.out]; exact StrS.cell ha3 hlt
          have c2 : wr.cell? ⟨rb, ob + k, none⟩ = some (.string (bs lb[k])) := by rw [hw.out]; exact StrS.cell hb3 hltb
          have b1 : (0 : Int) ≤ k := by omega
          cases hx : (la[k] == lb[k]) with
          | true =>
            have hx2 : ((bs la[k]).toList == (bs lb[k]).toList) = true := by rw [bs_toList, bs_toList]; exact hx
            have HX := Lib.hid hx
            clear hx
            go_wp2_with fail
            go_quiet (fail)
            go_wp2_with fail
            go_roundw
            case rel => exact ⟨k + 1, by omega, by go_num, Lib.hid (by rw [List.take_succ_eq_append_getElem hlt, List.take_succ_eq_append_getElem hltb, ht.out, show la[k] = lb[k] from by simpa using HX.out]), n + nq, Lib.hid (by rw [hw.out, drewN_drewN])⟩
            case measure => simp [intOf]; omega
          | false =>
            have hx2 : ((bs la[k]).toList == (bs lb[k]).toList) = false := by rw [bs_toList, bs_toList]; exact hx
            have HX := Lib.hid hx
            clear hx
            go_wp2_with fail
            go_quiet (fail)
            go_wp2_with fail
            go_ret
            exact ⟨ret_bool (by simp only [Bool.false_eq, decide_eq_false_iff_not]; intro e; subst e; have := HX.out; simp at this), n + nq, by rw [hw.out, drewN_drewN]⟩
        · have : k = la.length := by omega
          subst this
          go_wp2_with fail
          go_ret
          exact ⟨ret_bool (by simp only [Bool.true_eq, decide_eq_true_eq]; have := ht.out; rw [List.take_length, HL.out, List.take_length] at this; exact this), n, hw.out⟩
  · have he : ((la.length : Int) == (lb.length : Int)) = false := by simp; omega
    have HN := Lib.hid (show la ≠ lb from fun e => hlen (by rw [e]))
    clear hlen ha2 hb2
    go_enter Tryz.func13, Tryz.ntmps13
    go_wp2_with fail
    go_ret
    exact ⟨ret_bool (by simp [HN.out]), 0, rfl⟩

set_option maxHeartbeats 1000000 in
theorem hasTF_c (v : Value) (l : List (List UInt8)) (a : List UInt8) (w : World) (h : StrS w v l) :
    Calls Tryz.prog 16 #[v, .string (bs a)] w fun e w' => e = .returned (.bool (decide (a ∈ l))) ∧ w' = w := by
  obtain ⟨p, c, rfl, h1, h2⟩ := h
  by_cases hz : l = []
  · subst hz
    clear h2
    go_enter Tryz.func16, Tryz.ntmps16
    go_wp2_with fail
    refine wp_loop_rounds 1 ?_
    rw [rounds_succ]
    go_wp2_with fail
    go_ret
    exact ⟨ret_bool (by simp), rfl⟩
  · obtain ⟨r, off, rfl, h3⟩ := h2 hz
    obtain ⟨F, hF⟩ : ∃ F, F = decide (a ∈ l) := ⟨_, rfl⟩
    rw [← hF]
    have HF := Lib.hid hF
    clear h2 hF
    go_enter Tryz.func16, Tryz.ntmps16
    go_wp2_with fail
    go_loop [5] (fun i => ∃ k : Nat, k ≤ l.length ∧ i = .int .i64 k ∧ Hid (a ∉ l.take k)) (fun i => l.length - (intOf i).toNat)
    case atStart => exact ⟨0, Nat.zero_le _, rfl, Lib.hid (by simp)⟩
    case round =>
      obtain ⟨k, hk, rfl, hno⟩ := hrel
      by_cases hlt : k < l.length
      · have c1 : w.cell? ⟨r, off + k, none⟩ = some (.string (bs l[k])) := StrS.cell h3 hlt
        have hk0 : (0 : Int) ≤ (k : Int) := by omega
        by_cases hx : l[k] = a
        · have hx2 : ((bs l[k]).toList == (bs a).toList) = true := by rw [bs_toList, bs_toList]; simpa using hx
          have hx3 : (bs l[k]).toList = (bs a).toList := by rw [bs_toList, bs_toList]; exact hx
          have HX := Lib.hid hx
          obtain ⟨s, hs⟩ : ∃ s, s = bs l[k] := ⟨_, rfl⟩
          rw [← hs] at c1 hx2 hx3
          clear hx hs
          go_wp2_with fail
          go_ret
          exact ⟨ret_bool (by rw [HF.out]; symm; rw [decide_eq_true_eq, ← HX.out]; exact List.getElem_mem hlt), rfl⟩
        · have hx2 : ((bs l[k]).toList == (bs a).toList) = false := by rw [bs_toList, bs_toList]; simpa using hx
          have hx3 : ¬ (bs l[k]).toList = (bs a).toList := by rw [bs_toList, bs_toList]; exact hx
          have HX := Lib.hid hx
          obtain ⟨s, hs⟩ : ∃ s, s = bs l[k] := ⟨_, rfl⟩
          rw [← hs] at c1 hx2 hx3
          clear hx hs
          go_wp2_with fail
          exact ⟨⟨k + 1, by omega, by go_num, Lib.hid (by rw [List.take_succ_eq_append_getElem hlt]; simp only [List.mem_append, List.mem_singleton, not_or]; exact ⟨hno.out, fun e => HX.out e.symm⟩)⟩, by simp [intOf]; omega⟩
      · have : k = l.length := by omega
        subst this
        have hn := hno.out
        rw [List.take_length] at hn
        have HN := Lib.hid hn
        clear hn
        go_wp2_with fail
        go_ret
        exact ⟨ret_bool (by rw [HF.out]; simp [HN.out]), rfl⟩
theorem kid_small {x k : Ex} (hk : k ∈ kidsE x) : (formOf k).size ≤ (formOf x).size ∧ (formOf k).bytes ≤ (formOf x).bytes ∧ (formOf k).depth ≤ (formOf x).depth ∧ ((formOf x).wf → (formOf k).wf) ∧ (good x → good k) := by
  cases x with
  | name s => cases hk
  | num n => cases hk
  | two o a b =>
    simp only [kidsE, List.mem_cons, List.not_mem_nil, or_false] at hk
    simp only [formOf, Tr.size, sizes, Tr.bytes, bytess, Tr.depth, depths, Tr.wf, wfs]
    rcases hk with rfl | rfl
    · exact ⟨by omega, by omega, by omega, fun h => h.2.2.1, fun h => ((good_two _ _ _).1 h).1⟩
    · exact ⟨by omega, by omega, by omega, fun h => h.2.2.2.1, fun h => ((good_two _ _ _).1 h).2⟩
  | one o a =>
    simp only [kidsE, List.mem_cons, List.not_mem_nil, or_false] at hk
    subst hk
    simp only [formOf, Tr.size, sizes, Tr.bytes, bytess, Tr.depth, depths, Tr.wf, wfs]
    exact ⟨by omega, by omega, by omega, fun h => h.2.2.1, fun h => (good_one _ _).1 h⟩
  | cond a b d =>
    simp only [kidsE, List.mem_cons, List.not_mem_nil, or_false] at hk
    simp only [formOf, Tr.size, sizes, Tr.bytes, bytess, Tr.depth, depths, Tr.wf, wfs]
    rcases hk with rfl | rfl | rfl
    · exact ⟨by omega, by omega, by omega, fun h => h.2.2.1, fun h => ((good_cond _ _ _).1 h).1⟩
    · exact ⟨by omega, by omega, by omega, fun h => h.2.2.2.1, fun h => ((good_cond _ _ _).1 h).2.1⟩
    · exact ⟨by omega, by omega, by omega, fun h => h.2.2.2.2.1, fun h => ((good_cond _ _ _).1 h).2.2⟩
  | lete s a b =>
    simp only [kidsE, List.mem_cons, List.not_mem_nil, or_false] at hk
    simp only [formOf, Tr.size, sizes, Tr.bytes, bytess, Tr.depth, depths, Tr.wf, wfs]
    rcases hk with rfl | rfl
    · exact ⟨by omega, by omega, by omega, fun h => h.2.2.2.1, fun h => ((good_lete _ _ _).1 h).2.1⟩
    · exact ⟨by omega, by omega, by omega, fun h => h.2.2.2.2.1, fun h => ((good_lete _ _ _).1 h).2.2⟩
  | func f s A B e =>
    simp only [kidsE, List.mem_cons, List.not_mem_nil, or_false] at hk
    subst hk
    simp only [formOf, Tr.size, sizes, Tr.bytes, bytess, Tr.depth, depths, Tr.wf, wfs]
    exact ⟨by omega, by omega, by omega, fun h => h.2.2.2.2.2.2.1, fun h => ((good_func _ _ _ _ _).1 h).2⟩
theorem read_all {l : List UInt8} {x : Ex} (h : readEx l = some x) : parse l = some (formOf x) ∧ l = (formOf x).text ∧ (formOf x).size ≤ 120 ∧ (formOf x).bytes ≤ 12000 ∧ (formOf x).depth ≤ 60 ∧ (formOf x).wf ∧ good x := by
  unfold readEx at h
  cases hp : parse l with
  | none => simp [hp] at h
  | some t =>
    simp only [hp] at h
    split at h
    · rename_i hs
      have g := parse_got hp
      have e := formOf_eq _ _ h
      rw [e]
      exact ⟨rfl, g.2.2.2, hs, g.2.1, g.2.2.1, g.1, good_of h⟩
    · cases h
theorem read_made {x : Ex} (h1 : (formOf x).size ≤ 120) (h2 : (formOf x).bytes ≤ 12000) (h3 : (formOf x).depth ≤ 60) (h4 : (formOf x).wf) (h5 : good x) : readEx (formOf x).text = some x := by
  rw [readEx_some (parse_text h4 h2 h3), if_pos h1]
  exact h5
theorem kid_read {l : List UInt8} {x k : Ex} (h : readEx l = some x) (hk : k ∈ kidsE x) : readEx (formOf k).text = some k ∧ (formOf k).text.length ≤ 12000 := by
  obtain ⟨-, -, h1, h2, h3, h4, h5⟩ := read_all h
  obtain ⟨k1, k2, k3, k4, k5⟩ := kid_small hk
  exact ⟨read_made (by omega) (by omega) (by omega) (k4 h4) (k5 h5), by rw [text_length _ (k4 h4)]; omega⟩
theorem head_ne (x : Ex) : headOf x ≠ [] := by cases x with
  | two o a b => cases o <;> simp [headOf, op2N]
  | one o a => cases o <;> simp [headOf, op1N]
  | _ => simp [headOf, sName, sNumber, kIf, kLet, kFun]
theorem parseE_readS {l : List UInt8} : (parseE l).isSome = (readEx l).isSome := by
  cases h : parseE l with
  | none => rw [readEx_none2 h]; rfl
  | some t => obtain ⟨x, h1, -⟩ := readEx_asEx' h; rw [h1]; rfl
theorem num_readH {l : List UInt8} {n : Int} (h : numOf l = some n) {x : Ex} (hx : readEx l = some x) : x = .num n := by
  obtain ⟨hp, hl, -, -, -, hw, hg⟩ := read_all hx
  cases x with
  | name s =>
    have g := good_nm hg
    simp only [formOf, Tr.text] at hl
    rw [← hl, numOf_notNm h] at g
    cases g
  | num m =>
    have g := (good_num hg).2
    simp only [formOf, Tr.text] at hl
    rw [← hl, h] at g
    simp only [Option.some.injEq] at g
    rw [g]
  | _ =>
    exfalso
    have h1 : l.head? = some 40 := by rw [hl]; simp [formOf, Tr.text]
    cases l with
    | nil => simp at h1
    | cons b r =>
      simp only [List.head?_cons, Option.some.injEq] at h1
      subst h1
      unfold numOf at h
      split at h
      · rename_i h2; simp at h2
      · split at h
        · simp [digitsOf, Lib.decFrom, Lib.digitVal] at h
        · cases h
theorem num_noneH {l : List UInt8} {x : Ex} (hx : readEx l = some x) (hn : ∀ n, x ≠ .num n) : numOf l = none := by
  cases h : numOf l with
  | none => rfl
  | some n => exact absurd (num_readH h hx) (hn n)
theorem num_someH {l : List UInt8} {n : Int} (hx : readEx l = some (.num n)) : numOf l = some n := by
  obtain ⟨hp, hl, -, -, -, hw, hg⟩ := read_all hx
  simp only [formOf, Tr.text] at hl
  rw [hl]
  exact (good_num hg).2
theorem headE_read {l : List UInt8} {x : Ex} (hx : readEx l = some x) : headE l = headOf x := by
  have h1 : (parseE l).isSome = true := by rw [parseE_readS, hx]; rfl
  obtain ⟨t, ht⟩ := Option.isSome_iff_exists.1 h1
  obtain ⟨hp, -, -, -, -, -, hg⟩ := read_all hx
  have h2 := (parseE_got ht).1
  rw [hp] at h2
  simp only [Option.some.injEq] at h2
  rw [headE_some ht, ← h2]
  cases x with
  | name s => simp [formOf, headT, headOf, good_nm hg]
  | num n => simp [formOf, headT, headOf, (good_num hg).1]
  | _ => simp [formOf, headT, headOf, atomOf]
theorem head_kind (x : Ex) : (∃ s, x = .name s) ∨ (∃ n, x = .num n) ∨ ((∀ n, x ≠ .num n) ∧ headOf x ≠ sName ∧ headOf x ≠ sNumber ∧ 1 ≤ (kidsE x).length) := by
  cases x with
  | name s => exact .inl ⟨s, rfl⟩
  | num n => exact .inr (.inl ⟨n, rfl⟩)
  | two o a b => exact .inr (.inr ⟨(fun n h => by cases h), by cases o <;> simp [headOf, sName, op2N, op1N], by cases o <;> simp [headOf, sNumber, op2N, op1N], by simp [kidsE]⟩)
  | one o a => exact .inr (.inr ⟨(fun n h => by cases h), by cases o <;> simp [headOf, sName, op2N, op1N], by cases o <;> simp [headOf, sNumber, op2N, op1N], by simp [kidsE]⟩)
  | cond a b d => exact .inr (.inr ⟨(fun n h => by cases h), by simp [headOf, sName, kIf, kLet, kFun], by simp [headOf, sNumber, kIf, kLet, kFun], by simp [kidsE]⟩)
  | lete s a b => exact .inr (.inr ⟨(fun n h => by cases h), by simp [headOf, sName, kIf, kLet, kFun], by simp [headOf, sNumber, kIf, kLet, kFun], by simp [kidsE]⟩)
  | func f s A B e => exact .inr (.inr ⟨(fun n h => by cases h), by simp [headOf, sName, kIf, kLet, kFun], by simp [headOf, sNumber, kIf, kLet, kFun], by simp [kidsE]⟩)
set_option maxHeartbeats 4000000 in
theorem walk_FnHead (a : Option Addr) (L c : Nat) (zs : List Int) (w : World) (hr : BRow w a L c zs) (hT : Tab w) :
    Calls Tryz.prog 6 #[.slice a L c] w fun e w' => e = .returned (.bool true) ∧ Below w.heap.size w w' := by
  by_cases h0 : L ≤ 1048576
  · have hd0 : decide (1048576 < (L : Int)) = false := by simp; omega
    have C := Lib.hid (drawExprHead_c a L c zs w hr)
    have HT := Lib.hid hT
    clear hr hT
    go_enter Tryz.func6, Tryz.ntmps6
    go_wp2_with fail
    refine (C.out).mono ?_
    rintro e w1 ⟨⟨s, rfl, hs⟩, hb1⟩
    have HB := Lib.hid hb1
    clear hb1 C
    obtain ⟨l, rfl⟩ := as_bsD s
    have hll : l.length ≤ 1000010 := by rw [bs_size] at hs; exact hs
    have hbl : (bs l).data.toList = l := by simp [bs]
    have CI := Lib.hid (fun W => implExprHead_c (bs l) (by omega) W)
    have CS := Lib.hid (fun W => specExprHead_c (bs l) (by omega) W)
    unfold Hid at CI CS
    rw [hbl] at CI CS
    cases hc : readEx l with
    | none =>
      rw [headI_none hc] at CI
      rw [headE_none (by have h := parseE_readS (l := l); rw [hc] at h; simpa using h)] at CS
      have CI := Lib.hid CI
      have CS := Lib.hid CS
      have hemp := emptyne
      have hemp2 : (bs []).toList.isEmpty = true := by simp [bs_toList]
      clear hc hbl
      generalize bs l = S at *
      generalize bs [] = E at *
      go_wp2_with (first | (go_at_call 26; go_must (refine (CI.out _).mono ?_; rintro e wn ⟨rfl, hbn⟩; have HB := Lib.hid ((nextB (firstB HB.out) hbn).1); clear hbn)) | (go_at_call 27; go_must (refine (CS.out _).mono ?_; rintro e wn ⟨rfl, hbn⟩; have HB := Lib.hid ((nextB (firstB HB.out) hbn).1); clear hbn)))
      go_ret
      exact ⟨ret_bool (by simp), HB.out⟩
    | some x =>
      rw [headI_some hc] at CI
      rw [headE_read hc] at CS
      have CI := Lib.hid CI
      have CS := Lib.hid CS
      have hne := atomne (head_ne x)
      have hne2 : (bs (headOf x)).toList.isEmpty = false := by simp [bs_toList, head_ne x]
      obtain ⟨K, hK⟩ : ∃ K, K = (kidsE x).length := ⟨_, rfl⟩
      have hK3 : K ≤ 3 := by rw [hK]; cases x <;> simp [kidsE]
      have CK : Hid (∀ W, Below w.heap.size w W → Calls Tryz.prog 28 #[.string (bs l)] W fun e w' => (∃ p c, e = .returned (.tuple #[.slice p K c, .bool true])) ∧ Below W.heap.size W w') := Lib.hid (fun W hW => (implExprKids_c (bs l) (by omega) W (HT.out.below hW)).mono fun e w' ⟨⟨v, h1, h2⟩, h3⟩ => ⟨by
        rw [hbl, kidsTx_some hc] at h1 h2
        obtain ⟨p, c, rfl⟩ := owns_slice h2
        exact ⟨p, c, by rw [h1, hK]; simp⟩, h3⟩)
      have CN : Hid (∀ W, Calls Tryz.prog 29 #[.string (bs l)] W fun e w' => (∃ z, e = .returned (.tuple #[.int .i64 z, .bool (numOf l).isSome])) ∧ Below W.heap.size W w') := Lib.hid (fun W => (implExprNumber_c l (by omega) W).mono fun e w' ⟨h1, h2⟩ => ⟨⟨_, h1⟩, h2⟩)
      have CF : Hid (∀ W, Calls Tryz.prog 11 #[.string (bs l)] W fun e w' => (∃ v, e = .returned (.tuple #[v, .bool true]) ∧ StrS w' v ((freeP x).foldl addA [])) ∧ Below W.heap.size W w') := Lib.hid (fun W => (implExprFree_c (bs l) (by omega) W).mono fun e w' ⟨⟨v, h1, h2⟩, h3⟩ => ⟨by
        rw [hbl, freeE_some hc] at h1 h2
        exact ⟨v, h1, owns_strS6D h2 (by have h := freeE_len (l := l); rw [freeE_some hc] at h; simp only [Option.getD_some] at h ⊢; omega)⟩, h3⟩)
      have tok1 : True := trivial
      rcases head_kind x with ⟨s, rfl⟩ | ⟨n, rfl⟩ | ⟨hn, hh1, hh2, hk⟩
      · have hl : l = s := by have h := (read_all hc).2.1; simpa [formOf, Tr.text] using h
        subst hl
        have hq := num_noneH hc (fun n h => by cases h)
        rw [hq] at CN
        simp only [Option.isSome_none] at CN
        simp only [kidsE, List.length_nil] at hK
        subst hK
        have hx1 : ((bs sName).toList == [110, 97, 109, 101]) = true := by rw [bs_toList]; rfl
        have hy1 : (bs sName).toList = [110, 97, 109, 101] := by rw [bs_toList]; rfl
        have hx2 : ((bs sName).toList == [110, 117, 109, 98, 101, 114]) = false := by rw [bs_toList]; rfl
        have hy2 : ¬ (bs sName).toList = [110, 117, 109, 98, 101, 114] := by rw [bs_toList]; decide
        simp only [headOf] at CI CS hne hne2
        simp only [freeP, List.foldl, addA, List.not_mem_nil, if_false, List.nil_append] at CF
        have CT : Hid (∀ (W : World) v, StrS W v [l] → Calls Tryz.prog 13 #[v, .slice (some ⟨W.heap.size, 0, none⟩) 1 1] (W.alloc (.cells #[.string (bs l)] 9)) fun e w' => e = .returned (.bool true) ∧ ∃ n, w' = (W.alloc (.cells #[.string (bs l)] 9)).drewN n) := Lib.hid (fun W v hv => (sameTF_c v _ [l] [l] _ (strS_keep2D hv (below1 W _)) (str_one (s := l))).mono fun e w' ⟨h1, h2⟩ => ⟨by rw [h1]; simp, h2⟩)
        clear hc hbl hq
        generalize bs sName = HD at *
        generalize bs l = S at *
        go_wp2_with (first | (go_at_call 26; go_must (refine (CI.out _).mono ?_; rintro e wn ⟨rfl, hbn⟩; have HB := Lib.hid ((nextB (firstB HB.out) hbn).1); clear hbn)) | (go_at_call 27; go_must (refine (CS.out _).mono ?_; rintro e wn ⟨rfl, hbn⟩; have HB := Lib.hid ((nextB (firstB HB.out) hbn).1); clear hbn)) | (go_at_call 28; go_must (refine (CK.out _ HB.out).mono ?_; rintro e wn ⟨⟨pk, ck, rfl⟩, hbn⟩; have HB := Lib.hid ((nextB (firstB HB.out) hbn).1); clear hbn)) | (go_at_call 29; go_must (refine (CN.out _).mono ?_; rintro e wn ⟨⟨zz, rfl⟩, hbn⟩; have HB := Lib.hid ((nextB (firstB HB.out) hbn).1); clear hbn)) | (go_at_call 11; go_must (refine (CF.out _).mono ?_; rintro e wf ⟨⟨v, rfl, hv⟩, hbn⟩; obtain ⟨pf, nf, cf, rfl⟩ := StrS.shape hv; have HB := Lib.hid ((nextB (firstB HB.out) hbn).1); clear hbn)) | (go_at_call 13; go_must (refine (CT.out _ _ hv).mono ?_; rintro e wn ⟨rfl, m, rfl⟩)))
        go_ret
        exact ⟨ret_bool (by simp), by have h := HB.out.alloc HB.out.size (.cells #[.string S] 9); exact ⟨h.os, h.tape, h.output, h.size, h.block⟩⟩
      · have hq := num_someH hc
        rw [hq] at CN
        simp only [Option.isSome_some] at CN
        simp only [kidsE, List.length_nil] at hK
        subst hK
        have hx1 : ((bs sNumber).toList == [110, 97, 109, 101]) = false := by rw [bs_toList]; rfl
        have hy1 : ¬ (bs sNumber).toList = [110, 97, 109, 101] := by rw [bs_toList]; decide
        have hx2 : ((bs sNumber).toList == [110, 117, 109, 98, 101, 114]) = true := by rw [bs_toList]; rfl
        have hy2 : (bs sNumber).toList = [110, 117, 109, 98, 101, 114] := by rw [bs_toList]; rfl
        simp only [headOf] at CI CS hne hne2
        clear hc hbl hq
        generalize bs sNumber = HD at *
        generalize bs l = S at *
        go_wp2_with (first | (go_at_call 26; go_must (refine (CI.out _).mono ?_; rintro e wn ⟨rfl, hbn⟩; have HB := Lib.hid ((nextB (firstB HB.out) hbn).1); clear hbn)) | (go_at_call 27; go_must (refine (CS.out _).mono ?_; rintro e wn ⟨rfl, hbn⟩; have HB := Lib.hid ((nextB (firstB HB.out) hbn).1); clear hbn)) | (go_at_call 28; go_must (refine (CK.out _ HB.out).mono ?_; rintro e wn ⟨⟨pk, ck, rfl⟩, hbn⟩; have HB := Lib.hid ((nextB (firstB HB.out) hbn).1); clear hbn)) | (go_at_call 29; go_must (refine (CN.out _).mono ?_; rintro e wn ⟨⟨zz, rfl⟩, hbn⟩; have HB := Lib.hid ((nextB (firstB HB.out) hbn).1); clear hbn)) | (go_at_call 11; go_must (refine (CF.out _).mono ?_; rintro e wf ⟨⟨v, rfl, hv⟩, hbn⟩; obtain ⟨pf, nf, cf, rfl⟩ := StrS.shape hv; have HB := Lib.hid ((nextB (firstB HB.out) hbn).1); clear hbn)))
        go_ret
        exact ⟨ret_bool (by simp), HB.out⟩
      · have hq := num_noneH hc hn
        rw [hq] at CN
        simp only [Option.isSome_none] at CN
        have hx1 : ((bs (headOf x)).toList == [110, 97, 109, 101]) = false := by rw [bs_toList]; simpa [sName] using hh1
        have hy1 : ¬ (bs (headOf x)).toList = [110, 97, 109, 101] := by rw [bs_toList]; exact hh1
        have hx2 : ((bs (headOf x)).toList == [110, 117, 109, 98, 101, 114]) = false := by rw [bs_toList]; simpa [sNumber] using hh2
        have hy2 : ¬ (bs (headOf x)).toList = [110, 117, 109, 98, 101, 114] := by rw [bs_toList]; exact hh2
        have hk0 : ((K : Int) == 0) = false := by simp; omega
        have hk1 : ¬ (K : Int) = 0 := by omega
        clear hc hbl hq hK hn hh1 hh2
        generalize bs (headOf x) = HD at *
        generalize bs l = S at *
        go_wp2_with (first | (go_at_call 26; go_must (refine (CI.out _).mono ?_; rintro e wn ⟨rfl, hbn⟩; have HB := Lib.hid ((nextB (firstB HB.out) hbn).1); clear hbn)) | (go_at_call 27; go_must (refine (CS.out _).mono ?_; rintro e wn ⟨rfl, hbn⟩; have HB := Lib.hid ((nextB (firstB HB.out) hbn).1); clear hbn)) | (go_at_call 28; go_must (refine (CK.out _ HB.out).mono ?_; rintro e wn ⟨⟨pk, ck, rfl⟩, hbn⟩; have HB := Lib.hid ((nextB (firstB HB.out) hbn).1); clear hbn)) | (go_at_call 29; go_must (refine (CN.out _).mono ?_; rintro e wn ⟨⟨zz, rfl⟩, hbn⟩; have HB := Lib.hid ((nextB (firstB HB.out) hbn).1); clear hbn)) | (go_at_call 11; go_must (refine (CF.out _).mono ?_; rintro e wf ⟨⟨v, rfl, hv⟩, hbn⟩; obtain ⟨pf, nf, cf, rfl⟩ := StrS.shape hv; have HB := Lib.hid ((nextB (firstB HB.out) hbn).1); clear hbn)))
        go_ret
        exact ⟨ret_bool (by simp), HB.out⟩
  · have hd0 : decide (1048576 < (L : Int)) = true := by simp; omega
    have hm0 : L ≤ 9223372036854775807 := hr.bound
    go_enter Tryz.func6, Tryz.ntmps6
    go_wp2_with fail
    go_ret
    exact ⟨rfl, Below.refl _ _⟩
end Go.Proofs.YtndbdiccjmlegaaGreatDoor
