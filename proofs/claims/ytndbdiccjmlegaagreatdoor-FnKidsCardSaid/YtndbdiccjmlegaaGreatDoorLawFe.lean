/- The law FnKids: its walk. Kids are smaller. -/
import Derived.Test.YtndbdiccjmlegaaGreatDoorDrawC
import Derived.Test.YtndbdiccjmlegaaGreatDoorSpec2i
import Derived.Test.YtndbdiccjmlegaaGreatDoorI2p
import Derived.Test.YtndbdiccjmlegaaGreatDoorI1z
import Derived.OwnWalk
namespace Go.Proofs.YtndbdiccjmlegaaGreatDoor
open Go.RowKit
set_option maxRecDepth 8000
set_option linter.unusedSimpArgs false
set_option linter.unusedVariables false
set_option maxHeartbeats 400000 in
theorem implFormSizeF_c (s : ByteArray) (hs : s.size ≤ 1048576) (w : World) :
    Calls Tryz.prog 23 #[.string s] w fun e w' => e = .returned (.int .i64 (sizeOfText s.data.toList)) ∧ Below w.heap.size w w' := by
  cases hp : parse s.data.toList with
  | none =>
    have C := Lib.hid (readForm_none hs hp)
    have HD := Lib.hid (show sizeOfText s.data.toList = -1 from by simp [sizeOfText, hp])
    clear hp
    go_enter Tryz.func23, Tryz.ntmps23
    go_wp2_with (go_at_call 45; go_must (refine (C.out _).mono ?_; rintro e w1 ⟨rfl, hb1⟩))
    go_ret
    exact ⟨ret_int HD.out.symm, hb1.alloc hb1.size _⟩
  | some t =>
    have C := Lib.hid (readForm_some hs hp)
    have HD := Lib.hid (show sizeOfText s.data.toList = (t.size : Int) from by simp [sizeOfText, hp])
    clear hp
    go_enter Tryz.func23, Tryz.ntmps23
    go_wp2_with (go_at_call 45; go_must (refine (C.out _).mono ?_; rintro e w1 ⟨⟨p, n, c, rfl, hv⟩, hb1⟩))
    go_ret
    exact ⟨ret_int HD.out.symm, hb1.alloc hb1.size _⟩

set_option maxHeartbeats 1000000 in
theorem sameTF_c (va vb : Value) (la lb : List (List UInt8)) (w : World) (ha : StrS w va la) (hb : StrS w vb lb) :
    Calls Tryz.prog 13 #[va, vb] w fun e w' => e = .returned (.bool (decide (la = lb))) ∧ ∃ n, w' = w.drewN n := by
  obtain ⟨pa, ca, rfl, ha1, ha2⟩ := ha
  obtain ⟨pb, cb, rfl, hb1, hb2⟩ := hb
  by_cases hlen : la.length = lb.length
  · by_cases hz : la = []
    · subst hz
      have hlb : lb = [] := List.eq_nil_of_length_eq_zero (by simpa using hlen.symm)
      subst hlb
      clear ha2 hb2 hlen
      go_enter Tryz.func13, Tryz.ntmps13
      go_wp2_with fail
      refine wp_loop_rounds 1 ?_
      rw [rounds_succ]
      go_wp2_with fail
      go_ret
      exact ⟨ret_bool (by simp), 0, rfl⟩
    · have hzb : lb ≠ [] := by intro e; subst e; exact hz (List.eq_nil_of_length_eq_zero (by simpa using hlen))
      obtain ⟨ra, oa, rfl, ha3⟩ := ha2 hz
      obtain ⟨rb, ob, rfl, hb3⟩ := hb2 hzb
      have he : ((la.length : Int) == (lb.length : Int)) = true := by simp; omega
      have HL := Lib.hid hlen
      have hle : la.length ≤ lb.length ∧ lb.length ≤ la.length := by omega
      clear hlen ha2 hb2
      go_enter Tryz.func13, Tryz.ntmps13
      go_wp2_with fail
      go_loopw [5] (fun v wr => ∃ k : Nat, k ≤ la.length ∧ v = .int .i64 k ∧ Hid (la.take k = lb.take k) ∧ ∃ n, Hid (wr = w.drewN n)) (fun v _ => la.length - (intOf v).toNat)
      case atStart => exact ⟨0, Nat.zero_le _, rfl, Lib.hid rfl, 0, Lib.hid rfl⟩
      case round =>
        obtain ⟨k, hk, rfl, ht, n, hw⟩ := hrel
        by_cases hlt : k < la.length
        · have hltb : k < lb.length := by omega
          have c1 : wr.cell? ⟨ra, oa + k, none⟩ = some (.string (bs la[k])) := by rw [hw.out]; exact StrS.cell ha3 hlt
          have c2 : wr.cell? ⟨rb, ob + k, none⟩ = some (.string (bs lb[k])) := by rw [hw.out]; exact StrS.cell hb3 hltb
          have b1 : (0 : Int) ≤ k := by omega
          cases hx : (la[k] == lb[k]) with
          | true =>
            have hx2 : ((bs la[k]).toList == (bs lb[k]).toList) = true := by rw [bs_toList, bs_toList]; exact hx
            have HX := Lib.hid hx
            clear hx
            go_wp2_with fail
            go_quiet (fail)
            go_wp2_with fail
            go_roundw
            case rel => exact ⟨k + 1, by omega, by go_num, Lib.hid (by rw [List.take_succ_eq_append_getElem hlt, List.take_succ_eq_append_getElem hltb, ht.out, show la[k] = lb[k] from by simpa using HX.out]), n + nq, Lib.hid (by rw [hw.out, drewN_drewN])⟩
            case measure => simp [intOf]; omega
          | false =>
            have hx2 : ((bs la[k]).toList == (bs lb[k]).toList) = false := by rw [bs_toList, bs_toList]; exact hx
            have HX := Lib.hid hx
            clear hx
            go_wp2_with fail
            go_quiet (fail)
            go_wp2_with fail
            go_ret
            exact ⟨ret_bool (by simp only [Bool.false_eq, decide_eq_false_iff_not]; intro e; subst e; have := HX.out; simp at this), n + nq, by rw [hw.out, drewN_drewN]⟩
        · have : k = la.length := by omega
          subst this
          go_wp2_with fail
          go_ret
          exact ⟨ret_bool (by simp only [Bool.true_eq, decide_eq_true_eq]; have := ht.out; rw [List.take_length, HL.out, List.take_length] at this; exact this), n, hw.out⟩
  · have he : ((la.length : Int) == (lb.length : Int)) = false := by simp; omega
    have HN := Lib.hid (show la ≠ lb from fun e => hlen (by rw [e]))
    clear hlen ha2 hb2
    go_enter Tryz.func13, Tryz.ntmps13
    go_wp2_with fail
    go_ret
    exact ⟨ret_bool (by simp [HN.out]), 0, rfl⟩

set_option maxHeartbeats 1000000 in
theorem hasTF_c (v : Value) (l : List (List UInt8)) (a : List UInt8) (w : World) (h : StrS w v l) :
    Calls Tryz.prog 16 #[v, .string (bs a)] w fun e w' => e = .returned (.bool (decide (a ∈ l))) ∧ w' = w := by
  obtain ⟨p, c, rfl, h1, h2⟩ := h
  by_cases hz : l = []
  · subst hz
    clear h2
    go_enter Tryz.func16, Tryz.ntmps16
    go_wp2_with fail
    refine wp_loop_rounds 1 ?_
    rw [rounds_succ]
    go_wp2_with fail
    go_ret
    exact ⟨ret_bool (by simp), rfl⟩
  · obtain ⟨r, off, rfl, h3⟩ := h2 hz
    obtain ⟨F, hF⟩ : ∃ F, F = decide (a ∈ l) := ⟨_, rfl⟩
    rw [← hF]
    have HF := Lib.hid hF
    clear h2 hF
    go_enter Tryz.func16, Tryz.ntmps16
    go_wp2_with fail
    go_loop [5] (fun i => ∃ k : Nat, k ≤ l.length ∧ i = .int .i64 k ∧ Hid (a ∉ l.take k)) (fun i => l.length - (intOf i).toNat)
    case atStart => exact ⟨0, Nat.zero_le _, rfl, Lib.hid (by simp)⟩
    case round =>
      obtain ⟨k, hk, rfl, hno⟩ := hrel
      by_cases hlt : k < l.length
      · have c1 : w.cell? ⟨r, off + k, none⟩ = some (.string (bs l[k])) := StrS.cell h3 hlt
        have hk0 : (0 : Int) ≤ (k : Int) := by omega
        by_cases hx : l[k] = a
        · have hx2 : ((bs l[k]).toList == (bs a).toList) = true := by rw [bs_toList, bs_toList]; simpa using hx
          have hx3 : (bs l[k]).toList = (bs a).toList := by rw [bs_toList, bs_toList]; exact hx
          have HX := Lib.hid hx
          obtain ⟨s, hs⟩ : ∃ s, s = bs l[k] := ⟨_, rfl⟩
          rw [← hs] at c1 hx2 hx3
          clear hx hs
          go_wp2_with fail
          go_ret
          exact ⟨ret_bool (by rw [HF.out]; symm; rw [decide_eq_true_eq, ← HX.out]; exact List.getElem_mem hlt), rfl⟩
        · have hx2 : ((bs l[k]).toList == (bs a).toList) = false := by rw [bs_toList, bs_toList]; simpa using hx
          have hx3 : ¬ (bs l[k]).toList = (bs a).toList := by rw [bs_toList, bs_toList]; exact hx
          have HX := Lib.hid hx
          obtain ⟨s, hs⟩ : ∃ s, s = bs l[k] := ⟨_, rfl⟩
          rw [← hs] at c1 hx2 hx3
          clear hx hs
          go_wp2_with fail
          exact ⟨⟨k + 1, by omega, by go_num, Lib.hid (by rw [List.take_succ_eq_append_getElem hlt]; simp only [List.mem_append, List.mem_singleton, not_or]; exact ⟨hno.out, fun e => HX.out e.symm⟩)⟩, by simp [intOf]; omega⟩
      · have : k = l.length := by omega
        subst this
        have hn := hno.out
        rw [List.take_length] at hn
        have HN := Lib.hid hn
        clear hn
        go_wp2_with fail
        go_ret
        exact ⟨ret_bool (by rw [HF.out]; simp [HN.out]), rfl⟩
theorem numF_wf {l : List UInt8} {n : Int} (h : numOf l = some n) : (Tr.atom l).wf ∧ l.length ≤ 4 := by
  by_cases h0 : l = [48]
  · subst h0; exact ⟨⟨by decide, by decide⟩, by decide⟩
  · by_cases hc : 1 ≤ (digitsOf l).length ∧ (digitsOf l).length ≤ 3 ∧ (digitsOf l).head? ≠ some 48
    · rw [numOf_yes h0 hc] at h
      have hl := digitsOf_len l
      refine ⟨⟨fun e => by subst e; simp [digitsOf] at hc, ?_⟩, by omega⟩
      have hall : ∀ b ∈ digitsOf l, isAB b = true := fun b hb => by
        obtain ⟨k, hk, rfl⟩ := List.getElem_of_mem hb
        cases hv : Lib.digitVal (digitsOf l)[k] with
        | none =>
          rw [decFrom_bad (digitsOf l) 0 k _ (List.getElem?_eq_getElem hk) hv] at h
          cases h
        | some d =>
          have h2 := (digit_back hv)
          rw [← h2.2]
          have h3 := h2.1
          have : ∀ d : Nat, d < 10 → isAB (UInt8.ofNat (48 + d)) = true := by decide
          exact this d h3
      intro b hb
      cases l with
      | nil => cases hb
      | cons c r =>
        simp only [digitsOf] at hall
        split at hall
        · rename_i hc45
          rcases List.mem_cons.1 hb with rfl | hb
          · rw [hc45]; decide
          · exact hall b hb
        · exact hall b hb
    · rw [numOf_no h0 hc] at h; cases h
theorem nmF_wf {l : List UInt8} (h : isNm l = true) : (Tr.atom l).wf ∧ l.length ≤ 4 := by
  cases l with
  | nil => simp [isNm] at h
  | cons b r =>
    simp only [isNm, Bool.and_eq_true, decide_eq_true_eq] at h
    obtain ⟨⟨h1, h2, h3⟩, h4⟩ := h
    obtain ⟨m, hm⟩ := Option.isSome_iff_exists.1 h4
    refine ⟨⟨by simp, fun c hc => ?_⟩, by simp; omega⟩
    rcases List.mem_cons.1 hc with rfl | hc
    · have : ∀ d : Nat, 97 ≤ d → d ≤ 122 → isAB (UInt8.ofNat d) = true := by
        intro d e1 e2
        have : ∀ k : Fin 26, isAB (UInt8.ofNat (97 + k.val)) = true := by decide
        have h5 := this ⟨d - 97, by omega⟩
        rwa [show 97 + (d - 97) = d by omega] at h5
      have h5 := this c.toNat h2 h3
      rwa [UInt8.ofNat_toNat] at h5
    · obtain ⟨k, hk, rfl⟩ := List.getElem_of_mem hc
      cases hv : Lib.digitVal r[k] with
      | none =>
        rw [decFrom_bad r 0 k _ (List.getElem?_eq_getElem hk) hv] at hm
        cases hm
      | some d =>
        have h5 := digit_back hv
        rw [← h5.2]
        have : ∀ d : Nat, d < 10 → isAB (UInt8.ofNat (48 + d)) = true := by decide
        exact this d h5.1
theorem kid_small {x k : Ex} (hk : k ∈ kidsE x) : (formOf k).size ≤ (formOf x).size ∧ (formOf k).bytes ≤ (formOf x).bytes ∧ (formOf k).depth ≤ (formOf x).depth ∧ ((formOf x).wf → (formOf k).wf) ∧ (good x → good k) := by
  cases x with
  | name s => cases hk
  | num n => cases hk
  | two o a b =>
    simp only [kidsE, List.mem_cons, List.not_mem_nil, or_false] at hk
    simp only [formOf, Tr.size, sizes, Tr.bytes, bytess, Tr.depth, depths, Tr.wf, wfs]
    rcases hk with rfl | rfl
    · exact ⟨by omega, by omega, by omega, fun h => h.2.2.1, fun h => ((good_two _ _ _).1 h).1⟩
    · exact ⟨by omega, by omega, by omega, fun h => h.2.2.2.1, fun h => ((good_two _ _ _).1 h).2⟩
  | one o a =>
    simp only [kidsE, List.mem_cons, List.not_mem_nil, or_false] at hk
    subst hk
    simp only [formOf, Tr.size, sizes, Tr.bytes, bytess, Tr.depth, depths, Tr.wf, wfs]
    exact ⟨by omega, by omega, by omega, fun h => h.2.2.1, fun h => (good_one _ _).1 h⟩
  | cond a b d =>
    simp only [kidsE, List.mem_cons, List.not_mem_nil, or_false] at hk
    simp only [formOf, Tr.size, sizes, Tr.bytes, bytess, Tr.depth, depths, Tr.wf, wfs]
    rcases hk with rfl | rfl | rfl
    · exact ⟨by omega, by omega, by omega, fun h => h.2.2.1, fun h => ((good_cond _ _ _).1 h).1⟩
    · exact ⟨by omega, by omega, by omega, fun h => h.2.2.2.1, fun h => ((good_cond _ _ _).1 h).2.1⟩
    · exact ⟨by omega, by omega, by omega, fun h => h.2.2.2.2.1, fun h => ((good_cond _ _ _).1 h).2.2⟩
  | lete s a b =>
    simp only [kidsE, List.mem_cons, List.not_mem_nil, or_false] at hk
    simp only [formOf, Tr.size, sizes, Tr.bytes, bytess, Tr.depth, depths, Tr.wf, wfs]
    rcases hk with rfl | rfl
    · exact ⟨by omega, by omega, by omega, fun h => h.2.2.2.1, fun h => ((good_lete _ _ _).1 h).2.1⟩
    · exact ⟨by omega, by omega, by omega, fun h => h.2.2.2.2.1, fun h => ((good_lete _ _ _).1 h).2.2⟩
  | func f s A B e =>
    simp only [kidsE, List.mem_cons, List.not_mem_nil, or_false] at hk
    subst hk
    simp only [formOf, Tr.size, sizes, Tr.bytes, bytess, Tr.depth, depths, Tr.wf, wfs]
    exact ⟨by omega, by omega, by omega, fun h => h.2.2.2.2.2.2.1, fun h => ((good_func _ _ _ _ _).1 h).2⟩
theorem read_all {l : List UInt8} {x : Ex} (h : readEx l = some x) : parse l = some (formOf x) ∧ l = (formOf x).text ∧ (formOf x).size ≤ 120 ∧ (formOf x).bytes ≤ 12000 ∧ (formOf x).depth ≤ 60 ∧ (formOf x).wf ∧ good x := by
  unfold readEx at h
  cases hp : parse l with
  | none => simp [hp] at h
  | some t =>
    simp only [hp] at h
    split at h
    · rename_i hs
      have g := parse_got hp
      have e := formOf_eq _ _ h
      rw [e]
      exact ⟨rfl, g.2.2.2, hs, g.2.1, g.2.2.1, g.1, good_of h⟩
    · cases h
theorem read_made {x : Ex} (h1 : (formOf x).size ≤ 120) (h2 : (formOf x).bytes ≤ 12000) (h3 : (formOf x).depth ≤ 60) (h4 : (formOf x).wf) (h5 : good x) : readEx (formOf x).text = some x := by
  rw [readEx_some (parse_text h4 h2 h3), if_pos h1]
  exact h5
theorem kid_read {l : List UInt8} {x k : Ex} (h : readEx l = some x) (hk : k ∈ kidsE x) : readEx (formOf k).text = some k ∧ (formOf k).text.length ≤ 12000 := by
  obtain ⟨-, -, h1, h2, h3, h4, h5⟩ := read_all h
  obtain ⟨k1, k2, k3, k4, k5⟩ := kid_small hk
  exact ⟨read_made (by omega) (by omega) (by omega) (k4 h4) (k5 h5), by rw [text_length _ (k4 h4)]; omega⟩
theorem head_ne (x : Ex) : headOf x ≠ [] := by cases x with
  | two o a b => cases o <;> simp [headOf, op2N]
  | one o a => cases o <;> simp [headOf, op1N]
  | _ => simp [headOf, sName, sNumber, kIf, kLet, kFun]
theorem parseE_readS {l : List UInt8} : (parseE l).isSome = (readEx l).isSome := by
  cases h : parseE l with
  | none => rw [readEx_none2 h]; rfl
  | some t => obtain ⟨x, h1, -⟩ := readEx_asEx' h; rw [h1]; rfl
theorem mem_foldA (n : Nm) : ∀ (P l : List Nm), n ∈ P.foldl addA l ↔ n ∈ l ∨ n ∈ P
  | [], l => by simp
  | a :: P, l => by
    simp only [List.foldl_cons, mem_foldA n P, List.mem_cons]
    unfold addA
    split
    · rename_i h
      constructor
      · rintro (h1 | h1)
        · exact .inl h1
        · exact .inr (.inr h1)
      · rintro (h1 | rfl | h1)
        · exact .inl h1
        · exact .inl h
        · exact .inr h1
    · simp only [List.mem_append, List.mem_singleton]
      constructor
      · rintro ((h1 | h1) | h1)
        · exact .inl h1
        · exact .inr (.inl h1)
        · exact .inr (.inr h1)
      · rintro (h1 | h1 | h1)
        · exact .inl (.inl h1)
        · exact .inl (.inr h1)
        · exact .inr h1
theorem kid_less {x k : Ex} (hw : (formOf x).wf) (hk : k ∈ kidsE x) : (formOf k).size < (formOf x).size := by
  cases x with
  | name s => cases hk
  | num n => cases hk
  | two o a b =>
    simp only [kidsE, List.mem_cons, List.not_mem_nil, or_false] at hk
    simp only [formOf, Tr.size, sizes]
    rcases hk with rfl | rfl <;> omega
  | one o a =>
    simp only [kidsE, List.mem_cons, List.not_mem_nil, or_false] at hk
    subst hk
    simp only [formOf, Tr.size, sizes]
    omega
  | cond a b d =>
    simp only [kidsE, List.mem_cons, List.not_mem_nil, or_false] at hk
    simp only [formOf, Tr.size, sizes]
    rcases hk with rfl | rfl | rfl <;> omega
  | lete s a b =>
    simp only [kidsE, List.mem_cons, List.not_mem_nil, or_false] at hk
    simp only [formOf, Tr.size, sizes]
    rcases hk with rfl | rfl <;> omega
  | func f s A B e =>
    simp only [kidsE, List.mem_cons, List.not_mem_nil, or_false] at hk
    subst hk
    simp only [formOf, Tr.size, sizes]
    omega
theorem rm_sub {bs l : List Nm} {n : Nm} (h : n ∈ rm bs l) : n ∈ l := by
  simp only [rm, List.mem_filter] at h
  exact h.1
theorem free_kids {x : Ex} (hx : notName x) {n : Nm} (h : n ∈ freeP x) : ∃ k ∈ kidsE x, n ∈ freeP k := by
  cases x with
  | name s => exact hx.elim
  | num n => simp [freeP] at h
  | two o a b =>
    simp only [freeP, List.mem_append] at h
    rcases h with h | h
    · exact ⟨a, by simp [kidsE], h⟩
    · exact ⟨b, by simp [kidsE], h⟩
  | one o a => exact ⟨a, by simp [kidsE], by simpa [freeP] using h⟩
  | cond a b d =>
    simp only [freeP, List.mem_append] at h
    rcases h with (h | h) | h
    · exact ⟨a, by simp [kidsE], h⟩
    · exact ⟨b, by simp [kidsE], h⟩
    · exact ⟨d, by simp [kidsE], h⟩
  | lete s a b =>
    simp only [freeP, List.mem_append] at h
    rcases h with h | h
    · exact ⟨a, by simp [kidsE], h⟩
    · exact ⟨b, by simp [kidsE], rm_sub h⟩
  | func f s A B e => exact ⟨e, by simp [kidsE], rm_sub (by simpa [freeP] using h)⟩
/-- The free names of some expressions, one list behind the other. -/
def allF : List Ex → List Nm
  | [] => []
  | k :: ks => (freeP k).foldl addA [] ++ allF ks
theorem allF_take (ks : List Ex) (j : Nat) (h : j < ks.length) : allF (ks.take (j + 1)) = allF (ks.take j) ++ (freeP ks[j]).foldl addA [] := by
  induction ks generalizing j with
  | nil => simp at h
  | cons k ks ih =>
    cases j with
    | zero => simp [allF]
    | succ j =>
      have := ih j (by simpa using h)
      simp only [List.take_succ_cons, allF, List.getElem_cons_succ, this, List.append_assoc]
theorem allF_mem {ks : List Ex} {k : Ex} {n : Nm} (hk : k ∈ ks) (h : n ∈ freeP k) : n ∈ allF ks := by
  induction ks with
  | nil => cases hk
  | cons a ks ih =>
    simp only [allF, List.mem_append]
    rcases List.mem_cons.1 hk with rfl | hk
    · exact .inl ((mem_foldA n _ []).2 (.inr h))
    · exact .inr (ih hk)
theorem strS_drewN {w : World} {v : Value} {l : List Nm} (h : StrS w v l) (n : Nat) : StrS (w.drewN n) v l := h
set_option maxHeartbeats 8000000 in
theorem walk_FnKids (a : Option Addr) (L c : Nat) (zs : List Int) (w : World) (hr : BRow w a L c zs) (hT : Tab w) :
    Calls Tryz.prog 7 #[.slice a L c] w fun e w' => e = .returned (.bool true) ∧ Below w.heap.size w w' := by
  by_cases h0 : L ≤ 1048576
  · have hd0 : decide (1048576 < (L : Int)) = false := by simp; omega
    have C := Lib.hid (drawExprKids_c a L c zs w hr)
    have HT := Lib.hid hT
    clear hr hT
    go_enter Tryz.func7, Tryz.ntmps7
    go_wp2_with fail
    refine (C.out).mono ?_
    rintro e w1 ⟨⟨s, rfl, hs⟩, hb1⟩
    have HB := Lib.hid hb1
    clear hb1 C
    obtain ⟨kl, hkl⟩ : ∃ kl, kl = (kidsTx s.data.toList).getD [] := ⟨_, rfl⟩
    obtain ⟨z, hz⟩ : ∃ z, z = (kidsTx s.data.toList).isSome := ⟨_, rfl⟩
    have hkn : kl.length ≤ 120 := by
      rw [hkl]
      cases h : readEx s.data.toList with
      | none => simp [kidsTx, h]
      | some x => rw [kidsTx_some h]; cases x <;> simp [kidsE]
    have C1 : Hid (∀ W, Below w.heap.size w W → Calls Tryz.prog 28 #[.string s] W fun e w' => (∃ v, e = .returned (.tuple #[v, .bool z]) ∧ StrS w' v kl) ∧ Below W.heap.size W w') := Lib.hid (fun W hW => (implExprKids_c s (by omega) W (HT.out.below hW)).mono fun e w' ⟨⟨v, h1, h2⟩, h3⟩ => ⟨by rw [← hz] at h1; rw [← hkl] at h2; exact ⟨v, h1, owns_strS6D h2 (by omega)⟩, h3⟩)
    have C2 : Hid (∀ W, Calls Tryz.prog 31 #[.string s] W fun e w' => (∃ v, e = .returned (.tuple #[v, .bool z]) ∧ StrS w' v kl) ∧ Below W.heap.size W w') := Lib.hid (fun W => (specExprKids_c s (by omega) W).mono fun e w' ⟨⟨v, h1, h2⟩, h3⟩ => ⟨by rw [← hz] at h1; rw [← hkl] at h2; exact ⟨v, h1, owns_strS6D h2 (by omega)⟩, h3⟩)
    have CT : Hid (∀ W va vb, StrS W va kl → StrS W vb kl → Calls Tryz.prog 13 #[va, vb] W fun e w' => e = .returned (.bool true) ∧ ∃ n, w' = W.drewN n) := Lib.hid (fun W va vb h1 h2 => (sameTF_c va vb kl kl W h1 h2).mono fun e w' ⟨h3, h4⟩ => ⟨by rw [h3]; simp, h4⟩)
    cases hc : readEx s.data.toList with
    | none =>
      have hz0 : z = false := by rw [hz, kidsTx_none hc]; rfl
      subst hz0
      clear hc hkl hz
      go_wp2_with (first | (go_at_call 28; go_must (refine (C1.out _ HB.out).mono ?_; rintro e w2 ⟨⟨v2, rfl, hv2⟩, hb2⟩; obtain ⟨p2, m2, c2, rfl⟩ := hv2.shape; have HB2 := Lib.hid ((nextB (firstB HB.out) hb2).1))) | (go_at_call 31; go_must (refine (C2.out _).mono ?_; rintro e w3 ⟨⟨v3, rfl, hv3⟩, hb3⟩; obtain ⟨p3, m3, c3, rfl⟩ := hv3.shape; have HB3 := Lib.hid ((nextB (firstB HB2.out) hb3).1); have hv23 := strS_keep2D hv2 hb3; have tk : True := trivial)) | (go_at_call 13; clear tk; go_must (refine (CT.out _ _ _ hv23 hv3).mono ?_; rintro e w4 ⟨rfl, m4, rfl⟩)) | (go_at_call 13; go_must (refine (CT.out _ _ _ (strS_drewN hv23 m4) (strS_drewN hv3 m4)).mono ?_; rintro e w5 ⟨rfl, m5, rfl⟩)))
      go_ret
      exact ⟨ret_bool (by simp), by have h := HB3.out; exact ⟨h.os, h.tape, h.output, h.size, h.block⟩⟩
    | some x =>
      have hz0 : z = true := by rw [hz, kidsTx_some hc]; rfl
      subst hz0
      obtain ⟨hp, -, hsz, -, -, hw, hg⟩ := read_all hc
      obtain ⟨i0, hi0, hz0, hz1, hz2⟩ := info_parts Tryz.infoStrD
      have hklx : kl = (kidsE x).map (fun k => (formOf k).text) := by rw [hkl, kidsTx_some hc]; rfl
      have hkll : kl.length = (kidsE x).length := by rw [hklx]; simp
      have hk3 : (kidsE x).length ≤ 3 := by cases x <;> simp [kidsE]
      obtain ⟨SZ, hSZ⟩ : ∃ SZ, SZ = (formOf x).size := ⟨_, rfl⟩
      have hfr : ∀ {l : List UInt8} {y : Ex}, readEx l = some y → ((freeP y).foldl addA []).length ≤ 120 := fun {l y} h => by have h1 := freeE_len (l := l); rw [freeE_some h] at h1; simpa using h1
      have HKD : Hid (∀ j (hj : j < kl.length), ∃ (FX : List Nm) (sz : Nat), FX.length ≤ 120 ∧ sz < SZ ∧ allF ((kidsE x).take (j + 1)) = allF ((kidsE x).take j) ++ FX ∧ (∀ W, Calls Tryz.prog 11 #[.string (bs kl[j])] W fun e w' => (∃ v, e = .returned (.tuple #[v, .bool true]) ∧ StrS w' v FX) ∧ Below W.heap.size W w') ∧ (∀ W, Calls Tryz.prog 23 #[.string (bs kl[j])] W fun e w' => e = .returned (.int .i64 (sz : Nat)) ∧ Below W.heap.size W w')) := Lib.hid (fun j hj => by
        have hj2 : j < (kidsE x).length := by omega
        have hmem : (kidsE x)[j] ∈ kidsE x := List.getElem_mem hj2
        have hkj : kl[j] = (formOf ((kidsE x)[j])).text := by simp [hklx]
        obtain ⟨hr1, hr2⟩ := kid_read hc hmem
        have hb1 : (bs kl[j]).data.toList = kl[j] := by simp [bs]
        have hbs : (bs kl[j]).size ≤ 1048576 := by rw [bs_size, hkj]; omega
        rw [← hkj] at hr1
        refine ⟨(freeP ((kidsE x)[j])).foldl addA [], (formOf ((kidsE x)[j])).size, hfr hr1, by rw [hSZ]; exact kid_less hw hmem, allF_take _ j hj2, fun W => (implExprFree_c (bs kl[j]) hbs W).mono fun e w' ⟨⟨v, h1, h2⟩, h3⟩ => ⟨by
          rw [hb1, freeE_some hr1] at h1 h2
          exact ⟨v, h1, owns_strS6D h2 (by have := hfr hr1; omega)⟩, h3⟩, fun W => (implFormSizeF_c (bs kl[j]) hbs W).mono fun e w' ⟨h1, h2⟩ => ⟨by rw [h1, hb1]; simp [sizeOfText, (read_all hr1).1], h2⟩⟩)
      obtain ⟨FL, hFL⟩ : ∃ FL, FL = (freeP x).foldl addA [] := ⟨_, rfl⟩
      have hFLl : FL.length ≤ 120 := by rw [hFL]; exact hfr hc
      have CF : Hid (∀ W, Calls Tryz.prog 11 #[.string s] W fun e w' => (∃ v, e = .returned (.tuple #[v, .bool true]) ∧ StrS w' v FL) ∧ Below W.heap.size W w') := Lib.hid (fun W => (implExprFree_c s (by omega) W).mono fun e w' ⟨⟨v, h1, h2⟩, h3⟩ => ⟨by
        rw [freeE_some hc, ← hFL] at h1 h2
        exact ⟨v, h1, owns_strS6D h2 (by omega)⟩, h3⟩)
      have CZ : Hid (∀ W, Calls Tryz.prog 23 #[.string s] W fun e w' => e = .returned (.int .i64 (SZ : Nat)) ∧ Below W.heap.size W w') := Lib.hid (fun W => (implFormSizeF_c s (by omega) W).mono fun e w' ⟨h1, h2⟩ => ⟨by rw [h1, hSZ]; simp [sizeOfText, hp], h2⟩)
      have CHd : Hid (∀ W, Calls Tryz.prog 26 #[.string s] W fun e w' => e = .returned (.string (bs (headOf x))) ∧ Below W.heap.size W w') := Lib.hid (fun W => (implExprHead_c s (by omega) W).mono fun e w' ⟨h1, h2⟩ => ⟨by rw [h1, headI_some hc], h2⟩)
      have HN : Hid (∀ n ∈ FL, n ∈ allF (kidsE x) ∨ headOf x = sName) := Lib.hid (fun n hn => by
        rw [hFL, mem_foldA] at hn
        rcases hn with hn | hn
        · cases hn
        · by_cases hx : notName x
          · obtain ⟨k, hk, hnk⟩ := free_kids hx hn
            exact .inl (allF_mem hk hnk)
          · cases x with
            | name s => exact .inr rfl
            | _ => exact absurd trivial hx)
      have HAL : Hid (∀ j, (allF ((kidsE x).take j)).length ≤ 360) := Lib.hid (fun j => by
        have hone : ∀ k ∈ kidsE x, ((freeP k).foldl addA []).length ≤ 120 := fun k hk => hfr (kid_read hc hk).1
        have hall : ∀ ks : List Ex, (∀ k ∈ ks, ((freeP k).foldl addA []).length ≤ 120) → (allF ks).length ≤ 120 * ks.length := by
          intro ks
          induction ks with
          | nil => intro _; simp [allF]
          | cons k ks ih =>
            intro h
            have h1 := h k (by simp)
            have h2 := ih (fun q hq => h q (by simp [hq]))
            simp only [allF, List.length_append, List.length_cons]
            omega
        have h1 := hall ((kidsE x).take j) (fun k hk => hone k (List.mem_of_mem_take hk))
        have h2 : ((kidsE x).take j).length ≤ 3 := by simp only [List.length_take]; omega
        omega)
      have hSZ2 : SZ ≤ 120 := by omega
      generalize hks : kidsE x = ks at *
      generalize headOf x = HD at *
      have HKL := Lib.hid hkll
      clear hc hkl hz hp hsz hw hg hSZ hFL hfr hklx hkll
      go_wp2_with (first | (go_at_call 28; go_must (refine (C1.out _ HB.out).mono ?_; rintro e w2 ⟨⟨v2, rfl, hv2⟩, hb2⟩; obtain ⟨p2, m2, c2, rfl⟩ := hv2.shape; have HB2 := Lib.hid ((nextB (firstB HB.out) hb2).1))) | (go_at_call 31; go_must (refine (C2.out _).mono ?_; rintro e w3 ⟨⟨v3, rfl, hv3⟩, hb3⟩; obtain ⟨p3, m3, c3, rfl⟩ := hv3.shape; have HB3 := Lib.hid ((nextB (firstB HB2.out) hb3).1); have hv23 := strS_keep2D hv2 hb3)) | (go_at_call 13; go_must (refine (CT.out _ _ _ hv23 hv3).mono ?_; rintro e w4 ⟨rfl, m4, rfl⟩)) | (go_at_call 11; go_must (refine (CF.out _).mono ?_; rintro e w6 ⟨⟨v6, rfl, hv6⟩, hb6⟩; obtain ⟨p6, m6, c6, rfl⟩ := hv6.shape; have HV6 := Lib.hid hv6; have HKs := Lib.hid (strS_keep2D (strS_drewN hv23 m4) hb6); have HB6 : Hid (Below w.heap.size w w6) := Lib.hid (by have h := HB3.out; exact (nextB (firstB (show Below w.heap.size w (w3.drewN m4) from ⟨h.os, h.tape, h.output, h.size, h.block⟩)) hb6).1); have HE := Lib.hid (owns_emptyD (base := w6.heap.size) (heap_alloc_new w6 (.cells #[] 9)) (Nat.le_refl _)))))
      have hm2 : m2 = kl.length := by obtain ⟨_, _, e, -, -⟩ := HKs.out; injection e
      have hm6 : m6 = FL.length := by obtain ⟨_, _, e, -, -⟩ := HV6.out; injection e
      subst hm2 hm6
      clear hv2 hv3 hv23 hv6 hb2 hb3 hb6
      go_loopw [10, 11] (fun v i wr => ∃ j : Nat, j ≤ kl.length ∧ i = .int .i64 j ∧ Hid (wr.ownsRow w6.heap.size 9 1 v (allF (ks.take j)).length ((allF (ks.take j)).map strV)) ∧ Hid (Below w6.heap.size w6 wr)) (fun _ i _ => kl.length - (intOf i).toNat)
      case atStart => exact ⟨0, Nat.zero_le _, rfl, Lib.hid (by simpa [allF] using HE.out), Lib.hid (below1 w6 _)⟩
      case round =>
        obtain ⟨j, hj, rfl, hO, hB⟩ := hrel
        clear HE
        obtain ⟨pv, cv, rfl⟩ := owns_slice hO.out
        have hAl := HAL.out j
        by_cases hlt : j < kl.length
        · obtain ⟨FX, sz, hFX, hszl, hal, cF, cS⟩ := HKD.out j hlt
          have CFk := Lib.hid cF
          have CSk := Lib.hid cS
          have HAL2 := Lib.hid hal
          clear cF cS hal
          have hst := strS_keep2D HKs.out hB.out
          obtain ⟨rr, off, c9, he, hrr, hcell⟩ := StrS.rows hst (fun e => by rw [e] at hlt; simp at hlt)
          simp only [Value.slice.injEq] at he
          obtain ⟨rfl, -, rfl⟩ := he
          have x0 : wr.cell? ⟨rr, off + j, none⟩ = some (.string (bs kl[j])) := by rw [hcell j hlt, List.getD_eq_getElem?_getD, List.getElem?_eq_getElem hlt]; rfl
          have hjI : (j : Int) < (kl.length : Int) := by omega
          have hszI : ¬ (SZ : Int) ≤ (sz : Int) := by omega
          have tk1 : True := trivial
          have hwr := hB.out.size
          generalize bs kl[j] = KT at *
          generalize allF (ks.take j) = AL at *
          clear hcell hst
          go_wp2_with (first | (go_at_call 11; go_must (refine (CFk.out _).mono ?_; rintro e w7 ⟨⟨v7, rfl, hv7⟩, hb7⟩; obtain ⟨p7, m7, c7, rfl⟩ := hv7.shape; have x1 := (hb7.cell (p := ⟨rr, off + j, none⟩) hrr).trans x0)) | (go_at_call 23; clear tk1; go_must (refine (CSk.out _).mono ?_; rintro e w8 ⟨rfl, hb8⟩)) | (go_at_call 23; go_must (refine (CZ.out _).mono ?_; rintro e w9 ⟨rfl, hb9⟩; have hb79 := hb7.trans ((hb8.trans (hb9.mono hb8.size)).mono hb7.size); have hv9 := strS_keep2D (strS_keep2D hv7 hb8) hb9)) | (at_builtin; go_must (refine wpList_append_str _ rfl _ _ 24 rfl w6.heap.size 9 i0 Tryz.underlying24 hi0 hz0 hz1 hz2 _ AL rfl (owns_below hO.out hb79) _ FX rfl hv9 (by omega) (by have := hb79.size; omega) ?_; intro v10 w10 ho10 hg10 hv10)))
          go_roundw
          case rel => exact ⟨j + 1, by omega, by go_num, Lib.hid (by rw [HAL2.out]; exact ho10), Lib.hid (below_grown2D hB.out hb79 hg10 (fun k hk => (own_ltD hO.out hk).1))⟩
          case measure => simp [intOf]; omega
        · have : j = kl.length := by omega
          subst this
          have hfin : ks.take kl.length = ks := List.take_of_length_le (by have := HKL.out; omega)
          have hO2 := hO.out
          rw [hfin] at hO2 hAl
          have HA := Lib.hid (owns_strS6D hO2 (by omega))
          have HFr := Lib.hid (strS_keep2D HV6.out hB.out)
          have HBr := Lib.hid (HB6.out.trans (hB.out.mono HB6.out.size))
          clear hO hO2 hB HKD HAL
          rw [hfin]
          clear hfin
          generalize allF ks = AF at *
          have tk : True := trivial
          go_wp2_with fail
          obtain ⟨wo, rfl⟩ : ∃ wo : World, wo = wr := ⟨_, rfl⟩
          go_loopw [14] (fun i wr => ∃ j : Nat, j ≤ FL.length ∧ i = .int .i64 j ∧ Hid (Below wo.heap.size wo wr)) (fun i _ => FL.length - (intOf i).toNat)
          case atStart => exact ⟨0, Nat.zero_le _, rfl, Lib.hid (Below.refl _ _)⟩
          case round =>
            obtain ⟨j, hj2, rfl, hB⟩ := hrel
            by_cases hlt2 : j < FL.length
            · have hst := strS_keep2D HFr.out hB.out
              have hsa := strS_keep2D HA.out hB.out
              obtain ⟨rr2, off2, c9, he, hrr, hcell⟩ := StrS.rows hst (fun e => by rw [e] at hlt2; simp at hlt2)
              simp only [Value.slice.injEq] at he
              obtain ⟨rfl, -, rfl⟩ := he
              have x0 : wr.cell? ⟨rr2, off2 + j, none⟩ = some (.string (bs FL[j])) := by rw [hcell j hlt2, List.getD_eq_getElem?_getD, List.getElem?_eq_getElem hlt2]; rfl
              have hjI : (j : Int) < (FL.length : Int) := by omega
              have hnn := HN.out FL[j] (List.getElem_mem hlt2)
              have CC := Lib.hid (hasTF_c _ AF FL[j] wr hsa)
              generalize FL[j] = n at *
              clear hcell hst hsa
              by_cases hm : n ∈ AF
              · have hd : decide (n ∈ AF) = true := by simpa using hm
                rw [hd] at CC
                clear hm hd hnn HN
                go_wp2_with (go_at_call 16; go_must (refine (CC.out).mono ?_; rintro e w7 ⟨rfl, rfl⟩))
                go_roundw
                case rel => exact ⟨j + 1, by omega, by go_num, hB⟩
                case measure => simp [intOf]; omega
              · have hd : decide (n ∈ AF) = false := by simpa using hm
                have hh := hnn.resolve_left hm
                have CH2 : Hid (∀ W, Calls Tryz.prog 26 #[.string s] W fun e w' => e = .returned (.string { data := #[110, 97, 109, 101] }) ∧ Below W.heap.size W w') := Lib.hid (fun W => by
                  have h := CHd.out W
                  rw [hh] at h
                  exact h)
                rw [hd] at CC
                clear hm hd hnn HN hh CHd
                go_wp2_with (first | (go_at_call 16; go_must (refine (CC.out).mono ?_; rintro e w7 ⟨rfl, rfl⟩)) | (go_at_call 26; go_must (refine (CH2.out _).mono ?_; rintro e w8 ⟨rfl, hb8⟩)))
                go_roundw
                case rel => exact ⟨j + 1, by omega, by go_num, Lib.hid (hB.out.trans (hb8.mono hB.out.size))⟩
                case measure => simp [intOf]; omega
            · have : j = FL.length := by omega
              subst this
              have HE2 := Lib.hid (HBr.out.trans (hB.out.mono HBr.out.size))
              clear hB HA HFr HBr HN CHd
              go_wp2_with fail
              go_ret
              exact ⟨ret_bool (by simp), HE2.out⟩
  · have hd0 : decide (1048576 < (L : Int)) = true := by simp; omega
    have hm0 : L ≤ 9223372036854775807 := hr.bound
    go_enter Tryz.func7, Tryz.ntmps7
    go_wp2_with fail
    go_ret
    exact ⟨rfl, Below.refl _ _⟩
end Go.Proofs.YtndbdiccjmlegaaGreatDoor
