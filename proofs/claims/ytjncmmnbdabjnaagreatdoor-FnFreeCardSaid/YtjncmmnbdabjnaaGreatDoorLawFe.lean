/- The law FnKids: its walk. Kids are smaller. -/
import Derived.Test.YtjncmmnbdabjnaaGreatDoorDrawC
import Derived.Test.YtjncmmnbdabjnaaGreatDoorSpec2iM
import Derived.Test.YtjncmmnbdabjnaaGreatDoorI2p
import Derived.Test.YtjncmmnbdabjnaaGreatDoorImpl2dM
import Derived.OwnWalk
namespace Go.Proofs.YtjncmmnbdabjnaaGreatDoor
open Go.RowKit
set_option maxRecDepth 8000
set_option linter.unusedSimpArgs false
set_option linter.unusedVariables false
set_option maxHeartbeats 400000 in
theorem implFormSizeF_c (s : ByteArray) (hs : s.size ≤ 1048576) (w : World) :
    Calls Tryz.prog 19 #[.string s] w fun e w' => e = .returned (.int .i64 (sizeOfText s.data.toList)) ∧ Below w.heap.size w w' := by
  cases hp : parse s.data.toList with
  | none =>
    have C := Lib.hid (readForm_none hs hp)
    have HD := Lib.hid (show sizeOfText s.data.toList = -1 from by simp [sizeOfText, hp])
    clear hp
    go_enter Tryz.func19, Tryz.ntmps19
    go_wp2_with (go_at_call 55; go_must (refine (C.out _).mono ?_; rintro e w1 ⟨rfl, hb1⟩))
    go_ret
    exact ⟨ret_int HD.out.symm, hb1.alloc hb1.size _⟩
  | some t =>
    have C := Lib.hid (readForm_some hs hp)
    have HD := Lib.hid (show sizeOfText s.data.toList = (t.size : Int) from by simp [sizeOfText, hp])
    clear hp
    go_enter Tryz.func19, Tryz.ntmps19
    go_wp2_with (go_at_call 55; go_must (refine (C.out _).mono ?_; rintro e w1 ⟨⟨p, n, c, rfl, hv⟩, hb1⟩))
    go_ret
    exact ⟨ret_int HD.out.symm, hb1.alloc hb1.size _⟩

set_option maxHeartbeats 1000000 in
theorem sameTF_c (va vb : Value) (la lb : List (List UInt8)) (w : World) (ha : StrS w va la) (hb : StrS w vb lb) :
    Calls Tryz.prog 31 #[va, vb] w fun e w' => e = .returned (.bool (decide (la = lb))) ∧ ∃ n, w' = w.drewN n := by
  obtain ⟨pa, ca, rfl, ha1, ha2⟩ := ha
  obtain ⟨pb, cb, rfl, hb1, hb2⟩ := hb
  by_cases hlen : la.length = lb.length
  · by_cases hz : la = []
    · subst hz
      have hlb : lb = [] := List.eq_nil_of_length_eq_zero (by simpa using hlen.symm)
      subst hlb
      clear ha2 hb2 hlen
      go_enter Tryz.func31, Tryz.ntmps31
      go_wp2_with fail
      refine wp_loop_rounds 1 ?_
      rw [rounds_succ]
      go_wp2_with fail
      go_ret
      exact ⟨ret_bool (by simp), 0, rfl⟩
    · have hzb : lb ≠ [] := by intro e; subst e; exact hz (List.eq_nil_of_length_eq_zero (by simpa using hlen))
      obtain ⟨ra, oa, rfl, ha3⟩ := ha2 hz
      obtain ⟨rb, ob, rfl, hb3⟩ := hb2 hzb
      have he : ((la.length : Int) == (lb.length : Int)) = true := by simp; omega
      have HL := Lib.hid hlen
      have hle : la.length ≤ lb.length ∧ lb.length ≤ la.length := by omega
      clear hlen ha2 hb2
      go_enter Tryz.func31, Tryz.ntmps31
      go_wp2_with fail
      go_loopw [5] (fun v wr => ∃ k : Nat, k ≤ la.length ∧ v = .int .i64 k ∧ Hid (la.take k = lb.take k) ∧ ∃ n, Hid (wr = w.drewN n)) (fun v _ => la.length - (intOf v).toNat)
      case atStart => exact ⟨0, Nat.zero_le _, rfl, Lib.hid rfl, 0, Lib.hid rfl⟩
      case round =>
        obtain ⟨k, hk, rfl, ht, n, hw⟩ := hrel
        by_cases hlt : k < la.length
        · have hltb : k < lb.length := by omega
          have c1 : wr.cell? ⟨ra, oa + k, none⟩ = some (.string (bs la[k])) := by rw [hw.out]; exact StrS.cell ha3 hlt
          have c2 : wr.cell? ⟨rb, ob + k, none⟩ = some (.string (bs lb[k])) := by rw [hw.out]; exact StrS.cell hb3 hltb
          have b1 : (0 : Int) ≤ k := by omega
          cases hx : (la[k] == lb[k]) with
          | true =>
            have hx2 : ((bs la[k]).toList == (bs lb[k]).toList) = true := by rw [bs_toList, bs_toList]; exact hx
            have HX := Lib.hid hx
            clear hx
            go_wp2_with fail
            go_quiet (fail)
            go_wp2_with fail
            go_roundw
            case rel => exact ⟨k + 1, by omega, by go_num, Lib.hid (by rw [List.take_succ_eq_append_getElem hlt, List.take_succ_eq_append_getElem hltb, ht.out, show la[k] = lb[k] from by simpa using HX.out]), n + nq, Lib.hid (by rw [hw.out, drewN_drewN])⟩
            case measure => simp [intOf]; omega
          | false =>
            have hx2 : ((bs la[k]).toList == (bs lb[k]).toList) = false := by rw [bs_toList, bs_toList]; exact hx
            have HX := Lib.hid hx
            clear hx
            go_wp2_with fail
            go_quiet (fail)
            go_wp2_with fail
            go_ret
            exact ⟨ret_bool (by simp only [Bool.false_eq, decide_eq_false_iff_not]; intro e; subst e; have := HX.out; simp at this), n + nq, by rw [hw.out, drewN_drewN]⟩
        · have : k = la.length := by omega
          subst this
          go_wp2_with fail
          go_ret
          exact ⟨ret_bool (by simp only [Bool.true_eq, decide_eq_true_eq]; have := ht.out; rw [List.take_length, HL.out, List.take_length] at this; exact this), n, hw.out⟩
  · have he : ((la.length : Int) == (lb.length : Int)) = false := by simp; omega
    have HN := Lib.hid (show la ≠ lb from fun e => hlen (by rw [e]))
    clear hlen ha2 hb2
    go_enter Tryz.func31, Tryz.ntmps31
    go_wp2_with fail
    go_ret
    exact ⟨ret_bool (by simp [HN.out]), 0, rfl⟩

set_option maxHeartbeats 1000000 in
theorem hasTF_c (v : Value) (l : List (List UInt8)) (a : List UInt8) (w : World) (h : StrS w v l) :
    Calls Tryz.prog 34 #[v, .string (bs a)] w fun e w' => e = .returned (.bool (decide (a ∈ l))) ∧ w' = w := by
  obtain ⟨p, c, rfl, h1, h2⟩ := h
  by_cases hz : l = []
  · subst hz
    clear h2
    go_enter Tryz.func34, Tryz.ntmps34
    go_wp2_with fail
    refine wp_loop_rounds 1 ?_
    rw [rounds_succ]
    go_wp2_with fail
    go_ret
    exact ⟨ret_bool (by simp), rfl⟩
  · obtain ⟨r, off, rfl, h3⟩ := h2 hz
    obtain ⟨F, hF⟩ : ∃ F, F = decide (a ∈ l) := ⟨_, rfl⟩
    rw [← hF]
    have HF := Lib.hid hF
    clear h2 hF
    go_enter Tryz.func34, Tryz.ntmps34
    go_wp2_with fail
    go_loop [5] (fun i => ∃ k : Nat, k ≤ l.length ∧ i = .int .i64 k ∧ Hid (a ∉ l.take k)) (fun i => l.length - (intOf i).toNat)
    case atStart => exact ⟨0, Nat.zero_le _, rfl, Lib.hid (by simp)⟩
    case round =>
      obtain ⟨k, hk, rfl, hno⟩ := hrel
      by_cases hlt : k < l.length
      · have c1 : w.cell? ⟨r, off + k, none⟩ = some (.string (bs l[k])) := StrS.cell h3 hlt
        have hk0 : (0 : Int) ≤ (k : Int) := by omega
        by_cases hx : l[k] = a
        · have hx2 : ((bs l[k]).toList == (bs a).toList) = true := by rw [bs_toList, bs_toList]; simpa using hx
          have hx3 : (bs l[k]).toList = (bs a).toList := by rw [bs_toList, bs_toList]; exact hx
          have HX := Lib.hid hx
          obtain ⟨s, hs⟩ : ∃ s, s = bs l[k] := ⟨_, rfl⟩
          rw [← hs] at c1 hx2 hx3
          clear hx hs
          go_wp2_with fail
          go_ret
          exact ⟨ret_bool (by rw [HF.out]; symm; rw [decide_eq_true_eq, ← HX.out]; exact List.getElem_mem hlt), rfl⟩
        · have hx2 : ((bs l[k]).toList == (bs a).toList) = false := by rw [bs_toList, bs_toList]; simpa using hx
          have hx3 : ¬ (bs l[k]).toList = (bs a).toList := by rw [bs_toList, bs_toList]; exact hx
          have HX := Lib.hid hx
          obtain ⟨s, hs⟩ : ∃ s, s = bs l[k] := ⟨_, rfl⟩
          rw [← hs] at c1 hx2 hx3
          clear hx hs
          go_wp2_with fail
          exact ⟨⟨k + 1, by omega, by go_num, Lib.hid (by rw [List.take_succ_eq_append_getElem hlt]; simp only [List.mem_append, List.mem_singleton, not_or]; exact ⟨hno.out, fun e => HX.out e.symm⟩)⟩, by simp [intOf]; omega⟩
      · have : k = l.length := by omega
        subst this
        have hn := hno.out
        rw [List.take_length] at hn
        have HN := Lib.hid hn
        clear hn
        go_wp2_with fail
        go_ret
        exact ⟨ret_bool (by rw [HF.out]; simp [HN.out]), rfl⟩
theorem numF_wf {l : List UInt8} {n : Int} (h : numOf l = some n) : (Tr.atom l).wf ∧ l.length ≤ 4 := by
  by_cases h0 : l = [48]
  · subst h0; exact ⟨⟨by decide, by decide⟩, by decide⟩
  · by_cases hc : 1 ≤ (digitsOf l).length ∧ (digitsOf l).length ≤ 3 ∧ (digitsOf l).head? ≠ some 48
    · rw [numOf_yes h0 hc] at h
      have hl := digitsOf_len l
      refine ⟨⟨fun e => by subst e; simp [digitsOf] at hc, ?_⟩, by omega⟩
      have hall : ∀ b ∈ digitsOf l, isAB b = true := fun b hb => by
        obtain ⟨k, hk, rfl⟩ := List.getElem_of_mem hb
        cases hv : Lib.digitVal (digitsOf l)[k] with
        | none =>
          rw [decFrom_bad (digitsOf l) 0 k _ (List.getElem?_eq_getElem hk) hv] at h
          cases h
        | some d =>
          have h2 := (digit_back hv)
          rw [← h2.2]
          have h3 := h2.1
          have : ∀ d : Nat, d < 10 → isAB (UInt8.ofNat (48 + d)) = true := by decide
          exact this d h3
      intro b hb
      cases l with
      | nil => cases hb
      | cons c r =>
        simp only [digitsOf] at hall
        split at hall
        · rename_i hc45
          rcases List.mem_cons.1 hb with rfl | hb
          · rw [hc45]; decide
          · exact hall b hb
        · exact hall b hb
    · rw [numOf_no h0 hc] at h; cases h
theorem nmF_wf {l : List UInt8} (h : isNm l = true) : (Tr.atom l).wf ∧ l.length ≤ 4 := by
  cases l with
  | nil => simp [isNm] at h
  | cons b r =>
    simp only [isNm, Bool.and_eq_true, decide_eq_true_eq] at h
    obtain ⟨⟨h1, h2, h3⟩, h4⟩ := h
    obtain ⟨m, hm⟩ := Option.isSome_iff_exists.1 h4
    refine ⟨⟨by simp, fun c hc => ?_⟩, by simp; omega⟩
    rcases List.mem_cons.1 hc with rfl | hc
    · have : ∀ d : Nat, 97 ≤ d → d ≤ 122 → isAB (UInt8.ofNat d) = true := by
        intro d e1 e2
        have : ∀ k : Fin 26, isAB (UInt8.ofNat (97 + k.val)) = true := by decide
        have h5 := this ⟨d - 97, by omega⟩
        rwa [show 97 + (d - 97) = d by omega] at h5
      have h5 := this c.toNat h2 h3
      rwa [UInt8.ofNat_toNat] at h5
    · obtain ⟨k, hk, rfl⟩ := List.getElem_of_mem hc
      cases hv : Lib.digitVal r[k] with
      | none =>
        rw [decFrom_bad r 0 k _ (List.getElem?_eq_getElem hk) hv] at hm
        cases hm
      | some d =>
        have h5 := digit_back hv
        rw [← h5.2]
        have : ∀ d : Nat, d < 10 → isAB (UInt8.ofNat (48 + d)) = true := by decide
        exact this d h5.1
theorem kid_small {x k : Ex} (hk : k ∈ kidsE x) : (formOf k).size ≤ (formOf x).size ∧ (formOf k).bytes ≤ (formOf x).bytes ∧ (formOf k).depth ≤ (formOf x).depth ∧ ((formOf x).wf → (formOf k).wf) ∧ (good x → good k) := by
  cases x with
  | name s => cases hk
  | num n => cases hk
  | two o a b =>
    simp only [kidsE, List.mem_cons, List.not_mem_nil, or_false] at hk
    simp only [formOf, Tr.size, sizes, Tr.bytes, bytess, Tr.depth, depths, Tr.wf, wfs]
    rcases hk with rfl | rfl
    · exact ⟨by omega, by omega, by omega, fun h => h.2.2.1, fun h => ((good_two _ _ _).1 h).1⟩
    · exact ⟨by omega, by omega, by omega, fun h => h.2.2.2.1, fun h => ((good_two _ _ _).1 h).2⟩
  | one o a =>
    simp only [kidsE, List.mem_cons, List.not_mem_nil, or_false] at hk
    subst hk
    simp only [formOf, Tr.size, sizes, Tr.bytes, bytess, Tr.depth, depths, Tr.wf, wfs]
    exact ⟨by omega, by omega, by omega, fun h => h.2.2.1, fun h => (good_one _ _).1 h⟩
  | cond a b d =>
    simp only [kidsE, List.mem_cons, List.not_mem_nil, or_false] at hk
    simp only [formOf, Tr.size, sizes, Tr.bytes, bytess, Tr.depth, depths, Tr.wf, wfs]
    rcases hk with rfl | rfl | rfl
    · exact ⟨by omega, by omega, by omega, fun h => h.2.2.1, fun h => ((good_cond _ _ _).1 h).1⟩
    · exact ⟨by omega, by omega, by omega, fun h => h.2.2.2.1, fun h => ((good_cond _ _ _).1 h).2.1⟩
    · exact ⟨by omega, by omega, by omega, fun h => h.2.2.2.2.1, fun h => ((good_cond _ _ _).1 h).2.2⟩
  | lete s a b =>
    simp only [kidsE, List.mem_cons, List.not_mem_nil, or_false] at hk
    simp only [formOf, Tr.size, sizes, Tr.bytes, bytess, Tr.depth, depths, Tr.wf, wfs]
    rcases hk with rfl | rfl
    · exact ⟨by omega, by omega, by omega, fun h => h.2.2.2.1, fun h => ((good_lete _ _ _).1 h).2.1⟩
    · exact ⟨by omega, by omega, by omega, fun h => h.2.2.2.2.1, fun h => ((good_lete _ _ _).1 h).2.2⟩
  | func f s A B e =>
    simp only [kidsE, List.mem_cons, List.not_mem_nil, or_false] at hk
    subst hk
    simp only [formOf, Tr.size, sizes, Tr.bytes, bytess, Tr.depth, depths, Tr.wf, wfs]
    exact ⟨by omega, by omega, by omega, fun h => h.2.2.2.2.2.2.1, fun h => ((good_func _ _ _ _ _).1 h).2⟩
theorem read_all {l : List UInt8} {x : Ex} (h : readEx l = some x) : parse l = some (formOf x) ∧ l = (formOf x).text ∧ (formOf x).size ≤ 120 ∧ (formOf x).bytes ≤ 12000 ∧ (formOf x).depth ≤ 60 ∧ (formOf x).wf ∧ good x := by
  unfold readEx at h
  cases hp : parse l with
  | none => simp [hp] at h
  | some t =>
    simp only [hp] at h
    split at h
    · rename_i hs
      have g := parse_got hp
      have e := formOf_eq _ _ h
      rw [e]
      exact ⟨rfl, g.2.2.2, hs, g.2.1, g.2.2.1, g.1, good_of h⟩
    · cases h
theorem read_made {x : Ex} (h1 : (formOf x).size ≤ 120) (h2 : (formOf x).bytes ≤ 12000) (h3 : (formOf x).depth ≤ 60) (h4 : (formOf x).wf) (h5 : good x) : readEx (formOf x).text = some x := by
  rw [readEx_some (parse_text h4 h2 h3), if_pos h1]
  exact h5
theorem kid_read {l : List UInt8} {x k : Ex} (h : readEx l = some x) (hk : k ∈ kidsE x) : readEx (formOf k).text = some k ∧ (formOf k).text.length ≤ 12000 := by
  obtain ⟨-, -, h1, h2, h3, h4, h5⟩ := read_all h
  obtain ⟨k1, k2, k3, k4, k5⟩ := kid_small hk
  exact ⟨read_made (by omega) (by omega) (by omega) (k4 h4) (k5 h5), by rw [text_length _ (k4 h4)]; omega⟩
theorem head_ne (x : Ex) : headOf x ≠ [] := by cases x with
  | two o a b => cases o <;> simp [headOf, op2N]
  | one o a => cases o <;> simp [headOf, op1N]
  | _ => simp [headOf, sName, sNumber, kIf, kLet, kFun]
theorem parseE_readS {l : List UInt8} : (parseE l).isSome = (readEx l).isSome := by
  cases h : parseE l with
  | none => rw [readEx_none2 h]; rfl
  | some t => obtain ⟨x, h1, -⟩ := readEx_asEx' h; rw [h1]; rfl
theorem mem_foldA (n : Nm) : ∀ (P l : List Nm), n ∈ P.foldl addA l ↔ n ∈ l ∨ n ∈ P
  | [], l => by simp
  | a :: P, l => by
    simp only [List.foldl_cons, mem_foldA n P, List.mem_cons]
    unfold addA
    split
    · rename_i h
      constructor
      · rintro (h1 | h1)
        · exact .inl h1
        · exact .inr (.inr h1)
      · rintro (h1 | rfl | h1)
        · exact .inl h1
        · exact .inl h
        · exact .inr h1
    · simp only [List.mem_append, List.mem_singleton]
      constructor
      · rintro ((h1 | h1) | h1)
        · exact .inl h1
        · exact .inr (.inl h1)
        · exact .inr (.inr h1)
      · rintro (h1 | h1 | h1)
        · exact .inl (.inl h1)
        · exact .inl (.inr h1)
        · exact .inr h1
theorem kid_less {x k : Ex} (hw : (formOf x).wf) (hk : k ∈ kidsE x) : (formOf k).size < (formOf x).size := by
  cases x with
  | name s => cases hk
  | num n => cases hk
  | two o a b =>
    simp only [kidsE, List.mem_cons, List.not_mem_nil, or_false] at hk
    simp only [formOf, Tr.size, sizes]
    rcases hk with rfl | rfl <;> omega
  | one o a =>
    simp only [kidsE, List.mem_cons, List.not_mem_nil, or_false] at hk
    subst hk
    simp only [formOf, Tr.size, sizes]
    omega
  | cond a b d =>
    simp only [kidsE, List.mem_cons, List.not_mem_nil, or_false] at hk
    simp only [formOf, Tr.size, sizes]
    rcases hk with rfl | rfl | rfl <;> omega
  | lete s a b =>
    simp only [kidsE, List.mem_cons, List.not_mem_nil, or_false] at hk
    simp only [formOf, Tr.size, sizes]
    rcases hk with rfl | rfl <;> omega
  | func f s A B e =>
    simp only [kidsE, List.mem_cons, List.not_mem_nil, or_false] at hk
    subst hk
    simp only [formOf, Tr.size, sizes]
    omega
theorem rm_sub {bs l : List Nm} {n : Nm} (h : n ∈ rm bs l) : n ∈ l := by
  simp only [rm, List.mem_filter] at h
  exact h.1
theorem free_kids {x : Ex} (hx : notName x) {n : Nm} (h : n ∈ freeP x) : ∃ k ∈ kidsE x, n ∈ freeP k := by
  cases x with
  | name s => exact hx.elim
  | num n => simp [freeP] at h
  | two o a b =>
    simp only [freeP, List.mem_append] at h
    rcases h with h | h
    · exact ⟨a, by simp [kidsE], h⟩
    · exact ⟨b, by simp [kidsE], h⟩
  | one o a => exact ⟨a, by simp [kidsE], by simpa [freeP] using h⟩
  | cond a b d =>
    simp only [freeP, List.mem_append] at h
    rcases h with (h | h) | h
    · exact ⟨a, by simp [kidsE], h⟩
    · exact ⟨b, by simp [kidsE], h⟩
    · exact ⟨d, by simp [kidsE], h⟩
  | lete s a b =>
    simp only [freeP, List.mem_append] at h
    rcases h with h | h
    · exact ⟨a, by simp [kidsE], h⟩
    · exact ⟨b, by simp [kidsE], rm_sub h⟩
  | func f s A B e => exact ⟨e, by simp [kidsE], rm_sub (by simpa [freeP] using h)⟩
/-- The free names of some expressions, one list behind the other. -/
def allF : List Ex → List Nm
  | [] => []
  | k :: ks => (freeP k).foldl addA [] ++ allF ks
theorem allF_take (ks : List Ex) (j : Nat) (h : j < ks.length) : allF (ks.take (j + 1)) = allF (ks.take j) ++ (freeP ks[j]).foldl addA [] := by
  induction ks generalizing j with
  | nil => simp at h
  | cons k ks ih =>
    cases j with
    | zero => simp [allF]
    | succ j =>
      have := ih j (by simpa using h)
      simp only [List.take_succ_cons, allF, List.getElem_cons_succ, this, List.append_assoc]
theorem allF_mem {ks : List Ex} {k : Ex} {n : Nm} (hk : k ∈ ks) (h : n ∈ freeP k) : n ∈ allF ks := by
  induction ks with
  | nil => cases hk
  | cons a ks ih =>
    simp only [allF, List.mem_append]
    rcases List.mem_cons.1 hk with rfl | hk
    · exact .inl ((mem_foldA n _ []).2 (.inr h))
    · exact .inr (ih hk)
theorem strS_drewN {w : World} {v : Value} {l : List Nm} (h : StrS w v l) (n : Nat) : StrS (w.drewN n) v l := h
end Go.Proofs.YtjncmmnbdabjnaaGreatDoor
