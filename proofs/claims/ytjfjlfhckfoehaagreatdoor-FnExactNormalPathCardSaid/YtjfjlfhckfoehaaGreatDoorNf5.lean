/- The reference model counts the bindings of a form. -/
import Derived.Test.YtjfjlfhckfoehaaGreatDoorNf2
namespace Go.Proofs.YtjfjlfhckfoehaaGreatDoor
open Go.RowKit
set_option maxRecDepth 8000
set_option linter.unusedSimpArgs false
set_option linter.unusedVariables false
def headLet : List Tr → Nat
  | [] => 0
  | h :: _ => if atomOf h = kLet then 1 else 0
theorem headLet_no {a : List UInt8} (h : a ≠ kLet) (ts : List Tr) : headLet (.atom a :: ts) = 0 := by
  show (if a = kLet then 1 else 0) = 0
  exact if_neg h
theorem headLet_yes (ts : List Tr) : headLet (.atom kLet :: ts) = 1 := by
  show (if kLet = kLet then 1 else 0) = 1
  exact if_pos rfl
mutual
def letsT : Tr → Nat
  | .atom _ => 0
  | .list ts => headLet ts + letsTs ts
def letsTs : List Tr → Nat
  | [] => 0
  | t :: ts => letsT t + letsTs ts
end
theorem letsTs_take : ∀ (ts : List Tr) (k : Nat) (h : k < ts.length), letsTs (ts.take (k + 1)) = letsTs (ts.take k) + letsT ts[k]
  | [], k, h => by simp at h
  | t :: ts, 0, h => by simp [letsTs]
  | t :: ts, k + 1, h => by
    have ih := letsTs_take ts k (by simpa using h)
    simp only [List.take_succ_cons, letsTs, List.getElem_cons_succ, ih]
    omega
theorem letsTs_take_le : ∀ (ts : List Tr) (k : Nat), letsTs (ts.take k) ≤ letsTs ts
  | [], k => by simp
  | t :: ts, 0 => by simp [letsTs]
  | t :: ts, k + 1 => by
    have ih := letsTs_take_le ts k
    simp only [List.take_succ_cons, letsTs]
    omega
mutual
theorem letsT_size : ∀ t : Tr, letsT t ≤ t.size
  | .atom _ => by simp [letsT]
  | .list [] => by simp [letsT, letsTs, headLet]
  | .list (h :: ps) => by
    have i1 := letsT_size h
    have i2 := letsTs_size ps
    simp only [letsT, letsTs, headLet, Tr.size, sizes]
    by_cases hk : atomOf h = kLet
    · cases h with
      | atom a => simp only [letsT, Tr.size] at *; split <;> omega
      | list ts => simp [atomOf, kLet] at hk
    · simp only [if_neg hk]; omega
theorem letsTs_size : ∀ ts : List Tr, letsTs ts ≤ sizes ts
  | [] => by simp [letsTs]
  | t :: ts => by
    have i1 := letsT_size t
    have i2 := letsTs_size ts
    simp only [letsTs, sizes]
    omega
end
theorem letsT_ty : ∀ t : Tr, isTy t = true → letsT t = 0 := by
  intro t
  induction t using Tr.rec (motive_2 := fun ts => ∀ t ∈ ts, isTy t = true → letsT t = 0) with
  | atom a => intro _; simp [letsT]
  | list ts ih =>
    intro h
    obtain ⟨x, a, b, rfl, hx, ha, hb⟩ := isTy_list h
    have h1 := ih a (by simp) ha
    have h2 := ih b (by simp) hb
    have h0 : letsT x = 0 := by
      cases x with
      | atom a => simp [letsT]
      | list ts => simp [atomOf] at hx
    have hk : atomOf x ≠ kLet := by rcases hx with hx | hx <;> rw [hx] <;> decide
    simp [letsT, letsTs, headLet, h0, h1, h2, hk]
  | nil => rename_i u hu hty; cases hu
  | cons t ts iht ihs =>
    rename_i u hu hty
    rcases List.mem_cons.1 hu with rfl | hu
    · exact iht hty
    · exact ihs u hu hty
theorem letsT_form : ∀ x : Ex, good x → letsT (formOf x) = letsE x
  | .name _, _ => by simp [formOf, letsT, letsE]
  | .num _, _ => by simp [formOf, letsT, letsE]
  | .two o a b, h => by
    obtain ⟨ga, gb⟩ := (good_two o a b).1 h
    have i1 := letsT_form a ga
    have i2 := letsT_form b gb
    have hk : op2N o ≠ kLet := by cases o <;> decide
    simp only [formOf, letsT, letsTs, headLet_no hk, letsE, i1, i2]
    omega
  | .one o a, h => by
    have i1 := letsT_form a ((good_one o a).1 h)
    have hk : op1N o ≠ kLet := by cases o <;> decide
    simp only [formOf, letsT, letsTs, headLet_no hk, letsE, i1]
    omega
  | .cond a b d, h => by
    obtain ⟨ga, gb, gd⟩ := (good_cond a b d).1 h
    have i1 := letsT_form a ga
    have i2 := letsT_form b gb
    have i3 := letsT_form d gd
    have hk : kIf ≠ kLet := by decide
    simp only [formOf, letsT, letsTs, headLet_no hk, letsE, i1, i2, i3]
    omega
  | .lete s a b, h => by
    obtain ⟨-, ga, gb⟩ := (good_lete s a b).1 h
    have i1 := letsT_form a ga
    have i2 := letsT_form b gb
    simp only [formOf, letsT, letsTs, headLet_yes, letsE, i1, i2]
    omega
  | .func f s A B e, h => by
    obtain ⟨hq, ge⟩ := (good_func f s A B e).1 h
    have i1 := letsT_form e ge
    simp only [Bool.and_eq_true, isTyL] at hq
    have iA := letsT_ty A hq.1.2.1
    have iB := letsT_ty B hq.2.1
    have hk : kFun ≠ kLet := by decide
    simp only [formOf, letsT, letsTs, headLet_no hk, letsE, i1, iA, iB]
    omega
set_option maxHeartbeats 1000000 in
theorem l5Lets_c (n : Nat) : ∀ (t : Tr) (cs : List Value) (ok : Nat → Prop) (w : World), t.depth < n → t.wf → t.bytes ≤ 1000000 → FV nS w ok t cs → (∀ k, ok k → k < w.heap.size) →
    Calls Tryz.prog 79 #[.agg cs.toArray] w fun e w' => e = .returned (.int .i64 (letsT t : Nat)) ∧ Below w.heap.size w w' := by
  induction n with
  | zero => intro t _ _ _ h; omega
  | succ n ih =>
    intro t cs ok w hd hwf hsz hv hok
    match t, hv with
    | .atom a, hv =>
      simp only [FV] at hv
      subst hv
      have CH : Hid (∀ W, Calls Tryz.prog 81 #[.agg #[.string (bs a), .slice none 0 0]] W fun e w' => e = .returned (.string (bs [])) ∧ Below W.heap.size W w') := Lib.hid (fun W => l4Head_atom a hwf.1 .nilIface W)
      have hx : ((bs []).toList == [108, 101, 116]) = false := by simp [bs_toList]
      have X0 := heap_alloc_new w (.cells #[.string (bs a), .slice none 0 0] 52)
      rw [show letsT (.atom a) = 0 by simp [letsT]]
      simp only [nS, atomOf, List.toArray]
      generalize bs a = A at *
      go_enter Tryz.func79, Tryz.ntmps79
      go_wp2_with (go_at_call 81; go_must (refine (CH.out _).mono ?_; rintro e w1 ⟨rfl, hb1⟩; have X1 := below_blk hb1 (lt_of_block X0) X0; have c0 := cell_of (j := 0) X1; have c1 := cell_of (j := 1) X1))
      refine wp_loop_rounds 1 ?_
      rw [rounds_succ]
      go_wp2_with fail
      go_ret
      exact ⟨rfl, (below1 _ _).trans (hb1.mono (by simp))⟩
    | .list [], hv => simp [Tr.wf] at hwf
    | .list (h :: ps), hv =>
      simp only [FV] at hv
      obtain ⟨r, off, cap, xs, rfl, h2, h3, h4, h5, h6⟩ := hv
      have h3' : (h :: ps).length ≤ 9223372036854775807 := by have := maxLen_le h4; omega
      have hrlt := hok r h2
      have hsum : letsT (.list (h :: ps)) ≤ 1000000 := by
        have q1 := letsT_size (.list (h :: ps))
        have q2 := (size_le _ hwf).1
        omega
      simp only [Tr.wf] at hwf
      simp only [Tr.bytes] at hsz
      have e0 : w.cell? ⟨r, off, none⟩ = some (.string (bs (atomOf h))) := by
        obtain ⟨p, m, c, _, q, _⟩ := kid_S h6 h5 0 (by simp)
        simpa using q
      have CH : Hid (∀ W, Below w.heap.size w W → Calls Tryz.prog 81 #[.agg #[.string (bs []), .slice (some ⟨r, off, none⟩) (h :: ps).length cap]] W fun e w' => e = .returned (.string (bs (atomOf h))) ∧ Below W.heap.size W w') := Lib.hid (fun W hW => l4Head_list (atomOf h) r off _ cap W (Nat.lt_of_lt_of_le hrlt hW.size) (by simp) h3 h4 ((hW.cell (p := ⟨r, off, none⟩) hrlt).trans e0))
      have X0 := heap_alloc_new w (.cells #[.string (bs []), .slice (some ⟨r, off, none⟩) (h :: ps).length cap] 52)
      have HSL := Lib.hid (below1 w (.cells #[.string (bs []), .slice (some ⟨r, off, none⟩) (h :: ps).length cap] 52))
      have HT := Lib.hid (show letsT (.list (h :: ps)) = headLet (h :: ps) + letsTs (h :: ps) by simp [letsT])
      obtain ⟨z, hz⟩ : ∃ z, z = headLet (h :: ps) := ⟨_, rfl⟩
      have hz1 : z ≤ 1 := by rw [hz]; simp only [headLet]; split <;> omega
      have HX : Hid ((z = 1 ∧ ((bs (atomOf h)).toList == [108, 101, 116]) = true ∧ (bs (atomOf h)).toList = [108, 101, 116]) ∨ (z = 0 ∧ ((bs (atomOf h)).toList == [108, 101, 116]) = false ∧ ¬ (bs (atomOf h)).toList = [108, 101, 116])) := Lib.hid (by
        by_cases hk : atomOf h = kLet
        · exact .inl ⟨by simp [hz, headLet, hk], by rw [bs_toList]; simpa [kLet] using hk, by rw [bs_toList]; exact hk⟩
        · exact .inr ⟨by simp [hz, headLet, hk], by rw [bs_toList]; simpa [kLet] using hk, by rw [bs_toList]; exact hk⟩)
      rw [HT.out] at hsum ⊢
      rw [← hz] at hsum ⊢
      generalize bs (atomOf h) = H at *
      generalize hts : h :: ps = ts at *
      have HZ := Lib.hid hz
      have HL := Lib.hid (letsTs_take_le ts)
      have HIH := Lib.hid ih
      clear hz e0 ih hts
      simp only [nS, atomOf, List.toArray]
      rcases HX.out with ⟨hzz, hx, hy⟩ | ⟨hzz, hx, hy⟩
      all_goals
        have HZZ := Lib.hid hzz
        clear HX hzz
        go_enter Tryz.func79, Tryz.ntmps79
        go_wp2_with (go_at_call 81; go_must (refine (CH.out _ HSL.out).mono ?_; rintro e w1 ⟨rfl, hb1⟩; have X1 := below_blk hb1 (lt_of_block X0) X0; have HB1 := Lib.hid (HSL.out.trans (hb1.mono HSL.out.size)); clear hb1))
        go_loopw [3, 4] (fun m i wr => ∃ k : Nat, k ≤ ts.length ∧ i = .int .i64 k ∧ m = .int .i64 (z + letsTs (ts.take k) : Nat) ∧ wr.heap[w.heap.size]? = some (.cells #[.string (bs []), .slice (some ⟨r, off, none⟩) ts.length cap] 52 (0, 0)) ∧ Below w.heap.size w wr) (fun _ i _ => ts.length - (intOf i).toNat)
        case atStart => exact ⟨0, Nat.zero_le _, rfl, by rw [HZZ.out]; simp [letsTs], X1, HB1.out⟩
        case round =>
          obtain ⟨k, hk, rfl, rfl, hblk, hb⟩ := hrel
          have c0 := cell_of (j := 0) hblk
          have c1 := cell_of (j := 1) hblk
          have b1 := HL.out k
          by_cases hlt : k < ts.length
          · obtain ⟨cs, g1, g2⟩ := FVs.get nS_len h6 h5 k hlt
            obtain ⟨p, pn, pc, rfl⟩ := g1.node
            have e0 : wr.cell? ⟨r, off + k * 2, none⟩ = some (.string (bs (atomOf ts[k]))) := by rw [hb.cell (by exact hrlt)]; exact g2 0 _ rfl
            have e1 : wr.cell? ⟨r, off + k * 2 + 1, none⟩ = some (.slice p pn pc) := by rw [hb.cell (by exact hrlt)]; exact g2 1 _ rfl
            have s0 := letsTs_take ts k hlt
            have b2 := HL.out (k + 1)
            have hdk : ts[k].depth < n := by have := depth_lt hlt; omega
            have hbk : ts[k].bytes ≤ 1000000 := by have := bytes_lt hlt; simp only [Tr.bytes] at this; omega
            have b3 : letsT ts[k] ≤ 1000000 := by have := (size_le _ (wf_get hwf.2 hlt)).1; have := letsT_size ts[k]; omega
            have HS := Lib.hid s0
            have g1' := g1.below hb hok
            have hsz' := hb.size
            have CR := Lib.hid (HIH.out ts[k] (nS ts[k] (.slice p pn pc)) ok wr hdk (wf_get hwf.2 hlt) hbk g1' (fun j hj => Nat.lt_of_lt_of_le (hok j hj) hsz'))
            simp only [nS, List.toArray] at CR
            generalize bs (atomOf ts[k]) = S at *
            generalize letsT ts[k] = Q at *
            clear s0 g1 g2 g1'
            go_wp2_with (go_at_call 79; go_must (refine (CR.out).mono ?_; rintro e w' ⟨rfl, hb2⟩))
            all_goals
              go_roundw
              case rel => exact ⟨k + 1, by omega, by go_num, by rw [HS.out]; go_num, below_blk hb2 (lt_of_block hblk) hblk, hb.trans (hb2.mono hsz')⟩
              case measure => simp [intOf]; omega
          · have : k = ts.length := by omega
            subst this
            have hF : Hid (letsTs (ts.take ts.length) = letsTs ts) := Lib.hid (by rw [List.take_length])
            go_wp2_with fail
            go_ret
            exact ⟨ret_int (by rw [hF.out]), hb⟩
theorem specNormalIs_c (s : ByteArray) (hs : s.size ≤ 1048576) (w : World) :
    Calls Tryz.prog 30 #[.string s] w fun e w' => e = .returned (.bool (readNf s.data.toList).isSome) ∧ Below w.heap.size w w' := (specNormalIs_b s hs w).mono fun e w' ⟨h1, h2⟩ => ⟨by rw [h1, nrmOf_nf], h2⟩
set_option maxHeartbeats 1000000 in
theorem specNormalLets_c (s : ByteArray) (hs : s.size ≤ 1048576) (w : World) :
    Calls Tryz.prog 34 #[.string s] w fun e w' => e = .returned (.int .i64 (letsOf s.data.toList)) ∧ Below w.heap.size w w' := by
  have CN := Lib.hid (specNormalIs_c s hs)
  cases hn : readNf s.data.toList with
  | none =>
    rw [hn] at CN
    rw [letsOf_none hn]
    simp only [Option.isSome_none] at CN
    clear hn
    go_enter Tryz.func34, Tryz.ntmps34
    go_wp2_with (go_at_call 30; go_must (refine (CN.out _).mono ?_; rintro e w1 ⟨rfl, hb1⟩))
    go_ret
    exact ⟨rfl, hb1⟩
  | some x =>
    rw [hn] at CN
    rw [letsOf_some hn]
    simp only [Option.isSome_some] at CN
    cases hp : parseE s.data.toList with
    | none => exact absurd (readNf_got hn).1 (by rw [readEx_none2 hp]; simp)
    | some t =>
      have C := Lib.hid (l2Parse_some hs hp)
      obtain ⟨y, hy1, rfl, hg, hwf, hby⟩ := nf_parsed hp
      have hxy : y = x := by have h1 := (readNf_got hn).1; rw [hy1] at h1; exact Option.some.inj h1
      subst hxy
      have CC : Hid (∀ (w1 W : World) (B : Nat) p m c, FV nS w1 (fun k => B ≤ k ∧ k < w1.heap.size) (formOf y) (nS (formOf y) (.slice p m c)) → Below w1.heap.size w1 W → Calls Tryz.prog 79 #[.agg #[.string (bs (atomOf (formOf y))), .slice p m c]] W fun e w' => e = .returned (.int .i64 (letsE y : Nat)) ∧ Below W.heap.size W w') := Lib.hid (fun w1 W B p m c hv hW => by
        rw [← letsT_form y hg]
        exact l5Lets_c ((formOf y).depth + 1) (formOf y) (nS (formOf y) (.slice p m c)) _ W (by omega) hwf (by omega) (hv.below hW (fun k hk => hk.2)) (fun k hk => Nat.lt_of_lt_of_le hk.2 hW.size))
      generalize letsE y = M at *
      clear hp hg hwf hby hy1 hn
      go_enter Tryz.func34, Tryz.ntmps34
      go_wp2_with (first | (go_at_call 30; go_must (refine (CN.out _).mono ?_; rintro e w0 ⟨rfl, hb0⟩)) | (go_at_call 60; go_must (refine (C.out _).mono ?_; rintro e w1 ⟨⟨p, m, c, rfl, hv⟩, hb1⟩)) | (go_at_call 79; go_must (refine (CC.out _ _ _ _ _ _ hv (below1 _ _)).mono ?_; rintro e w3 ⟨rfl, hb3⟩)))
      go_ret
      exact ⟨rfl, (hb0.trans (hb1.mono hb0.size)).trans (((below1 _ _).trans (hb3.mono (by simp))).mono (by have := hb0.size; have := hb1.size; omega))⟩
end Go.Proofs.YtjfjlfhckfoehaaGreatDoor
