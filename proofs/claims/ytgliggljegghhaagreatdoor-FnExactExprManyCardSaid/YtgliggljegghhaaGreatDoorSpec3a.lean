/- The reference model counts an expression and its parts. -/
import Derived.Test.YtgliggljegghhaaGreatDoorPureM
namespace Go.Proofs.YtgliggljegghhaaGreatDoor
open Go.RowKit
set_option maxRecDepth 8000
set_option linter.unusedSimpArgs false
set_option linter.unusedVariables false
theorem many_atom {a : List UInt8} {x : Ex} (h : asEx (.atom a) = some x) : manyE x = 1 := by
  simp only [asEx, atomEx] at h
  split at h
  · simp only [Option.some.injEq] at h; subst h; rfl
  · split at h
    · simp only [Option.some.injEq] at h; subst h; rfl
    · cases h
def MnS (n : Nat) : Prop := ∀ (t : Tr) (x : Ex) (cs : List Value) (ok : Nat → Prop) (w : World), t.depth < n → t.wf → t.bytes ≤ 12000 → asEx t = some x → FV nS w ok t cs → (∀ k, ok k → k < w.heap.size) →
    Calls Tryz.prog 60 #[.agg cs.toArray] w fun e w' => e = .returned (.int .i64 (manyE x : Nat)) ∧ Below w.heap.size w w'
set_option maxHeartbeats 1000000 in
theorem l3Many_atom (a : List UInt8) (x : Ex) (w : World) (ha0 : a ≠ []) (hx : asEx (.atom a) = some x) :
    Calls Tryz.prog 60 #[.agg #[.string (bs a), .slice none 0 0]] w fun e w' => e = .returned (.int .i64 (manyE x : Nat)) ∧ Below w.heap.size w w' := by
  rw [many_atom hx]
  have ha := atomne ha0
  generalize bs a = A at *
  go_enter Tryz.func60, Tryz.ntmps60
  go_wp2_with fail
  go_ret
  exact ⟨rfl, below1 _ _⟩
set_option maxHeartbeats 2000000 in
theorem l3Many_list (n : Nat) (ih : MnS n) (h : Tr) (ps : List Tr) (x : Ex) (r off cap L : Nat) (xs : List Value) (ok : Nat → Prop) (w : World) (hd : (Tr.list (h :: ps)).depth < n + 1) (hwf : wfs (h :: ps)) (hby : bytess (h :: ps) ≤ 12000) (hx : asEx (.list (h :: ps)) = some x)
    (h2 : ok r) (h4 : cap ≤ maxLen) (hL : L = (h :: ps).length) (h3 : L ≤ cap) (h5 : hasRow w r off xs) (h6 : FVs nS w ok (h :: ps) xs) (hok : ∀ k, ok k → k < w.heap.size) :
    Calls Tryz.prog 60 #[.agg #[.string (bs []), .slice (some ⟨r, off, none⟩) L cap]] w fun e w' => e = .returned (.int .i64 (manyE x : Nat)) ∧ Below w.heap.size w w' := by
  obtain ⟨a, V⟩ := kidView hx
  have hrlt := hok r h2
  have hemp := emptyne
  have e0 : w.cell? ⟨r, off, none⟩ = some (.string (bs (atomOf h))) := by
    obtain ⟨p, m, c, _, q, _⟩ := kid_S h6 h5 0 (by simp)
    simpa using q
  obtain ⟨K, hK⟩ : ∃ K, K = (kidsE x).length := ⟨_, rfl⟩
  have hLm : L ≤ 9223372036854775807 := by have := maxLen_le h4; omega
  have haK : a + K = L := by rw [hK, hL, V.len]; rfl
  have hKlt : K < L := by have := V.pos; omega
  have CK : Hid (∀ W, Calls Tryz.prog 86 #[.string (bs (atomOf h))] W fun e w' => e = .returned (.tuple #[.int .i64 (a : Int), .int .i64 (L : Int)]) ∧ w' = W) := Lib.hid (fun W => l2Kids_ab _ _ _ (by rw [V.at_, hL]; rfl) W)
  have HR := Lib.hid (many_kids x)
  have hcnt : manyE x ≤ 20000 := by
    have h2 := many_le (n + 1) _ x hd (by simp only [Tr.wf]; exact ⟨by simp, hwf⟩) hx
    have h3 := (size_le (Tr.list (h :: ps)) (by simp only [Tr.wf]; exact ⟨by simp, hwf⟩)).1
    simp only [Tr.bytes] at h3
    omega
  have HC : Hid (∀ j, sumM ((kidsE x).take j) ≤ 20000) := Lib.hid (fun j => by
    have h1 := sumM_take_le (kidsE x) j
    have h2 := many_kids x
    omega)
  have HKe := Lib.hid hK
  have HaK := Lib.hid haK
  have HKid : Hid (∀ (wr : World), Below w.heap.size w wr → ∀ k j, k = a + j → j < K → ∃ at0 p pn pc kx, wr.cell? ⟨r, off + k * 2, none⟩ = some (.string at0) ∧ wr.cell? ⟨r, off + k * 2 + 1, none⟩ = some (.slice p pn pc) ∧
      sumM ((kidsE x).take (j + 1)) = sumM ((kidsE x).take j) + manyE kx ∧
      ∀ W, Below w.heap.size w W → Calls Tryz.prog 60 #[.agg #[.string at0, .slice p pn pc]] W fun e w' => e = .returned (.int .i64 (manyE kx : Nat)) ∧ Below W.heap.size W w') := Lib.hid (fun wr hb k j hk hj => by
    rw [hK] at hj
    obtain ⟨tk, p, pn, pc, q1, q2, q3, q4, q5, q6, q7⟩ := kid_at V hk hj hd hwf hby h5 h6
    refine ⟨bs (atomOf tk), p, pn, pc, (kidsE x)[j], (hb.cell (p := ⟨r, off + k * 2, none⟩) hrlt).trans q2, (hb.cell (p := ⟨r, off + k * 2 + 1, none⟩) hrlt).trans q3, sumM_take _ _ hj, fun W hW => ?_⟩
    exact ih tk _ (nS tk (.slice p pn pc)) ok W q4 q6 q5 q7 (q1.below hW hok) (size_of_hok hok hW))
  have haL : a ≤ L := by omega
  clear V hK ih hwf hcnt hx haK hL h6 h5 hd hby
  go_enter Tryz.func60, Tryz.ntmps60
  go_wp2_with (go_at_call 86; go_must (refine (CK.out _).mono ?_; rintro e w1 ⟨rfl, rfl⟩))
  go_loopw [3, 6] (fun s i wr => ∃ k j Sm : Nat, Hid (k = a + j) ∧ j ≤ K ∧ k ≤ L ∧ i = .int .i64 k ∧ s = .int .i64 (1 + Sm : Nat) ∧ Hid (Sm = sumM ((kidsE x).take j)) ∧ Below (w.heap.size + 1) (w.alloc (.cells #[.string (bs []), .slice (some ⟨r, off, none⟩) L cap] 48)) wr) (fun _ i _ => L - (intOf i).toNat)
  case atStart => exact ⟨a, 0, 0, Lib.hid rfl, Nat.zero_le _, haL, rfl, rfl, Lib.hid (by simp [sumM]), Below.refl _ _⟩
  case round =>
    obtain ⟨k, j, Sm, hkj, hjK, hkL, rfl, rfl, hS, hb⟩ := hrel
    have c0 : wr.cell? ⟨w.heap.size, 0, none⟩ = some (.string (bs [])) := by rw [hb.cell (p := ⟨w.heap.size, 0, none⟩) (by simp)]; simp
    have c1 : wr.cell? ⟨w.heap.size, 1, none⟩ = some (.slice (some ⟨r, off, none⟩) L cap) := by rw [hb.cell (p := ⟨w.heap.size, 1, none⟩) (by simp)]; simp
    have hbw : Below w.heap.size w wr := (below1 w _).trans (hb.mono (by omega))
    have hsz0 : w.heap.size < wr.heap.size := by have := hb.size; simp at this; omega
    have hc1 := HC.out j
    have hc2 := HC.out (j + 1)
    rw [← hS.out] at hc1
    by_cases hlt : k < L
    · have hjlt : j < K := by have := hkj.out; have := HaK.out; omega
      obtain ⟨at0, p, pn, pc, kx, x0, x1, hF, hC⟩ := HKid.out wr hbw k j hkj.out hjlt
      have hF2 := hF
      rw [← hS.out] at hF2
      rw [hF2] at hc2
      have HF := Lib.hid hF2
      have CC := Lib.hid (hC _ hbw)
      have hk0 : (0 : Int) ≤ (k : Int) := by omega
      generalize manyE kx = S2 at *
      clear hF hF2 hC HKid HC hS
      go_wp2_with (go_at_call 60; go_must (refine (CC.out).mono ?_; rintro e w4 ⟨rfl, hb4⟩))
      go_roundw
      case rel => exact ⟨k + 1, j + 1, Sm + S2, Lib.hid (by rw [hkj.out]; omega), by omega, by omega, by go_num, by go_num, Lib.hid (by rw [HF.out]), hb.trans (hb4.mono (by have := hb.size; simp at this; omega))⟩
      case measure => simp [intOf]; omega
    · have hjK2 : j = K := by have := hkj.out; have := HaK.out; omega
      have hfin : (kidsE x).take j = kidsE x := List.take_of_length_le (by rw [← HKe.out]; omega)
      have HF := Lib.hid (show manyE x = 1 + Sm by rw [HR.out, hS.out, hfin])
      clear HC HKid hfin hjK2
      go_wp2_with fail
      go_ret
      exact ⟨ret_int (by rw [HF.out]), hbw⟩
theorem l3Many_all : ∀ n, MnS n
  | 0 => fun t _ _ _ _ h => by omega
  | n + 1 => fun t x cs ok w hd hwf hby hx hv hok => by
    match t, hd, hwf, hby, hx, hv with
    | .atom a, hd, hwf, hby, hx, hv =>
      simp only [FV] at hv
      subst hv
      exact l3Many_atom a x w hwf.1 hx
    | .list [], hd, hwf, hby, hx, hv => simp [Tr.wf] at hwf
    | .list (h :: ps), hd, hwf, hby, hx, hv =>
      simp only [FV] at hv
      obtain ⟨r, off, cap, xs, rfl, h2, h3, h4, h5, h6⟩ := hv
      simp only [Tr.wf] at hwf
      simp only [Tr.bytes] at hby
      exact l3Many_list n (l3Many_all n) h ps x r off cap _ xs ok w hd hwf.2 (by omega) hx h2 h4 rfl h3 h5 h6 hok
set_option maxHeartbeats 1000000 in
theorem specExprMany_c (s : ByteArray) (hs : s.size ≤ 1048576) (w : World) :
    Calls Tryz.prog 28 #[.string s] w fun e w' => e = .returned (.int .i64 (manyOf s.data.toList)) ∧ Below w.heap.size w w' := by
  cases hp : parseE s.data.toList with
  | none =>
    have C := Lib.hid (l2Parse_none hs hp)
    rw [manyOf_none (readEx_none2 hp)]
    clear hp
    go_enter Tryz.func28, Tryz.ntmps28
    go_wp2_with (go_at_call 39; go_must (refine (C.out _).mono ?_; rintro e w1 ⟨⟨a, p, m, c, rfl, hnl⟩, hb1⟩))
    go_ret
    exact ⟨rfl, hb1.alloc hb1.size _⟩
  | some t =>
    have C := Lib.hid (l2Parse_some hs hp)
    obtain ⟨x, hx1, hx2⟩ := readEx_asEx' hp
    have hg := parse_got (parseE_got hp).1
    have HT := Lib.hid (manyOf_some hx1)
    rw [HT.out]
    have CC : Hid (∀ (w1 W : World) (B : Nat) p m c, FV nS w1 (fun k => B ≤ k ∧ k < w1.heap.size) t (nS t (.slice p m c)) → Below w1.heap.size w1 W → Calls Tryz.prog 60 #[.agg #[.string (bs (atomOf t)), .slice p m c]] W fun e w' => e = .returned (.int .i64 (manyE x : Nat)) ∧ Below W.heap.size W w') := Lib.hid (fun w1 W B p m c hv hW =>
      l3Many_all (t.depth + 1) t x (nS t (.slice p m c)) _ W (by omega) hg.1 (by have := hg.2; omega) hx2 (hv.below hW (fun k hk => hk.2)) (fun k hk => Nat.lt_of_lt_of_le hk.2 hW.size))
    generalize manyE x = M at *
    clear hp hg hx1 hx2
    go_enter Tryz.func28, Tryz.ntmps28
    go_wp2_with (first | (go_at_call 39; go_must (refine (C.out _).mono ?_; rintro e w1 ⟨⟨p, m, c, rfl, hv⟩, hb1⟩)) | (go_at_call 60; go_must (refine (CC.out _ _ _ _ _ _ hv (below1 _ _)).mono ?_; rintro e w3 ⟨rfl, hb3⟩)))
    go_ret
    exact ⟨rfl, (hb1.alloc hb1.size _).trans (hb3.mono (by have := hb1.size; simp; omega))⟩
end Go.Proofs.YtgliggljegghhaaGreatDoor
