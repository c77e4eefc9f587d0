/- The program: expressions as texts; the kids of a text. -/
import Derived.Test.YtjncmmnbdabjnaaGreatDoorImpl2u
import Derived.Test.YtjncmmnbdabjnaaGreatDoorImpl1jM
import Derived.Test.YtjncmmnbdabjnaaGreatDoorI2p
namespace Go.Proofs.YtjncmmnbdabjnaaGreatDoor
open Go.RowKit
set_option maxRecDepth 8000
set_option linter.unusedSimpArgs false
set_option linter.unusedVariables false
theorem nm_len {a : List UInt8} (h : isNm a = true) : a.length ≤ 4 := by
  cases a with
  | nil => simp
  | cons c r => simp only [isNm, Bool.and_eq_true, decide_eq_true_eq] at h; simp only [List.length_cons]; omega
def oksE : List Ex → Prop
  | [] => True
  | e :: es => exOK e ∧ oksE es
mutual
theorem asEx_ok : ∀ (t : Tr) (x : Ex), asEx t = some x → exOK x
  | .atom a, x, h => by
    simp only [asEx, atomEx] at h
    cases hn : numOf a with
    | some n => simp only [hn, Option.some.injEq] at h; subst h; exact numOf_range hn
    | none =>
      simp only [hn] at h
      split at h
      · rename_i hm; simp only [Option.some.injEq] at h; subst h; exact nm_len hm
      · cases h
  | .list [], x, h => by simp [asEx, asExs] at h
  | .list (h0 :: ps), x, h => by
    simp only [asEx, asExs] at h
    split at h
    · match ps, h with
      | [x0, e0, b0], h =>
        simp only [asLetE] at h
        split at h
        · rename_i hx
          split at h
          · cases h
          · rename_i e' he
            split at h
            · cases h
            · rename_i b' hb
              simp only [Option.some.injEq] at h
              subst h
              exact ⟨nm_len hx, asEx_ok e0 e' he, asEx_ok b0 b' hb⟩
        · cases h
      | [], h => cases h
      | [_], h => cases h
      | [_, _], h => cases h
      | _ :: _ :: _ :: _ :: _, h => cases h
    · split at h
      · match ps, h with
        | [f0, x0, A0, B0, e0], h =>
          simp only [asFunE] at h
          split at h
          · rename_i hx
            simp only [Bool.and_eq_true] at hx
            split at h
            · cases h
            · rename_i e' he
              simp only [Option.some.injEq] at h
              subst h
              exact ⟨nm_len hx.1.1.1.1, nm_len hx.1.1.1.2, asEx_ok e0 e' he⟩
          · cases h
        | [], h => cases h
        | [_], h => cases h
        | [_, _], h => cases h
        | [_, _, _], h => cases h
        | [_, _, _, _], h => cases h
        | _ :: _ :: _ :: _ :: _ :: _ :: _, h => cases h
      · cases hk : kidsEx ps with
        | none => simp [hk] at h
        | some es =>
          simp only [hk, Option.bind_some] at h
          have hp := kidsEx_ok ps es hk
          match es, h, hp with
          | [], h, hp => cases h
          | [a], h, hp =>
            simp only [mkHead, Option.map_eq_some_iff] at h
            obtain ⟨o, ho, rfl⟩ := h
            exact hp.1
          | [a, b], h, hp =>
            simp only [mkHead, Option.map_eq_some_iff] at h
            obtain ⟨o, ho, rfl⟩ := h
            exact ⟨hp.1, hp.2.1⟩
          | [a, b, c], h, hp =>
            simp only [mkHead] at h
            split at h
            · simp only [Option.some.injEq] at h; subst h; exact ⟨hp.1, hp.2.1, hp.2.2.1⟩
            · cases h
          | _ :: _ :: _ :: _ :: _, h, hp => cases h
theorem kidsEx_ok : ∀ (ts : List Tr) (es : List Ex), kidsEx ts = some es → oksE es
  | [], es, h => by simp only [kidsEx, Option.some.injEq] at h; subst h; trivial
  | t :: ts, es, h => by
    simp only [kidsEx] at h
    split at h
    · cases h
    · rename_i e he
      split at h
      · cases h
      · rename_i es' hs
        simp only [Option.some.injEq] at h
        subst h
        exact ⟨asEx_ok t e he, kidsEx_ok ts es' hs⟩
end
set_option maxHeartbeats 400000 in
theorem exprText_c (x : Ex) (v : Value) (B : Nat) (w : World) (hn : exOK x) (hw : (formOf x).wf) (hb : (formOf x).bytes ≤ 500000000) (hv : EV w (fun k => k < B) x v) (hB : B ≤ w.heap.size) (hT : Tab w) :
    Calls Tryz.prog 53 #[v] w fun e w' => e = .returned (.string (bs (formOf x).text)) ∧ Below w.heap.size w w' := by
  obtain ⟨s, o1, o2, o3, -, -, -, -, hq⟩ := nI_named (formOf x)
  have C : Hid (Calls Tryz.prog 90 #[v] w fun e w' => (∃ p m c, e = .returned (.agg #[.string s, .slice p m c, .int .i64 o1, .int .i64 o2, .int .i64 o3]) ∧ FV nI w' (fun k => k < B ∨ (w.heap.size ≤ k ∧ k < w'.heap.size)) (formOf x) (nI (formOf x) (.slice p m c))) ∧ Below w.heap.size w w') := Lib.hid ((fm_all x v B w hn hw hb hv hB hT).mono fun e w' ⟨⟨p, m, c, h1, h2⟩, h3⟩ => ⟨⟨p, m, c, by rw [h1, hq], h2⟩, h3⟩)
  have CT : Hid (∀ (w1 : World) p m c, FV nI w1 (fun k => k < B ∨ (w.heap.size ≤ k ∧ k < w1.heap.size)) (formOf x) (nI (formOf x) (.slice p m c)) → w.heap.size ≤ w1.heap.size → Calls Tryz.prog 43 #[.agg #[.string s, .slice p m c, .int .i64 o1, .int .i64 o2, .int .i64 o3]] w1 fun e w' => e = .returned (.string (bs (formOf x).text)) ∧ Below w1.heap.size w1 w') := Lib.hid (fun w1 p m c hf hs => by
    have h := text_c (formOf x) p m c _ w1 hw (by omega) hf (fun k hk => by omega)
    have e : (nI (formOf x) (.slice p m c)).toArray = #[.string s, .slice p m c, .int .i64 o1, .int .i64 o2, .int .i64 o3] := by rw [hq]
    have e2 : (nI (formOf x) (.slice p m c)).toArray = #[.string (bs (atomOf (formOf x))), .slice p m c, .int .i64 (formOf x).bytes, .int .i64 (formOf x).size, .int .i64 (formOf x).depth] := rfl
    rw [← e2, e] at h
    exact h)
  obtain ⟨T, u, rfl⟩ := hv.iface
  generalize bs (formOf x).text = tx at *
  clear hn hw hb hv hT hq
  go_enter Tryz.func53, Tryz.ntmps53
  go_wp2_with (first | (go_at_call 90; go_must (refine (C.out).mono ?_; rintro e w1 ⟨⟨p, m, c, rfl, hf⟩, hb1⟩)) | (go_at_call 43; go_must (refine (CT.out _ _ _ _ hf hb1.size).mono ?_; rintro e w2 ⟨rfl, hb2⟩)))
  go_ret
  exact ⟨rfl, hb1.trans (hb2.mono hb1.size)⟩
/-- The texts of the kids of the expression that is a text. -/
def kidsTx (l : List UInt8) : Option (List Nm) := (readEx l).map (fun x => (kidsE x).map (fun k => (formOf k).text))
theorem kidsTx_none {l : List UInt8} (h : readEx l = none) : kidsTx l = none := by simp [kidsTx, h]
theorem kidsTx_some {l : List UInt8} {x : Ex} (h : readEx l = some x) : kidsTx l = some ((kidsE x).map (fun k => (formOf k).text)) := by simp [kidsTx, h]
theorem readEx_tree {l : List UInt8} {x : Ex} (h : readEx l = some x) : (formOf x).wf ∧ (formOf x).bytes ≤ 12000 ∧ exOK x := by
  cases hp : parse l with
  | none => rw [readEx_none hp] at h; cases h
  | some t =>
    rw [readEx_some hp] at h
    split at h
    · have hg := parse_got hp
      rw [formOf_eq t x h]
      exact ⟨hg.1, hg.2.1, asEx_ok t x h⟩
    · cases h
/-- The kids' texts by their contracts. -/
def KidCT (w : World) (ks : List Ex) (kvs : List Value) : Prop := ∀ j (hj : j < ks.length), ∃ T u, kvs[j]? = some (.iface T u) ∧ ∀ W, Below w.heap.size w W → Calls Tryz.prog 53 #[.iface T u] W fun e w' => e = .returned (.string (bs (formOf ks[j]).text)) ∧ Below W.heap.size W w'
theorem kidT_of {x : Ex} {T : TypeId} {u : Value} {w : World} {N : Nat} (hn : exOK x) (hw : (formOf x).wf) (hb : (formOf x).bytes ≤ 500000000) (hv : EV w (fun k => N ≤ k ∧ k < w.heap.size) x (.iface T u)) (hT : Tab w) :
    ∀ W, Below w.heap.size w W → Calls Tryz.prog 53 #[.iface T u] W fun e w' => e = .returned (.string (bs (formOf x).text)) ∧ Below W.heap.size W w' :=
  fun W hW => exprText_c x _ w.heap.size W hn hw hb (EV.move (fun k hk => hk.2) (fun k hk => hW.block k hk.2) _ _ hv) hW.size (hT.below hW)
set_option maxHeartbeats 4000000 in
theorem implExprKids_c (s : ByteArray) (hs : s.size ≤ 1048576) (w : World) (hT : Tab w) :
    Calls Tryz.prog 17 #[.string s] w fun e w' => PartsPost w.heap.size (kidsTx s.data.toList) e w' ∧ Below w.heap.size w w' := by
  cases hp : readEx s.data.toList with
  | none =>
    have C := Lib.hid (readExpr_none hs hp)
    have HR := Lib.hid (kidsTx_none hp)
    clear hp
    go_enter Tryz.func17, Tryz.ntmps17
    go_wp2_with (go_at_call 46; go_must (refine (C.out _).mono ?_; rintro e w1 ⟨⟨v, rfl⟩, hb1⟩))
    go_ret2
    exact ⟨by rw [HR.out]; exact ⟨_, rfl, World.ownsRow_nil _ _ _ _⟩, hb1⟩
  | some t =>
    have C := Lib.hid (readExpr_some hs hp)
    have HR := Lib.hid (kidsTx_some hp)
    obtain ⟨hw, hb, hn⟩ := readEx_tree hp
    have HTb := Lib.hid (fun (w1 : World) (h : Below w.heap.size w w1) => hT.below h)
    obtain ⟨i0, hi0, hz0, hz1, hz2⟩ := info_parts Tryz.infoStr
    clear hp hT
    match t, C, HR, hw, hb, hn with
    | .name s, C, HR, hw, hb, hn =>
      simp only [EV] at C
      go_enter Tryz.func17, Tryz.ntmps17
      go_wp2_with (first | (go_at_call 46; go_must (refine (C.out _).mono ?_; rintro e w1 ⟨⟨v, rfl, hv⟩, hb1⟩; subst hv)) | (go_at_call 213; go_must (refine (kids_nameExpr_c _ _).mono ?_; rintro e w2 ⟨rfl, hb2⟩)))
      refine wp_loop_rounds 1 ?_
      rw [rounds_succ]
      go_wp2_with fail
      go_ret2
      exact ⟨by rw [HR.out]; exact ⟨_, rfl, World.ownsRow_nil _ _ _ _⟩, hb1.trans (hb2.mono hb1.size)⟩
    | .num n, C, HR, hw, hb, hn =>
      simp only [EV] at C
      go_enter Tryz.func17, Tryz.ntmps17
      go_wp2_with (first | (go_at_call 46; go_must (refine (C.out _).mono ?_; rintro e w1 ⟨⟨v, rfl, hv⟩, hb1⟩; subst hv)) | (go_at_call 216; go_must (refine (kids_numberExpr_c _ _).mono ?_; rintro e w2 ⟨rfl, hb2⟩)))
      refine wp_loop_rounds 1 ?_
      rw [rounds_succ]
      go_wp2_with fail
      go_ret2
      exact ⟨by rw [HR.out]; exact ⟨_, rfl, World.ownsRow_nil _ _ _ _⟩, hb1.trans (hb2.mono hb1.size)⟩
    | .two .add a c, C, HR, hw, hb, hn =>
      simp only [EV, op2T, op1T] at C
      simp only [exOK] at hn
      simp only [formOf, Tr.wf, wfs, Tr.bytes, bytess] at hw hb
      have hlen : (kidsE (Ex.two Op2.add a c)).length = 2 := rfl
      generalize hX : kidsE (Ex.two Op2.add a c) = ks at *
      go_enter Tryz.func17, Tryz.ntmps17
      go_wp2_with (first | (go_at_call 46; go_must (refine (C.out _).mono ?_; rintro e w1 ⟨⟨v, rfl, hv⟩, hb1⟩; obtain ⟨x, y, rfl, hx, hy⟩ := hv; obtain ⟨Tx, ux, rfl⟩ := hx.iface; obtain ⟨Ty, uy, rfl⟩ := hy.iface)) | (go_at_call 218; go_must (refine (kids_twoKids_c Tx Ty ux uy _).mono ?_; rintro e w3 ⟨⟨b, rfl, hbB, hbl, hblk⟩, hb3⟩)))
      have HT1 := HTb.out w1 hb1
      have HK : Hid (KidCT w1 ks [Value.iface Tx ux, Value.iface Ty uy]) := Lib.hid (by
        subst hX
        intro j hj
        match j, hj with
        | 0, _ => exact ⟨_, _, rfl, kidT_of (x := a) (by simp_all) (by simp_all) (by omega) hx HT1⟩
        | 1, _ => exact ⟨_, _, rfl, kidT_of (x := c) (by simp_all) (by simp_all) (by omega) hy HT1⟩
        )
      have hS := Lib.hid (FpInv.start hb3 hblk)
      obtain ⟨kvs, hkvs⟩ : ∃ kvs, kvs = [Value.iface Tx ux, Value.iface Ty uy] := ⟨_, rfl⟩
      rw [← hkvs] at HK hS
      clear hkvs hblk hw hb hn hX HT1 HTb
      go_loopw [6, 19] (fun v1 i wr => ∃ j : Nat, j ≤ 2 ∧ i = .int .i64 j ∧ Hid (FpInv w1 b kvs ((ks.take j).map (fun k => (formOf k).text)) v1 wr)) (fun _ i _ => 2 - (intOf i).toNat)
      case atStart => exact ⟨0, Nat.zero_le _, rfl, hS⟩
      case round =>
        obtain ⟨j, hj, rfl, hI⟩ := hrel
        by_cases hlt : j < 2
        · have hjl : j < ks.length := by omega
          obtain ⟨T, u, hkv, HC⟩ := HK.out j hjl
          have c0 : wr.cell? ⟨b, j, none⟩ = some (.iface T u) := by rw [cell_of hI.out.blk]; simpa using hkv
          have CC := Lib.hid (HC wr hI.out.below)
          have HS := Lib.hid (show (ks.take (j + 1)).map (fun k => (formOf k).text) = (ks.take j).map (fun k => (formOf k).text) ++ [(formOf ks[j]).text] by rw [List.take_succ_eq_append_getElem hjl, List.map_append]; rfl)
          have hl2 : ((ks.take j).map (fun k => (formOf k).text)).length ≤ 3 := by simp only [List.length_map, List.length_take]; omega
          have hsz := hI.out.below.size
          have HO := Lib.hid hI.out.own
          generalize (formOf ks[j]).text = Q at *
          generalize (ks.take j).map (fun k => (formOf k).text) = P0 at *
          obtain ⟨p1, c1, rfl⟩ := owns_slice HO.out
          clear HC hkv HK
          go_wp2_with (first | (go_at_call 53; go_must (refine (CC.out).mono ?_; rintro e w2 ⟨rfl, hb2⟩)) | (at_builtin; go_must (refine wpList_append_str _ rfl _ _ 23 rfl w1.heap.size 9 i0 Tryz.underlying23 hi0 hz0 hz1 hz2 _ P0 rfl ((owns_below HO.out hb2).alloc _) _ [Q] rfl (strS_madeI (l := [Q]) (heap_alloc_new _ _) _ (by simp)) (by simp; omega) (by have := hb2.size; simp; omega) ?_; intro v3 w5 ho3 hg3 hv3)))
          go_roundw
          case rel => exact ⟨j + 1, by omega, by go_num, Lib.hid (by rw [HS.out]; exact hI.out.step (hb2.alloc hb2.size _) hg3 ho3 hv3)⟩
          case measure => simp [intOf]; omega
        · have : j = 2 := by omega
          subst this
          have hF := hI.out.fin
          rw [List.take_of_length_le (by omega)] at hF
          have hF := Lib.hid hF
          clear hI HK
          go_wp2_with fail
          go_ret2
          obtain ⟨⟨v9, h91, h92⟩, h93⟩ := hF.out
          simp only [Ending.returned.injEq] at h91
          subst h91
          exact ⟨by rw [HR.out]; exact ⟨_, rfl, owns_base h92 hb1.size⟩, hb1.trans (h93.mono hb1.size)⟩
    | .two .sub a c, C, HR, hw, hb, hn =>
      simp only [EV, op2T, op1T] at C
      simp only [exOK] at hn
      simp only [formOf, Tr.wf, wfs, Tr.bytes, bytess] at hw hb
      have hlen : (kidsE (Ex.two Op2.sub a c)).length = 2 := rfl
      generalize hX : kidsE (Ex.two Op2.sub a c) = ks at *
      go_enter Tryz.func17, Tryz.ntmps17
      go_wp2_with (first | (go_at_call 46; go_must (refine (C.out _).mono ?_; rintro e w1 ⟨⟨v, rfl, hv⟩, hb1⟩; obtain ⟨x, y, rfl, hx, hy⟩ := hv; obtain ⟨Tx, ux, rfl⟩ := hx.iface; obtain ⟨Ty, uy, rfl⟩ := hy.iface)) | (go_at_call 218; go_must (refine (kids_twoKids_c Tx Ty ux uy _).mono ?_; rintro e w3 ⟨⟨b, rfl, hbB, hbl, hblk⟩, hb3⟩)))
      have HT1 := HTb.out w1 hb1
      have HK : Hid (KidCT w1 ks [Value.iface Tx ux, Value.iface Ty uy]) := Lib.hid (by
        subst hX
        intro j hj
        match j, hj with
        | 0, _ => exact ⟨_, _, rfl, kidT_of (x := a) (by simp_all) (by simp_all) (by omega) hx HT1⟩
        | 1, _ => exact ⟨_, _, rfl, kidT_of (x := c) (by simp_all) (by simp_all) (by omega) hy HT1⟩
        )
      have hS := Lib.hid (FpInv.start hb3 hblk)
      obtain ⟨kvs, hkvs⟩ : ∃ kvs, kvs = [Value.iface Tx ux, Value.iface Ty uy] := ⟨_, rfl⟩
      rw [← hkvs] at HK hS
      clear hkvs hblk hw hb hn hX HT1 HTb
      go_loopw [6, 19] (fun v1 i wr => ∃ j : Nat, j ≤ 2 ∧ i = .int .i64 j ∧ Hid (FpInv w1 b kvs ((ks.take j).map (fun k => (formOf k).text)) v1 wr)) (fun _ i _ => 2 - (intOf i).toNat)
      case atStart => exact ⟨0, Nat.zero_le _, rfl, hS⟩
      case round =>
        obtain ⟨j, hj, rfl, hI⟩ := hrel
        by_cases hlt : j < 2
        · have hjl : j < ks.length := by omega
          obtain ⟨T, u, hkv, HC⟩ := HK.out j hjl
          have c0 : wr.cell? ⟨b, j, none⟩ = some (.iface T u) := by rw [cell_of hI.out.blk]; simpa using hkv
          have CC := Lib.hid (HC wr hI.out.below)
          have HS := Lib.hid (show (ks.take (j + 1)).map (fun k => (formOf k).text) = (ks.take j).map (fun k => (formOf k).text) ++ [(formOf ks[j]).text] by rw [List.take_succ_eq_append_getElem hjl, List.map_append]; rfl)
          have hl2 : ((ks.take j).map (fun k => (formOf k).text)).length ≤ 3 := by simp only [List.length_map, List.length_take]; omega
          have hsz := hI.out.below.size
          have HO := Lib.hid hI.out.own
          generalize (formOf ks[j]).text = Q at *
          generalize (ks.take j).map (fun k => (formOf k).text) = P0 at *
          obtain ⟨p1, c1, rfl⟩ := owns_slice HO.out
          clear HC hkv HK
          go_wp2_with (first | (go_at_call 53; go_must (refine (CC.out).mono ?_; rintro e w2 ⟨rfl, hb2⟩)) | (at_builtin; go_must (refine wpList_append_str _ rfl _ _ 23 rfl w1.heap.size 9 i0 Tryz.underlying23 hi0 hz0 hz1 hz2 _ P0 rfl ((owns_below HO.out hb2).alloc _) _ [Q] rfl (strS_madeI (l := [Q]) (heap_alloc_new _ _) _ (by simp)) (by simp; omega) (by have := hb2.size; simp; omega) ?_; intro v3 w5 ho3 hg3 hv3)))
          go_roundw
          case rel => exact ⟨j + 1, by omega, by go_num, Lib.hid (by rw [HS.out]; exact hI.out.step (hb2.alloc hb2.size _) hg3 ho3 hv3)⟩
          case measure => simp [intOf]; omega
        · have : j = 2 := by omega
          subst this
          have hF := hI.out.fin
          rw [List.take_of_length_le (by omega)] at hF
          have hF := Lib.hid hF
          clear hI HK
          go_wp2_with fail
          go_ret2
          obtain ⟨⟨v9, h91, h92⟩, h93⟩ := hF.out
          simp only [Ending.returned.injEq] at h91
          subst h91
          exact ⟨by rw [HR.out]; exact ⟨_, rfl, owns_base h92 hb1.size⟩, hb1.trans (h93.mono hb1.size)⟩
    | .two .mul a c, C, HR, hw, hb, hn =>
      simp only [EV, op2T, op1T] at C
      simp only [exOK] at hn
      simp only [formOf, Tr.wf, wfs, Tr.bytes, bytess] at hw hb
      have hlen : (kidsE (Ex.two Op2.mul a c)).length = 2 := rfl
      generalize hX : kidsE (Ex.two Op2.mul a c) = ks at *
      go_enter Tryz.func17, Tryz.ntmps17
      go_wp2_with (first | (go_at_call 46; go_must (refine (C.out _).mono ?_; rintro e w1 ⟨⟨v, rfl, hv⟩, hb1⟩; obtain ⟨x, y, rfl, hx, hy⟩ := hv; obtain ⟨Tx, ux, rfl⟩ := hx.iface; obtain ⟨Ty, uy, rfl⟩ := hy.iface)) | (go_at_call 218; go_must (refine (kids_twoKids_c Tx Ty ux uy _).mono ?_; rintro e w3 ⟨⟨b, rfl, hbB, hbl, hblk⟩, hb3⟩)))
      have HT1 := HTb.out w1 hb1
      have HK : Hid (KidCT w1 ks [Value.iface Tx ux, Value.iface Ty uy]) := Lib.hid (by
        subst hX
        intro j hj
        match j, hj with
        | 0, _ => exact ⟨_, _, rfl, kidT_of (x := a) (by simp_all) (by simp_all) (by omega) hx HT1⟩
        | 1, _ => exact ⟨_, _, rfl, kidT_of (x := c) (by simp_all) (by simp_all) (by omega) hy HT1⟩
        )
      have hS := Lib.hid (FpInv.start hb3 hblk)
      obtain ⟨kvs, hkvs⟩ : ∃ kvs, kvs = [Value.iface Tx ux, Value.iface Ty uy] := ⟨_, rfl⟩
      rw [← hkvs] at HK hS
      clear hkvs hblk hw hb hn hX HT1 HTb
      go_loopw [6, 19] (fun v1 i wr => ∃ j : Nat, j ≤ 2 ∧ i = .int .i64 j ∧ Hid (FpInv w1 b kvs ((ks.take j).map (fun k => (formOf k).text)) v1 wr)) (fun _ i _ => 2 - (intOf i).toNat)
      case atStart => exact ⟨0, Nat.zero_le _, rfl, hS⟩
      case round =>
        obtain ⟨j, hj, rfl, hI⟩ := hrel
        by_cases hlt : j < 2
        · have hjl : j < ks.length := by omega
          obtain ⟨T, u, hkv, HC⟩ := HK.out j hjl
          have c0 : wr.cell? ⟨b, j, none⟩ = some (.iface T u) := by rw [cell_of hI.out.blk]; simpa using hkv
          have CC := Lib.hid (HC wr hI.out.below)
          have HS := Lib.hid (show (ks.take (j + 1)).map (fun k => (formOf k).text) = (ks.take j).map (fun k => (formOf k).text) ++ [(formOf ks[j]).text] by rw [List.take_succ_eq_append_getElem hjl, List.map_append]; rfl)
          have hl2 : ((ks.take j).map (fun k => (formOf k).text)).length ≤ 3 := by simp only [List.length_map, List.length_take]; omega
          have hsz := hI.out.below.size
          have HO := Lib.hid hI.out.own
          generalize (formOf ks[j]).text = Q at *
          generalize (ks.take j).map (fun k => (formOf k).text) = P0 at *
          obtain ⟨p1, c1, rfl⟩ := owns_slice HO.out
          clear HC hkv HK
          go_wp2_with (first | (go_at_call 53; go_must (refine (CC.out).mono ?_; rintro e w2 ⟨rfl, hb2⟩)) | (at_builtin; go_must (refine wpList_append_str _ rfl _ _ 23 rfl w1.heap.size 9 i0 Tryz.underlying23 hi0 hz0 hz1 hz2 _ P0 rfl ((owns_below HO.out hb2).alloc _) _ [Q] rfl (strS_madeI (l := [Q]) (heap_alloc_new _ _) _ (by simp)) (by simp; omega) (by have := hb2.size; simp; omega) ?_; intro v3 w5 ho3 hg3 hv3)))
          go_roundw
          case rel => exact ⟨j + 1, by omega, by go_num, Lib.hid (by rw [HS.out]; exact hI.out.step (hb2.alloc hb2.size _) hg3 ho3 hv3)⟩
          case measure => simp [intOf]; omega
        · have : j = 2 := by omega
          subst this
          have hF := hI.out.fin
          rw [List.take_of_length_le (by omega)] at hF
          have hF := Lib.hid hF
          clear hI HK
          go_wp2_with fail
          go_ret2
          obtain ⟨⟨v9, h91, h92⟩, h93⟩ := hF.out
          simp only [Ending.returned.injEq] at h91
          subst h91
          exact ⟨by rw [HR.out]; exact ⟨_, rfl, owns_base h92 hb1.size⟩, hb1.trans (h93.mono hb1.size)⟩
    | .two .call a c, C, HR, hw, hb, hn =>
      simp only [EV, op2T, op1T] at C
      simp only [exOK] at hn
      simp only [formOf, Tr.wf, wfs, Tr.bytes, bytess] at hw hb
      have hlen : (kidsE (Ex.two Op2.call a c)).length = 2 := rfl
      generalize hX : kidsE (Ex.two Op2.call a c) = ks at *
      go_enter Tryz.func17, Tryz.ntmps17
      go_wp2_with (first | (go_at_call 46; go_must (refine (C.out _).mono ?_; rintro e w1 ⟨⟨v, rfl, hv⟩, hb1⟩; obtain ⟨x, y, rfl, hx, hy⟩ := hv; obtain ⟨Tx, ux, rfl⟩ := hx.iface; obtain ⟨Ty, uy, rfl⟩ := hy.iface)) | (go_at_call 218; go_must (refine (kids_twoKids_c Tx Ty ux uy _).mono ?_; rintro e w3 ⟨⟨b, rfl, hbB, hbl, hblk⟩, hb3⟩)))
      have HT1 := HTb.out w1 hb1
      have HK : Hid (KidCT w1 ks [Value.iface Tx ux, Value.iface Ty uy]) := Lib.hid (by
        subst hX
        intro j hj
        match j, hj with
        | 0, _ => exact ⟨_, _, rfl, kidT_of (x := a) (by simp_all) (by simp_all) (by omega) hx HT1⟩
        | 1, _ => exact ⟨_, _, rfl, kidT_of (x := c) (by simp_all) (by simp_all) (by omega) hy HT1⟩
        )
      have hS := Lib.hid (FpInv.start hb3 hblk)
      obtain ⟨kvs, hkvs⟩ : ∃ kvs, kvs = [Value.iface Tx ux, Value.iface Ty uy] := ⟨_, rfl⟩
      rw [← hkvs] at HK hS
      clear hkvs hblk hw hb hn hX HT1 HTb
      go_loopw [6, 19] (fun v1 i wr => ∃ j : Nat, j ≤ 2 ∧ i = .int .i64 j ∧ Hid (FpInv w1 b kvs ((ks.take j).map (fun k => (formOf k).text)) v1 wr)) (fun _ i _ => 2 - (intOf i).toNat)
      case atStart => exact ⟨0, Nat.zero_le _, rfl, hS⟩
      case round =>
        obtain ⟨j, hj, rfl, hI⟩ := hrel
        by_cases hlt : j < 2
        · have hjl : j < ks.length := by omega
          obtain ⟨T, u, hkv, HC⟩ := HK.out j hjl
          have c0 : wr.cell? ⟨b, j, none⟩ = some (.iface T u) := by rw [cell_of hI.out.blk]; simpa using hkv
          have CC := Lib.hid (HC wr hI.out.below)
          have HS := Lib.hid (show (ks.take (j + 1)).map (fun k => (formOf k).text) = (ks.take j).map (fun k => (formOf k).text) ++ [(formOf ks[j]).text] by rw [List.take_succ_eq_append_getElem hjl, List.map_append]; rfl)
          have hl2 : ((ks.take j).map (fun k => (formOf k).text)).length ≤ 3 := by simp only [List.length_map, List.length_take]; omega
          have hsz := hI.out.below.size
          have HO := Lib.hid hI.out.own
          generalize (formOf ks[j]).text = Q at *
          generalize (ks.take j).map (fun k => (formOf k).text) = P0 at *
          obtain ⟨p1, c1, rfl⟩ := owns_slice HO.out
          clear HC hkv HK
          go_wp2_with (first | (go_at_call 53; go_must (refine (CC.out).mono ?_; rintro e w2 ⟨rfl, hb2⟩)) | (at_builtin; go_must (refine wpList_append_str _ rfl _ _ 23 rfl w1.heap.size 9 i0 Tryz.underlying23 hi0 hz0 hz1 hz2 _ P0 rfl ((owns_below HO.out hb2).alloc _) _ [Q] rfl (strS_madeI (l := [Q]) (heap_alloc_new _ _) _ (by simp)) (by simp; omega) (by have := hb2.size; simp; omega) ?_; intro v3 w5 ho3 hg3 hv3)))
          go_roundw
          case rel => exact ⟨j + 1, by omega, by go_num, Lib.hid (by rw [HS.out]; exact hI.out.step (hb2.alloc hb2.size _) hg3 ho3 hv3)⟩
          case measure => simp [intOf]; omega
        · have : j = 2 := by omega
          subst this
          have hF := hI.out.fin
          rw [List.take_of_length_le (by omega)] at hF
          have hF := Lib.hid hF
          clear hI HK
          go_wp2_with fail
          go_ret2
          obtain ⟨⟨v9, h91, h92⟩, h93⟩ := hF.out
          simp only [Ending.returned.injEq] at h91
          subst h91
          exact ⟨by rw [HR.out]; exact ⟨_, rfl, owns_base h92 hb1.size⟩, hb1.trans (h93.mono hb1.size)⟩
    | .two .pair a c, C, HR, hw, hb, hn =>
      simp only [EV, op2T, op1T] at C
      simp only [exOK] at hn
      simp only [formOf, Tr.wf, wfs, Tr.bytes, bytess] at hw hb
      have hlen : (kidsE (Ex.two Op2.pair a c)).length = 2 := rfl
      generalize hX : kidsE (Ex.two Op2.pair a c) = ks at *
      go_enter Tryz.func17, Tryz.ntmps17
      go_wp2_with (first | (go_at_call 46; go_must (refine (C.out _).mono ?_; rintro e w1 ⟨⟨v, rfl, hv⟩, hb1⟩; obtain ⟨x, y, rfl, hx, hy⟩ := hv; obtain ⟨Tx, ux, rfl⟩ := hx.iface; obtain ⟨Ty, uy, rfl⟩ := hy.iface)) | (go_at_call 218; go_must (refine (kids_twoKids_c Tx Ty ux uy _).mono ?_; rintro e w3 ⟨⟨b, rfl, hbB, hbl, hblk⟩, hb3⟩)))
      have HT1 := HTb.out w1 hb1
      have HK : Hid (KidCT w1 ks [Value.iface Tx ux, Value.iface Ty uy]) := Lib.hid (by
        subst hX
        intro j hj
        match j, hj with
        | 0, _ => exact ⟨_, _, rfl, kidT_of (x := a) (by simp_all) (by simp_all) (by omega) hx HT1⟩
        | 1, _ => exact ⟨_, _, rfl, kidT_of (x := c) (by simp_all) (by simp_all) (by omega) hy HT1⟩
        )
      have hS := Lib.hid (FpInv.start hb3 hblk)
      obtain ⟨kvs, hkvs⟩ : ∃ kvs, kvs = [Value.iface Tx ux, Value.iface Ty uy] := ⟨_, rfl⟩
      rw [← hkvs] at HK hS
      clear hkvs hblk hw hb hn hX HT1 HTb
      go_loopw [6, 19] (fun v1 i wr => ∃ j : Nat, j ≤ 2 ∧ i = .int .i64 j ∧ Hid (FpInv w1 b kvs ((ks.take j).map (fun k => (formOf k).text)) v1 wr)) (fun _ i _ => 2 - (intOf i).toNat)
      case atStart => exact ⟨0, Nat.zero_le _, rfl, hS⟩
      case round =>
        obtain ⟨j, hj, rfl, hI⟩ := hrel
        by_cases hlt : j < 2
        · have hjl : j < ks.length := by omega
          obtain ⟨T, u, hkv, HC⟩ := HK.out j hjl
          have c0 : wr.cell? ⟨b, j, none⟩ = some (.iface T u) := by rw [cell_of hI.out.blk]; simpa using hkv
          have CC := Lib.hid (HC wr hI.out.below)
          have HS := Lib.hid (show (ks.take (j + 1)).map (fun k => (formOf k).text) = (ks.take j).map (fun k => (formOf k).text) ++ [(formOf ks[j]).text] by rw [List.take_succ_eq_append_getElem hjl, List.map_append]; rfl)
          have hl2 : ((ks.take j).map (fun k => (formOf k).text)).length ≤ 3 := by simp only [List.length_map, List.length_take]; omega
          have hsz := hI.out.below.size
          have HO := Lib.hid hI.out.own
          generalize (formOf ks[j]).text = Q at *
          generalize (ks.take j).map (fun k => (formOf k).text) = P0 at *
          obtain ⟨p1, c1, rfl⟩ := owns_slice HO.out
          clear HC hkv HK
          go_wp2_with (first | (go_at_call 53; go_must (refine (CC.out).mono ?_; rintro e w2 ⟨rfl, hb2⟩)) | (at_builtin; go_must (refine wpList_append_str _ rfl _ _ 23 rfl w1.heap.size 9 i0 Tryz.underlying23 hi0 hz0 hz1 hz2 _ P0 rfl ((owns_below HO.out hb2).alloc _) _ [Q] rfl (strS_madeI (l := [Q]) (heap_alloc_new _ _) _ (by simp)) (by simp; omega) (by have := hb2.size; simp; omega) ?_; intro v3 w5 ho3 hg3 hv3)))
          go_roundw
          case rel => exact ⟨j + 1, by omega, by go_num, Lib.hid (by rw [HS.out]; exact hI.out.step (hb2.alloc hb2.size _) hg3 ho3 hv3)⟩
          case measure => simp [intOf]; omega
        · have : j = 2 := by omega
          subst this
          have hF := hI.out.fin
          rw [List.take_of_length_le (by omega)] at hF
          have hF := Lib.hid hF
          clear hI HK
          go_wp2_with fail
          go_ret2
          obtain ⟨⟨v9, h91, h92⟩, h93⟩ := hF.out
          simp only [Ending.returned.injEq] at h91
          subst h91
          exact ⟨by rw [HR.out]; exact ⟨_, rfl, owns_base h92 hb1.size⟩, hb1.trans (h93.mono hb1.size)⟩
    | .one .fst a, C, HR, hw, hb, hn =>
      simp only [EV, op2T, op1T] at C
      simp only [exOK] at hn
      simp only [formOf, Tr.wf, wfs, Tr.bytes, bytess] at hw hb
      have hlen : (kidsE (Ex.one Op1.fst a)).length = 1 := rfl
      generalize hX : kidsE (Ex.one Op1.fst a) = ks at *
      go_enter Tryz.func17, Tryz.ntmps17
      go_wp2_with (first | (go_at_call 46; go_must (refine (C.out _).mono ?_; rintro e w1 ⟨⟨v, rfl, hv⟩, hb1⟩; obtain ⟨x, rfl, hx⟩ := hv; obtain ⟨Tx, ux, rfl⟩ := hx.iface)) | (go_at_call 233; go_must (refine (kids_oneKid_c Tx ux _).mono ?_; rintro e w3 ⟨⟨b, rfl, hbB, hbl, hblk⟩, hb3⟩)))
      have HT1 := HTb.out w1 hb1
      have HK : Hid (KidCT w1 ks [Value.iface Tx ux]) := Lib.hid (by
        subst hX
        intro j hj
        match j, hj with
        | 0, _ => exact ⟨_, _, rfl, kidT_of (x := a) (by simp_all) (by simp_all) (by omega) hx HT1⟩
        )
      have hS := Lib.hid (FpInv.start hb3 hblk)
      obtain ⟨kvs, hkvs⟩ : ∃ kvs, kvs = [Value.iface Tx ux] := ⟨_, rfl⟩
      rw [← hkvs] at HK hS
      clear hkvs hblk hw hb hn hX HT1 HTb
      go_loopw [6, 19] (fun v1 i wr => ∃ j : Nat, j ≤ 1 ∧ i = .int .i64 j ∧ Hid (FpInv w1 b kvs ((ks.take j).map (fun k => (formOf k).text)) v1 wr)) (fun _ i _ => 1 - (intOf i).toNat)
      case atStart => exact ⟨0, Nat.zero_le _, rfl, hS⟩
      case round =>
        obtain ⟨j, hj, rfl, hI⟩ := hrel
        by_cases hlt : j < 1
        · have hjl : j < ks.length := by omega
          obtain ⟨T, u, hkv, HC⟩ := HK.out j hjl
          have c0 : wr.cell? ⟨b, j, none⟩ = some (.iface T u) := by rw [cell_of hI.out.blk]; simpa using hkv
          have CC := Lib.hid (HC wr hI.out.below)
          have HS := Lib.hid (show (ks.take (j + 1)).map (fun k => (formOf k).text) = (ks.take j).map (fun k => (formOf k).text) ++ [(formOf ks[j]).text] by rw [List.take_succ_eq_append_getElem hjl, List.map_append]; rfl)
          have hl2 : ((ks.take j).map (fun k => (formOf k).text)).length ≤ 3 := by simp only [List.length_map, List.length_take]; omega
          have hsz := hI.out.below.size
          have HO := Lib.hid hI.out.own
          generalize (formOf ks[j]).text = Q at *
          generalize (ks.take j).map (fun k => (formOf k).text) = P0 at *
          obtain ⟨p1, c1, rfl⟩ := owns_slice HO.out
          clear HC hkv HK
          go_wp2_with (first | (go_at_call 53; go_must (refine (CC.out).mono ?_; rintro e w2 ⟨rfl, hb2⟩)) | (at_builtin; go_must (refine wpList_append_str _ rfl _ _ 23 rfl w1.heap.size 9 i0 Tryz.underlying23 hi0 hz0 hz1 hz2 _ P0 rfl ((owns_below HO.out hb2).alloc _) _ [Q] rfl (strS_madeI (l := [Q]) (heap_alloc_new _ _) _ (by simp)) (by simp; omega) (by have := hb2.size; simp; omega) ?_; intro v3 w5 ho3 hg3 hv3)))
          go_roundw
          case rel => exact ⟨j + 1, by omega, by go_num, Lib.hid (by rw [HS.out]; exact hI.out.step (hb2.alloc hb2.size _) hg3 ho3 hv3)⟩
          case measure => simp [intOf]; omega
        · have : j = 1 := by omega
          subst this
          have hF := hI.out.fin
          rw [List.take_of_length_le (by omega)] at hF
          have hF := Lib.hid hF
          clear hI HK
          go_wp2_with fail
          go_ret2
          obtain ⟨⟨v9, h91, h92⟩, h93⟩ := hF.out
          simp only [Ending.returned.injEq] at h91
          subst h91
          exact ⟨by rw [HR.out]; exact ⟨_, rfl, owns_base h92 hb1.size⟩, hb1.trans (h93.mono hb1.size)⟩
    | .one .snd a, C, HR, hw, hb, hn =>
      simp only [EV, op2T, op1T] at C
      simp only [exOK] at hn
      simp only [formOf, Tr.wf, wfs, Tr.bytes, bytess] at hw hb
      have hlen : (kidsE (Ex.one Op1.snd a)).length = 1 := rfl
      generalize hX : kidsE (Ex.one Op1.snd a) = ks at *
      go_enter Tryz.func17, Tryz.ntmps17
      go_wp2_with (first | (go_at_call 46; go_must (refine (C.out _).mono ?_; rintro e w1 ⟨⟨v, rfl, hv⟩, hb1⟩; obtain ⟨x, rfl, hx⟩ := hv; obtain ⟨Tx, ux, rfl⟩ := hx.iface)) | (go_at_call 233; go_must (refine (kids_oneKid_c Tx ux _).mono ?_; rintro e w3 ⟨⟨b, rfl, hbB, hbl, hblk⟩, hb3⟩)))
      have HT1 := HTb.out w1 hb1
      have HK : Hid (KidCT w1 ks [Value.iface Tx ux]) := Lib.hid (by
        subst hX
        intro j hj
        match j, hj with
        | 0, _ => exact ⟨_, _, rfl, kidT_of (x := a) (by simp_all) (by simp_all) (by omega) hx HT1⟩
        )
      have hS := Lib.hid (FpInv.start hb3 hblk)
      obtain ⟨kvs, hkvs⟩ : ∃ kvs, kvs = [Value.iface Tx ux] := ⟨_, rfl⟩
      rw [← hkvs] at HK hS
      clear hkvs hblk hw hb hn hX HT1 HTb
      go_loopw [6, 19] (fun v1 i wr => ∃ j : Nat, j ≤ 1 ∧ i = .int .i64 j ∧ Hid (FpInv w1 b kvs ((ks.take j).map (fun k => (formOf k).text)) v1 wr)) (fun _ i _ => 1 - (intOf i).toNat)
      case atStart => exact ⟨0, Nat.zero_le _, rfl, hS⟩
      case round =>
        obtain ⟨j, hj, rfl, hI⟩ := hrel
        by_cases hlt : j < 1
        · have hjl : j < ks.length := by omega
          obtain ⟨T, u, hkv, HC⟩ := HK.out j hjl
          have c0 : wr.cell? ⟨b, j, none⟩ = some (.iface T u) := by rw [cell_of hI.out.blk]; simpa using hkv
          have CC := Lib.hid (HC wr hI.out.below)
          have HS := Lib.hid (show (ks.take (j + 1)).map (fun k => (formOf k).text) = (ks.take j).map (fun k => (formOf k).text) ++ [(formOf ks[j]).text] by rw [List.take_succ_eq_append_getElem hjl, List.map_append]; rfl)
          have hl2 : ((ks.take j).map (fun k => (formOf k).text)).length ≤ 3 := by simp only [List.length_map, List.length_take]; omega
          have hsz := hI.out.below.size
          have HO := Lib.hid hI.out.own
          generalize (formOf ks[j]).text = Q at *
          generalize (ks.take j).map (fun k => (formOf k).text) = P0 at *
          obtain ⟨p1, c1, rfl⟩ := owns_slice HO.out
          clear HC hkv HK
          go_wp2_with (first | (go_at_call 53; go_must (refine (CC.out).mono ?_; rintro e w2 ⟨rfl, hb2⟩)) | (at_builtin; go_must (refine wpList_append_str _ rfl _ _ 23 rfl w1.heap.size 9 i0 Tryz.underlying23 hi0 hz0 hz1 hz2 _ P0 rfl ((owns_below HO.out hb2).alloc _) _ [Q] rfl (strS_madeI (l := [Q]) (heap_alloc_new _ _) _ (by simp)) (by simp; omega) (by have := hb2.size; simp; omega) ?_; intro v3 w5 ho3 hg3 hv3)))
          go_roundw
          case rel => exact ⟨j + 1, by omega, by go_num, Lib.hid (by rw [HS.out]; exact hI.out.step (hb2.alloc hb2.size _) hg3 ho3 hv3)⟩
          case measure => simp [intOf]; omega
        · have : j = 1 := by omega
          subst this
          have hF := hI.out.fin
          rw [List.take_of_length_le (by omega)] at hF
          have hF := Lib.hid hF
          clear hI HK
          go_wp2_with fail
          go_ret2
          obtain ⟨⟨v9, h91, h92⟩, h93⟩ := hF.out
          simp only [Ending.returned.injEq] at h91
          subst h91
          exact ⟨by rw [HR.out]; exact ⟨_, rfl, owns_base h92 hb1.size⟩, hb1.trans (h93.mono hb1.size)⟩
    | .cond a c d, C, HR, hw, hb, hn =>
      simp only [EV, op2T, op1T] at C
      simp only [exOK] at hn
      simp only [formOf, Tr.wf, wfs, Tr.bytes, bytess] at hw hb
      have hlen : (kidsE (Ex.cond a c d)).length = 3 := rfl
      generalize hX : kidsE (Ex.cond a c d) = ks at *
      go_enter Tryz.func17, Tryz.ntmps17
      go_wp2_with (first | (go_at_call 46; go_must (refine (C.out _).mono ?_; rintro e w1 ⟨⟨v, rfl, hv⟩, hb1⟩; obtain ⟨x, y, z, rfl, hx, hy, hz⟩ := hv; obtain ⟨Tx, ux, rfl⟩ := hx.iface; obtain ⟨Ty, uy, rfl⟩ := hy.iface; obtain ⟨Tz, uz, rfl⟩ := hz.iface)) | (go_at_call 227; go_must (refine (kids_ifExpr_c Tx Ty Tz ux uy uz _).mono ?_; rintro e w3 ⟨⟨b, rfl, hbB, hbl, hblk⟩, hb3⟩)))
      have HT1 := HTb.out w1 hb1
      have HK : Hid (KidCT w1 ks [Value.iface Tx ux, Value.iface Ty uy, Value.iface Tz uz]) := Lib.hid (by
        subst hX
        intro j hj
        match j, hj with
        | 0, _ => exact ⟨_, _, rfl, kidT_of (x := a) (by simp_all) (by simp_all) (by omega) hx HT1⟩
        | 1, _ => exact ⟨_, _, rfl, kidT_of (x := c) (by simp_all) (by simp_all) (by omega) hy HT1⟩
        | 2, _ => exact ⟨_, _, rfl, kidT_of (x := d) (by simp_all) (by simp_all) (by omega) hz HT1⟩
        )
      have hS := Lib.hid (FpInv.start hb3 hblk)
      obtain ⟨kvs, hkvs⟩ : ∃ kvs, kvs = [Value.iface Tx ux, Value.iface Ty uy, Value.iface Tz uz] := ⟨_, rfl⟩
      rw [← hkvs] at HK hS
      clear hkvs hblk hw hb hn hX HT1 HTb
      go_loopw [6, 19] (fun v1 i wr => ∃ j : Nat, j ≤ 3 ∧ i = .int .i64 j ∧ Hid (FpInv w1 b kvs ((ks.take j).map (fun k => (formOf k).text)) v1 wr)) (fun _ i _ => 3 - (intOf i).toNat)
      case atStart => exact ⟨0, Nat.zero_le _, rfl, hS⟩
      case round =>
        obtain ⟨j, hj, rfl, hI⟩ := hrel
        by_cases hlt : j < 3
        · have hjl : j < ks.length := by omega
          obtain ⟨T, u, hkv, HC⟩ := HK.out j hjl
          have c0 : wr.cell? ⟨b, j, none⟩ = some (.iface T u) := by rw [cell_of hI.out.blk]; simpa using hkv
          have CC := Lib.hid (HC wr hI.out.below)
          have HS := Lib.hid (show (ks.take (j + 1)).map (fun k => (formOf k).text) = (ks.take j).map (fun k => (formOf k).text) ++ [(formOf ks[j]).text] by rw [List.take_succ_eq_append_getElem hjl, List.map_append]; rfl)
          have hl2 : ((ks.take j).map (fun k => (formOf k).text)).length ≤ 3 := by simp only [List.length_map, List.length_take]; omega
          have hsz := hI.out.below.size
          have HO := Lib.hid hI.out.own
          generalize (formOf ks[j]).text = Q at *
          generalize (ks.take j).map (fun k => (formOf k).text) = P0 at *
          obtain ⟨p1, c1, rfl⟩ := owns_slice HO.out
          clear HC hkv HK
          go_wp2_with (first | (go_at_call 53; go_must (refine (CC.out).mono ?_; rintro e w2 ⟨rfl, hb2⟩)) | (at_builtin; go_must (refine wpList_append_str _ rfl _ _ 23 rfl w1.heap.size 9 i0 Tryz.underlying23 hi0 hz0 hz1 hz2 _ P0 rfl ((owns_below HO.out hb2).alloc _) _ [Q] rfl (strS_madeI (l := [Q]) (heap_alloc_new _ _) _ (by simp)) (by simp; omega) (by have := hb2.size; simp; omega) ?_; intro v3 w5 ho3 hg3 hv3)))
          go_roundw
          case rel => exact ⟨j + 1, by omega, by go_num, Lib.hid (by rw [HS.out]; exact hI.out.step (hb2.alloc hb2.size _) hg3 ho3 hv3)⟩
          case measure => simp [intOf]; omega
        · have : j = 3 := by omega
          subst this
          have hF := hI.out.fin
          rw [List.take_of_length_le (by omega)] at hF
          have hF := Lib.hid hF
          clear hI HK
          go_wp2_with fail
          go_ret2
          obtain ⟨⟨v9, h91, h92⟩, h93⟩ := hF.out
          simp only [Ending.returned.injEq] at h91
          subst h91
          exact ⟨by rw [HR.out]; exact ⟨_, rfl, owns_base h92 hb1.size⟩, hb1.trans (h93.mono hb1.size)⟩
    | .lete nm a c, C, HR, hw, hb, hn =>
      simp only [EV, op2T, op1T] at C
      simp only [exOK] at hn
      simp only [formOf, Tr.wf, wfs, Tr.bytes, bytess] at hw hb
      have hlen : (kidsE (Ex.lete nm a c)).length = 2 := rfl
      generalize hX : kidsE (Ex.lete nm a c) = ks at *
      go_enter Tryz.func17, Tryz.ntmps17
      go_wp2_with (first | (go_at_call 46; go_must (refine (C.out _).mono ?_; rintro e w1 ⟨⟨v, rfl, hv⟩, hb1⟩; obtain ⟨x, y, rfl, hx, hy⟩ := hv; obtain ⟨Tx, ux, rfl⟩ := hx.iface; obtain ⟨Ty, uy, rfl⟩ := hy.iface)) | (go_at_call 207; go_must (refine (kids_letExpr_c Tx Ty _ ux uy _).mono ?_; rintro e w3 ⟨⟨b, rfl, hbB, hbl, hblk⟩, hb3⟩)))
      have HT1 := HTb.out w1 hb1
      have HK : Hid (KidCT w1 ks [Value.iface Tx ux, Value.iface Ty uy]) := Lib.hid (by
        subst hX
        intro j hj
        match j, hj with
        | 0, _ => exact ⟨_, _, rfl, kidT_of (x := a) (by simp_all) (by simp_all) (by omega) hx HT1⟩
        | 1, _ => exact ⟨_, _, rfl, kidT_of (x := c) (by simp_all) (by simp_all) (by omega) hy HT1⟩
        )
      have hS := Lib.hid (FpInv.start hb3 hblk)
      obtain ⟨kvs, hkvs⟩ : ∃ kvs, kvs = [Value.iface Tx ux, Value.iface Ty uy] := ⟨_, rfl⟩
      rw [← hkvs] at HK hS
      clear hkvs hblk hw hb hn hX HT1 HTb
      go_loopw [6, 19] (fun v1 i wr => ∃ j : Nat, j ≤ 2 ∧ i = .int .i64 j ∧ Hid (FpInv w1 b kvs ((ks.take j).map (fun k => (formOf k).text)) v1 wr)) (fun _ i _ => 2 - (intOf i).toNat)
      case atStart => exact ⟨0, Nat.zero_le _, rfl, hS⟩
      case round =>
        obtain ⟨j, hj, rfl, hI⟩ := hrel
        by_cases hlt : j < 2
        · have hjl : j < ks.length := by omega
          obtain ⟨T, u, hkv, HC⟩ := HK.out j hjl
          have c0 : wr.cell? ⟨b, j, none⟩ = some (.iface T u) := by rw [cell_of hI.out.blk]; simpa using hkv
          have CC := Lib.hid (HC wr hI.out.below)
          have HS := Lib.hid (show (ks.take (j + 1)).map (fun k => (formOf k).text) = (ks.take j).map (fun k => (formOf k).text) ++ [(formOf ks[j]).text] by rw [List.take_succ_eq_append_getElem hjl, List.map_append]; rfl)
          have hl2 : ((ks.take j).map (fun k => (formOf k).text)).length ≤ 3 := by simp only [List.length_map, List.length_take]; omega
          have hsz := hI.out.below.size
          have HO := Lib.hid hI.out.own
          generalize (formOf ks[j]).text = Q at *
          generalize (ks.take j).map (fun k => (formOf k).text) = P0 at *
          obtain ⟨p1, c1, rfl⟩ := owns_slice HO.out
          clear HC hkv HK
          go_wp2_with (first | (go_at_call 53; go_must (refine (CC.out).mono ?_; rintro e w2 ⟨rfl, hb2⟩)) | (at_builtin; go_must (refine wpList_append_str _ rfl _ _ 23 rfl w1.heap.size 9 i0 Tryz.underlying23 hi0 hz0 hz1 hz2 _ P0 rfl ((owns_below HO.out hb2).alloc _) _ [Q] rfl (strS_madeI (l := [Q]) (heap_alloc_new _ _) _ (by simp)) (by simp; omega) (by have := hb2.size; simp; omega) ?_; intro v3 w5 ho3 hg3 hv3)))
          go_roundw
          case rel => exact ⟨j + 1, by omega, by go_num, Lib.hid (by rw [HS.out]; exact hI.out.step (hb2.alloc hb2.size _) hg3 ho3 hv3)⟩
          case measure => simp [intOf]; omega
        · have : j = 2 := by omega
          subst this
          have hF := hI.out.fin
          rw [List.take_of_length_le (by omega)] at hF
          have hF := Lib.hid hF
          clear hI HK
          go_wp2_with fail
          go_ret2
          obtain ⟨⟨v9, h91, h92⟩, h93⟩ := hF.out
          simp only [Ending.returned.injEq] at h91
          subst h91
          exact ⟨by rw [HR.out]; exact ⟨_, rfl, owns_base h92 hb1.size⟩, hb1.trans (h93.mono hb1.size)⟩
    | .func f nm At Bt c, C, HR, hw, hb, hn =>
      simp only [EV, op2T, op1T] at C
      simp only [exOK] at hn
      simp only [formOf, Tr.wf, wfs, Tr.bytes, bytess] at hw hb
      have hlen : (kidsE (Ex.func f nm At Bt c)).length = 1 := rfl
      generalize hX : kidsE (Ex.func f nm At Bt c) = ks at *
      obtain ⟨la, lb, lc, ld, -, -, -, -, hnA⟩ := nI_named At
      obtain ⟨ma, mb, mc, md, -, -, -, -, hnB⟩ := nI_named Bt
      simp only [hnA, hnB, List.cons_append, List.nil_append] at C
      clear hnA hnB
      go_enter Tryz.func17, Tryz.ntmps17
      go_wp2_with (first | (go_at_call 46; go_must (refine (C.out _).mono ?_; rintro e w1 ⟨⟨v, rfl, hv⟩, hb1⟩; obtain ⟨pa, na, ca, pb, nb, cb, y, rfl, hA, hBt, hy⟩ := hv; obtain ⟨Ty, uy, rfl⟩ := hy.iface)) | (go_at_call 210; go_must (refine (kids_funExpr_c Ty _ _ _ _ _ _ _ _ _ _ _ _ uy _).mono ?_; rintro e w3 ⟨⟨b, rfl, hbB, hbl, hblk⟩, hb3⟩)))
      have HT1 := HTb.out w1 hb1
      have HK : Hid (KidCT w1 ks [Value.iface Ty uy]) := Lib.hid (by
        subst hX
        intro j hj
        match j, hj with
        | 0, _ => exact ⟨_, _, rfl, kidT_of (x := c) (by simp_all) (by simp_all) (by omega) hy HT1⟩
        )
      have hS := Lib.hid (FpInv.start hb3 hblk)
      obtain ⟨kvs, hkvs⟩ : ∃ kvs, kvs = [Value.iface Ty uy] := ⟨_, rfl⟩
      rw [← hkvs] at HK hS
      clear hkvs hblk hw hb hn hX HT1 HTb
      go_loopw [6, 19] (fun v1 i wr => ∃ j : Nat, j ≤ 1 ∧ i = .int .i64 j ∧ Hid (FpInv w1 b kvs ((ks.take j).map (fun k => (formOf k).text)) v1 wr)) (fun _ i _ => 1 - (intOf i).toNat)
      case atStart => exact ⟨0, Nat.zero_le _, rfl, hS⟩
      case round =>
        obtain ⟨j, hj, rfl, hI⟩ := hrel
        by_cases hlt : j < 1
        · have hjl : j < ks.length := by omega
          obtain ⟨T, u, hkv, HC⟩ := HK.out j hjl
          have c0 : wr.cell? ⟨b, j, none⟩ = some (.iface T u) := by rw [cell_of hI.out.blk]; simpa using hkv
          have CC := Lib.hid (HC wr hI.out.below)
          have HS := Lib.hid (show (ks.take (j + 1)).map (fun k => (formOf k).text) = (ks.take j).map (fun k => (formOf k).text) ++ [(formOf ks[j]).text] by rw [List.take_succ_eq_append_getElem hjl, List.map_append]; rfl)
          have hl2 : ((ks.take j).map (fun k => (formOf k).text)).length ≤ 3 := by simp only [List.length_map, List.length_take]; omega
          have hsz := hI.out.below.size
          have HO := Lib.hid hI.out.own
          generalize (formOf ks[j]).text = Q at *
          generalize (ks.take j).map (fun k => (formOf k).text) = P0 at *
          obtain ⟨p1, c1, rfl⟩ := owns_slice HO.out
          clear HC hkv HK
          go_wp2_with (first | (go_at_call 53; go_must (refine (CC.out).mono ?_; rintro e w2 ⟨rfl, hb2⟩)) | (at_builtin; go_must (refine wpList_append_str _ rfl _ _ 23 rfl w1.heap.size 9 i0 Tryz.underlying23 hi0 hz0 hz1 hz2 _ P0 rfl ((owns_below HO.out hb2).alloc _) _ [Q] rfl (strS_madeI (l := [Q]) (heap_alloc_new _ _) _ (by simp)) (by simp; omega) (by have := hb2.size; simp; omega) ?_; intro v3 w5 ho3 hg3 hv3)))
          go_roundw
          case rel => exact ⟨j + 1, by omega, by go_num, Lib.hid (by rw [HS.out]; exact hI.out.step (hb2.alloc hb2.size _) hg3 ho3 hv3)⟩
          case measure => simp [intOf]; omega
        · have : j = 1 := by omega
          subst this
          have hF := hI.out.fin
          rw [List.take_of_length_le (by omega)] at hF
          have hF := Lib.hid hF
          clear hI HK
          go_wp2_with fail
          go_ret2
          obtain ⟨⟨v9, h91, h92⟩, h93⟩ := hF.out
          simp only [Ending.returned.injEq] at h91
          subst h91
          exact ⟨by rw [HR.out]; exact ⟨_, rfl, owns_base h92 hb1.size⟩, hb1.trans (h93.mono hb1.size)⟩
end Go.Proofs.YtjncmmnbdabjnaaGreatDoor
