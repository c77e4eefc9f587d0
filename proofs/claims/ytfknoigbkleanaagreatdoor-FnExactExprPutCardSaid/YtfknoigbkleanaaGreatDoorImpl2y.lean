/- The program's ExprPut. -/
import Derived.Test.YtfknoigbkleanaaGreatDoorImpl2v
import Derived.Test.YtfknoigbkleanaaGreatDoorImpl2x
namespace Go.Proofs.YtfknoigbkleanaaGreatDoor
open Go.RowKit
set_option maxRecDepth 8000
set_option linter.unusedSimpArgs false
set_option linter.unusedVariables false
theorem putE_ok {name : Nm} {b : Ex} (hb : exOK b) : ∀ x : Ex, exOK x → exOK (putE name b x)
  | .name s, h => by simp only [putE]; split; exact hb; exact h
  | .num n, h => h
  | .two o x y, h => ⟨putE_ok hb x h.1, putE_ok hb y h.2⟩
  | .one o x, h => putE_ok hb x h
  | .cond x y z, h => ⟨putE_ok hb x h.1, putE_ok hb y h.2.1, putE_ok hb z h.2.2⟩
  | .lete s x y, h => by simp only [putE]; refine ⟨h.1, putE_ok hb x h.2.1, ?_⟩; split; exact h.2.2; exact putE_ok hb y h.2.2
  | .func f a A B x, h => by simp only [putE]; refine ⟨h.1, h.2.1, ?_⟩; split; exact h.2.2; exact putE_ok hb x h.2.2
theorem putE_wf {name : Nm} {b : Ex} (hb : (formOf b).wf) : ∀ x : Ex, (formOf x).wf → (formOf (putE name b x)).wf
  | .name s, h => by simp only [putE]; split; exact hb; exact h
  | .num n, h => h
  | .two o x y, h => by simp only [putE, formOf, Tr.wf, wfs] at h ⊢; exact ⟨by simp, h.2.1, putE_wf hb x h.2.2.1, putE_wf hb y h.2.2.2.1, trivial⟩
  | .one o x, h => by simp only [putE, formOf, Tr.wf, wfs] at h ⊢; exact ⟨by simp, h.2.1, putE_wf hb x h.2.2.1, trivial⟩
  | .cond x y z, h => by simp only [putE, formOf, Tr.wf, wfs] at h ⊢; exact ⟨by simp, h.2.1, putE_wf hb x h.2.2.1, putE_wf hb y h.2.2.2.1, putE_wf hb z h.2.2.2.2.1, trivial⟩
  | .lete s x y, h => by
    simp only [putE, formOf, Tr.wf, wfs] at h ⊢
    refine ⟨by simp, h.2.1, h.2.2.1, putE_wf hb x h.2.2.2.1, ?_, trivial⟩
    split; exact h.2.2.2.2.1; exact putE_wf hb y h.2.2.2.2.1
  | .func f a A B x, h => by
    simp only [putE, formOf, Tr.wf, wfs] at h ⊢
    refine ⟨by simp, h.2.1, h.2.2.1, h.2.2.2.1, h.2.2.2.2.1, h.2.2.2.2.2.1, ?_, trivial⟩
    split; exact h.2.2.2.2.2.2.1; exact putE_wf hb x h.2.2.2.2.2.2.1
theorem le_mul1 {m : Nat} (hm : 1 ≤ m) (k : Nat) : k ≤ m * k := Nat.le_mul_of_pos_left k hm
theorem putE_bytes {name : Nm} {b : Ex} {m : Nat} (hm : 1 ≤ m) (hb : (formOf b).bytes ≤ m) : ∀ x : Ex, (formOf x).wf → (formOf (putE name b x)).bytes ≤ m * (formOf x).bytes
  | .name s, h => by
    simp only [putE]
    split
    · simp only [formOf, Tr.wf] at h
      have : 1 ≤ s.length := List.length_pos_iff.2 h.1
      simp only [formOf, Tr.bytes]
      exact Nat.le_trans hb (Nat.le_mul_of_pos_right m this)
    · exact le_mul1 hm _
  | .num n, h => le_mul1 hm _
  | .two o x y, h => by
    simp only [putE, formOf, Tr.wf, wfs] at h ⊢
    have h1 := putE_bytes (name := name) hm hb x h.2.2.1
    have h2 := putE_bytes (name := name) hm hb y h.2.2.2.1
    have h3 := le_mul1 hm (op2N o).length
    simp only [Tr.bytes, bytess, Nat.mul_add, Nat.mul_one, Nat.mul_zero]; omega
  | .one o x, h => by
    simp only [putE, formOf, Tr.wf, wfs] at h ⊢
    have h1 := putE_bytes (name := name) hm hb x h.2.2.1
    have h3 := le_mul1 hm (op1N o).length
    simp only [Tr.bytes, bytess, Nat.mul_add, Nat.mul_one, Nat.mul_zero]; omega
  | .cond x y z, h => by
    simp only [putE, formOf, Tr.wf, wfs] at h ⊢
    have h1 := putE_bytes (name := name) hm hb x h.2.2.1
    have h2 := putE_bytes (name := name) hm hb y h.2.2.2.1
    have h4 := putE_bytes (name := name) hm hb z h.2.2.2.2.1
    have h3 := le_mul1 hm kIf.length
    simp only [Tr.bytes, bytess, Nat.mul_add, Nat.mul_one, Nat.mul_zero]; omega
  | .lete s x y, h => by
    simp only [putE, formOf, Tr.wf, wfs] at h ⊢
    have h1 := putE_bytes (name := name) hm hb x h.2.2.2.1
    have h2 : (formOf (if s = name then y else putE name b y)).bytes ≤ m * (formOf y).bytes := by
      split
      · exact le_mul1 hm _
      · exact putE_bytes hm hb y h.2.2.2.2.1
    have h3 := le_mul1 hm kLet.length
    have h4 := le_mul1 hm s.length
    simp only [Tr.bytes, bytess, Nat.mul_add, Nat.mul_one, Nat.mul_zero]; omega
  | .func f a A B x, h => by
    simp only [putE, formOf, Tr.wf, wfs] at h ⊢
    have h2 : (formOf (if f = name ∨ a = name then x else putE name b x)).bytes ≤ m * (formOf x).bytes := by
      split
      · exact le_mul1 hm _
      · exact putE_bytes hm hb x h.2.2.2.2.2.2.1
    have h3 := le_mul1 hm kFun.length
    have h4 := le_mul1 hm f.length
    have h5 := le_mul1 hm a.length
    have h6 := le_mul1 hm A.bytes
    have h7 := le_mul1 hm B.bytes
    simp only [Tr.bytes, bytess, Nat.mul_add, Nat.mul_one, Nat.mul_zero]; omega
set_option maxHeartbeats 400000 in
theorem inLimits2_c (t : Tr) (u : ByteArray) (p : Option Addr) (n c : Nat) (sz : Int) (w : World) (hb : t.bytes ≤ 1000000000) (hd : t.depth ≤ 1000000000) :
    Calls Tryz.prog 160 #[.agg #[.string u, .slice p n c, .int .i64 t.bytes, .int .i64 sz, .int .i64 t.depth]] w fun e w' => e = .returned (.bool (decide (t.bytes ≤ 12000 ∧ t.depth ≤ 60))) ∧ Below w.heap.size w w' := by
  by_cases h : t.bytes ≤ 12000
  · have h1 : decide ((t.bytes : Int) ≤ 12000) = true := by simp; omega
    by_cases h2 : t.depth ≤ 60
    · have h3 : decide ((t.depth : Int) ≤ 60) = true := by simp; omega
      have HF : Hid (decide (t.bytes ≤ 12000 ∧ t.depth ≤ 60) = true) := Lib.hid (by simp [h, h2])
      go_enter Tryz.func160, Tryz.ntmps160
      go_wp2_with fail
      go_ret
      exact ⟨by rw [HF.out]; rfl, below1 w _⟩
    · have h3 : decide ((t.depth : Int) ≤ 60) = false := by simp; omega
      have HF : Hid (decide (t.bytes ≤ 12000 ∧ t.depth ≤ 60) = false) := Lib.hid (by simp [h2])
      go_enter Tryz.func160, Tryz.ntmps160
      go_wp2_with fail
      go_ret
      exact ⟨by rw [HF.out]; rfl, below1 w _⟩
  · have h1 : decide ((t.bytes : Int) ≤ 12000) = false := by simp; omega
    have HF : Hid (decide (t.bytes ≤ 12000 ∧ t.depth ≤ 60) = false) := Lib.hid (by simp [h])
    go_enter Tryz.func160, Tryz.ntmps160
    go_wp2_with fail
    go_ret
    exact ⟨by rw [HF.out]; rfl, below1 w _⟩
/-- The text with a closed expression put for a name. -/
def limT (T : Tr) : Option (List UInt8) := if T.size ≤ 120 ∧ T.bytes ≤ 12000 ∧ T.depth ≤ 60 then some T.text else none
def putTx (l n y : List UInt8) : Option (List UInt8) :=
  match readEx l with
  | none => none
  | some x => if isNm n = true then (match readCl y with | none => none | some b => limT (formOf (putE n b x))) else none
theorem putTx_none {l n y : List UInt8} (h : readEx l = none) : putTx l n y = none := by simp [putTx, h]
theorem putTx_no {l n y : List UInt8} (h : isNm n = false) : putTx l n y = none := by unfold putTx; cases readEx l <;> simp [h]
theorem putTx_cl {l n y : List UInt8} (h : readCl y = none) : putTx l n y = none := by unfold putTx; cases readEx l <;> simp [h]
theorem putTx_some {l n y : List UInt8} {x b : Ex} (h : readEx l = some x) (hn : isNm n = true) (hy : readCl y = some b) : putTx l n y = limT (formOf (putE n b x)) := by simp [putTx, h, hn, hy]
def TxPost (r : Option (List UInt8)) (e : Ending) : Prop := e = .returned (.tuple #[.string (bs (r.getD [])), .bool r.isSome])
theorem closed_none {s : ByteArray} (hs : s.size ≤ 1048576) (hp : readCl s.data.toList = none) (W : World) : Calls Tryz.prog 58 #[.string s] W fun e w' => (∃ v, e = .returned (.tuple #[v, .bool false])) ∧ Below W.heap.size W w' :=
  (readClosed_c s hs W).mono fun e w' ⟨h1, h2⟩ => ⟨by rw [hp] at h1; exact rdPost_shape h1, h2⟩
theorem closed_some {s : ByteArray} (hs : s.size ≤ 1048576) {x : Ex} (hp : readCl s.data.toList = some x) (W : World) : Calls Tryz.prog 58 #[.string s] W fun e w' => (∃ v, e = .returned (.tuple #[v, .bool true]) ∧ EV w' (fun k => W.heap.size ≤ k ∧ k < w'.heap.size) x v) ∧ Below W.heap.size W w' :=
  (readClosed_c s hs W).mono fun e w' ⟨h1, h2⟩ => ⟨by rw [hp] at h1; exact h1, h2⟩
theorem readCl_got {l : List UInt8} {x : Ex} (h : readCl l = some x) : readEx l = some x ∧ freeP x = [] := by
  cases hr : readEx l with
  | none => rw [readCl_none hr] at h; cases h
  | some y =>
    by_cases hf : freeP y = []
    · rw [readCl_some hr hf] at h; simp only [Option.some.injEq] at h; subst h; exact ⟨rfl, hf⟩
    · rw [readCl_no hr hf] at h; cases h
set_option maxHeartbeats 1000000 in
theorem fitsExpr_c (t : Tr) (u : ByteArray) (p : Option Addr) (n c : Nat) (o1 o2 o3 : Int) (h1 : o1 = t.bytes) (h2 : o2 = t.size) (h3 : o3 = t.depth) (w : World) (hb : t.bytes ≤ 1000000000) (hd : t.depth ≤ 1000000000) :
    Calls Tryz.prog 112 #[.agg #[.string u, .slice p n c, .int .i64 o1, .int .i64 o2, .int .i64 o3]] w fun e w' => e = .returned (.bool (decide (t.size ≤ 120 ∧ t.bytes ≤ 12000 ∧ t.depth ≤ 60))) ∧ Below w.heap.size w w' := by
  have CL : Hid (∀ W : World, Calls Tryz.prog 160 #[.agg #[.string u, .slice p n c, .int .i64 o1, .int .i64 o2, .int .i64 o3]] W fun e w' => e = .returned (.bool (decide (t.bytes ≤ 12000 ∧ t.depth ≤ 60))) ∧ Below W.heap.size W w') := Lib.hid (fun W => by rw [h1, h3]; exact inLimits2_c t u p n c o2 W hb hd)
  by_cases hz : t.size ≤ 120
  · have hz2 : decide (o2 ≤ 120) = true := by rw [h2]; simp; omega
    have HR : Hid (decide (t.size ≤ 120 ∧ t.bytes ≤ 12000 ∧ t.depth ≤ 60) = decide (t.bytes ≤ 12000 ∧ t.depth ≤ 60)) := Lib.hid (by simp [hz])
    rw [HR.out]
    clear h1 h2 h3 hz hb hd
    generalize decide (t.bytes ≤ 12000 ∧ t.depth ≤ 60) = v at *
    go_enter Tryz.func112, Tryz.ntmps112
    go_wp2_with (go_at_call 160; go_must (refine (CL.out _).mono ?_; rintro e w6 ⟨rfl, hb6⟩))
    go_ret
    exact ⟨ret_bool (by simp), (below1 w _).trans (hb6.mono (by simp))⟩
  · have hz2 : decide (o2 ≤ 120) = false := by rw [h2]; simp; omega
    have HR : Hid (decide (t.size ≤ 120 ∧ t.bytes ≤ 12000 ∧ t.depth ≤ 60) = false) := Lib.hid (by simp [hz])
    rw [HR.out]
    clear h1 h2 h3 hz hb hd
    go_enter Tryz.func112, Tryz.ntmps112
    go_wp2_with fail
    go_ret
    exact ⟨ret_bool (by simp), below1 w _⟩
set_option maxHeartbeats 2000000 in
theorem madeText_h (X : Ex) (hF : FmC X) (v : Value) (w : World) (hok : exOK X) (hwf : (formOf X).wf) (hby : (formOf X).bytes ≤ 500000000) (hv : EV w (fun k => k < w.heap.size) X v) (hT : Tab w) :
    Calls Tryz.prog 63 #[v] w fun e w' => TxPost (limT (formOf X)) e ∧ Below w.heap.size w w' := by
  obtain ⟨tn, o1, o2, o3, -, ho1, ho2, ho3, hq⟩ := nI_named (formOf X)
  obtain ⟨T0, u0, rfl⟩ := hv.iface
  have CF : Hid (Calls Tryz.prog 106 #[.iface T0 u0] w fun e w' => (∃ p m c, e = .returned (.agg #[.string tn, .slice p m c, .int .i64 o1, .int .i64 o2, .int .i64 o3]) ∧ FV nI w' (fun k => k < w.heap.size ∨ (w.heap.size ≤ k ∧ k < w'.heap.size)) (formOf X) (nI (formOf X) (.slice p m c))) ∧ Below w.heap.size w w') := Lib.hid ((hF _ w.heap.size w hok hwf hby hv (Nat.le_refl _) hT).mono fun e w' ⟨⟨p, m, c, h1, h2⟩, h3⟩ => ⟨⟨p, m, c, by rw [h1, hq], h2⟩, h3⟩)
  have hd := depth_le (formOf X) hwf
  obtain ⟨v, hv9⟩ : ∃ v, v = decide ((formOf X).size ≤ 120 ∧ (formOf X).bytes ≤ 12000 ∧ (formOf X).depth ≤ 60) := ⟨_, rfl⟩
  have CL : Hid (∀ (W : World) p m c, Calls Tryz.prog 112 #[.agg #[.string tn, .slice p m c, .int .i64 o1, .int .i64 o2, .int .i64 o3]] W fun e w' => e = .returned (.bool v) ∧ Below W.heap.size W w') := Lib.hid (fun W p m c => by rw [hv9]; exact fitsExpr_c (formOf X) tn p m c o1 o2 o3 ho1 ho2 ho3 W (by omega) (by omega))
  have CT : Hid (∀ (W : World) (ok : Nat → Prop) p m c, FV nI W ok (formOf X) (nI (formOf X) (.slice p m c)) → (∀ k, ok k → k < W.heap.size) → Calls Tryz.prog 48 #[.agg #[.string tn, .slice p m c, .int .i64 o1, .int .i64 o2, .int .i64 o3]] W fun e w' => e = .returned (.string (bs (formOf X).text)) ∧ Below W.heap.size W w') := Lib.hid (fun W ok p m c hf hk => by
    have h := text_c (formOf X) p m c ok W hwf (by omega) hf hk
    have e : (nI (formOf X) (.slice p m c)).toArray = #[.string tn, .slice p m c, .int .i64 o1, .int .i64 o2, .int .i64 o3] := by rw [hq]
    have e2 : (nI (formOf X) (.slice p m c)).toArray = #[.string (bs (atomOf (formOf X))), .slice p m c, .int .i64 (formOf X).bytes, .int .i64 (formOf X).size, .int .i64 (formOf X).depth] := rfl
    rw [← e2, e] at h
    exact h)
  have HR2 : Hid (limT (formOf X) = if v = true then some (formOf X).text else none) := Lib.hid (by rw [hv9]; unfold limT; simp only [decide_eq_true_eq])
  clear hF hv9 hq ho1 ho2 ho3 hd hby hok hwf hT hv
  cases v <;>
    (go_enter Tryz.func63, Tryz.ntmps63
     go_wp2_with (first | (go_at_call 106; go_must (refine (CF.out).mono ?_; rintro e w5 ⟨⟨p5, m5, c5, rfl, hf5⟩, hb5⟩; have s5 := hb5.size; have B5 := Lib.hid (hb5.alloc hb5.size (.cells #[.string tn, .slice p5 m5 c5, .int .i64 o1, .int .i64 o2, .int .i64 o3] 56)); have x5 := heap_alloc_new w5 (.cells #[.string tn, .slice p5 m5 c5, .int .i64 o1, .int .i64 o2, .int .i64 o3] 56); have k5 := FV.below hf5 (below1 w5 (.cells #[.string tn, .slice p5 m5 c5, .int .i64 o1, .int .i64 o2, .int .i64 o3] 56)) (fun k hk => by omega))) | (go_at_call 112; go_must (refine (CL.out _ _ _ _).mono ?_; rintro e w6 ⟨rfl, hb6⟩; have s6 := hb6.size; have x5' := below_blk hb6 (lt_of_block x5) x5; have ce0 := cell_of (j := 0) x5'; have ce1 := cell_of (j := 1) x5'; have ce2 := cell_of (j := 2) x5'; have ce3 := cell_of (j := 3) x5'; have ce4 := cell_of (j := 4) x5')) | (go_at_call 48; go_must (refine (CT.out _ _ p5 m5 c5 (k5.below hb6 (fun k hk => by simp; omega)) (fun k hk => by simp at s6; omega)).mono ?_; rintro e w7 ⟨rfl, hb7⟩)))
     go_ret2
     first
       | exact ⟨by rw [HR2.out, if_neg (by simp)]; rfl, (nextB (firstB B5.out) hb6).1⟩
       | exact ⟨by rw [HR2.out, if_pos trivial]; rfl, (nextB (nextB (firstB B5.out) hb6) hb7).1⟩
       | exact ⟨by rw [HR2.out, if_pos rfl]; rfl, (nextB (nextB (firstB B5.out) hb6) hb7).1⟩)
theorem madeText_c (X : Ex) (v : Value) (w : World) (hok : exOK X) (hwf : (formOf X).wf) (hby : (formOf X).bytes ≤ 500000000) (hv : EV w (fun k => k < w.heap.size) X v) (hT : Tab w) :
    Calls Tryz.prog 63 #[v] w fun e w' => TxPost (limT (formOf X)) e ∧ Below w.heap.size w w' := madeText_h X (fm_all X) v w hok hwf hby hv hT
set_option maxHeartbeats 2000000 in
theorem implExprPut_c (s n y : ByteArray) (hs : s.size ≤ 1048576) (hn : n.size ≤ 1048576) (hy : y.size ≤ 1048576) (w : World) (hT : Tab w) :
    Calls Tryz.prog 39 #[.string s, .string n, .string y] w fun e w' => TxPost (putTx s.data.toList n.data.toList y.data.toList) e ∧ Below w.heap.size w w' := by
  have CN := Lib.hid (isName_c n hn)
  cases hp : readEx s.data.toList with
  | none =>
    have C := Lib.hid (readExpr_none hs hp)
    have HR := Lib.hid (putTx_none (n := n.data.toList) (y := y.data.toList) hp)
    clear hp hT
    go_enter Tryz.func39, Tryz.ntmps39
    go_wp2_with (first | (go_at_call 46; go_must (refine (C.out _).mono ?_; rintro e w1 ⟨⟨v, rfl⟩, hb1⟩)) | (go_at_call 79; go_must (refine (CN.out _).mono ?_; rintro e w2 ⟨rfl, rfl⟩)))
    go_ret2
    exact ⟨by rw [HR.out]; rfl, hb1⟩
  | some x =>
    have C := Lib.hid (readExpr_some hs hp)
    cases hm : isNm n.data.toList with
    | false =>
      have HR := Lib.hid (putTx_no (l := s.data.toList) (y := y.data.toList) hm)
      unfold Hid at CN
      rw [hm] at CN
      have CN := Lib.hid CN
      clear hp hm hT
      go_enter Tryz.func39, Tryz.ntmps39
      go_wp2_with (first | (go_at_call 46; go_must (refine (C.out _).mono ?_; rintro e w1 ⟨⟨v, rfl, hv⟩, hb1⟩; obtain ⟨T0, u0, rfl⟩ := hv.iface)) | (go_at_call 79; go_must (refine (CN.out _).mono ?_; rintro e w2 ⟨rfl, rfl⟩)))
      go_ret2
      exact ⟨by rw [HR.out]; rfl, hb1⟩
    | true =>
      unfold Hid at CN
      rw [hm] at CN
      have CN := Lib.hid CN
      cases hc : readCl y.data.toList with
      | none =>
        have CC := Lib.hid (closed_none hy hc)
        have HR := Lib.hid (putTx_cl (l := s.data.toList) (n := n.data.toList) hc)
        clear hp hm hT hc
        go_enter Tryz.func39, Tryz.ntmps39
        go_wp2_with (first | (go_at_call 46; go_must (refine (C.out _).mono ?_; rintro e w1 ⟨⟨v, rfl, hv⟩, hb1⟩; obtain ⟨T0, u0, rfl⟩ := hv.iface)) | (go_at_call 79; go_must (refine (CN.out _).mono ?_; rintro e w2 ⟨rfl, rfl⟩)) | (go_at_call 58; go_must (refine (CC.out _).mono ?_; rintro e w3 ⟨⟨v3, rfl⟩, hb3⟩)))
        go_ret2
        exact ⟨by rw [HR.out]; rfl, hb1.trans (hb3.mono hb1.size)⟩
      | some b =>
        have CC := Lib.hid (closed_some hy hc)
        have HR := Lib.hid (putTx_some hp hm hc)
        obtain ⟨q1, q2, q3⟩ := readEx_tree hp
        obtain ⟨r1, r2, r3⟩ := readEx_tree (readCl_got hc).1
        have hwf := putE_wf (name := n.data.toList) r1 x q1
        have hok := putE_ok (name := n.data.toList) r3 x q3
        have hby : (formOf (putE n.data.toList b x)).bytes ≤ 500000000 := by
          have h1 := putE_bytes (name := n.data.toList) (m := 12000) (by omega) r2 x q1
          omega
        have hbs : bs n.data.toList = n := (bs_ext rfl).symm
        have CP : Hid (∀ (W : World) (v1 v2 : Value), EV W (fun k => k < W.heap.size) x v1 → EV W (fun k => k < W.heap.size) b v2 → Calls Tryz.prog 80 #[v1, .string n, v2] W fun e w' => (∃ v', e = .returned v' ∧ EV w' (fun k => k < W.heap.size) (putE n.data.toList b x) v') ∧ Below W.heap.size W w') := Lib.hid (fun W v1 v2 h1 h2 => by have h := pt_all n.data.toList b x v1 v2 W.heap.size W h1 h2 (Nat.le_refl _); rw [hbs] at h; exact h)
        generalize hX : putE n.data.toList b x = X at *
        have CM : Hid (∀ (W : World) (v : Value), EV W (fun k => k < W.heap.size) X v → Below w.heap.size w W → Calls Tryz.prog 63 #[v] W fun e w' => TxPost (limT (formOf X)) e ∧ Below W.heap.size W w') := Lib.hid (fun W v hv hW => madeText_c X v W hok hwf hby hv (hT.below hW))
        obtain ⟨t, z, ht⟩ : ∃ t z, ∀ e : Ending, TxPost (limT (formOf X)) e → e = .returned (.tuple #[.string t, .bool z]) := ⟨_, _, fun _ h => h⟩
        have HX : Hid (TxPost (putTx s.data.toList n.data.toList y.data.toList) (.returned (.tuple #[.string t, .bool z]))) := Lib.hid (by
          have h1 := ht _ (show TxPost (limT (formOf X)) (.returned (.tuple #[.string (bs ((limT (formOf X)).getD [])), .bool (limT (formOf X)).isSome])) from rfl)
          rw [HR.out, ← h1]; rfl)
        have CM2 : Hid (∀ (W : World) (v : Value), EV W (fun k => k < W.heap.size) X v → Below w.heap.size w W → Calls Tryz.prog 63 #[v] W fun e w' => e = .returned (.tuple #[.string t, .bool z]) ∧ Below W.heap.size W w') := Lib.hid (fun W v h1 h2 => (CM.out W v h1 h2).mono fun e w' ⟨k1, k2⟩ => ⟨ht e k1, k2⟩)
        clear HR CM ht hby hok hwf hX hbs q1 q2 q3 r1 r2 r3 hp hm hc hT
        go_enter Tryz.func39, Tryz.ntmps39
        go_wp2_with (first | (go_at_call 46; go_must (refine (C.out _).mono ?_; rintro e w1 ⟨⟨v1, rfl, hv1⟩, hb1⟩; obtain ⟨T0, u0, rfl⟩ := hv1.iface)) | (go_at_call 79; go_must (refine (CN.out _).mono ?_; rintro e w2 ⟨rfl, rfl⟩)) | (go_at_call 58; go_must (refine (CC.out _).mono ?_; rintro e w3 ⟨⟨v3, rfl, hv3⟩, hb3⟩; obtain ⟨T3, u3, rfl⟩ := hv3.iface; have s3 := hb3.size; have kx := Lib.hid (EV.move (ok' := fun k => k < w3.heap.size) (fun k hk => by omega) (fun _ _ => rfl) _ _ (hv1.below hb3 (fun k hk => hk.2))); have kb := Lib.hid (EV.move (ok' := fun k => k < w3.heap.size) (fun k hk => by omega) (fun _ _ => rfl) _ _ hv3); clear hv1 hv3)) | (go_at_call 80; go_must (refine (CP.out _ _ _ kx.out kb.out).mono ?_; rintro e w4 ⟨⟨v4, rfl, hv4⟩, hb4⟩; obtain ⟨T4, u4, rfl⟩ := hv4.iface; have k4 := Lib.hid (EV.move (ok' := fun k => k < w4.heap.size) (fun k hk => Nat.lt_of_lt_of_le hk hb4.size) (fun _ _ => rfl) _ _ hv4); clear hv4)) | (go_at_call 63; go_must (refine (CM2.out _ _ k4.out ((nextB (nextB (firstB hb1) hb3) hb4).1)).mono ?_; rintro e w5 ⟨rfl, hb5⟩)))
        go_ret2
        exact ⟨HX.out, (nextB (nextB (nextB (firstB hb1) hb3) hb4) hb5).1⟩
end Go.Proofs.YtfknoigbkleanaaGreatDoor
