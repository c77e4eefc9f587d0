/- The reference model's ExprPut. -/
import Derived.Test.YtfknoigbkleanaaGreatDoorSpec2m
import Derived.Test.YtfknoigbkleanaaGreatDoorSpec2h
import Derived.Test.YtfknoigbkleanaaGreatDoorPureO
namespace Go.Proofs.YtfknoigbkleanaaGreatDoor
open Go.RowKit
set_option maxRecDepth 8000
set_option linter.unusedSimpArgs false
set_option linter.unusedVariables false
theorem parseE_no {l : List UInt8} (h : (parseE l).isSome = false) : readEx l = none := by
  rw [← readEx_parseE] at h
  cases hr : readEx l with
  | none => rfl
  | some x => rw [hr] at h; cases h
theorem readEx_got2 {l : List UInt8} {x : Ex} (h : readEx l = some x) : ∃ t, parseE l = some t ∧ asEx t = some x ∧ t.size ≤ 120 := by
  cases hp : parse l with
  | none => rw [readEx_none hp] at h; cases h
  | some t =>
    rw [readEx_some hp] at h
    by_cases hs : t.size ≤ 120
    · rw [if_pos hs] at h
      exact ⟨t, parseE_some hp (by simp [isEx, h]) hs, h, hs⟩
    · rw [if_neg hs] at h; cases h
theorem l2Parse_shape {s : ByteArray} (hs : s.size ≤ 1048576) (W : World) : Calls Tryz.prog 49 #[.string s] W fun e w' => (∃ a p n c, e = .returned (.tuple #[.agg #[.string a, .slice p n c], .bool (parseE s.data.toList).isSome])) ∧ Below W.heap.size W w' :=
  (l2Parse_c s hs W).mono fun e w' ⟨hp, hb⟩ => ⟨parsePost_shape hp, hb⟩
set_option maxHeartbeats 2000000 in
theorem specExprPut_no (s n y : ByteArray) (hs : s.size ≤ 1048576) (hn : n.size ≤ 1048576) (hy : y.size ≤ 1048576) (P Q N Z : Bool) (hP : P = (parseE s.data.toList).isSome) (hQ : Q = (parseE y.data.toList).isSome) (hN : N = isNm n.data.toList) (hZ : Z = (readCl y.data.toList).isSome) (hno : (P && Q && N && Z) = false) (w : World) :
    Calls Tryz.prog 38 #[.string s, .string n, .string y] w fun e w' => e = .returned (.tuple #[.string ⟨#[]⟩, .bool false]) ∧ Below w.heap.size w w' := by
  have CS : Hid (∀ W, Calls Tryz.prog 49 #[.string s] W fun e w' => (∃ a p n c, e = .returned (.tuple #[.agg #[.string a, .slice p n c], .bool P])) ∧ Below W.heap.size W w') := Lib.hid (fun W => by rw [hP]; exact l2Parse_shape hs W)
  have CY : Hid (∀ W, Calls Tryz.prog 49 #[.string y] W fun e w' => (∃ a p n c, e = .returned (.tuple #[.agg #[.string a, .slice p n c], .bool Q])) ∧ Below W.heap.size W w') := Lib.hid (fun W => by rw [hQ]; exact l2Parse_shape hy W)
  have CN : Hid (∀ W, Calls Tryz.prog 76 #[.string n] W fun e w' => e = .returned (.bool N) ∧ w' = W) := Lib.hid (fun W => by rw [hN]; exact l2Name_c n hn W)
  have CC : Hid (∀ W, Calls Tryz.prog 59 #[.string y] W fun e w' => e = .returned (.bool Z) ∧ Below W.heap.size W w') := Lib.hid (fun W => by rw [hZ]; exact specExprClosed_c y hy W)
  clear hP hQ hN hZ
  cases P <;> cases Q <;> cases N <;> cases Z <;> first
    | (exact absurd hno (by decide))
    | (clear hno
       go_enter Tryz.func38, Tryz.ntmps38
       go_wp2_with (first | (go_at_call 49; first | ((with_reducible refine (CS.out _).mono ?_); rintro e w1 ⟨⟨a1, p1, n1, c1, rfl⟩, hb1⟩; have hB1 := Lib.hid (hb1.alloc hb1.size (.cells #[.string a1, .slice p1 n1 c1] 62))) | ((with_reducible refine (CY.out _).mono ?_); rintro e w2 ⟨⟨a2, p2, n2, c2, rfl⟩, hb2⟩; have hB2 := Lib.hid ((hB1.out.trans (hb2.mono hB1.out.size)).alloc (Nat.le_trans hB1.out.size hb2.size) (.cells #[.string a2, .slice p2 n2 c2] 62)))) | (go_at_call 76; go_must (refine (CN.out _).mono ?_; rintro e w3 ⟨rfl, rfl⟩)) | (go_at_call 59; go_must (refine (CC.out _).mono ?_; rintro e w4 ⟨rfl, hb4⟩)))
       go_ret2
       first
         | exact ⟨rfl, hB2.out.trans (hb4.mono hB2.out.size)⟩
         | exact ⟨rfl, hB2.out⟩)
set_option maxHeartbeats 2000000 in
theorem specExprPut_yes (s n y : ByteArray) (hs : s.size ≤ 1048576) (hn : n.size ≤ 1048576) (hy : y.size ≤ 1048576) {x b : Ex} (hp : readEx s.data.toList = some x) (hm : isNm n.data.toList = true) (hc : readCl y.data.toList = some b) (w : World) :
    Calls Tryz.prog 38 #[.string s, .string n, .string y] w fun e w' => TxPost (putTx s.data.toList n.data.toList y.data.toList) e ∧ Below w.heap.size w w' := by
  obtain ⟨t, ht, ht1, ht2⟩ := readEx_got2 hp
  obtain ⟨tb, hb, hb1, hb2⟩ := readEx_got2 (readCl_got hc).1
  obtain rfl := formOf_eq _ _ hb1
  obtain rfl := formOf_eq _ _ ht1
  have gs := parseE_got ht
  have gy := parseE_got hb
  obtain ⟨ws, bs1, ds, -⟩ := parse_got gs.1
  obtain ⟨wy, by1, dy, -⟩ := parse_got gy.1
  have hg := putE_good (name := n.data.toList) hb1 x ht1
  have hw := putE_wf (name := n.data.toList) wy x ws
  have hfit := putE_fits (name := n.data.toList) by1 bs1 gs.2.2
  have hR := putTx_some hp hm hc
  have hlim := limT_valid hw hg
  rw [hlim] at hR
  have hlen := text_length _ hw
  have hbn : bs n.data.toList = n := (bs_ext rfl).symm
  have CS := Lib.hid (l2Parse_some hs ht)
  have CY := Lib.hid (l2Parse_some hy hb)
  have CN : Hid (∀ W, Calls Tryz.prog 76 #[.string n] W fun e w' => e = .returned (.bool true) ∧ w' = W) := Lib.hid (fun W => by have h := l2Name_c n hn W; rw [hm] at h; exact h)
  have CC : Hid (∀ W, Calls Tryz.prog 59 #[.string y] W fun e w' => e = .returned (.bool true) ∧ Below W.heap.size W w') := Lib.hid (fun W => by have h := specExprClosed_c y hy W; rw [hc] at h; exact h)
  obtain ⟨A1, hA1⟩ : ∃ A1, A1 = bs (atomOf (formOf x)) := ⟨_, rfl⟩
  obtain ⟨A2, hA2⟩ : ∃ A2, A2 = bs (atomOf (formOf b)) := ⟨_, rfl⟩
  have CP : Hid (∀ (W : World) p1 n1 c1 p2 n2 c2, FV nS W (fun k => k < W.heap.size) (formOf x) (nS (formOf x) (.slice p1 n1 c1)) → FV nS W (fun k => k < W.heap.size) (formOf b) (nS (formOf b) (.slice p2 n2 c2)) → Calls Tryz.prog 78 #[.agg #[.string A1, .slice p1 n1 c1], .string n, .agg #[.string A2, .slice p2 n2 c2]] W fun e w' => PtPost W.heap.size (formOf (putE n.data.toList b x)) W e w') := Lib.hid (fun W p1 n1 c1 p2 n2 c2 h1 h2 => by
    have h := l2Put_all n.data.toList b 61 (formOf x) x (nS (formOf x) (.slice p1 n1 c1)) (nS (formOf b) (.slice p2 n2 c2)) W.heap.size W hm (by omega) ws bs1 ht1 h1 h2 (Nat.le_refl _)
    rw [hbn] at h
    rw [hA1, hA2]
    exact h)
  generalize hX : formOf (putE n.data.toList b x) = T at *
  obtain ⟨A3, hA3⟩ : ∃ A3, A3 = bs (atomOf T) := ⟨_, rfl⟩
  have CT : Hid (∀ (W : World) p m c (ok : Nat → Prop), FV nS W ok T (nS T (.slice p m c)) → (∀ k, ok k → k < W.heap.size) → Calls Tryz.prog 77 #[.agg #[.string A3, .slice p m c]] W fun e w' => e = .returned (.string (bs T.text)) ∧ Below W.heap.size W w') := Lib.hid (fun W p m c ok h1 h2 => by rw [hA3]; exact l1Text_c (T.depth + 1) T _ ok W (by omega) hw (by omega) h1 h2)
  obtain ⟨z, hz⟩ : ∃ z, z = (parseE T.text).isSome := ⟨_, rfl⟩
  have CV : Hid (∀ W, Calls Tryz.prog 67 #[.string (bs T.text)] W fun e w' => e = .returned (.bool z) ∧ Below W.heap.size W w') := Lib.hid (fun W => by rw [hz]; exact specExprValid_c (bs T.text) (by rw [bs_size]; omega) W)
  rw [← hz] at hR
  have HE1 : Hid (z = true → TxPost (putTx s.data.toList n.data.toList y.data.toList) (.returned (.tuple #[.string (bs T.text), .bool true]))) := Lib.hid (fun h => by rw [hR, h]; rfl)
  have HE0 : Hid (z = false → TxPost (putTx s.data.toList n.data.toList y.data.toList) (.returned (.tuple #[.string ⟨#[]⟩, .bool false]))) := Lib.hid (fun h => by rw [hR, h]; rfl)
  unfold Hid at CS CY
  rw [← hA1] at CS
  rw [← hA2] at CY
  have CS := Lib.hid CS
  have CY := Lib.hid CY
  have HP : Hid (∀ e W w', PtPost W.heap.size T W e w' → (∃ p m c, e = .returned (.agg #[.string A3, .slice p m c]) ∧ FV nS w' (fun k => k < w'.heap.size) T (nS T (.slice p m c))) ∧ Below W.heap.size W w') := Lib.hid (fun e W w' ⟨⟨p, m, c, h1, h2⟩, h3⟩ => ⟨⟨p, m, c, by rw [hA3]; exact h1, h2.wide (fun k hk => by have := h3.size; omega)⟩, h3⟩)
  generalize bs T.text = TT at *
  clear hR hlim hlen hX hA1 hA2 hA3 hz hbn hfit hw hg hp hm hc ws bs1 ds wy by1 dy gs gy ht ht1 ht2 hb hb1 hb2
  cases z <;>
    (go_enter Tryz.func38, Tryz.ntmps38
     go_wp2_with (first | (go_at_call 49; first | ((with_reducible refine (CS.out _).mono ?_); rintro e w1 ⟨⟨p1, n1, c1, rfl, hv1⟩, hb1⟩; have hB1 := Lib.hid (hb1.alloc hb1.size (.cells #[.string A1, .slice p1 n1 c1] 62)); have x1 := heap_alloc_new w1 (.cells #[.string A1, .slice p1 n1 c1] 62); have hv1a := Lib.hid (FV.wide (hv1.below (below1 w1 (.cells #[.string A1, .slice p1 n1 c1] 62)) (fun k hk => hk.2)) (ok' := fun k => k < (w1.alloc (.cells #[.string A1, .slice p1 n1 c1] 62)).heap.size) (fun k hk => by simp; omega)); clear hv1) | ((with_reducible refine (CY.out _).mono ?_); rintro e w2 ⟨⟨p2, n2, c2, rfl, hv2⟩, hb2⟩; have hB2 := Lib.hid ((hB1.out.trans (hb2.mono hB1.out.size)).alloc (Nat.le_trans hB1.out.size hb2.size) (.cells #[.string A2, .slice p2 n2 c2] 62)); have x2 := heap_alloc_new w2 (.cells #[.string A2, .slice p2 n2 c2] 62); have x1b := blk_alloc (o' := (.cells #[.string A2, .slice p2 n2 c2] 62)) (below_blk hb2 (lt_of_block x1) x1); have hv2a := Lib.hid (FV.wide (hv2.below (below1 w2 (.cells #[.string A2, .slice p2 n2 c2] 62)) (fun k hk => hk.2)) (ok' := fun k => k < (w2.alloc (.cells #[.string A2, .slice p2 n2 c2] 62)).heap.size) (fun k hk => by simp; omega)); have hv1b := Lib.hid (FV.wide ((hv1a.out.below hb2 (fun k hk => hk)).below (below1 w2 (.cells #[.string A2, .slice p2 n2 c2] 62)) (fun k hk => Nat.lt_of_lt_of_le hk hb2.size)) (ok' := fun k => k < (w2.alloc (.cells #[.string A2, .slice p2 n2 c2] 62)).heap.size) (fun k hk => by have := hb2.size; simp at hk this ⊢; omega)); clear hv2)) | (go_at_call 76; go_must (refine (CN.out _).mono ?_; rintro e w3 ⟨rfl, rfl⟩)) | (go_at_call 59; go_must (refine (CC.out _).mono ?_; rintro e w4 ⟨rfl, hb4⟩; have x1c := below_blk hb4 (lt_of_block x1b) x1b; have x2c := below_blk hb4 (lt_of_block x2) x2; have y0 := cell_of (j := 0) x1c; have y1 := cell_of (j := 1) x1c; have z0 := cell_of (j := 0) x2c; have z1 := cell_of (j := 1) x2c; have k1 := Lib.hid (FV.wide (hv1b.out.below hb4 (fun k hk => hk)) (ok' := fun k => k < w4.heap.size) (fun k hk => Nat.lt_of_lt_of_le hk hb4.size)); have k2 := Lib.hid (FV.wide (hv2a.out.below hb4 (fun k hk => hk)) (ok' := fun k => k < w4.heap.size) (fun k hk => Nat.lt_of_lt_of_le hk hb4.size)); have hB4 := Lib.hid (hB2.out.trans (hb4.mono hB2.out.size)))) | (go_at_call 78; go_must (refine (CP.out _ _ _ _ _ _ _ k1.out k2.out).mono ?_; rintro e w5 hpp; obtain ⟨⟨p5, m5, c5, rfl, hv5⟩, hb5⟩ := HP.out _ _ _ hpp; have hB5 := Lib.hid (hB4.out.trans (hb5.mono hB4.out.size)))) | (go_at_call 77; go_must (refine (CT.out _ _ _ _ _ hv5 (fun k hk => hk)).mono ?_; rintro e w6 ⟨rfl, hb6⟩; have hB6 := Lib.hid (hB5.out.trans (hb6.mono hB5.out.size)))) | (go_at_call 67; go_must (refine (CV.out _).mono ?_; rintro e w7 ⟨rfl, hb7⟩; have hB7 := Lib.hid (hB6.out.trans (hb7.mono hB6.out.size)))))
     go_ret2
     exact ⟨by first | exact HE1.out rfl | exact HE0.out rfl | exact HE1.out trivial | exact HE0.out trivial | exact HE1.out | exact HE0.out, hB7.out⟩)
theorem specExprPut_c (s n y : ByteArray) (hs : s.size ≤ 1048576) (hn : n.size ≤ 1048576) (hy : y.size ≤ 1048576) (w : World) :
    Calls Tryz.prog 38 #[.string s, .string n, .string y] w fun e w' => TxPost (putTx s.data.toList n.data.toList y.data.toList) e ∧ Below w.heap.size w w' := by
  cases hp : readEx s.data.toList with
  | none =>
    exact (specExprPut_no s n y hs hn hy _ _ _ _ rfl rfl rfl rfl (by rw [← readEx_parseE, hp]; rfl) w).mono fun e w' ⟨h1, h2⟩ => ⟨by rw [putTx_none hp]; exact h1, h2⟩
  | some x =>
    cases hm : isNm n.data.toList with
    | false => exact (specExprPut_no s n y hs hn hy _ _ _ _ rfl rfl rfl rfl (by rw [hm]; simp) w).mono fun e w' ⟨h1, h2⟩ => ⟨by rw [putTx_no hm]; exact h1, h2⟩
    | true =>
      cases hc : readCl y.data.toList with
      | none => exact (specExprPut_no s n y hs hn hy _ _ _ _ rfl rfl rfl rfl (by rw [hc]; simp) w).mono fun e w' ⟨h1, h2⟩ => ⟨by rw [putTx_cl hc]; exact h1, h2⟩
      | some b => exact specExprPut_yes s n y hs hn hy hp hm hc w
end Go.Proofs.YtfknoigbkleanaaGreatDoor
