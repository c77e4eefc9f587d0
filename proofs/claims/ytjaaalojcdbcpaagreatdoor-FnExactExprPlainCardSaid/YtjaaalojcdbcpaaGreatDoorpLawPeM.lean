/- The reference: ExprPlain and ExprAlike, at every text. The exact laws of ExprPlain and ExprAlike: their walks. -/
import Derived.Test.YtjaaalojcdbcpaaGreatDoorpSpec2xM
import Derived.Test.YtjaaalojcdbcpaaGreatDoorpIp6M
set_option maxHeartbeats 20000000
set_option linter.unusedVariables false
set_option linter.unusedSimpArgs false
namespace Go.Proofs.YtjaaalojcdbcpaaGreatDoor
open Go.RowKit Go.Proofs.Tryz
set_option maxRecDepth 8000
theorem Jr (s : ByteArray) (hs : s.size ≤ 1048576) (w : World) :
 Calls prog 9 #[.string s] w fun e w' => e = .returned (.tuple #[.string (bs ((plTx s.data.toList).getD [])), .bool (plTx s.data.toList).isSome]) ∧ Below w.heap.size w w' := by
 cases hp : Qe s.data.toList with
 | none =>
   have C := H_ (l2Parse_none hs hp)
   have HR := H_ (Vp (readEx_none2 hp))
   clear hp
   go_enter func9, ntmps9
   go_wp2_with (go_at_call 29; go_must (refine (C.out _).mono ?_; rintro e w1 ⟨⟨a, p, m, c, rfl, hnl⟩, hb1⟩))
   go_ret2
   exact ⟨by rw [HR.out]; rfl, hb1.alloc hb1.size _⟩
 | some t =>
   have C := H_ (l2Parse_some hs hp)
   obtain ⟨x, hx1, hx2⟩ := readEx_asEx' hp
   have hg := Jt (Z0d hp).1
   have hsz := (Z0d hp).2.2
   have HR := H_ (Vo hx1)
   obtain ⟨q1, q2⟩ := plX_read hx1
   obtain ⟨-, -, h1, h2, h3, h4, h5⟩ := Z1b q1
   obtain ⟨T', hT'⟩ : ∃ T', T' = Z0 (plX x) := ⟨_, rfl⟩
   rw [← hT'] at h1 h2 h3 h4 HR
   have CP : Hid (∀ (w1 W : World) p m c, FV nS w1 (fun k => w.heap.size ≤ k ∧ k < w1.heap.size) t (nS t (.slice p m c)) → Below w1.heap.size w1 W → Calls prog 30 #[.agg #[.string (bs (Z1 t)), .slice p m c]] W fun e w' => (∃ p' n' c', e = .returned (.tuple #[.agg #[.string (bs (Z1 T')), .slice p' n' c'], .bool true]) ∧ FV nS w' (fun q => q < w'.heap.size) T' (nS T' (.slice p' n' c'))) ∧ Below W.heap.size W w') := H_ (fun w1 W p m c hv hb => by
    rw [hT']
    exact l2Plainly_c t x p m c W ⟨hg.1, hg.2.1, hg.2.2.1⟩ hsz hx2 ((hv.below hb (fun k hk => hk.2)).wide (fun k hk => Nat.lt_of_lt_of_le hk.2 hb.size)))
   have CT : Hid (∀ (W W2 : World) p m c, FV nS W (fun q => q < W.heap.size) T' (nS T' (.slice p m c)) → Below W.heap.size W W2 → Calls prog 31 #[.agg #[.string (bs (Z1 T')), .slice p m c]] W2 fun e w' => e = .returned (.string (bs T'.text)) ∧ Below W2.heap.size W2 w') := H_ (fun W W2 p m c hv hb => l1Text_c (T'.depth + 1) T' (nS T' (.slice p m c)) (fun q => q < W.heap.size) W2 (by omega) h4 (by omega) (hv.below hb (fun k hk => hk)) (fun k hk => Nat.lt_of_lt_of_le hk hb.size))
   obtain ⟨A1, hA1⟩ : ∃ A1, A1 = bs (Z1 t) := ⟨_, rfl⟩
   obtain ⟨A2, hA2⟩ : ∃ A2, A2 = bs (Z1 T') := ⟨_, rfl⟩
   unfold Hid at C CP CT
   rw [← hA1] at C CP
   rw [← hA2] at CP CT
   have C := H_ C
   have CP := H_ CP
   have CT := H_ CT
   clear hp hx1 hx2 hg hsz q1 q2 h1 h2 h3 h4 h5 hT' hA1 hA2
   go_enter func9, ntmps9
   go_wp2_with (first | (go_at_call 29; go_must (refine (C.out _).mono ?_; rintro e w1 ⟨⟨p, m, c, rfl, hv⟩, hb1⟩)) | (go_at_call 30; go_must (refine (CP.out w1 _ p m c hv (Z5 _ _)).mono ?_; rintro e w2 ⟨⟨p2, m2, c2, rfl, hv2⟩, hb2⟩)) | (go_at_call 31; go_must (refine (CT.out w2 _ p2 m2 c2 hv2 (Z5 _ _)).mono ?_; rintro e w3 ⟨rfl, hb3⟩)))
   go_ret2
   have h12 : Below w.heap.size w w2 := hb1.trans (((Z5 w1 _).trans (hb2.mono (by simp))).mono hb1.size)
   exact ⟨by rw [HR.out]; rfl, h12.trans (((Z5 w2 _).trans (hb3.mono (by simp))).mono h12.size)⟩
theorem Z21 (s y : ByteArray) (hs : s.size ≤ 1048576) (hy : y.size ≤ 1048576) (w : World) :
 Calls prog 11 #[.string s, .string y] w fun e w' => e = .returned (.bool (Z35 s.data.toList y.data.toList)) ∧ Below w.heap.size w w' := by
 have C1 := H_ (fun W => Jr s hs W)
 have C2 := H_ (fun W => Jr y hy W)
 obtain ⟨P1, b1, P2, b2, HC1, HC2, hfin⟩ : ∃ (P1 : ByteArray) (b1 : Bool) (P2 : ByteArray) (b2 : Bool), Hid (∀ W, Calls prog 9 #[.string s] W fun e w' => e = .returned (.tuple #[.string P1, .bool b1]) ∧ Below W.heap.size W w') ∧ Hid (∀ W, Calls prog 9 #[.string y] W fun e w' => e = .returned (.tuple #[.string P2, .bool b2]) ∧ Below W.heap.size W w') ∧ Hid (Z35 s.data.toList y.data.toList = (b1 && b2 && decide (P1.toList = P2.toList))) := by
  refine ⟨_, _, _, _, C1, C2, H_ ?_⟩
  cases h1 : Zy s.data.toList with
  | none => rw [alTx_left h1, Vp h1]; rfl
  | some x =>
    cases h2 : Zy y.data.toList with
    | none => rw [Z34 h2, Vp h2]; simp
    | some z =>
      rw [alTx_both h1 h2, Vo h1, Vo h2]
      simp [Za]
 clear C1 C2 hs hy
 have tok1 : True := trivial
 cases b1 <;> cases b2
 all_goals
  go_enter func11, ntmps11
  go_wp2_with (first | (go_at_call 9; clear tok1; go_must (refine (HC1.out _).mono ?_; rintro e w1 ⟨rfl, hb1⟩)) | (go_at_call 9; go_must (refine (HC2.out _).mono ?_; rintro e w2 ⟨rfl, hb2⟩)))
  go_ret
  refine ⟨?_, hb1.trans (hb2.mono hb1.size)⟩
  rw [hfin.out]
  first
   | rfl
   | (show Ending.returned (.bool (P1.toList == P2.toList)) = _
      by_cases h : P1.toList = P2.toList <;> simp [h])
theorem plx_shape (l : List UInt8) : ∃ x0 x1, ∀ e : Ending, e = .returned (.tuple #[.string (bs ((plTx l).getD [])), .bool (plTx l).isSome]) → e = .returned (.tuple #[.string x0, .bool x1]) := ⟨_, _, fun _ h => h⟩
theorem alx_shape (b : Bool) : ∃ x0, ∀ e : Ending, e = .returned (.bool b) → e = .returned (.bool x0) := ⟨_, fun _ h => h⟩
theorem V0 (a0 : ByteArray) (w0 : a0.size ≤ maxLen) (w : World) (hT : Tab w) :
 Calls prog 3 #[.string a0] w fun e w' => e = .returned (.bool true) ∧ Below w.heap.size w w' := by
 by_cases h0 : a0.size ≤ 1048576
 · have hd0 : decide (1048576 < (a0.size : Int)) = false := by simp; omega
   obtain ⟨x0, x1, hx⟩ := plx_shape a0.data.toList
   have C1 : Hid (∀ W, Below w.heap.size w W → Calls prog 9 #[.string a0] W fun e w' => e = .returned (.tuple #[.string x0, .bool x1]) ∧ Below W.heap.size W w') := H_ (fun W hW => (Jr a0 h0 W).mono fun e w' ⟨k1, k2⟩ => ⟨hx e k1, k2⟩)
   have C2 : Hid (∀ W, Below w.heap.size w W → Calls prog 10 #[.string a0] W fun e w' => e = .returned (.tuple #[.string x0, .bool x1]) ∧ Below W.heap.size W w') := H_ (fun W hW => (Z24 a0 h0 W (hT.below hW)).mono fun e w' ⟨k1, k2⟩ => ⟨hx e k1, k2⟩)
   clear hx
   go_enter func3, ntmps3
   go_wp2_with (first | (go_at_call 9; go_must (refine (C1.out _ (Below.refl _ _)).mono ?_; rintro e w1 ⟨rfl, hb1⟩)) | (go_at_call 10; go_must (refine (C2.out _ hb1).mono ?_; rintro e w2 ⟨rfl, hb2⟩)))
   go_ret
   exact ⟨rfl, hb1.trans (hb2.mono hb1.size)⟩
 · have hd0 : decide (1048576 < (a0.size : Int)) = true := by simp; omega
   have hm0 := Ym w0
   go_enter func3, ntmps3
   go_wp2_with fail
   go_ret
   exact ⟨rfl, Below.refl _ _⟩
theorem V1 (a0 : ByteArray) (w0 : a0.size ≤ maxLen) (a1 : ByteArray) (w1 : a1.size ≤ maxLen) (w : World) (hT : Tab w) :
 Calls prog 4 #[.string a0, .string a1] w fun e w' => e = .returned (.bool true) ∧ Below w.heap.size w w' := by
 by_cases h0 : a0.size ≤ 1048576
 · have hd0 : decide (1048576 < (a0.size : Int)) = false := by simp; omega
   by_cases h1 : a1.size ≤ 1048576
   · have hd1 : decide (1048576 < (a1.size : Int)) = false := by simp; omega
     obtain ⟨x0, hx⟩ := alx_shape (Z35 a0.data.toList a1.data.toList)
     have C1 : Hid (∀ W, Below w.heap.size w W → Calls prog 11 #[.string a0, .string a1] W fun e w' => e = .returned (.bool x0) ∧ Below W.heap.size W w') := H_ (fun W hW => (Z21 a0 a1 h0 h1 W).mono fun e w' ⟨k1, k2⟩ => ⟨hx e k1, k2⟩)
     have C2 : Hid (∀ W, Below w.heap.size w W → Calls prog 12 #[.string a0, .string a1] W fun e w' => e = .returned (.bool x0) ∧ Below W.heap.size W w') := H_ (fun W hW => (Z25 a0 a1 h0 h1 W (hT.below hW)).mono fun e w' ⟨k1, k2⟩ => ⟨hx e k1, k2⟩)
     clear hx
     go_enter func4, ntmps4
     go_wp2_with (first | (go_at_call 11; go_must (refine (C1.out _ (Below.refl _ _)).mono ?_; rintro e w1 ⟨rfl, hb1⟩)) | (go_at_call 12; go_must (refine (C2.out _ hb1).mono ?_; rintro e w2 ⟨rfl, hb2⟩)))
     go_ret
     exact ⟨rfl, hb1.trans (hb2.mono hb1.size)⟩
   · have hd1 : decide (1048576 < (a1.size : Int)) = true := by simp; omega
     have hm1 := Ym w1
     go_enter func4, ntmps4
     go_wp2_with fail
     go_ret
     exact ⟨rfl, Below.refl _ _⟩
 · have hd0 : decide (1048576 < (a0.size : Int)) = true := by simp; omega
   have hm0 := Ym w0
   go_enter func4, ntmps4
   go_wp2_with fail
   go_ret
   exact ⟨rfl, Below.refl _ _⟩
end Go.Proofs.YtjaaalojcdbcpaaGreatDoor
