/- The reference's ExprFault. The law FnFault: its walk. A fault is where types do not fit. -/
import Derived.Test.YtfknoigbkleanaaGreatDoorqSpec3i
import Derived.Test.YtfknoigbkleanaaGreatDoorqSpec2hM
import Derived.Test.YtfknoigbkleanaaGreatDoorqDrawC
import Derived.Test.YtfknoigbkleanaaGreatDoorqLawRtM
import Derived.Test.YtfknoigbkleanaaGreatDoorqPureA
import Derived.Test.YtfknoigbkleanaaGreatDoorqAsrAM
import Derived.Test.YtfknoigbkleanaaGreatDoorqImpl2dM
import Derived.OwnWalk
namespace Go.Proofs.YtfknoigbkleanaaGreatDoor
open Go.RowKit Go.Proofs.Tryz
set_option maxRecDepth 8000
set_option maxHeartbeats 20000000
set_option linter.unusedVariables false
set_option linter.unusedSimpArgs false
theorem faOf_fin {l : List UInt8} {t : Tr} {x : Ex} {FT : ByteArray} (hc : X4 l = some x) (hFT : FT = bs (faS (tyR [] x))) (hx : Y9 t = some x) (hwf : t.wf) : Z5j (Z7n l) (.returned (.tuple #[.string FT, .bool (!FT.toList.isEmpty)])) := by
 unfold Z5j
 cases hr : tyR [] x with
 | ok u => rw [Z7w hc hr, hFT, hr, show faS (.ok u) = [] from rfl, Z5]; rfl
 | error f =>
   have hne := Z31 hx hwf [] f hr
   rw [Z9g hc hr, hFT, hr, show faS (.error f) = (Z2 f).text from rfl, Z5, show (Z2 f).text.isEmpty = false by simpa using hne]
   rfl
theorem Z37 (s : ByteArray) (hs : s.size ≤ 1048576) (w : World) :
 Calls prog 23 #[.string s] w fun e w' => Z5j (Z7n s.data.toList) e ∧ Below w.heap.size w w' := by
 have CC : Hid (∀ W, Calls prog 59 #[.string s] W fun e w' => e = .returned (.bool (X4 s.data.toList).isSome) ∧ Below W.heap.size W w') := H_ (fun W => Z23 s hs W)
 cases hp : Qp s.data.toList with
 | none =>
   have C := H_ (Z2u hs hp)
   have HR := H_ (Z4e (Z1i (Z2n hp)))
   clear hp CC
   go_enter func23, ntmps23
   go_wp2_with (go_at_call 49; go_must (refine (C.out _).mono ?_; rintro e w1 ⟨⟨a, p, m, c, rfl, hnl⟩, hb1⟩))
   try go_region
   all_goals
    go_wp2_with fail
    go_ret2
    exact ⟨by rw [HR.out]; rfl, by first | exact hb1.alloc hb1.size _ | exact (hb1.alloc hb1.size _).drew⟩
 | some t =>
   have C := H_ (Z2t hs hp)
   obtain ⟨x, hx1, hx2⟩ := Z2o hp
   have hg := Yt (Z2p hp).1
   cases hc : X4 s.data.toList with
   | none =>
     rw [hc] at CC
     have HR := H_ (Z4e hc)
     clear hp hc hg hx1 hx2
     generalize bs (Z0 t) = A at *
     go_enter func23, ntmps23
     go_wp2_with (first | (go_at_call 49; go_must (refine (C.out _).mono ?_; rintro e w1 ⟨⟨p, m, c, rfl, hv⟩, hb1⟩; have HB1 := H_ (hb1.alloc hb1.size (.cells #[.string A, .slice p m c] 62)))) | (go_at_call 59; go_must (refine (CC.out _).mono ?_; rintro e w2 ⟨rfl, hb2⟩)))
     all_goals
      go_ret2
      exact ⟨by rw [HR.out]; rfl, HB1.out.trans (hb2.mono HB1.out.size)⟩
   | some x' =>
     rw [hc] at CC
     have hxx : x' = x := by have := (Z1j hc).1; rw [hx1] at this; simpa using this.symm
     subst hxx
     obtain ⟨FT, hFT⟩ : ∃ q, q = bs (faS (tyR [] x')) := ⟨_, rfl⟩
     have HR := H_ (faOf_fin hc hFT hx2 hg.1)
     have CT : Hid (∀ (W : World) p m c, FV nS W (fun k => k < W.heap.size) t (nS t (.slice p m c)) → Calls prog 60 #[.agg #[.string (bs (Z0 t)), .slice p m c], .slice (some ⟨W.heap.size, 0, none⟩) 0 0, .slice (some ⟨W.heap.size + 1, 0, none⟩) 0 0] ((W.alloc (.cells #[] 9)).alloc (.cells #[] 9)) fun e w' => e = .returned (.string FT) ∧ Below W.heap.size W w') := H_ (fun W p m c hv => by
      rw [hFT]
      have hb := Zl W (.cells #[] 9) (.cells #[] 9)
      have k1 : Zn ((W.alloc (.cells #[] 9)).alloc (.cells #[] 9)) (.slice (some ⟨W.heap.size, 0, none⟩) 0 0) [] := Z0j (l := []) (Z8 (heap_alloc_new W _)) (by simp)
      have k2 : Zn ((W.alloc (.cells #[] 9)).alloc (.cells #[] 9)) (.slice (some ⟨W.heap.size + 1, 0, none⟩) 0 0) [] := Z0j (l := []) (Z9 W _ _) (by simp)
      exact (Z1m (t.depth + 1) t x' [] (nS t (.slice p m c)) _ _ _ _ (by omega) hg.1 (by have := hg.2; omega) hx2 Z4f (fun q hq => by rw [(Z1j hc).2] at hq; cases hq) (by have := Z2i t hg.1; have := hg.2; simp; omega) k1 k2 ((hv.below hb (fun _ h => h)).wide (fun k hk => Nat.lt_of_lt_of_le hk hb.size)) (fun _ h => h)).mono fun e w' ⟨h1, h2⟩ => ⟨h1, hb.trans (h2.mono hb.size)⟩)
     obtain ⟨A, hA⟩ : ∃ q, q = bs (Z0 t) := ⟨_, rfl⟩
     rw [← hA] at C CT
     clear hp hc hg hx1 hx2 hA hFT
     go_enter func23, ntmps23
     go_wp2_with (first | (go_at_call 49; go_must (refine (C.out _).mono ?_; rintro e w1 ⟨⟨p, m, c, rfl, hv⟩, hb1⟩; have HB1 := H_ (hb1.alloc hb1.size (.cells #[.string A, .slice p m c] 62)); have V1 := H_ ((hv.below (Z4 w1 (.cells #[.string A, .slice p m c] 62)) (fun k hk => hk.2)).wide (ok' := fun q => q < (w1.alloc (.cells #[.string A, .slice p m c] 62)).heap.size) (fun k hk => by simp; omega)); have y1 := heap_alloc_new w1 (.cells #[.string A, .slice p m c] 62); clear hv)) | (go_at_call 59; go_must (refine (CC.out _).mono ?_; rintro e w2 ⟨rfl, hb2⟩; have HB2 := H_ (HB1.out.trans (hb2.mono HB1.out.size)); have y2 := Z1 hb2 (lt_of_block y1) y1; obtain ⟨c20, c21⟩ := Zm y2; have V2 := H_ (V1.out.below hb2 (fun _ h => h) |>.wide (ok' := fun q => q < w2.heap.size) (fun k hk => Nat.lt_of_lt_of_le hk hb2.size)))) | (go_at_call 60; go_must (refine (CT.out _ _ _ _ V2.out).mono ?_; rintro e w3 ⟨rfl, hb3⟩)))
     all_goals
      go_ret2
      exact ⟨HR.out, HB2.out.trans (hb3.mono HB2.out.size)⟩
theorem Z3a (s : ByteArray) (hs : s.size ≤ 1048576) (w : World) :
 Calls prog 25 #[.string s] w fun e w' => e = .returned (.int .i64 (Jk s.data.toList)) ∧ Below w.heap.size w w' := by
 cases hp : Zv s.data.toList with
 | none =>
   have C := H_ (Z1s hs hp)
   have HD := H_ (show Jk s.data.toList = -1 from by simp [Jk, hp])
   clear hp
   go_enter func25, ntmps25
   go_wp2_with (go_at_call 61; go_must (refine (C.out _).mono ?_; rintro e w1 ⟨rfl, hb1⟩))
   go_ret
   exact ⟨Z5u HD.out.symm, hb1.alloc hb1.size _⟩
 | some t =>
   have C := H_ (Z1r hs hp)
   have HD := H_ (show Jk s.data.toList = (t.size : Int) from by simp [Jk, hp])
   clear hp
   go_enter func25, ntmps25
   go_wp2_with (go_at_call 61; go_must (refine (C.out _).mono ?_; rintro e w1 ⟨⟨p, n, c, rfl, hv⟩, hb1⟩))
   go_ret
   exact ⟨Z5u HD.out.symm, hb1.alloc hb1.size _⟩
theorem kid_smallF {x k : Ex} (hk : k ∈ Zc x) : (Z2 k).size ≤ (Z2 x).size ∧ (Z2 k).bytes ≤ (Z2 x).bytes ∧ (Z2 k).depth ≤ (Z2 x).depth ∧ ((Z2 x).wf → (Z2 k).wf) ∧ (Z3d x → Z3d k) := by
 cases x with
 | name s => cases hk
 | num n => cases hk
 | two o a b =>
   simp only [Zc, List.mem_cons, List.not_mem_nil, or_false] at hk
   simp only [Z2, Tr.size, Yo, Tr.bytes, Zk, Tr.depth, Ys, Tr.wf, wfs]
   rcases hk with rfl | rfl
   · exact ⟨by omega, by omega, by omega, fun h => h.2.2.1, fun h => ((Z1c _ _ _).1 h).1⟩
   · exact ⟨by omega, by omega, by omega, fun h => h.2.2.2.1, fun h => ((Z1c _ _ _).1 h).2⟩
 | one o a =>
   simp only [Zc, List.mem_cons, List.not_mem_nil, or_false] at hk
   subst hk
   simp only [Z2, Tr.size, Yo, Tr.bytes, Zk, Tr.depth, Ys, Tr.wf, wfs]
   exact ⟨by omega, by omega, by omega, fun h => h.2.2.1, fun h => (Z3w _ _).1 h⟩
 | cond a b d =>
   simp only [Zc, List.mem_cons, List.not_mem_nil, or_false] at hk
   simp only [Z2, Tr.size, Yo, Tr.bytes, Zk, Tr.depth, Ys, Tr.wf, wfs]
   rcases hk with rfl | rfl | rfl
   · exact ⟨by omega, by omega, by omega, fun h => h.2.2.1, fun h => ((Vu _ _ _).1 h).1⟩
   · exact ⟨by omega, by omega, by omega, fun h => h.2.2.2.1, fun h => ((Vu _ _ _).1 h).2.1⟩
   · exact ⟨by omega, by omega, by omega, fun h => h.2.2.2.2.1, fun h => ((Vu _ _ _).1 h).2.2⟩
 | lete s a b =>
   simp only [Zc, List.mem_cons, List.not_mem_nil, or_false] at hk
   simp only [Z2, Tr.size, Yo, Tr.bytes, Zk, Tr.depth, Ys, Tr.wf, wfs]
   rcases hk with rfl | rfl
   · exact ⟨by omega, by omega, by omega, fun h => h.2.2.2.1, fun h => ((Z0z _ _ _).1 h).2.1⟩
   · exact ⟨by omega, by omega, by omega, fun h => h.2.2.2.2.1, fun h => ((Z0z _ _ _).1 h).2.2⟩
 | func f s A B e =>
   simp only [Zc, List.mem_cons, List.not_mem_nil, or_false] at hk
   subst hk
   simp only [Z2, Tr.size, Yo, Tr.bytes, Zk, Tr.depth, Ys, Tr.wf, wfs]
   exact ⟨by omega, by omega, by omega, fun h => h.2.2.2.2.2.2.1, fun h => ((Z10 _ _ _ _ _).1 h).2⟩
theorem tyR_closedF {x : Ex} {t : Tr} (h : tyR [] x = .ok t) : Ze x = [] := by
 rw [List.eq_nil_iff_forall_not_mem]
 intro s hs
 have := Jx x [] (by rw [tyT_ok.1 h]; rfl) s hs
 simp [Yv] at this
theorem bad_again {f : Ex} {env : List (Nm × Tr)} (h : tyR env f = .error f) : ∃ g, tyR [] f = .error g := by
 cases hr : tyR [] f with
 | error g => exact ⟨g, rfl⟩
 | ok t =>
   have hf := tyR_closedF hr
   have he := Vz f [] env (fun s hs => by rw [hf] at hs; cases hs)
   rw [hr, h] at he; cases he
theorem bad_head {f : Ex} {env : List (Nm × Tr)} (h : tyR env f = .error f) (hf : ∀ s ∈ Ze f, (Yv env s).isSome = true) : Q5 f ≠ Z4p ∧ Q5 f ≠ Z00 ∧ Q5 f ≠ [] := by
 cases f with
 | name s =>
   have := hf s (by simp [Ze])
   obtain ⟨t, ht⟩ := Option.isSome_iff_exists.1 this
   simp only [tyR] at h
   rw [ht] at h; cases h
 | num n => simp [tyR] at h
 | two o a b => cases o <;> simp [Q5, Z3c, Z4p, Z00]
 | one o a => cases o <;> simp [Q5, Z4l, Z4p, Z00]
 | cond a b c => simp [Q5, kIf, Z4p, Z00]
 | lete x a b => simp [Q5, Q3, Z4p, Z00]
 | func f x A B e => simp [Q5, Q1, Z4p, Z00]
theorem Z9i : K7 [] [] = some [] := rfl
theorem fault_law {l F : List UInt8} (h : Z7n l = some F) : ∃ (f : Ex) (n m : Nat), Qv l = false ∧ (X4 l).isSome = true ∧ headI F = Q5 f ∧ (Q5 f ≠ Z4p ∧ Q5 f ≠ Z00 ∧ Q5 f ≠ []) ∧ Jk F = (n : Int) ∧ Jk l = (m : Int) ∧ n ≤ m ∧ m ≤ 120 ∧ Qv F = false ∧ F.length ≤ 12000 := by
 cases hc : X4 l with
 | none => rw [Z4e hc] at h; cases h
 | some x =>
   obtain ⟨hx, hfr⟩ := Z1j hc
   cases hr : tyR [] x with
   | ok t => rw [Z7w hc hr] at h; cases h
   | error f =>
     rw [Z9g hc hr] at h
     injection h with h; subst h
     obtain ⟨hp, -, hs, hby, hd, hw, hg⟩ := Z6c hx
     obtain ⟨⟨a1, a2, a3, a4, a5⟩, env, he, hfe⟩ := Z1v (fun y => (Z2 y).size ≤ (Z2 x).size ∧ (Z2 y).bytes ≤ 12000 ∧ (Z2 y).depth ≤ 60 ∧ (Z2 y).wf ∧ Z3d y) (fun y k ⟨b1, b2, b3, b4, b5⟩ hk => by
      obtain ⟨k1, k2, k3, k4, k5⟩ := kid_smallF hk
      exact ⟨by omega, by omega, by omega, k4 b4, k5 b5⟩) x [] f hr ⟨Nat.le_refl _, hby, hd, hw, hg⟩ (fun s hs => by rw [hfr] at hs; cases hs)
     have hF := Z8k (by omega) a3 a5
     have hpF := (Z6c hF).1
     obtain ⟨g, hg2⟩ := bad_again he
     refine ⟨f, (Z2 f).size, (Z2 x).size, ?_, rfl, Z9d hF, bad_head he hfe, by simp [Jk, hpF], by simp [Jk, hp], a1, hs, ?_, ?_⟩
     · rw [Qv, Z5m Z9i hx hr]; rfl
     · rw [Qv, Z5m Z9i hF hg2]; rfl
     · rw [Zw _ a4]; exact a2
theorem walk_FnFault (a : Option Addr) (L c : Nat) (zs : List Int) (w : World) (hr : Z1z w a L c zs) (hT : Tab w) :
 Calls prog 5 #[.slice a L c] w fun e w' => e = .returned (.bool true) ∧ Below w.heap.size w w' := by
 by_cases h0 : L ≤ 1048576
 · have hd0 : decide (1048576 < (L : Int)) = false := by simp; omega
   have C := H_ (Z7p a L c zs w hr)
   have HT := H_ hT
   clear hr hT
   go_enter func5, ntmps5
   go_wp2_with fail
   refine (C.out).mono ?_
   rintro e w1 ⟨⟨s, rfl, hs⟩, hb1⟩
   have HB := H_ hb1
   clear hb1 C
   cases hf : Z7n s.data.toList with
   | none =>
     have CI : Hid (∀ W, Below w.heap.size w W → Calls prog 20 #[.string s] W fun e w' => e = .returned (.tuple #[.string (bs []), .bool false]) ∧ Below W.heap.size W w') := H_ (fun W hW => (Z0n s (by omega) W (HT.out.below hW)).mono fun e w' ⟨h1, h2⟩ => ⟨by rw [hf] at h1; exact h1, h2⟩)
     have CS : Hid (∀ W, Calls prog 23 #[.string s] W fun e w' => e = .returned (.tuple #[.string (bs []), .bool false]) ∧ Below W.heap.size W w') := H_ (fun W => (Z37 s (by omega) W).mono fun e w' ⟨h1, h2⟩ => ⟨by rw [hf] at h1; exact h1, h2⟩)
     clear hf
     generalize bs [] = E at *
     go_wp2_with (first | (go_at_call 20; go_must (refine (CI.out _ HB.out).mono ?_; rintro e wn ⟨rfl, hbn⟩; have HB := H_ ((Y0 (Yk HB.out) hbn).1); clear hbn)) | (go_at_call 23; go_must (refine (CS.out _).mono ?_; rintro e wn ⟨rfl, hbn⟩; have HB := H_ ((Y0 (Yk HB.out) hbn).1); clear hbn)))
     go_ret
     exact ⟨Zh (by simp), HB.out⟩
   | some F =>
     obtain ⟨f, n, m, q1, q2, q3, ⟨q4, q5, q6⟩, q7, q8, q9, q10, q11, q12⟩ := fault_law hf
     obtain ⟨FT, hFT⟩ : ∃ FT, FT = bs F := ⟨_, rfl⟩
     have hFs : FT.size ≤ 1048576 := by rw [hFT, Yf]; omega
     have hFd : FT.data.toList = F := by rw [hFT, Xy]
     obtain ⟨HD, hHD⟩ : ∃ HD, HD = bs (Q5 f) := ⟨_, rfl⟩
     have CI : Hid (∀ W, Below w.heap.size w W → Calls prog 20 #[.string s] W fun e w' => e = .returned (.tuple #[.string FT, .bool true]) ∧ Below W.heap.size W w') := H_ (fun W hW => (Z0n s (by omega) W (HT.out.below hW)).mono fun e w' ⟨h1, h2⟩ => ⟨by rw [hf] at h1; rw [hFT]; exact h1, h2⟩)
     have CS : Hid (∀ W, Calls prog 23 #[.string s] W fun e w' => e = .returned (.tuple #[.string FT, .bool true]) ∧ Below W.heap.size W w') := H_ (fun W => (Z37 s (by omega) W).mono fun e w' ⟨h1, h2⟩ => ⟨by rw [hf] at h1; rw [hFT]; exact h1, h2⟩)
     have CH : Hid (∀ W, Calls prog 24 #[.string FT] W fun e w' => e = .returned (.string HD) ∧ Below W.heap.size W w') := H_ (fun W => (Z95 FT hFs W).mono fun e w' ⟨h1, h2⟩ => ⟨by rw [hFd, q3] at h1; rw [hHD]; exact h1, h2⟩)
     have CT : Hid (∀ W, Calls prog 18 #[.string s] W fun e w' => e = .returned (.bool false) ∧ Below W.heap.size W w') := H_ (fun W => (Js s (by omega) W).mono fun e w' ⟨h1, h2⟩ => ⟨by rw [q1] at h1; exact h1, h2⟩)
     have CY : Hid (∀ W, Calls prog 18 #[.string FT] W fun e w' => e = .returned (.bool false) ∧ Below W.heap.size W w') := H_ (fun W => (Js FT hFs W).mono fun e w' ⟨h1, h2⟩ => ⟨by rw [hFd, q11] at h1; exact h1, h2⟩)
     have CC : Hid (∀ W, Calls prog 21 #[.string s] W fun e w' => e = .returned (.bool true) ∧ Below W.heap.size W w') := H_ (fun W => (Z2e s (by omega) W).mono fun e w' ⟨h1, h2⟩ => ⟨by rw [q2] at h1; exact h1, h2⟩)
     have CZ : Hid (∀ W, Calls prog 25 #[.string s] W fun e w' => e = .returned (.int .i64 (m : Nat)) ∧ Below W.heap.size W w') := H_ (fun W => (Z3a s (by omega) W).mono fun e w' ⟨h1, h2⟩ => ⟨by rw [q8] at h1; exact h1, h2⟩)
     have CF : Hid (∀ W, Calls prog 25 #[.string FT] W fun e w' => e = .returned (.int .i64 (n : Nat)) ∧ Below W.heap.size W w') := H_ (fun W => (Z3a FT hFs W).mono fun e w' ⟨h1, h2⟩ => ⟨by rw [hFd, q7] at h1; exact h1, h2⟩)
     have x1 : (HD.toList == [110, 97, 109, 101]) = false := by rw [hHD, Z5]; simpa [Z4p] using q4
     have y1 : ¬ HD.toList = [110, 97, 109, 101] := by rw [hHD, Z5]; exact q4
     have x2 : (HD.toList == [110, 117, 109, 98, 101, 114]) = false := by rw [hHD, Z5]; simpa [Z00] using q5
     have y2 : ¬ HD.toList = [110, 117, 109, 98, 101, 114] := by rw [hHD, Z5]; exact q5
     have x3 : (HD.toList == []) = false := by rw [hHD, Z5]; simpa using q6
     have y3 : ¬ HD.toList = [] := by rw [hHD, Z5]; exact q6
     have z3 : HD.toList.isEmpty = false := by rw [hHD, Z5]; simpa using q6
     have hnm : (n : Int) ≤ (m : Int) := by omega
     have hnm2 : decide ((n : Int) ≤ (m : Int)) = true := by simpa using q9
     have hn9 : (n : Int) ≤ 120 := by omega
     have hm9 : (m : Int) ≤ 120 := by omega
     clear hf q1 q2 q3 q4 q5 q6 q7 q8 q9 q10 q11 q12 hFs hFd hFT hHD
     have tok1 : True := trivial
     have tok2 : True := trivial
     go_wp2_with (first | (go_at_call 20; go_must (refine (CI.out _ HB.out).mono ?_; rintro e wn ⟨rfl, hbn⟩; have HB := H_ ((Y0 (Yk HB.out) hbn).1); clear hbn)) | (go_at_call 23; go_must (refine (CS.out _).mono ?_; rintro e wn ⟨rfl, hbn⟩; have HB := H_ ((Y0 (Yk HB.out) hbn).1); clear hbn)) | (go_at_call 24; go_must (refine (CH.out _).mono ?_; rintro e wn ⟨rfl, hbn⟩; have HB := H_ ((Y0 (Yk HB.out) hbn).1); clear hbn)) | (go_at_call 18; go_must (first | (clear tok1; refine (CT.out _).mono ?_; rintro e wn ⟨rfl, hbn⟩; have HB := H_ ((Y0 (Yk HB.out) hbn).1); clear hbn) | (refine (CY.out _).mono ?_; rintro e wn ⟨rfl, hbn⟩; have HB := H_ ((Y0 (Yk HB.out) hbn).1); clear hbn))) | (go_at_call 21; go_must (refine (CC.out _).mono ?_; rintro e wn ⟨rfl, hbn⟩; have HB := H_ ((Y0 (Yk HB.out) hbn).1); clear hbn)) | (go_at_call 25; go_must (first | (clear tok2; refine (CF.out _).mono ?_; rintro e wn ⟨rfl, hbn⟩; have HB := H_ ((Y0 (Yk HB.out) hbn).1); clear hbn) | (refine (CZ.out _).mono ?_; rintro e wn ⟨rfl, hbn⟩; have HB := H_ ((Y0 (Yk HB.out) hbn).1); clear hbn))))
     go_ret
     exact ⟨Zh (by simp [hnm]), HB.out⟩
 · have hd0 : decide (1048576 < (L : Int)) = true := by simp; omega
   have hm0 : L ≤ 9223372036854775807 := hr.bound
   go_enter func5, ntmps5
   go_wp2_with fail
   go_ret
   exact ⟨rfl, Below.refl _ _⟩
end Go.Proofs.YtfknoigbkleanaaGreatDoor
