/- The reference's ExprType and ExprTyped. The plain mathematics of chapter 3: how many expressions an expression has; environments, types, the first fault. The plain text of an expression: it is read back, has the same type and as many parts. The law FnTyped: its walk. Typed expressions are closed and have no fault. The lifted half of the proof. The closed facts. The law FnTyped: for every input the call returns true, and each argument reads afterwards as it read before; the listed variables tied to the program's text. No condition besides. -/
import Derived.Test.YtfknoigbkleanaaGreatDoorqSpec3f
import Derived.Test.YtfknoigbkleanaaGreatDoorqLawRtM
import Derived.Test.YtfknoigbkleanaaGreatDoorqPureT
import Derived.Test.YtfknoigbkleanaaGreatDoorqSpec2hM
import Derived.Test.YtfknoigbkleanaaGreatDoorqS2f
import Derived.Test.YtfknoigbkleanaaGreatDoorqPureA
import Derived.Test.YtfknoigbkleanaaGreatDoorqIp5
import Derived.Test.YtfknoigbkleanaaGreatDoorqDrawC
import Derived.OwnWalk
import Derived.Test.YtfknoigbkleanaaGreatDoorRows
import Derived.Test.YtfknoigbkleanaaGreatDoorCards
import Derived.Test.YtfknoigbkleanaaGreatDoorTie
import Derived.WalkKit
import Derived.ProofKit
import Derived.OpenShut
import Derived.ShutString
import Derived.LaidMore
import Derived.Stop.Joined
import Derived.SevenTiedAt
import Derived.LaidSub
import Derived.MakeChecks
import Derived.Lib.LaidTab
set_option maxHeartbeats 20000000
namespace Go.Proofs.YtfknoigbkleanaaGreatDoor
open Go.RowKit Go.Proofs.Tryz
set_option maxRecDepth 8000
set_option maxHeartbeats 20000000
set_option linter.unusedVariables false
set_option linter.unusedSimpArgs false
theorem tyS_empty {env : List (Nm × Tr)} {x : Ex} {t : Tr} (henv : Qe env) (hty : Kn x) (h : tyR env x = .ok t) : tyS (tyR env x) ≠ [] := by
 rw [h]; exact Qh (Zf (Qj x env t henv hty h)).1
theorem tyOf_tyS {ns : List Nm} {ts : List (List UInt8)} {l : List UInt8} {env : List (Nm × Tr)} {x : Ex} (he : K7 ns ts = some env) (hx : Yb l = some x) : (Z3b ns ts l).getD [] = tyS (tyR env x) ∧ (Z3b ns ts l).isSome = !decide (tyS (tyR env x) = []) := by
 cases hr : tyR env x with
 | error f => rw [Z5m he hx hr]; exact ⟨rfl, rfl⟩
 | ok t =>
   have := tyS_empty (envOf_ok he) (Z3j hx) hr
   rw [Z21 he hx hr]
   rw [hr] at this
   exact ⟨rfl, by simp [this]⟩
theorem l3Type_top {t : Tr} {x : Ex} {env : List (Nm × Tr)} {v1 v2 : Value} {w : World} (hwf : t.wf) (hby : t.bytes ≤ 12000) (hx : Y9 t = some x) (henv : Qe env) (hl : env.length ≤ 8) (h1 : Zn w v1 (Kj env)) (h2 : Zn w v2 (Ke env)) {p : Option Addr} {m c : Nat} {W : World} (hW : Below w.heap.size w W) (hv : FV nS W (fun k => k < W.heap.size) t (nS t (.slice p m c))) :
 Calls prog 51 #[.agg #[.string (bs (Z0 t)), .slice p m c], v1, v2] W fun e w' => e = .returned (.string (bs (tyS (tyR env x)))) ∧ Below W.heap.size W w' :=
 Vt (t.depth + 1) t x env (nS t (.slice p m c)) v1 v2 _ W (by omega) hwf hby hx henv (by have := Z2i t hwf; omega) (h1.below hW) (h2.below hW) hv (fun _ h => h)
def clTy (l : List UInt8) : Nm := match X4 l with | none => [] | some x => tyS (tyR [] x)
theorem Z4g {l : List UInt8} (h : X4 l = none) : clTy l = [] := by simp [clTy, h]
theorem clTy_some {l : List UInt8} {x : Ex} (h : X4 l = some x) : clTy l = tyS (tyR [] x) := by simp [clTy, h]
theorem readCl_ex {l : List UInt8} {x : Ex} (h : X4 l = some x) : Yb l = some x := by
 unfold X4 at h
 simp only [Option.filter_eq_some_iff] at h
 exact h.1
theorem envOf_nil : K7 [] [] = some [] := rfl
theorem typedOf_clTy (l : List UInt8) : Qv l = !decide (clTy l = []) := by
 unfold Qv
 cases hx : Yb l with
 | none =>
   rw [tyOf_ex hx, Z4g (Z1i hx)]; rfl
 | some x =>
   obtain ⟨q1, q2⟩ := tyOf_tyS envOf_nil hx
   rw [q2]
   by_cases hf : Ze x = []
   · rw [clTy_some (Z0b hx hf)]
   · rw [Z4g (Z6b hx hf)]
     have : tyS (tyR [] x) = [] := by
      cases hr : tyR [] x with
      | error f => rfl
      | ok t => exact absurd (tyR_closed hr) hf
     rw [this]
theorem l3Closed_c (s : ByteArray) (hs : s.size ≤ 1048576) (w : World) :
 Calls prog 57 #[.string s] w fun e w' => e = .returned (.string (bs (clTy s.data.toList))) ∧ Below w.heap.size w w' := by
 have CC : Hid (∀ W, Calls prog 59 #[.string s] W fun e w' => e = .returned (.bool (X4 s.data.toList).isSome) ∧ Below W.heap.size W w') := H_ (fun W => Z23 s hs W)
 cases hp : Qp s.data.toList with
 | none =>
   have C := H_ (Z2u hs hp)
   have HR := H_ (Z4g (Z1i (Z2n hp)))
   clear hp CC
   go_enter func57, ntmps57
   go_wp2_with (go_at_call 49; go_must (refine (C.out _).mono ?_; rintro e w1 ⟨⟨a, p, m, c, rfl, hnl⟩, hb1⟩))
   try go_region
   all_goals
    go_wp2_with fail
    go_ret
    exact ⟨by rw [HR.out]; rfl, by first | exact hb1.alloc hb1.size _ | exact (hb1.alloc hb1.size _).drew⟩
 | some t =>
   have C := H_ (Z2t hs hp)
   obtain ⟨x, hx1, hx2⟩ := Z2o hp
   have hg := Yt (Z2p hp).1
   cases hc : X4 s.data.toList with
   | none =>
     rw [hc] at CC
     have HR := H_ (Z4g hc)
     clear hp hc hg hx1 hx2
     generalize bs (Z0 t) = A at *
     go_enter func57, ntmps57
     go_wp2_with (first | (go_at_call 49; go_must (refine (C.out _).mono ?_; rintro e w1 ⟨⟨p, m, c, rfl, hv⟩, hb1⟩; have HB1 := H_ (hb1.alloc hb1.size (.cells #[.string A, .slice p m c] 62)))) | (go_at_call 59; go_must (refine (CC.out _).mono ?_; rintro e w2 ⟨rfl, hb2⟩)))
     all_goals
      go_ret
      exact ⟨by rw [HR.out]; rfl, HB1.out.trans (hb2.mono HB1.out.size)⟩
   | some x' =>
     rw [hc] at CC
     have hxx : x' = x := by have := readCl_ex hc; rw [hx1] at this; simpa using this.symm
     subst hxx
     have HR := H_ (clTy_some hc)
     have CT : Hid (∀ (W : World) p m c, FV nS W (fun k => k < W.heap.size) t (nS t (.slice p m c)) → Calls prog 51 #[.agg #[.string (bs (Z0 t)), .slice p m c], .slice (some ⟨W.heap.size, 0, none⟩) 0 0, .slice (some ⟨W.heap.size + 1, 0, none⟩) 0 0] ((W.alloc (.cells #[] 9)).alloc (.cells #[] 9)) fun e w' => e = .returned (.string (bs (tyS (tyR [] x')))) ∧ Below W.heap.size W w') := H_ (fun W p m c hv => by
      have hb := Zl W (.cells #[] 9) (.cells #[] 9)
      have k1 : Zn ((W.alloc (.cells #[] 9)).alloc (.cells #[] 9)) (.slice (some ⟨W.heap.size, 0, none⟩) 0 0) [] := Z0j (l := []) (Z8 (heap_alloc_new W _)) (by simp)
      have k2 : Zn ((W.alloc (.cells #[] 9)).alloc (.cells #[] 9)) (.slice (some ⟨W.heap.size + 1, 0, none⟩) 0 0) [] := Z0j (l := []) (Z9 W _ _) (by simp)
      exact (l3Type_top (w := (W.alloc (.cells #[] 9)).alloc (.cells #[] 9)) hg.1 (by have := hg.2; omega) hx2 Z4f (by simp) k1 k2 (Below.refl _ _) ((hv.below hb (fun _ h => h)).wide (fun k hk => Nat.lt_of_lt_of_le hk hb.size))).mono fun e w' ⟨h1, h2⟩ => ⟨h1, hb.trans (h2.mono hb.size)⟩)
     obtain ⟨A, hA⟩ : ∃ q, q = bs (Z0 t) := ⟨_, rfl⟩
     rw [← hA] at C CT
     generalize tyS (tyR [] x') = RR at *
     clear hp hc hg hx1 hx2 hA
     go_enter func57, ntmps57
     go_wp2_with (first | (go_at_call 49; go_must (refine (C.out _).mono ?_; rintro e w1 ⟨⟨p, m, c, rfl, hv⟩, hb1⟩; have HB1 := H_ (hb1.alloc hb1.size (.cells #[.string A, .slice p m c] 62)); have V1 := H_ ((hv.below (Z4 w1 (.cells #[.string A, .slice p m c] 62)) (fun k hk => hk.2)).wide (ok' := fun q => q < (w1.alloc (.cells #[.string A, .slice p m c] 62)).heap.size) (fun k hk => by simp; omega)); have y1 := heap_alloc_new w1 (.cells #[.string A, .slice p m c] 62); clear hv)) | (go_at_call 59; go_must (refine (CC.out _).mono ?_; rintro e w2 ⟨rfl, hb2⟩; have HB2 := H_ (HB1.out.trans (hb2.mono HB1.out.size)); have y2 := Z1 hb2 (lt_of_block y1) y1; obtain ⟨c20, c21⟩ := Zm y2; have V2 := H_ (V1.out.below hb2 (fun _ h => h) |>.wide (ok' := fun q => q < w2.heap.size) (fun k hk => Nat.lt_of_lt_of_le hk hb2.size)))) | (go_at_call 51; go_must (refine (CT.out _ _ _ _ V2.out).mono ?_; rintro e w3 ⟨rfl, hb3⟩)))
     all_goals
      go_ret
      exact ⟨by rw [HR.out]; rfl, HB2.out.trans (hb3.mono HB2.out.size)⟩
theorem Z7i (s : ByteArray) (hs : s.size ≤ 1048576) (w : World) :
 Calls prog 19 #[.string s] w fun e w' => e = .returned (.bool (Qv s.data.toList)) ∧ Below w.heap.size w w' := by
 have C := H_ (l3Closed_c s hs)
 have HR : Hid (Qv s.data.toList = !(bs (clTy s.data.toList)).toList.isEmpty) := H_ (by
  rw [typedOf_clTy, Z5]
  by_cases hz : clTy s.data.toList = []
  · rw [hz]; rfl
  · rw [decide_eq_false hz, show (clTy s.data.toList).isEmpty = false by simpa using hz])
 rw [HR.out]
 generalize bs (clTy s.data.toList) = RR at *
 clear HR
 go_enter func19, ntmps19
 go_wp2_with (go_at_call 57; go_must (refine (C.out _).mono ?_; rintro e w1 ⟨rfl, hb1⟩))
 go_ret
 exact ⟨rfl, hb1⟩
def Z3o : Ex → Nat
 | .name _ => 1
 | .num _ => 1
 | .two _ a b => 1 + Z3o a + Z3o b
 | .one _ a => 1 + Z3o a
 | .cond a b c => 1 + Z3o a + Z3o b + Z3o c
 | .lete _ e b => 1 + Z3o e + Z3o b
 | .func _ _ _ _ e => 1 + Z3o e
def sumM : List Ex → Nat
 | [] => 0
 | k :: ks => Z3o k + sumM ks
def manyOf (l : List UInt8) : Int := match Yb l with | none => -1 | some x => (Z3o x : Nat)
theorem plX_read {l : List UInt8} {x : Ex} (h : Yb l = some x) : Yb (Z2 (plX x)).text = some (plX x) ∧ (Z2 (plX x)).text.length ≤ 12000 := by
 obtain ⟨-, -, h1, h2, h3, h4, h5⟩ := Z6c h
 have hf := plX_few h1
 have hg : Z3d (plX x) := Kq (frE x) x [] 0 (fun q hq => by cases hq) h5 (by omega)
 obtain ⟨s1, s2⟩ := Kp (frE x) x [] 0
 have s1' : (Z2 (plX x)).size = (Z2 x).size := s1
 have s2' : (Z2 (plX x)).depth = (Z2 x).depth := s2
 have hb := Qt _ hg
 refine ⟨Z8k (by omega) (by omega) hg, ?_⟩
 rw [Zw _ (Vl _ hg)]
 omega
theorem plX_ty (x : Ex) (env : List (Nm × Tr)) : tyT env (plX x) = tyT env x :=
 Z1t (frE x) x [] 0 env env (fun s hs => rfl) (fun s hs => .inl ((Z8s s _ []).2 (.inr hs)))
theorem typedOf_got {l : List UInt8} (h : Qv l = true) : ∃ x t, Yb l = some x ∧ tyR [] x = .ok t := by
 unfold Qv Z3b at h
 simp only [show K7 [] [] = some [] from rfl] at h
 cases hx : Yb l with
 | none => simp [hx] at h
 | some x =>
   cases ht : tyR [] x with
   | error f => simp [hx, ht] at h
   | ok t => exact ⟨x, t, rfl, ht⟩
theorem typed_law {l : List UInt8} (h : Qv l = true) : ∃ X P, Z3b [] [] l = some X ∧ Z7n l = none ∧ (X4 l).isSome = true ∧ plTx l = some P ∧ Qv P = true ∧ P.length ≤ 12000 := by
 obtain ⟨x, t, hx, ht⟩ := typedOf_got h
 have hf := tyR_closed ht
 have hc := Z0b hx hf
 obtain ⟨q1, q2⟩ := plX_read hx
 refine ⟨t.text, (Z2 (plX x)).text, Z21 rfl hx ht, Z7w hc ht, by rw [hc]; rfl, plTx_some hx, ?_, q2⟩
 have hp : tyR [] (plX x) = .ok t := tyT_ok.2 (by rw [plX_ty]; exact tyT_ok.1 ht)
 rw [Qv, Z21 (env := []) rfl q1 hp]; rfl
theorem walk_FnTyped (a : Option Addr) (L c : Nat) (zs : List Int) (w : World) (hr : Z1z w a L c zs) (hT : Tab w) :
 Calls prog 4 #[.slice a L c] w fun e w' => e = .returned (.bool true) ∧ Below w.heap.size w w' := by
 by_cases h0 : L ≤ 1048576
 · have hd0 : decide (1048576 < (L : Int)) = false := by simp; omega
   have C := H_ (Z7o a L c zs w hr)
   have HT := H_ hT
   clear hr hT
   go_enter func4, ntmps4
   go_wp2_with fail
   refine (C.out).mono ?_
   rintro e w1 ⟨⟨s, rfl, hs⟩, hb1⟩
   have HB := H_ hb1
   clear hb1 C
   have CI := H_ (fun W => Js s (by omega) W)
   have CS := H_ (fun W => Z7i s (by omega) W)
   cases hty : Qv s.data.toList with
   | false =>
     unfold Hid at CI CS
     rw [hty] at CI CS
     have CI := H_ CI
     have CS := H_ CS
     clear hty
     go_wp2_with (first | (go_at_call 18; go_must (refine (CI.out _).mono ?_; rintro e wn ⟨rfl, hbn⟩; have HB := H_ ((Y0 (Yk HB.out) hbn).1); clear hbn)) | (go_at_call 19; go_must (refine (CS.out _).mono ?_; rintro e wn ⟨rfl, hbn⟩; have HB := H_ ((Y0 (Yk HB.out) hbn).1); clear hbn)))
     go_ret
     exact ⟨Zh (by simp), HB.out⟩
   | true =>
     obtain ⟨X, P, q1, q2, q3, q4, q5, q6⟩ := typed_law hty
     unfold Hid at CI CS
     rw [hty] at CI CS
     have CI := H_ CI
     have CS := H_ CS
     have CF : Hid (∀ W, Below w.heap.size w W → Calls prog 20 #[.string s] W fun e w' => (∃ S, e = .returned (.tuple #[.string S, .bool false])) ∧ Below W.heap.size W w') := H_ (fun W hW => (Z0n s (by omega) W (HT.out.below hW)).mono fun e w' ⟨h1, h2⟩ => ⟨by rw [q2] at h1; exact ⟨_, h1⟩, h2⟩)
     have CX : Hid (∀ W : World, Calls prog 11 #[.slice (some ⟨W.heap.size, 0, none⟩) 0 0, .slice (some ⟨W.heap.size + 1, 0, none⟩) 0 0, .string s] ((W.alloc (.cells #[] 9)).alloc (.cells #[] 9)) fun e w' => (∃ S, e = .returned (.tuple #[.string S, .bool true])) ∧ Below W.heap.size W w') := H_ (fun W => by
      have hb : Below W.heap.size W ((W.alloc (.cells #[] 9)).alloc (.cells #[] 9)) := (Z4 W _).alloc (by simp) _
      exact (Z1b _ _ [] [] s _ (Z7s _) (Z7s _) (fun k h => by simp at h) (fun k h => by simp at h) (by omega)).mono fun e w' ⟨h1, h2⟩ => ⟨by rw [q1] at h1; exact ⟨_, h1⟩, hb.trans (h2.mono hb.size)⟩)
     have CC : Hid (∀ W, Calls prog 21 #[.string s] W fun e w' => e = .returned (.bool true) ∧ Below W.heap.size W w') := H_ (fun W => (Z2e s (by omega) W).mono fun e w' ⟨h1, h2⟩ => ⟨by rw [q3] at h1; exact h1, h2⟩)
     obtain ⟨PT, hPT⟩ : ∃ PT, PT = bs P := ⟨_, rfl⟩
     have CP : Hid (∀ W, Below w.heap.size w W → Calls prog 14 #[.string s] W fun e w' => e = .returned (.tuple #[.string PT, .bool true]) ∧ Below W.heap.size W w') := H_ (fun W hW => (Z7m s (by omega) W (HT.out.below hW)).mono fun e w' ⟨h1, h2⟩ => ⟨by rw [q4] at h1; rw [hPT]; exact h1, h2⟩)
     have CY : Hid (∀ W, Calls prog 18 #[.string PT] W fun e w' => e = .returned (.bool true) ∧ Below W.heap.size W w') := H_ (fun W => (Js PT (by rw [hPT, Yf]; omega) W).mono fun e w' ⟨h1, h2⟩ => ⟨by rw [hPT, Xy, q5] at h1; exact h1, h2⟩)
     clear hty q1 q2 q3 q4 q5 q6 hPT
     have tok1 : True := trivial
     go_wp2_with (first | (go_at_call 18; clear tok1; go_must (refine (CI.out _).mono ?_; rintro e wn ⟨rfl, hbn⟩; have HB := H_ ((Y0 (Yk HB.out) hbn).1); clear hbn)) | (go_at_call 19; go_must (refine (CS.out _).mono ?_; rintro e wn ⟨rfl, hbn⟩; have HB := H_ ((Y0 (Yk HB.out) hbn).1); clear hbn)) | (go_at_call 20; go_must (refine (CF.out _ HB.out).mono ?_; rintro e wn ⟨⟨S1, rfl⟩, hbn⟩; have HB := H_ ((Y0 (Yk HB.out) hbn).1); clear hbn)) | (go_at_call 11; go_must (refine (CX.out _).mono ?_; rintro e wn ⟨⟨S2, rfl⟩, hbn⟩; have HB := H_ ((Y0 (Yk HB.out) hbn).1); clear hbn)) | (go_at_call 14; go_must (refine (CP.out _ HB.out).mono ?_; rintro e wn ⟨rfl, hbn⟩; have HB := H_ ((Y0 (Yk HB.out) hbn).1); clear hbn)) | (go_at_call 21; go_must (refine (CC.out _).mono ?_; rintro e wn ⟨rfl, hbn⟩; have HB := H_ ((Y0 (Yk HB.out) hbn).1); clear hbn)) | (go_at_call 18; go_must (refine (CY.out _).mono ?_; rintro e wn ⟨rfl, hbn⟩; have HB := H_ ((Y0 (Yk HB.out) hbn).1); clear hbn)))
     go_ret
     exact ⟨Zh (by simp), HB.out⟩
 · have hd0 : decide (1048576 < (L : Int)) = true := by simp; omega
   have hm0 : L ≤ 9223372036854775807 := hr.bound
   go_enter func4, ntmps4
   go_wp2_with fail
   go_ret
   exact ⟨rfl, Below.refl _ _⟩
end Go.Proofs.YtfknoigbkleanaaGreatDoor
namespace Go.Proofs.YtfknoigbkleanaaGreatDoor.fnTyped
open Go.ChangeShapes Go.WideShapes Go.ChangeAt Go.RowKit
open Go.ChangeMaps (open_string shut_string)
theorem own : ownKnob Tryz.prog.godebug = none := by kernel_rfl
theorem door_met (os : Os) (args : Array Value) : laidMetH Tryz.prog Rows.fnTypedRow.laid ((World.doorLaid Tryz.prog 62 os).forCall (fun _ _ => 0) ⟨#[], args, []⟩).memory :=
 laidMetH_of_parts3 (fuel := 8) (laidMet_of_run' 8 (by kernel_rfl) (by kernel_rfl)) (by kernel_rfl) (by kernel_rfl)
theorem tab_of {W : World} (h : laidMetH Tryz.prog Rows.fnTypedRow.laid W) : Tab W := by
 have h1 := h.filter (fun x => x.1 == "internal/strconv.uint64pow10")
 have e : Rows.fnTypedRow.laid.filter (fun x => x.1 == "internal/strconv.uint64pow10") = [("internal/strconv.uint64pow10", Lib.tabData .u64 Lib.pow10Tab)] := by kernel_rfl
 rw [e] at h1
 rw [MakeChecks.laidMetH_plain _ _ _ (by kernel_rfl)] at h1
 exact Lib.tabIs_of_head (g := 3) (t := 235) (e := 214) (n := 20) (by kernel_rfl) (by kernel_rfl) Tryz.underlying235 Tryz.underlying214 (by kernel_rfl) (by kernel_rfl) h1
set_option maxRecDepth 100000 in
theorem lifted (os : Os) (started : os.Started) (H : Type) (enc : TypeId × Value → H) :
 ReturnsInHanded {} Tryz.checked os 4 .any (fun w args => (Rows.fnTypedSpec.pre enc Tryz.prog Tryz.f4 Rows.fnTypedRow.domain false w args ∧ laidMetH Tryz.prog Rows.fnTypedRow.laid w) ∧ sizedMet enc Tryz.prog Tryz.f4 (OpenSpec.ofChange Rows.fnTypedSpec) false w args)
  (Rows.fnTypedSpec.post enc Tryz.prog Tryz.f4 false true false false) := by
 refine returnsInHanded_of_change_and (C := Tryz.checked) (X := fun w _ => laidMetH Tryz.prog Rows.fnTypedRow.laid w) (fun _ _ _ hh h => h.of_heap hh) own started (by kernel_rfl) Tryz.func4
  (ChangeSpec.witness_shaped (enc := enc) (C := Tryz.checked) (os := os) (X := fun w _ => laidMetH Tryz.prog Rows.fnTypedRow.laid w) false (World.doorLaid Tryz.prog 62 os) #[.slice none 0 0] 8 rfl (World.shaped_of_RefB (by kernel_rfl) (by kernel_rfl)) (by kernel_rfl) (by kernel_rfl) (by kernel_rfl) (door_met os _)) ?_
 intro W base args ds gs before hval0 hW _ _ hL _
 have hval : ∀ (j : Nat) t v, Tryz.f4.params[j]? = some t → args[j]? = some v → Value.okWide Tryz.prog W .any base t v := hval0
 have hW' := hW
 obtain ⟨p, q, hA0, hV, rfl, hfz, hnd⟩ := hW
 have hA : DataW.TrodAll enc Tryz.prog W 0 (fun _ => true) true Tryz.f4.params.toList args.toList ds p := hA0
 rw [Tryz.params4] at hA hval
 obtain ⟨v0, vs0, d0, ds0, p0, q0, hargs, rfl, rfl, h0, r0⟩ := trodAll_cons hA
 obtain ⟨rfl, rfl, rfl⟩ := trodAll_nil r0
 obtain rfl : args = #[v0] := by cases args; simp_all
 obtain ⟨rfl, rfl⟩ := trodVars_none hV
 have hx0 := h0
 have lt0 : ∀ x ∈ p0, x.block < W.heap.size := by obtain ⟨m, hm⟩ := hx0; exact DataW.trod_lt m _ _ _ hm
 obtain ⟨a0, len0, cap0, rfl⟩ := okWide_slice Tryz.underlying22 (hval 0 22 v0 rfl rfl)
 obtain ⟨z0, w0⟩ : ∃ zs, Z1z W a0 len0 cap0 zs := by
  obtain ⟨fuel, hf⟩ := h0
  rcases open_ints Tryz.underlying22 Tryz.underlying5 (by kernel_rfl) hf with ⟨hcs, _⟩ | ⟨x, l, c, zs, hcs, _, hl, hm, hz, _, hcell, hwz⟩
  · simp [Value.cells] at hcs
    obtain ⟨rfl, rfl, rfl⟩ := hcs
    exact ⟨[], Z4h (.inl ⟨rfl, rfl⟩)⟩
  · simp [Value.cells] at hcs
    obtain ⟨rfl, rfl, rfl⟩ := hcs
    exact ⟨zs, Z4h (.inr ⟨_, rfl, hl, hm, by simpa using hz, hcell, hwz⟩)⟩
 clear hA0 hval0
 simp only [List.append_nil] at hW'
 refine (walk_FnTyped a0 len0 cap0 z0 W w0 (tab_of hL)).mono fun e W' ⟨he, hg⟩ => ?_
 subst he
 exact ⟨_, rfl, _, _, _, [], p0, [], hW', (trodAll_cons_mk (shut_bool Tryz.underlying4 _) trodAll_mk0), (by have hh := (trodAll_cons_mk (Below.trod (show laidOutB Tryz.prog = true by kernel_rfl) (by kernel_rfl) (of_decide_eq_true (by kernel_rfl)) hx0 hg lt0) trodAll_mk0); simp only [List.append_nil] at hh; exact hh), rfl, hg.frame _, fun h => by cases h⟩
end Go.Proofs.YtfknoigbkleanaaGreatDoor.fnTyped
namespace Go.Proofs.YtfknoigbkleanaaGreatDoor.fnTyped
open Go.ChangeShapes Go.WideShapes Go.ChangeAt Go.RowKit
open Go.ChangeMaps (open_string shut_string)
theorem closed : joinedFacts Tryz.pinned.checked.prog 4 Tryz.f4 Rows.fnTypedSpec Rows.fnTypedRow = true := by
 unfold joinedFacts
 simp only [Bool.and_eq_true]
 repeat' apply And.intro
 all_goals (as_aux_lemma => kernel_rfl)
theorem over : Rows.FnTypedSaid :=
 OpenClaim.holds_of_wide 4 Tryz.f4 rfl rfl rfl rfl rfl rfl rfl ⟨rfl, rfl, rfl, rfl, rfl⟩ rfl rfl rfl rfl rfl (by as_aux_lemma => kernel_rfl) Tryz.func4 closed
  (of_decide_eq_true (by kernel_rfl)) (by unfold Func.isWrapper; rw [if_neg (of_decide_eq_false (by kernel_rfl))]; exact ⟨rfl, rfl⟩)
  (fun os started H enc _ => lifted os started H enc)
end Go.Proofs.YtfknoigbkleanaaGreatDoor.fnTyped
open Go.ChangeShapes Go.WideShapes Go.ChangeAt Go.RowKit
namespace Go.Proofs.YtfknoigbkleanaaGreatDoor
theorem proved_FnTypedCard : Rows.FnTypedCardSaid :=
 Claim7.holds_tied_plain_at .later [] [.data, .data, .data, .sentinel, .sentinel] true (true, "7b5259cdce9e847da38d5f4f2401be2f8655766323a79fed6ba8767e23264430") true
  fnTyped.over (fun _ h => by cases h) (by as_aux_lemma => kernel_rfl) (fun _ h => by cases h) fnTyped_row_tie rfl ⟨rfl, rfl⟩ (by as_aux_lemma => kernel_rfl) rfl
  (fun f fn hf hfn => by
    obtain rfl : f = 4 := Option.some.inj ((show Tryz.prog.funcNamed "loop.example/typedassembly/laws.FnTyped" = some 4 by as_aux_lemma => kernel_rfl).symm.trans hf) |>.symm
    obtain rfl : fn = Tryz.f4 := (Option.some.inj (Tryz.func4.symm.trans hfn)).symm
    exact ⟨by as_aux_lemma => kernel_rfl, fun j t ht => by
     rw [Tryz.params4] at ht
     have hm : t ∈ [22] := by simpa using Array.mem_of_getElem? ht
     have hall : ([22].all fun u => !Tryz.prog.wantsStandIn u) = true := by as_aux_lemma => kernel_rfl
     exact (show Tryz.prog.wantsStandIn t = false by simpa using List.all_eq_true.1 hall t hm)⟩)
  (by as_aux_lemma => kernel_rfl)
end Go.Proofs.YtfknoigbkleanaaGreatDoor
