/- The law FnPlain: its walk. Plain expressions are their own ones. The law FnPlain: for every input the call returns true, and each argument reads afterwards as it read before; the listed variables tied to the program's text. No condition besides. -/
import Derived.Test.YtjaaalojcdbcpaaGreatDoorlDrawC
import Derived.Test.YtjaaalojcdbcpaaGreatDoorlLawFc
import Derived.Test.YtjaaalojcdbcpaaGreatDoorlLawBM
import Derived.Test.YtjaaalojcdbcpaaGreatDoorlSpec2yM
import Derived.Test.YtjaaalojcdbcpaaGreatDoorlIp6M
import Derived.OwnWalk
import Derived.Test.YtjaaalojcdbcpaaGreatDoorRows
import Derived.Test.YtjaaalojcdbcpaaGreatDoorCards
import Derived.Test.YtjaaalojcdbcpaaGreatDoorTie
import Derived.WalkKit
import Derived.ProofKit
import Derived.OpenShut
import Derived.ShutString
import Derived.LaidMore
import Derived.Stop.Joined
import Derived.SevenTiedAt
import Derived.LaidSub
import Derived.MakeChecks
import Derived.Lib.LaidTab
set_option maxHeartbeats 20000000
set_option linter.unusedVariables false
set_option linter.unusedSimpArgs false
namespace Go.Proofs.YtjaaalojcdbcpaaGreatDoor
open Go.RowKit Go.Proofs.Tryz
set_option maxRecDepth 8000
theorem walk_FnPlain (a : Option Addr) (L c : Nat) (zs : List Int) (w : World) (hr : Z24 w a L c zs) (hT : Tab w) :
 Calls prog 5 #[.slice a L c] w fun e w' => e = .returned (.bool true) ∧ Below w.heap.size w w' := by
 by_cases h0 : L ≤ 1048576
 · have hd0 : decide (1048576 < (L : Int)) = false := by simp; omega
   have C := H_ (Z6i a L c zs w hr)
   have HT := H_ hT
   clear hr hT
   go_enter func5, ntmps5
   go_wp2_with fail
   refine (C.out).mono ?_
   rintro e w1 ⟨⟨s, rfl, hs⟩, hb1⟩
   have HB := H_ hb1
   clear hb1 C
   have CI := H_ (fun W (hW : Below w.heap.size w W) => Z02 s (by omega) W (HT.out.below hW))
   have CS := H_ (fun W => Z6e s (by omega) W)
   cases hp : Z6g s.data.toList with
   | none =>
     unfold Hid at CI CS
     rw [hp] at CI CS
     have CI := H_ CI
     have CS := H_ CS
     clear hp
     simp only [Option.getD_none, Option.isSome_none] at CI CS
     generalize bs [] = E at *
     go_wp2_with fail
     refine (CI.out _ HB.out).mono ?_
     rintro e w2 ⟨rfl, hb2⟩
     have HB2 := H_ ((X9 (Xm HB.out) hb2).1)
     clear hb2
     go_wp2_with fail
     refine (CS.out _).mono ?_
     rintro e w3 ⟨rfl, hb3⟩
     have HB3 := H_ ((X9 (Xm HB2.out) hb3).1)
     clear hb3
     go_wp2_with fail
     go_ret
     exact ⟨Zf (by simp), HB3.out⟩
   | some P =>
     obtain ⟨q1, q2, ⟨F, q3, q4⟩, ⟨k, q5, q6, q7⟩, q8⟩ := plain_law hp
     obtain ⟨PT, hPT⟩ : ∃ PT, PT = bs P := ⟨_, rfl⟩
     have hPd : PT.data.toList = P := by rw [hPT, K4]
     have hPs : PT.size ≤ 1048576 := by rw [hPT, Y0]; omega
     have CI1 : Hid (∀ W, Below w.heap.size w W → Calls prog 10 #[.string s] W fun e w' => e = .returned (.tuple #[.string PT, .bool true]) ∧ Below W.heap.size W w') := H_ (fun W hW => (CI.out W hW).mono fun e w' ⟨h1, h2⟩ => ⟨by rw [hp] at h1; rw [hPT]; exact h1, h2⟩)
     have CS1 : Hid (∀ W, Calls prog 9 #[.string s] W fun e w' => e = .returned (.tuple #[.string PT, .bool true]) ∧ Below W.heap.size W w') := H_ (fun W => (CS.out W).mono fun e w' ⟨h1, h2⟩ => ⟨by rw [hp] at h1; rw [hPT]; exact h1, h2⟩)
     have CI2 : Hid (∀ W, Below w.heap.size w W → Calls prog 10 #[.string PT] W fun e w' => e = .returned (.tuple #[.string PT, .bool true]) ∧ Below W.heap.size W w') := H_ (fun W hW => (Z02 PT hPs W (HT.out.below hW)).mono fun e w' ⟨h1, h2⟩ => ⟨by rw [hPd, q2] at h1; rw [h1, hPT]; rfl, h2⟩)
     have CF1 : Hid (∀ W, Calls prog 14 #[.string s] W fun e w' => (∃ v, e = .returned (.tuple #[v, .bool true]) ∧ Zw w' v F) ∧ Below W.heap.size W w') := H_ (fun W => (Z2m s (by omega) W).mono fun e w' ⟨⟨v, h1, h2⟩, h3⟩ => ⟨by
      have hl := Z3a (l := s.data.toList)
      rw [q3] at h1 h2 hl
      exact ⟨v, h1, Yh h2 (by simp at hl; omega)⟩, h3⟩)
     have CF2 : Hid (∀ W, Calls prog 14 #[.string PT] W fun e w' => (∃ v, e = .returned (.tuple #[v, .bool true]) ∧ Zw w' v F) ∧ Below W.heap.size W w') := H_ (fun W => (Z2m PT hPs W).mono fun e w' ⟨⟨v, h1, h2⟩, h3⟩ => ⟨by
      have hl := Z3a (l := PT.data.toList)
      rw [hPd] at h1 h2 hl
      rw [q4] at h1 h2 hl
      exact ⟨v, h1, Yh h2 (by simp at hl; omega)⟩, h3⟩)
     have CA : Hid (∀ W, Below w.heap.size w W → Calls prog 12 #[.string s, .string PT] W fun e w' => e = .returned (.bool true) ∧ Below W.heap.size W w') := H_ (fun W hW => (Z23 s PT (by omega) hPs W (HT.out.below hW)).mono fun e w' ⟨h1, h2⟩ => ⟨by rw [hPd, q8] at h1; exact h1, h2⟩)
     have CT : Hid (∀ W v u, Zw W v F → Zw W u F → Calls prog 15 #[v, u] W fun e w' => e = .returned (.bool true) ∧ ∃ n, w' = W.drewN n) := H_ (fun W v u h1 h2 => (sameTF_c v u F F W h1 h2).mono fun e w' ⟨h1, h2⟩ => ⟨by rw [h1]; simp, h2⟩)
     have CZ1 : Hid (∀ W, Calls prog 16 #[.string PT] W fun e w' => e = .returned (.int .i64 k) ∧ Below W.heap.size W w') := H_ (fun W => (Jq PT hPs W).mono fun e w' ⟨h1, h2⟩ => ⟨by rw [hPd, q7] at h1; exact h1, h2⟩)
     have CZ2 : Hid (∀ W, Calls prog 16 #[.string s] W fun e w' => e = .returned (.int .i64 k) ∧ Below W.heap.size W w') := H_ (fun W => (Jq s (by omega) W).mono fun e w' ⟨h1, h2⟩ => ⟨by rw [q6] at h1; exact h1, h2⟩)
     clear hp q1 q2 q3 q4 q6 q7 q8 hPT hPd hPs CI CS hs HT
     go_wp2_with fail
     refine (CI1.out _ HB.out).mono ?_
     rintro e w2 ⟨rfl, hb2⟩
     have HB2 := H_ ((X9 (Xm HB.out) hb2).1)
     clear hb2 CI1
     go_wp2_with fail
     refine (CS1.out _).mono ?_
     rintro e w3 ⟨rfl, hb3⟩
     have HB3 := H_ ((X9 (Xm HB2.out) hb3).1)
     clear hb3 CS1
     go_wp2_with fail
     refine (CI2.out _ HB3.out).mono ?_
     rintro e w4 ⟨rfl, hb4⟩
     have HB4 := H_ ((X9 (Xm HB3.out) hb4).1)
     clear hb4 CI2
     go_wp2_with fail
     refine (CF1.out _).mono ?_
     rintro e w5 ⟨⟨v1, rfl, hv1⟩, hb5⟩
     have HB5 := H_ ((X9 (Xm HB4.out) hb5).1)
     obtain ⟨p1, m1, c1, rfl⟩ := hv1.shape
     clear hb5 CF1
     go_wp2_with fail
     refine (CF2.out _).mono ?_
     rintro e w6 ⟨⟨v2, rfl, hv2⟩, hb6⟩
     have HB6 := H_ ((X9 (Xm HB5.out) hb6).1)
     have hv16 := H_ (Z1g hv1 hb6)
     obtain ⟨p2, m2, c2, rfl⟩ := hv2.shape
     have HV2 := H_ hv2
     clear hb6 CF2 hv1 hv2
     go_wp2_with fail
     refine (CA.out _ HB6.out).mono ?_
     rintro e w7 ⟨rfl, hb7⟩
     have HB7 := H_ ((X9 (Xm HB6.out) hb7).1)
     have hv17 := H_ (Z1g hv16.out hb7)
     have hv27 := H_ (Z1g HV2.out hb7)
     clear hb7 CA
     go_wp2_with fail
     refine (CT.out _ _ _ hv17.out hv27.out).mono ?_
     rintro e w8 ⟨rfl, n8, rfl⟩
     have HB8 : Hid (Below w.heap.size w (w7.drewN n8)) := H_ ⟨HB7.out.os, HB7.out.tape, HB7.out.output, HB7.out.size, HB7.out.block⟩
     go_wp2_with fail
     refine (CZ1.out _).mono ?_
     rintro e w9 ⟨rfl, hb9⟩
     have HB9 := H_ ((X9 (Xm HB8.out) hb9).1)
     clear hb9 CZ1
     go_wp2_with fail
     refine (CZ2.out _).mono ?_
     rintro e w10 ⟨rfl, hb10⟩
     have HB10 := H_ ((X9 (Xm HB9.out) hb10).1)
     clear hb10 CZ2
     go_wp2_with fail
     go_ret
     exact ⟨Zf (by simp), HB10.out⟩
 · have hd0 : decide (1048576 < (L : Int)) = true := by simp; omega
   have hm0 : L ≤ 9223372036854775807 := hr.bound
   go_enter func5, ntmps5
   go_wp2_with fail
   go_ret
   exact ⟨rfl, Below.refl _ _⟩
end Go.Proofs.YtjaaalojcdbcpaaGreatDoor
namespace Go.Proofs.YtjaaalojcdbcpaaGreatDoor.fnPlain
open Go.ChangeShapes Go.WideShapes Go.ChangeAt Go.RowKit
open Go.ChangeMaps (open_string shut_string)
theorem own : ownKnob Tryz.prog.godebug = none := by kernel_rfl
theorem door_met (os : Os) (args : Array Value) : laidMetH Tryz.prog Rows.fnPlainRow.laid ((World.doorLaid Tryz.prog 62 os).forCall (fun _ _ => 0) ⟨#[], args, []⟩).memory :=
 laidMetH_of_parts3 (fuel := 8) (laidMet_of_run' 8 (by kernel_rfl) (by kernel_rfl)) (by kernel_rfl) (by kernel_rfl)
theorem tab_of {W : World} (h : laidMetH Tryz.prog Rows.fnPlainRow.laid W) : Tab W := by
 have h1 := h.filter (fun x => x.1 == "internal/strconv.uint64pow10")
 have e : Rows.fnPlainRow.laid.filter (fun x => x.1 == "internal/strconv.uint64pow10") = [("internal/strconv.uint64pow10", Lib.tabData .u64 Lib.pow10Tab)] := by kernel_rfl
 rw [e] at h1
 rw [MakeChecks.laidMetH_plain _ _ _ (by kernel_rfl)] at h1
 exact Lib.tabIs_of_head (g := 1) (t := 205) (e := 198) (n := 20) (by kernel_rfl) (by kernel_rfl) Tryz.underlying205 Tryz.underlying198 (by kernel_rfl) (by kernel_rfl) h1
set_option maxRecDepth 100000 in
theorem lifted (os : Os) (started : os.Started) (H : Type) (enc : TypeId × Value → H) :
 ReturnsInHanded {} Tryz.checked os 5 .any (fun w args => (Rows.fnPlainSpec.pre enc Tryz.prog Tryz.f5 Rows.fnPlainRow.domain false w args ∧ laidMetH Tryz.prog Rows.fnPlainRow.laid w) ∧ sizedMet enc Tryz.prog Tryz.f5 (OpenSpec.ofChange Rows.fnPlainSpec) false w args)
  (Rows.fnPlainSpec.post enc Tryz.prog Tryz.f5 false true false false) := by
 refine returnsInHanded_of_change_and (C := Tryz.checked) (X := fun w _ => laidMetH Tryz.prog Rows.fnPlainRow.laid w) (fun _ _ _ hh h => h.of_heap hh) own started (by kernel_rfl) Tryz.func5
  (ChangeSpec.witness_shaped (enc := enc) (C := Tryz.checked) (os := os) (X := fun w _ => laidMetH Tryz.prog Rows.fnPlainRow.laid w) false (World.doorLaid Tryz.prog 62 os) #[.slice none 0 0] 8 rfl (World.shaped_of_RefB (by kernel_rfl) (by kernel_rfl)) (by kernel_rfl) (by kernel_rfl) (by kernel_rfl) (door_met os _)) ?_
 intro W base args ds gs before hval0 hW _ _ hL _
 have hval : ∀ (j : Nat) t v, Tryz.f5.params[j]? = some t → args[j]? = some v → Value.okWide Tryz.prog W .any base t v := hval0
 have hW' := hW
 obtain ⟨p, q, hA0, hV, rfl, hfz, hnd⟩ := hW
 have hA : DataW.TrodAll enc Tryz.prog W 0 (fun _ => true) true Tryz.f5.params.toList args.toList ds p := hA0
 rw [Tryz.params5] at hA hval
 obtain ⟨v0, vs0, d0, ds0, p0, q0, hargs, rfl, rfl, h0, r0⟩ := trodAll_cons hA
 obtain ⟨rfl, rfl, rfl⟩ := trodAll_nil r0
 obtain rfl : args = #[v0] := by cases args; simp_all
 obtain ⟨rfl, rfl⟩ := trodVars_none hV
 have hx0 := h0
 have lt0 : ∀ x ∈ p0, x.block < W.heap.size := by obtain ⟨m, hm⟩ := hx0; exact DataW.trod_lt m _ _ _ hm
 obtain ⟨a0, len0, cap0, rfl⟩ := okWide_slice Tryz.underlying26 (hval 0 26 v0 rfl rfl)
 obtain ⟨z0, w0⟩ : ∃ zs, Z24 W a0 len0 cap0 zs := by
  obtain ⟨fuel, hf⟩ := h0
  rcases open_ints Tryz.underlying26 Tryz.underlying5 (by kernel_rfl) hf with ⟨hcs, _⟩ | ⟨x, l, c, zs, hcs, _, hl, hm, hz, _, hcell, hwz⟩
  · simp [Value.cells] at hcs
    obtain ⟨rfl, rfl, rfl⟩ := hcs
    exact ⟨[], Z6s (.inl ⟨rfl, rfl⟩)⟩
  · simp [Value.cells] at hcs
    obtain ⟨rfl, rfl, rfl⟩ := hcs
    exact ⟨zs, Z6s (.inr ⟨_, rfl, hl, hm, by simpa using hz, hcell, hwz⟩)⟩
 clear hA0 hval0
 simp only [List.append_nil] at hW'
 refine (walk_FnPlain a0 len0 cap0 z0 W w0 (tab_of hL)).mono fun e W' ⟨he, hg⟩ => ?_
 subst he
 exact ⟨_, rfl, _, _, _, [], p0, [], hW', (trodAll_cons_mk (shut_bool Tryz.underlying4 _) trodAll_mk0), (by have hh := (trodAll_cons_mk (Below.trod (show laidOutB Tryz.prog = true by kernel_rfl) (by kernel_rfl) (of_decide_eq_true (by kernel_rfl)) hx0 hg lt0) trodAll_mk0); simp only [List.append_nil] at hh; exact hh), rfl, hg.frame _, fun h => by cases h⟩
theorem over : Rows.FnPlainSaid :=
 OpenClaim.holds_of_wide 5 Tryz.f5 rfl rfl rfl rfl rfl rfl rfl ⟨rfl, rfl, rfl, rfl, rfl⟩ rfl rfl rfl rfl rfl (by kernel_rfl) Tryz.func5 (by kernel_rfl)
  (of_decide_eq_true (by kernel_rfl)) (by unfold Func.isWrapper; rw [if_neg (of_decide_eq_false (by kernel_rfl))]; exact ⟨rfl, rfl⟩)
  (fun os started H enc _ => lifted os started H enc)
end Go.Proofs.YtjaaalojcdbcpaaGreatDoor.fnPlain
namespace Go.Proofs.YtjaaalojcdbcpaaGreatDoor
theorem proved_FnPlainCard : Rows.FnPlainCardSaid :=
 Claim7.holds_tied_plain_at .later [] [.data, .data, .data, .sentinel, .sentinel] true (true, "402aef9068f79154e1bb5c492d060358c5cff1a4263dca9298fe0aba7dd67fee") true
  fnPlain.over (fun _ h => by cases h) (by kernel_rfl) (fun _ h => by cases h) fnPlain_row_tie rfl ⟨rfl, rfl⟩ (by kernel_rfl) rfl
  (fun f fn hf hfn => by
    obtain rfl : f = 5 := Option.some.inj ((show Tryz.prog.funcNamed "loop.example/typedassembly/laws.FnPlain" = some 5 by kernel_rfl).symm.trans hf) |>.symm
    obtain rfl : fn = Tryz.f5 := (Option.some.inj (Tryz.func5.symm.trans hfn)).symm
    exact ⟨by kernel_rfl, fun j t ht => by
     rw [Tryz.params5] at ht
     have hm : t ∈ [26] := by simpa using Array.mem_of_getElem? ht
     have hall : ([26].all fun u => !Tryz.prog.wantsStandIn u) = true := by kernel_rfl
     exact (show Tryz.prog.wantsStandIn t = false by simpa using List.all_eq_true.1 hall t hm)⟩)
  (by kernel_rfl)
end Go.Proofs.YtjaaalojcdbcpaaGreatDoor
