/- The reference draws two expressions that are often alike. The law FnPut: its walk. What is put stands no longer free. The law FnPut: for every input the call returns true, and each argument reads afterwards as it read before; the listed variables tied to the program's text. No condition besides. -/
import Derived.Test.YtjaaalojcdbcpaaGreatDoorlDrawC
import Derived.Test.YtjaaalojcdbcpaaGreatDoorlSpec2yM
import Derived.Test.YtjaaalojcdbcpaaGreatDoorlPlU
import Derived.Test.YtjaaalojcdbcpaaGreatDoorlLawBM
import Derived.Test.YtjaaalojcdbcpaaGreatDoorlSpec2n
import Derived.Test.YtjaaalojcdbcpaaGreatDoorlIp6M
import Derived.OwnWalk
import Derived.Test.YtjaaalojcdbcpaaGreatDoorRows
import Derived.Test.YtjaaalojcdbcpaaGreatDoorCards
import Derived.Test.YtjaaalojcdbcpaaGreatDoorTie
import Derived.WalkKit
import Derived.ProofKit
import Derived.OpenShut
import Derived.ShutString
import Derived.LaidMore
import Derived.Stop.Joined
import Derived.SevenTiedAt
import Derived.LaidSub
import Derived.MakeChecks
import Derived.Lib.LaidTab
set_option maxHeartbeats 20000000
set_option linter.unusedVariables false
set_option linter.unusedSimpArgs false
namespace Go.Proofs.YtjaaalojcdbcpaaGreatDoor
open Go.RowKit Go.Proofs.Tryz
set_option maxRecDepth 8000
theorem drawExprPut_c (a : Option Addr) (L c : Nat) (zs : List Int) (w : World) (hr : Z24 w a L c zs) : Calls prog 20 #[.slice a L c] w fun e w' => (∃ s n y : ByteArray, e = .returned (.tuple #[.string s, .string n, .string y]) ∧ s.size ≤ 1000010 ∧ n.size ≤ 1000010 ∧ y.size ≤ 1000010) ∧ Below w.heap.size w w' := by
 have CO := H_ (l6Open_c a L c zs w hr)
 clear hr
 go_enter func20, ntmps20
 go_wp2_with fail
 refine (CO.out).mono ?_
 rintro e w1 ⟨rfl, ⟨L', c', hR1⟩, hb1⟩
 have HB1 := H_ hb1
 have C := H_ (l91Open_d hR1 (by omega))
 clear hb1 hR1
 go_wp2_with fail
 refine (C.out).mono ?_
 rintro e w2 ⟨s, p2, rfl, h2, h3, hR2, hO2⟩
 have CP := H_ (K6 (n := 12) hR2 (by omega) (by omega))
 clear C CO
 go_wp2_with fail
 refine (CP.out).mono ?_
 rintro e w4 ⟨⟨k, rfl, hk0, hk1⟩, hR4, hO4⟩
 have hO4 := hO2.trans hO4
 have HF4 : Hid (Below w.heap.size w w4) := H_ (Only.fresh HB1.out hO4 (Nat.le_refl _) HB1.out.size)
 clear CP
 by_cases hk : k = 0
 · subst hk
   have C5 := H_ (Kp (l := [[97, 98], [], [49]]) (N := 2) hR4 (by omega) (by decide) (by decide) (by decide))
   go_wp2_with fail
   refine (C5.out).mono ?_
   rintro e w5 ⟨t, p5, rfl, h5, h6, hR5, hO5⟩
   have HF : Hid (Below w.heap.size w w5) := H_ (Only.fresh HB1.out (hO4.trans hO5) (Nat.le_refl _) HB1.out.size)
   go_wp2_with fail
   go_ret3
   exact ⟨⟨_, _, _, rfl, by omega, by omega, by decide⟩, HF.out⟩
 · by_cases hk2 : k = 1
   · subst hk2
     go_wp2_with fail
     go_ret3
     exact ⟨⟨_, _, _, rfl, by omega, by decide, by decide⟩, HF4.out⟩
   · have hkp : 1 < k := by omega
     have e0 : (k == 0) = false := by simpa using hk
     have e1 : (k == 1) = false := by simpa using hk2
     have C5 := H_ (Kp (l := [[97], [98], [120, 48], [99]]) (N := 2) hR4 (by omega) (by decide) (by decide) (by decide))
     go_wp2_with fail
     refine (C5.out).mono ?_
     rintro e w5 ⟨t, p5, rfl, h5, h6, hR5, hO5⟩
     have hO5 := hO4.trans hO5
     have hbA := Zl w5 (.cells #[] 9) (.cells #[] 9)
     have hRA := hR5.below hbA
     have hqA : (w1.heap.size + 0 = w1.heap.size) := rfl
     have hq5 := lt_of_block hR5.blk
     have hzA : ((w5.alloc (.cells #[] 9)).alloc (.cells #[] 9)).heap.size = w5.heap.size + 1 + 1 := by simp
     have CE := H_ (Z0a (.slice (some ⟨w5.heap.size, 0, none⟩) 0 0) (.slice (some ⟨w5.heap.size + 1, 0, none⟩) 0 0) 0 ⟨#[105]⟩ 1 (by omega) (by omega) hRA (Z29 _ _ _ _ (by omega) (by omega) (by omega) (by omega)) (by omega) (by decide) (by omega))
     have hOA := H_ (hO5.trans (Only.of hbA))
     clear C5
     go_wp2_with fail
     refine (CE.out).mono ?_
     rintro e w6 ⟨y, p6, rfl, h7, h8, hR6, hO6⟩
     have HF : Hid (Below w.heap.size w w6) := H_ (Only.fresh HB1.out (hOA.out.trans hO6) (Nat.le_refl _) HB1.out.size)
     go_wp2_with fail
     go_ret3
     exact ⟨⟨_, _, _, rfl, by omega, by omega, by omega⟩, HF.out⟩
theorem walk_FnPut (a : Option Addr) (L c : Nat) (zs : List Int) (w : World) (hr : Z24 w a L c zs) (hT : Tab w) :
 Calls prog 7 #[.slice a L c] w fun e w' => e = .returned (.bool true) ∧ Below w.heap.size w w' := by
 by_cases h0 : L ≤ 1048576
 · have hd0 : decide (1048576 < (L : Int)) = false := by simp; omega
   have C := H_ (drawExprPut_c a L c zs w hr)
   have HT := H_ hT
   clear hr hT
   go_enter func7, ntmps7
   go_wp2_with fail
   refine (C.out).mono ?_
   rintro e w1 ⟨⟨s, n, y, rfl, hs, hn, hy⟩, hb1⟩
   have HB1 := H_ hb1
   clear hb1 C
   have CI := H_ (fun W (hW : Below w.heap.size w W) => Z3r s n y (by omega) (by omega) (by omega) W (HT.out.below hW))
   have CS := H_ (fun W => specExprPut_c s n y (by omega) (by omega) (by omega) W)
   cases hp : Kx s.data.toList n.data.toList y.data.toList with
   | none =>
     have CI1 : Hid (∀ W, Below w.heap.size w W → Calls prog 21 #[.string s, .string n, .string y] W fun e w' => e = .returned (.tuple #[.string (bs []), .bool false]) ∧ Below W.heap.size W w') := H_ (fun W hW => (CI.out W hW).mono fun e w' ⟨h1, h2⟩ => ⟨by rw [hp] at h1; exact h1, h2⟩)
     have CS1 : Hid (∀ W, Calls prog 22 #[.string s, .string n, .string y] W fun e w' => e = .returned (.tuple #[.string (bs []), .bool false]) ∧ Below W.heap.size W w') := H_ (fun W => (CS.out W).mono fun e w' ⟨h1, h2⟩ => ⟨by rw [hp] at h1; exact h1, h2⟩)
     clear hp CI CS
     generalize bs [] = E at *
     go_wp2_with fail
     refine (CI1.out _ HB1.out).mono ?_
     rintro e w2 ⟨rfl, hb2⟩
     have HB2 := H_ ((X9 (Xm HB1.out) hb2).1)
     clear hb2 CI1
     go_wp2_with fail
     refine (CS1.out _).mono ?_
     rintro e w3 ⟨rfl, hb3⟩
     have HB3 := H_ ((X9 (Xm HB2.out) hb3).1)
     clear hb3 CS1
     go_wp2_with fail
     go_ret
     exact ⟨Zf (by simp), HB3.out⟩
   | some Y =>
     obtain ⟨P, Y2, N, A, B, Z, l1, l2, l3, q1, q2, q3, q4, q5, q6, q7, q8, n1, n2, n3, n4, q9⟩ := put_law hp
     obtain ⟨YT, hYT⟩ : ∃ YT, YT = bs Y := ⟨_, rfl⟩
     obtain ⟨PT, hPT⟩ : ∃ PT, PT = bs P := ⟨_, rfl⟩
     obtain ⟨ZT, hZT⟩ : ∃ ZT, ZT = bs Y2 := ⟨_, rfl⟩
     have hYd : YT.data.toList = Y := by rw [hYT, K4]
     have hYs : YT.size ≤ 1048576 := by rw [hYT, Y0]; omega
     have hPd : PT.data.toList = P := by rw [hPT, K4]
     have hPs : PT.size ≤ 1048576 := by rw [hPT, Y0]; omega
     have hZd : ZT.data.toList = Y2 := by rw [hZT, K4]
     have hZs : ZT.size ≤ 1048576 := by rw [hZT, Y0]; omega
     have CI1 : Hid (∀ W, Below w.heap.size w W → Calls prog 21 #[.string s, .string n, .string y] W fun e w' => e = .returned (.tuple #[.string YT, .bool true]) ∧ Below W.heap.size W w') := H_ (fun W hW => (CI.out W hW).mono fun e w' ⟨h1, h2⟩ => ⟨by rw [hp] at h1; rw [hYT]; exact h1, h2⟩)
     have CS1 : Hid (∀ W, Calls prog 22 #[.string s, .string n, .string y] W fun e w' => e = .returned (.tuple #[.string YT, .bool true]) ∧ Below W.heap.size W w') := H_ (fun W => (CS.out W).mono fun e w' ⟨h1, h2⟩ => ⟨by rw [hp] at h1; rw [hYT]; exact h1, h2⟩)
     have CC1 : Hid (∀ W, Calls prog 23 #[.string s, .string n] W fun e w' => e = .returned (.int .i64 (N : Int)) ∧ Below W.heap.size W w') := H_ (fun W => (Z22 s n (by omega) (by omega) W).mono fun e w' ⟨h1, h2⟩ => ⟨by rw [q1] at h1; exact h1, h2⟩)
     have CP : Hid (∀ W, Below w.heap.size w W → Calls prog 10 #[.string s] W fun e w' => e = .returned (.tuple #[.string PT, .bool true]) ∧ Below W.heap.size W w') := H_ (fun W hW => (Z02 s (by omega) W (HT.out.below hW)).mono fun e w' ⟨h1, h2⟩ => ⟨by rw [q2] at h1; rw [hPT]; exact h1, h2⟩)
     have CI2 : Hid (∀ W, Below w.heap.size w W → Calls prog 21 #[.string PT, .string n, .string y] W fun e w' => e = .returned (.tuple #[.string ZT, .bool true]) ∧ Below W.heap.size W w') := H_ (fun W hW => (Z3r PT n y hPs (by omega) (by omega) W (HT.out.below hW)).mono fun e w' ⟨h1, h2⟩ => ⟨by rw [hPd, q3] at h1; rw [hZT]; exact h1, h2⟩)
     have CZ1 : Hid (∀ W, Calls prog 16 #[.string s] W fun e w' => e = .returned (.int .i64 (A : Int)) ∧ Below W.heap.size W w') := H_ (fun W => (Jq s (by omega) W).mono fun e w' ⟨h1, h2⟩ => ⟨by rw [q4] at h1; exact h1, h2⟩)
     have CZ2 : Hid (∀ W, Calls prog 16 #[.string y] W fun e w' => e = .returned (.int .i64 (B : Int)) ∧ Below W.heap.size W w') := H_ (fun W => (Jq y (by omega) W).mono fun e w' ⟨h1, h2⟩ => ⟨by rw [q5] at h1; exact h1, h2⟩)
     have CC2 : Hid (∀ W, Calls prog 23 #[.string YT, .string n] W fun e w' => e = .returned (.int .i64 0) ∧ Below W.heap.size W w') := H_ (fun W => (Z22 YT n hYs (by omega) W).mono fun e w' ⟨h1, h2⟩ => ⟨by rw [hYd, q6] at h1; exact h1, h2⟩)
     have CZ3 : Hid (∀ W, Calls prog 16 #[.string YT] W fun e w' => e = .returned (.int .i64 (Z : Int)) ∧ Below W.heap.size W w') := H_ (fun W => (Jq YT hYs W).mono fun e w' ⟨h1, h2⟩ => ⟨by rw [hYd, q7] at h1; exact h1, h2⟩)
     have CA : Hid (∀ W, Below w.heap.size w W → Calls prog 12 #[.string ZT, .string YT] W fun e w' => e = .returned (.bool true) ∧ Below W.heap.size W w') := H_ (fun W hW => (Z23 ZT YT hZs hYs W (HT.out.below hW)).mono fun e w' ⟨h1, h2⟩ => ⟨by rw [hZd, hYd, q9] at h1; exact h1, h2⟩)
     have b1 : IntKind.i64.wrap ((B : Int) - 1) = (B : Int) - 1 := by rw [IntKind.wrap_i64]; omega
     have hnb : (N : Int) * ((B : Int) - 1) ≤ 14400 ∧ -14400 ≤ (N : Int) * ((B : Int) - 1) := by
      rw [← Int.add_sub_cancel ((N : Int) * ((B : Int) - 1)) (A : Int), Int.add_comm, ← q8]; omega
     obtain ⟨M, hM⟩ : ∃ M : Int, M = (N : Int) * ((B : Int) - 1) := ⟨_, rfl⟩
     rw [← hM] at hnb q8
     have b2 : IntKind.i64.wrap ((N : Int) * ((B : Int) - 1)) = M := by rw [← hM, IntKind.wrap_i64]; omega
     have b3 : IntKind.i64.wrap ((A : Int) + M) = (Z : Int) := by rw [← q8, IntKind.wrap_i64]; omega
     clear hp q1 q2 q3 q4 q5 q6 q7 q8 q9 hYT hPT hZT hYd hYs hPd hPs hZd hZs CI CS HT l1 l2 l3 hM hnb
     go_wp2_with fail
     refine (CI1.out _ HB1.out).mono ?_
     rintro e w2 ⟨rfl, hb2⟩
     have HB2 := H_ ((X9 (Xm HB1.out) hb2).1)
     clear hb2 CI1
     go_wp2_with fail
     refine (CS1.out _).mono ?_
     rintro e w3 ⟨rfl, hb3⟩
     have HB3 := H_ ((X9 (Xm HB2.out) hb3).1)
     clear hb3 CS1
     go_wp2_with fail
     refine (CC1.out _).mono ?_
     rintro e w4 ⟨rfl, hb4⟩
     have HB4 := H_ ((X9 (Xm HB3.out) hb4).1)
     clear hb4 CC1
     go_wp2_with fail
     refine (CP.out _ HB4.out).mono ?_
     rintro e w5 ⟨rfl, hb5⟩
     have HB5 := H_ ((X9 (Xm HB4.out) hb5).1)
     clear hb5 CP
     go_wp2_with fail
     refine (CI2.out _ HB5.out).mono ?_
     rintro e w6 ⟨rfl, hb6⟩
     have HB6 := H_ ((X9 (Xm HB5.out) hb6).1)
     clear hb6 CI2
     go_wp2_with fail
     refine (CZ1.out _).mono ?_
     rintro e w7 ⟨rfl, hb7⟩
     have HB7 := H_ ((X9 (Xm HB6.out) hb7).1)
     clear hb7 CZ1
     go_wp2_with fail
     refine (CZ2.out _).mono ?_
     rintro e w8 ⟨rfl, hb8⟩
     have HB8 := H_ ((X9 (Xm HB7.out) hb8).1)
     clear hb8 CZ2
     go_wp2_with fail
     refine (CC2.out _).mono ?_
     rintro e w9 ⟨rfl, hb9⟩
     have HB9 := H_ ((X9 (Xm HB8.out) hb9).1)
     clear hb9 CC2
     go_wp2_with fail
     refine (CZ3.out _).mono ?_
     rintro e w10 ⟨rfl, hb10⟩
     have HB10 := H_ ((X9 (Xm HB9.out) hb10).1)
     clear hb10 CZ3
     go_wp2_with fail
     refine (CA.out _ HB10.out).mono ?_
     rintro e w11 ⟨rfl, hb11⟩
     have HB11 := H_ ((X9 (Xm HB10.out) hb11).1)
     clear hb11 CA
     go_wp2_with fail
     go_ret
     exact ⟨Zf (by simp), HB11.out⟩
 · have hd0 : decide (1048576 < (L : Int)) = true := by simp; omega
   have hm0 : L ≤ 9223372036854775807 := hr.bound
   go_enter func7, ntmps7
   go_wp2_with fail
   go_ret
   exact ⟨rfl, Below.refl _ _⟩
end Go.Proofs.YtjaaalojcdbcpaaGreatDoor
namespace Go.Proofs.YtjaaalojcdbcpaaGreatDoor.fnPut
open Go.ChangeShapes Go.WideShapes Go.ChangeAt Go.RowKit
open Go.ChangeMaps (open_string shut_string)
theorem own : ownKnob Tryz.prog.godebug = none := by kernel_rfl
theorem door_met (os : Os) (args : Array Value) : laidMetH Tryz.prog Rows.fnPutRow.laid ((World.doorLaid Tryz.prog 62 os).forCall (fun _ _ => 0) ⟨#[], args, []⟩).memory :=
 laidMetH_of_parts3 (fuel := 8) (laidMet_of_run' 8 (by kernel_rfl) (by kernel_rfl)) (by kernel_rfl) (by kernel_rfl)
theorem tab_of {W : World} (h : laidMetH Tryz.prog Rows.fnPutRow.laid W) : Tab W := by
 have h1 := h.filter (fun x => x.1 == "internal/strconv.uint64pow10")
 have e : Rows.fnPutRow.laid.filter (fun x => x.1 == "internal/strconv.uint64pow10") = [("internal/strconv.uint64pow10", Lib.tabData .u64 Lib.pow10Tab)] := by kernel_rfl
 rw [e] at h1
 rw [MakeChecks.laidMetH_plain _ _ _ (by kernel_rfl)] at h1
 exact Lib.tabIs_of_head (g := 1) (t := 205) (e := 198) (n := 20) (by kernel_rfl) (by kernel_rfl) Tryz.underlying205 Tryz.underlying198 (by kernel_rfl) (by kernel_rfl) h1
set_option maxRecDepth 100000 in
theorem lifted (os : Os) (started : os.Started) (H : Type) (enc : TypeId × Value → H) :
 ReturnsInHanded {} Tryz.checked os 7 .any (fun w args => (Rows.fnPutSpec.pre enc Tryz.prog Tryz.f7 Rows.fnPutRow.domain false w args ∧ laidMetH Tryz.prog Rows.fnPutRow.laid w) ∧ sizedMet enc Tryz.prog Tryz.f7 (OpenSpec.ofChange Rows.fnPutSpec) false w args)
  (Rows.fnPutSpec.post enc Tryz.prog Tryz.f7 false true false false) := by
 refine returnsInHanded_of_change_and (C := Tryz.checked) (X := fun w _ => laidMetH Tryz.prog Rows.fnPutRow.laid w) (fun _ _ _ hh h => h.of_heap hh) own started (by kernel_rfl) Tryz.func7
  (ChangeSpec.witness_shaped (enc := enc) (C := Tryz.checked) (os := os) (X := fun w _ => laidMetH Tryz.prog Rows.fnPutRow.laid w) false (World.doorLaid Tryz.prog 62 os) #[.slice none 0 0] 8 rfl (World.shaped_of_RefB (by kernel_rfl) (by kernel_rfl)) (by kernel_rfl) (by kernel_rfl) (by kernel_rfl) (door_met os _)) ?_
 intro W base args ds gs before hval0 hW _ _ hL _
 have hval : ∀ (j : Nat) t v, Tryz.f7.params[j]? = some t → args[j]? = some v → Value.okWide Tryz.prog W .any base t v := hval0
 have hW' := hW
 obtain ⟨p, q, hA0, hV, rfl, hfz, hnd⟩ := hW
 have hA : DataW.TrodAll enc Tryz.prog W 0 (fun _ => true) true Tryz.f7.params.toList args.toList ds p := hA0
 rw [Tryz.params7] at hA hval
 obtain ⟨v0, vs0, d0, ds0, p0, q0, hargs, rfl, rfl, h0, r0⟩ := trodAll_cons hA
 obtain ⟨rfl, rfl, rfl⟩ := trodAll_nil r0
 obtain rfl : args = #[v0] := by cases args; simp_all
 obtain ⟨rfl, rfl⟩ := trodVars_none hV
 have hx0 := h0
 have lt0 : ∀ x ∈ p0, x.block < W.heap.size := by obtain ⟨m, hm⟩ := hx0; exact DataW.trod_lt m _ _ _ hm
 obtain ⟨a0, len0, cap0, rfl⟩ := okWide_slice Tryz.underlying26 (hval 0 26 v0 rfl rfl)
 obtain ⟨z0, w0⟩ : ∃ zs, Z24 W a0 len0 cap0 zs := by
  obtain ⟨fuel, hf⟩ := h0
  rcases open_ints Tryz.underlying26 Tryz.underlying5 (by kernel_rfl) hf with ⟨hcs, _⟩ | ⟨x, l, c, zs, hcs, _, hl, hm, hz, _, hcell, hwz⟩
  · simp [Value.cells] at hcs
    obtain ⟨rfl, rfl, rfl⟩ := hcs
    exact ⟨[], Z6s (.inl ⟨rfl, rfl⟩)⟩
  · simp [Value.cells] at hcs
    obtain ⟨rfl, rfl, rfl⟩ := hcs
    exact ⟨zs, Z6s (.inr ⟨_, rfl, hl, hm, by simpa using hz, hcell, hwz⟩)⟩
 clear hA0 hval0
 simp only [List.append_nil] at hW'
 refine (walk_FnPut a0 len0 cap0 z0 W w0 (tab_of hL)).mono fun e W' ⟨he, hg⟩ => ?_
 subst he
 exact ⟨_, rfl, _, _, _, [], p0, [], hW', (trodAll_cons_mk (shut_bool Tryz.underlying4 _) trodAll_mk0), (by have hh := (trodAll_cons_mk (Below.trod (show laidOutB Tryz.prog = true by kernel_rfl) (by kernel_rfl) (of_decide_eq_true (by kernel_rfl)) hx0 hg lt0) trodAll_mk0); simp only [List.append_nil] at hh; exact hh), rfl, hg.frame _, fun h => by cases h⟩
theorem over : Rows.FnPutSaid :=
 OpenClaim.holds_of_wide 7 Tryz.f7 rfl rfl rfl rfl rfl rfl rfl ⟨rfl, rfl, rfl, rfl, rfl⟩ rfl rfl rfl rfl rfl (by kernel_rfl) Tryz.func7 (by kernel_rfl)
  (of_decide_eq_true (by kernel_rfl)) (by unfold Func.isWrapper; rw [if_neg (of_decide_eq_false (by kernel_rfl))]; exact ⟨rfl, rfl⟩)
  (fun os started H enc _ => lifted os started H enc)
end Go.Proofs.YtjaaalojcdbcpaaGreatDoor.fnPut
namespace Go.Proofs.YtjaaalojcdbcpaaGreatDoor
theorem proved_FnPutCard : Rows.FnPutCardSaid :=
 Claim7.holds_tied_plain_at .later [] [.data, .data, .data, .sentinel, .sentinel] true (true, "402aef9068f79154e1bb5c492d060358c5cff1a4263dca9298fe0aba7dd67fee") true
  fnPut.over (fun _ h => by cases h) (by kernel_rfl) (fun _ h => by cases h) fnPut_row_tie rfl ⟨rfl, rfl⟩ (by kernel_rfl) rfl
  (fun f fn hf hfn => by
    obtain rfl : f = 7 := Option.some.inj ((show Tryz.prog.funcNamed "loop.example/typedassembly/laws.FnPut" = some 7 by kernel_rfl).symm.trans hf) |>.symm
    obtain rfl : fn = Tryz.f7 := (Option.some.inj (Tryz.func7.symm.trans hfn)).symm
    exact ⟨by kernel_rfl, fun j t ht => by
     rw [Tryz.params7] at ht
     have hm : t ∈ [26] := by simpa using Array.mem_of_getElem? ht
     have hall : ([26].all fun u => !Tryz.prog.wantsStandIn u) = true := by kernel_rfl
     exact (show Tryz.prog.wantsStandIn t = false by simpa using List.all_eq_true.1 hall t hm)⟩)
  (by kernel_rfl)
end Go.Proofs.YtjaaalojcdbcpaaGreatDoor
