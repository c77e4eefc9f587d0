/- The plain mathematics of chapter 3: how many expressions an expression has; environments, types, the first fault. The plain text of an expression: it is read back, has the same type and as many parts. Types do not lean on names that are not free: the plain mathematics of the law FnExprType. The reference's ExprType and ExprTyped. The program's answers that are numbers and bools; the walks of the laws on them. The law FnExprType: its walk. Types do not lean on names that are not free. The lifted half of the proof. The closed facts. The law FnExprType: for every input the call returns true, and each argument reads afterwards as it read before; the listed variables tied to the program's text. No condition besides. -/
import Derived.Test.YtfknoigbkleanaaGreatDoorxPureT
import Derived.Test.YtfknoigbkleanaaGreatDoorxS2fM
import Derived.Test.YtfknoigbkleanaaGreatDoorxPureA
import Derived.Test.YtfknoigbkleanaaGreatDoorxIp5
import Derived.Test.YtfknoigbkleanaaGreatDoorxLawXw
import Derived.Test.YtfknoigbkleanaaGreatDoorxSpec3f
import Derived.Test.YtfknoigbkleanaaGreatDoorxLawRiM
import Derived.Test.YtfknoigbkleanaaGreatDoorxSpec2hM
import Derived.Test.YtfknoigbkleanaaGreatDoorxImpl2dM
import Derived.Test.YtfknoigbkleanaaGreatDoorxS1z
import Derived.Test.YtfknoigbkleanaaGreatDoorRows
import Derived.Test.YtfknoigbkleanaaGreatDoorCards
import Derived.Test.YtfknoigbkleanaaGreatDoorTie
import Derived.WalkKit
import Derived.ProofKit
import Derived.OpenShut
import Derived.ShutString
import Derived.LaidMore
import Derived.Stop.Joined
import Derived.SevenTiedAt
import Derived.LaidSub
import Derived.MakeChecks
import Derived.Lib.LaidTab
set_option maxHeartbeats 20000000
namespace Go.Proofs.YtfknoigbkleanaaGreatDoor
open Go.RowKit Go.Proofs.Tryz
set_option maxRecDepth 8000
set_option maxHeartbeats 20000000
set_option linter.unusedVariables false
set_option linter.unusedSimpArgs false
def Z20 : Ex → Nat
 | .name _ => 1
 | .num _ => 1
 | .two _ a b => 1 + Z20 a + Z20 b
 | .one _ a => 1 + Z20 a
 | .cond a b c => 1 + Z20 a + Z20 b + Z20 c
 | .lete _ e b => 1 + Z20 e + Z20 b
 | .func _ _ _ _ e => 1 + Z20 e
def sumM : List Ex → Nat
 | [] => 0
 | k :: ks => Z20 k + sumM ks
def manyOf (l : List UInt8) : Int := match Yf l with | none => -1 | some x => (Z20 x : Nat)
theorem plX_read {l : List UInt8} {x : Ex} (h : Yf l = some x) : Yf (Z3 (plX x)).text = some (plX x) ∧ (Z3 (plX x)).text.length ≤ 12000 := by
 obtain ⟨-, -, h1, h2, h3, h4, h5⟩ := readA_all h
 have hf := plX_few h1
 have hg : Z3r (plX x) := Ka (frE x) x [] 0 (fun q hq => by cases hq) h5 (by omega)
 obtain ⟨s1, s2⟩ := K9 (frE x) x [] 0
 have s1' : (Z3 (plX x)).size = (Z3 x).size := s1
 have s2' : (Z3 (plX x)).depth = (Z3 x).depth := s2
 have hb := Qe _ hg
 refine ⟨readA_made (by omega) (by omega) hg, ?_⟩
 rw [Zv _ (Ks _ hg)]
 omega
theorem plX_ty (x : Ex) (env : List (Nm × Tr)) : tyT env (plX x) = tyT env x :=
 Z0k (frE x) x [] 0 env env (fun s hs => rfl) (fun s hs => .inl ((Z3n s _ []).2 (.inr hs)))
theorem Z5j {s : Nm} : ∀ {env : List (Nm × Tr)}, (Xi env s).isSome = true → s ∈ Z04 env
 | [], h => by simp [Xi] at h
 | (n, t) :: env, h => by
   rw [Vw, List.mem_append, List.mem_singleton]
   simp only [Xi] at h
   by_cases hn : n = s
   · exact .inr hn.symm
   · rw [if_neg hn] at h
     exact .inl (Z5j h)
def TII : Tr := .list [.atom [42], .atom [105], .atom [105]]
theorem tII_text : tII = TII.text := rfl
theorem readTy_tII : Y0 tII = some TII := by rw [tII_text]; exact J8 (by decide)
theorem type_law {ns ts : List Nm} {l X : List UInt8} (h : Vg ns ts l = some X) : ∃ (FL : List Nm) (P : List UInt8), Z4c l = some FL ∧ FL.length ≤ 120 ∧ (∀ s ∈ FL, s ∈ ns) ∧ plTx l = some P ∧ P.length ≤ 12000 ∧ Vg ns ts P = some X ∧ (Y0 X).isSome = true ∧ X.length ≤ 12000 ∧ (ns.length ≤ 7 → z9 ∉ FL → Vg (ns ++ [z9]) (ts ++ [tII]) l = some X) := by
 unfold Vg at h
 cases he : Qf ns ts with
 | none => simp [he] at h
 | some env =>
   cases hx : Yf l with
   | none => simp [he, hx] at h
   | some x =>
     cases ht : tyR env x with
     | error f => simp [he, hx, ht] at h
     | ok t =>
       simp only [he, hx, ht, Option.some.injEq] at h
       subst h
       obtain ⟨e1, e2, e3, e4⟩ := Z5q he
       have hTy := Qa x env t (Z4f he) (Z1s hx) ht
       have hfree := K6 x env (by rw [tyT_ok.1 ht]; rfl)
       obtain ⟨q1, q2⟩ := plX_read hx
       have hl := freeE_len (l := l)
       rw [Z1b hx] at hl
       obtain ⟨w1, w2, -, -, -⟩ := Zf hTy
       have hmem : ∀ s, s ∈ (Zj x).foldl Ji [] ↔ s ∈ Zj x := fun s => by rw [Z3n]; simp
       refine ⟨(Zj x).foldl Ji [], (Z3 (plX x)).text, Z1b hx, by simpa using hl, ?_, plTx_some hx, q2, ?_, ?_, ?_, ?_⟩
       · intro s hs
         rw [e1]
         exact Z5j (hfree s ((hmem s).1 hs))
       · exact Z2j he q1 (tyT_ok.2 (by rw [plX_ty]; exact tyT_ok.1 ht))
       · rw [J8 hTy]; rfl
       · rw [Zv t w1]; omega
       · intro h7 hz
         have he2 : Qf (ns ++ [z9]) (ts ++ [tII]) = some ((z9, TII) :: env) := by
          unfold Qf at he ⊢
          rw [if_pos ⟨by omega, e3⟩] at he
          rw [if_pos ⟨by simp; omega, by simp [e3]⟩, Z29 ns ts [] z9 tII e3, he, Option.bind_some, readTy_tII]
          exact if_pos (by decide)
         refine Z2j he2 hx ?_
         rw [V6 x ((z9, TII) :: env) env (fun s hs => ?_), ht]
         have hne : ¬ z9 = s := fun e => hz (by rw [e]; exact (hmem s).2 hs)
         simp only [Xi]
         rw [if_neg hne]
theorem tyS_empty {env : List (Nm × Tr)} {x : Ex} {t : Tr} (henv : J6 env) (hty : Ko x) (h : tyR env x = .ok t) : tyS (tyR env x) ≠ [] := by
 rw [h]; exact Qi (Zf (Qa x env t henv hty h)).1
theorem tyOf_tyS {ns : List Nm} {ts : List (List UInt8)} {l : List UInt8} {env : List (Nm × Tr)} {x : Ex} (he : Qf ns ts = some env) (hx : Yf l = some x) : (Vg ns ts l).getD [] = tyS (tyR env x) ∧ (Vg ns ts l).isSome = !decide (tyS (tyR env x) = []) := by
 cases hr : tyR env x with
 | error f => rw [tyOf_bad he hx hr]; exact ⟨rfl, rfl⟩
 | ok t =>
   have := tyS_empty (Z4f he) (Z1s hx) hr
   rw [Z2j he hx hr]
   rw [hr] at this
   exact ⟨rfl, by simp [this]⟩
theorem l3Type_top {t : Tr} {x : Ex} {env : List (Nm × Tr)} {v1 v2 : Value} {w : World} (hwf : t.wf) (hby : t.bytes ≤ 12000) (hx : Ye t = some x) (henv : J6 env) (hl : env.length ≤ 8) (h1 : Zl w v1 (Z04 env)) (h2 : Zl w v2 (Z09 env)) {p : Option Addr} {m c : Nat} {W : World} (hW : Below w.heap.size w W) (hv : FV nS W (fun k => k < W.heap.size) t (nS t (.slice p m c))) :
 Calls prog 51 #[.agg #[.string (bs (Z0 t)), .slice p m c], v1, v2] W fun e w' => e = .returned (.string (bs (tyS (tyR env x)))) ∧ Below W.heap.size W w' :=
 Z17 (t.depth + 1) t x env (nS t (.slice p m c)) v1 v2 _ W (by omega) hwf hby hx henv (by have := Z4i t hwf; omega) (h1.below hW) (h2.below hW) hv (fun _ h => h)
theorem Z6m (v1 v2 : Value) (ns : List Nm) (ts : List (List UInt8)) (s : ByteArray) (w : World) (h1 : Zl w v1 ns) (h2 : Zl w v2 ts) (hn : ∀ k (h : k < ns.length), ns[k].length ≤ 1048576) (ht : ∀ k (h : k < ts.length), ts[k].length ≤ 1048576) (hs : s.size ≤ 1048576) :
 Calls prog 12 #[v1, v2, .string s] w fun e w' => Z5b (Vg ns ts s.data.toList) e ∧ Below w.heap.size w w' := by
 have CV : Hid (∀ W, Below w.heap.size w W → Calls prog 50 #[v1, v2] W fun e w' => e = .returned (.bool (Qf ns ts).isSome) ∧ Below W.heap.size W w') := H_ (fun W hW => Z6n v1 v2 ns ts W (h1.below hW) (h2.below hW) hn ht)
 cases hp : Qp s.data.toList with
 | none =>
   have C := H_ (l2Parse_none hs hp)
   have HR := H_ (tyOf_ex (ns := ns) (ts := ts) (readEx_none2 hp))
   obtain ⟨p1, c1, rfl, -, -⟩ := h1
   obtain ⟨p2, c2, rfl, -, -⟩ := h2
   clear hp CV hn ht
   go_enter func12, ntmps12
   go_wp2_with (go_at_call 49; go_must (refine (C.out _).mono ?_; rintro e w1 ⟨⟨a, p, m, c, rfl, hnl⟩, hb1⟩))
   try go_region
   all_goals
    go_wp2_with fail
    go_ret2
    exact ⟨by rw [HR.out]; rfl, by first | exact hb1.alloc hb1.size _ | exact (hb1.alloc hb1.size _).drew⟩
 | some t =>
   have C := H_ (l2Parse_some hs hp)
   obtain ⟨x, hx1, hx2⟩ := readEx_asEx' hp
   have hg := Yp (Z6x hp).1
   cases he : Qf ns ts with
   | none =>
     rw [he] at CV
     have HR := H_ (tyOf_env (l := s.data.toList) he)
     obtain ⟨p1, c1, rfl, -, -⟩ := h1
     obtain ⟨p2, c2, rfl, -, -⟩ := h2
     clear hp hn ht he hg hx1 hx2
     generalize bs (Z0 t) = A at *
     have B0 := H_ (Z4 w (.cells #[] 9))
     go_enter func12, ntmps12
     go_wp2_with (first | (go_at_call 49; go_must (refine (C.out _).mono ?_; rintro e w1 ⟨⟨p, m, c, rfl, hv⟩, hb1⟩; have HB1 := H_ (hb1.alloc hb1.size (.cells #[.string A, .slice p m c] 62)))) | (go_at_call 50; go_must (refine (CV.out _ HB1.out).mono ?_; rintro e w2 ⟨rfl, hb2⟩)))
     all_goals
      go_ret2
      exact ⟨by rw [HR.out]; rfl, HB1.out.trans (hb2.mono HB1.out.size)⟩
   | some env =>
     rw [he] at CV
     obtain ⟨q1, q2⟩ := tyOf_tyS he hx1
     obtain ⟨hns, hts, hl, h8⟩ := Z5q he
     have hok := Z4f he
     have CT : Hid (∀ W p m c, Below w.heap.size w W → FV nS W (fun k => k < W.heap.size) t (nS t (.slice p m c)) → Calls prog 51 #[.agg #[.string (bs (Z0 t)), .slice p m c], v1, v2] W fun e w' => e = .returned (.string (bs (tyS (tyR env x)))) ∧ Below W.heap.size W w') := H_ (fun W p m c hW hv =>
      l3Type_top hg.1 (by have := hg.2; omega) hx2 hok (by rw [← Z03, ← hns]; exact h8) (hns ▸ h1) (hts ▸ h2) hW hv)
     obtain ⟨rr, hrr⟩ : ∃ q, q = tyS (tyR env x) := ⟨_, rfl⟩
     rw [← hrr] at CT q1 q2
     have hfin : Z5b (Vg ns ts s.data.toList) (.returned (.tuple #[.string (bs rr), .bool (!(bs rr).toList.isEmpty)])) := by
      unfold Z5b
      rw [q1, q2, Z5]
      by_cases hz : rr = []
      · subst hz; rfl
      · rw [decide_eq_false hz, show rr.isEmpty = false by simpa using hz]
     have HF := H_ hfin
     obtain ⟨A, hA⟩ : ∃ q, q = bs (Z0 t) := ⟨_, rfl⟩
     rw [← hA] at C CT
     obtain ⟨p1, c1, rfl, -, -⟩ := h1
     obtain ⟨p2, c2, rfl, -, -⟩ := h2
     generalize bs rr = RR at *
     clear hfin q1 q2 hp hn ht he hg hx1 hx2 hns hts hl h8 hok hrr hA
     go_enter func12, ntmps12
     go_wp2_with (first | (go_at_call 49; go_must (refine (C.out _).mono ?_; rintro e w1 ⟨⟨p, m, c, rfl, hv⟩, hb1⟩; have HB1 := H_ (hb1.alloc hb1.size (.cells #[.string A, .slice p m c] 62)); have V1 := H_ ((hv.below (Z4 w1 (.cells #[.string A, .slice p m c] 62)) (fun k hk => hk.2)).wide (ok' := fun q => q < (w1.alloc (.cells #[.string A, .slice p m c] 62)).heap.size) (fun k hk => by simp; omega)); have y1 := heap_alloc_new w1 (.cells #[.string A, .slice p m c] 62); clear hv)) | (go_at_call 50; go_must (refine (CV.out _ HB1.out).mono ?_; rintro e w2 ⟨rfl, hb2⟩; have HB2 := H_ (HB1.out.trans (hb2.mono HB1.out.size)); have y2 := Z1 hb2 (lt_of_block y1) y1; obtain ⟨c20, c21⟩ := Zq y2; have V2 := H_ (V1.out.below hb2 (fun _ h => h) |>.wide (ok' := fun q => q < w2.heap.size) (fun k hk => Nat.lt_of_lt_of_le hk hb2.size)))) | (go_at_call 51; go_must (refine (CT.out _ _ _ _ HB2.out V2.out).mono ?_; rintro e w3 ⟨rfl, hb3⟩)))
     all_goals
      go_ret2
      exact ⟨HF.out, HB2.out.trans (hb3.mono HB2.out.size)⟩
def clTy (l : List UInt8) : Nm := match readCl l with | none => [] | some x => tyS (tyR [] x)
theorem tyPost_shape {B : Nat} {res : Option Tr} {e : Ending} {w' : World} (h : TyPost B res e w') :
 ∃ a p n c x y z, e = .returned (.tuple #[.agg #[.string a, .slice p n c, .int .i64 x, .int .i64 y, .int .i64 z], .bool res.isSome]) := by
 match res, h with
 | none, h => exact ⟨_, _, _, _, _, _, _, h⟩
 | some t, ⟨p, n, c, h1, _⟩ => exact ⟨_, _, _, _, _, _, _, h1⟩
theorem Z65 (s : ByteArray) (hs : s.size ≤ 1048576) (w : World) :
 Calls prog 16 #[.string s] w fun e w' => e = .returned (.bool (Y0 s.data.toList).isSome) ∧ Below w.heap.size w w' := by
 go_enter func16, ntmps16
 go_wp2_with (go_at_call 56; go_must (refine (Z3j s hs _).mono ?_; rintro e w1 ⟨hp, hb1⟩; obtain ⟨a, p, n, c, x, y, z, rfl⟩ := tyPost_shape hp; clear hp))
 go_ret
 exact ⟨rfl, hb1.alloc hb1.size _⟩
theorem Z5w (a : Option Addr) (L c : Nat) (zs : List Int) (w : World) (hr : Z2u w a L c zs) (hT : Tab w) :
 Calls prog 3 #[.slice a L c] w fun e w' => e = .returned (.bool true) ∧ Below w.heap.size w w' :=
 walk_of plTx a L c zs w hr
  (fun v1 v2 ns ts s W h1 h2 hn ht hs => Z7e v1 v2 ns ts s W h1 h2 (fun k hk => by have := hn _ (List.getElem_mem hk); omega) (fun k hk => by have := ht _ (List.getElem_mem hk); omega) (by omega))
  (fun v1 v2 ns ts s W h1 h2 hn ht hs => Z6m v1 v2 ns ts s W h1 h2 (fun k hk => by have := hn _ (List.getElem_mem hk); omega) (fun k hk => by have := ht _ (List.getElem_mem hk); omega) (by omega))
  (fun s W hs hW => Z66 s (by omega) W (hT.below hW))
  (fun s W hs => Z65 s (by omega) W)
  (fun ns ts l X h => type_law h)
end Go.Proofs.YtfknoigbkleanaaGreatDoor
namespace Go.Proofs.YtfknoigbkleanaaGreatDoor.fnExprType
open Go.ChangeShapes Go.WideShapes Go.ChangeAt Go.RowKit
open Go.ChangeMaps (open_string shut_string)
theorem own : ownKnob Tryz.prog.godebug = none := by kernel_rfl
theorem door_met (os : Os) (args : Array Value) : laidMetH Tryz.prog Rows.fnExprTypeRow.laid ((World.doorLaid Tryz.prog 62 os).forCall (fun _ _ => 0) ⟨#[], args, []⟩).memory :=
 laidMetH_of_parts3 (fuel := 8) (laidMet_of_run' 8 (by kernel_rfl) (by kernel_rfl)) (by kernel_rfl) (by kernel_rfl)
theorem tab_of {W : World} (h : laidMetH Tryz.prog Rows.fnExprTypeRow.laid W) : Tab W := by
 have h1 := h.filter (fun x => x.1 == "internal/strconv.uint64pow10")
 have e : Rows.fnExprTypeRow.laid.filter (fun x => x.1 == "internal/strconv.uint64pow10") = [("internal/strconv.uint64pow10", Lib.tabData .u64 Lib.pow10Tab)] := by kernel_rfl
 rw [e] at h1
 rw [MakeChecks.laidMetH_plain _ _ _ (by kernel_rfl)] at h1
 exact Lib.tabIs_of_head (g := 3) (t := 235) (e := 214) (n := 20) (by kernel_rfl) (by kernel_rfl) Tryz.underlying235 Tryz.underlying214 (by kernel_rfl) (by kernel_rfl) h1
set_option maxRecDepth 100000 in
theorem lifted (os : Os) (started : os.Started) (H : Type) (enc : TypeId × Value → H) :
 ReturnsInHanded {} Tryz.checked os 3 .any (fun w args => (Rows.fnExprTypeSpec.pre enc Tryz.prog Tryz.f3 Rows.fnExprTypeRow.domain false w args ∧ laidMetH Tryz.prog Rows.fnExprTypeRow.laid w) ∧ sizedMet enc Tryz.prog Tryz.f3 (OpenSpec.ofChange Rows.fnExprTypeSpec) false w args)
  (Rows.fnExprTypeSpec.post enc Tryz.prog Tryz.f3 false true false false) := by
 refine returnsInHanded_of_change_and (C := Tryz.checked) (X := fun w _ => laidMetH Tryz.prog Rows.fnExprTypeRow.laid w) (fun _ _ _ hh h => h.of_heap hh) own started (by kernel_rfl) Tryz.func3
  (ChangeSpec.witness_shaped (enc := enc) (C := Tryz.checked) (os := os) (X := fun w _ => laidMetH Tryz.prog Rows.fnExprTypeRow.laid w) false (World.doorLaid Tryz.prog 62 os) #[.slice none 0 0] 8 rfl (World.shaped_of_RefB (by kernel_rfl) (by kernel_rfl)) (by kernel_rfl) (by kernel_rfl) (by kernel_rfl) (door_met os _)) ?_
 intro W base args ds gs before hval0 hW _ _ hL _
 have hval : ∀ (j : Nat) t v, Tryz.f3.params[j]? = some t → args[j]? = some v → Value.okWide Tryz.prog W .any base t v := hval0
 have hW' := hW
 obtain ⟨p, q, hA0, hV, rfl, hfz, hnd⟩ := hW
 have hA : DataW.TrodAll enc Tryz.prog W 0 (fun _ => true) true Tryz.f3.params.toList args.toList ds p := hA0
 rw [Tryz.params3] at hA hval
 obtain ⟨v0, vs0, d0, ds0, p0, q0, hargs, rfl, rfl, h0, r0⟩ := trodAll_cons hA
 obtain ⟨rfl, rfl, rfl⟩ := trodAll_nil r0
 obtain rfl : args = #[v0] := by cases args; simp_all
 obtain ⟨rfl, rfl⟩ := trodVars_none hV
 have hx0 := h0
 have lt0 : ∀ x ∈ p0, x.block < W.heap.size := by obtain ⟨m, hm⟩ := hx0; exact DataW.trod_lt m _ _ _ hm
 obtain ⟨a0, len0, cap0, rfl⟩ := okWide_slice Tryz.underlying22 (hval 0 22 v0 rfl rfl)
 obtain ⟨z0, w0⟩ : ∃ zs, Z2u W a0 len0 cap0 zs := by
  obtain ⟨fuel, hf⟩ := h0
  rcases open_ints Tryz.underlying22 Tryz.underlying5 (by kernel_rfl) hf with ⟨hcs, _⟩ | ⟨x, l, c, zs, hcs, _, hl, hm, hz, _, hcell, hwz⟩
  · simp [Value.cells] at hcs
    obtain ⟨rfl, rfl, rfl⟩ := hcs
    exact ⟨[], brow_in (.inl ⟨rfl, rfl⟩)⟩
  · simp [Value.cells] at hcs
    obtain ⟨rfl, rfl, rfl⟩ := hcs
    exact ⟨zs, brow_in (.inr ⟨_, rfl, hl, hm, by simpa using hz, hcell, hwz⟩)⟩
 clear hA0 hval0
 simp only [List.append_nil] at hW'
 refine (Z5w a0 len0 cap0 z0 W w0 (tab_of hL)).mono fun e W' ⟨he, hg⟩ => ?_
 subst he
 exact ⟨_, rfl, _, _, _, [], p0, [], hW', (trodAll_cons_mk (shut_bool Tryz.underlying4 _) trodAll_mk0), (by have hh := (trodAll_cons_mk (Below.trod (show laidOutB Tryz.prog = true by kernel_rfl) (by kernel_rfl) (of_decide_eq_true (by kernel_rfl)) hx0 hg lt0) trodAll_mk0); simp only [List.append_nil] at hh; exact hh), rfl, hg.frame _, fun h => by cases h⟩
end Go.Proofs.YtfknoigbkleanaaGreatDoor.fnExprType
namespace Go.Proofs.YtfknoigbkleanaaGreatDoor.fnExprType
open Go.ChangeShapes Go.WideShapes Go.ChangeAt Go.RowKit
open Go.ChangeMaps (open_string shut_string)
theorem closed : joinedFacts Tryz.pinned.checked.prog 3 Tryz.f3 Rows.fnExprTypeSpec Rows.fnExprTypeRow = true := by
 unfold joinedFacts
 simp only [Bool.and_eq_true]
 repeat' apply And.intro
 all_goals (as_aux_lemma => kernel_rfl)
theorem over : Rows.FnExprTypeSaid :=
 OpenClaim.holds_of_wide 3 Tryz.f3 rfl rfl rfl rfl rfl rfl rfl ⟨rfl, rfl, rfl, rfl, rfl⟩ rfl rfl rfl rfl rfl (by as_aux_lemma => kernel_rfl) Tryz.func3 closed
  (of_decide_eq_true (by kernel_rfl)) (by unfold Func.isWrapper; rw [if_neg (of_decide_eq_false (by kernel_rfl))]; exact ⟨rfl, rfl⟩)
  (fun os started H enc _ => lifted os started H enc)
end Go.Proofs.YtfknoigbkleanaaGreatDoor.fnExprType
open Go.ChangeShapes Go.WideShapes Go.ChangeAt Go.RowKit
namespace Go.Proofs.YtfknoigbkleanaaGreatDoor
theorem proved_FnExprTypeCard : Rows.FnExprTypeCardSaid :=
 Claim7.holds_tied_plain_at .later [] [.data, .data, .data, .sentinel, .sentinel] true (true, "7b5259cdce9e847da38d5f4f2401be2f8655766323a79fed6ba8767e23264430") true
  fnExprType.over (fun _ h => by cases h) (by as_aux_lemma => kernel_rfl) (fun _ h => by cases h) fnExprType_row_tie rfl ⟨rfl, rfl⟩ (by as_aux_lemma => kernel_rfl) rfl
  (fun f fn hf hfn => by
    obtain rfl : f = 3 := Option.some.inj ((show Tryz.prog.funcNamed "loop.example/typedassembly/laws.FnExprType" = some 3 by as_aux_lemma => kernel_rfl).symm.trans hf) |>.symm
    obtain rfl : fn = Tryz.f3 := (Option.some.inj (Tryz.func3.symm.trans hfn)).symm
    exact ⟨by as_aux_lemma => kernel_rfl, fun j t ht => by
     rw [Tryz.params3] at ht
     have hm : t ∈ [22] := by simpa using Array.mem_of_getElem? ht
     have hall : ([22].all fun u => !Tryz.prog.wantsStandIn u) = true := by as_aux_lemma => kernel_rfl
     exact (show Tryz.prog.wantsStandIn t = false by simpa using List.all_eq_true.1 hall t hm)⟩)
  (by as_aux_lemma => kernel_rfl)
end Go.Proofs.YtfknoigbkleanaaGreatDoor
