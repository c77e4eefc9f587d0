/- The reference's ExprType and ExprTyped. -/
import Derived.Test.YtgljnmbbmjmkjaaGreatDoorSpec3f
import Derived.Test.YtgljnmbbmjmkjaaGreatDoorPureT
import Derived.Test.YtgljnmbbmjmkjaaGreatDoorSpec2h
namespace Go.Proofs.YtgljnmbbmjmkjaaGreatDoor
open Go.RowKit
set_option maxRecDepth 8000
set_option linter.unusedSimpArgs false
set_option linter.unusedVariables false
theorem tyS_empty {env : List (Nm × Tr)} {x : Ex} {t : Tr} (henv : envOK env) (hty : tyEx x) (h : tyR env x = .ok t) : tyS (tyR env x) ≠ [] := by
  rw [h]; exact text_ne (isTyL_small (tyR_ok x env t henv hty h)).1
theorem tyOf_tyS {ns : List Nm} {ts : List (List UInt8)} {l : List UInt8} {env : List (Nm × Tr)} {x : Ex} (he : envOf ns ts = some env) (hx : readEx l = some x) : (tyOf ns ts l).getD [] = tyS (tyR env x) ∧ (tyOf ns ts l).isSome = !decide (tyS (tyR env x) = []) := by
  cases hr : tyR env x with
  | error f => rw [tyOf_bad he hx hr]; exact ⟨rfl, rfl⟩
  | ok t =>
    have := tyS_empty (envOf_ok he) (readEx_tyEx hx) hr
    rw [tyOf_good he hx hr]
    rw [hr] at this
    exact ⟨rfl, by simp [this]⟩
theorem l3Type_top {t : Tr} {x : Ex} {env : List (Nm × Tr)} {v1 v2 : Value} {w : World} (hwf : t.wf) (hby : t.bytes ≤ 12000) (hx : asEx t = some x) (henv : envOK env) (hl : env.length ≤ 8) (h1 : StrS w v1 (envN env)) (h2 : StrS w v2 (envT env)) {p : Option Addr} {m c : Nat} {W : World} (hW : Below w.heap.size w W) (hv : FV nS W (fun k => k < W.heap.size) t (nS t (.slice p m c))) :
    Calls Tryz.prog 64 #[.agg #[.string (bs (atomOf t)), .slice p m c], v1, v2] W fun e w' => e = .returned (.string (bs (tyS (tyR env x)))) ∧ Below W.heap.size W w' :=
  l3Type_all (t.depth + 1) t x env (nS t (.slice p m c)) v1 v2 _ W (by omega) hwf hby hx henv (by have := depth_le t hwf; omega) (h1.below hW) (h2.below hW) hv (fun _ h => h)
set_option maxHeartbeats 4000000 in
theorem specExprType_c (v1 v2 : Value) (ns : List Nm) (ts : List (List UInt8)) (s : ByteArray) (w : World) (h1 : StrS w v1 ns) (h2 : StrS w v2 ts) (hn : ∀ k (h : k < ns.length), ns[k].length ≤ 1048576) (ht : ∀ k (h : k < ts.length), ts[k].length ≤ 1048576) (hs : s.size ≤ 1048576) :
    Calls Tryz.prog 24 #[v1, v2, .string s] w fun e w' => LkPost (tyOf ns ts s.data.toList) e ∧ Below w.heap.size w w' := by
  have CV : Hid (∀ W, Below w.heap.size w W → Calls Tryz.prog 63 #[v1, v2] W fun e w' => e = .returned (.bool (envOf ns ts).isSome) ∧ Below W.heap.size W w') := Lib.hid (fun W hW => specEnvValid_c v1 v2 ns ts W (h1.below hW) (h2.below hW) hn ht)
  cases hp : parseE s.data.toList with
  | none =>
    have C := Lib.hid (l2Parse_none hs hp)
    have HR := Lib.hid (tyOf_ex (ns := ns) (ts := ts) (readEx_none2 hp))
    obtain ⟨p1, c1, rfl, -, -⟩ := h1
    obtain ⟨p2, c2, rfl, -, -⟩ := h2
    clear hp CV hn ht
    go_enter Tryz.func24, Tryz.ntmps24
    go_wp2_with (go_at_call 40; go_must (refine (C.out _).mono ?_; rintro e w1 ⟨⟨a, p, m, c, rfl, hnl⟩, hb1⟩))
    try go_region
    all_goals
      go_wp2_with fail
      go_ret2
      exact ⟨by rw [HR.out]; rfl, by first | exact hb1.alloc hb1.size _ | exact (hb1.alloc hb1.size _).drew⟩
  | some t =>
    have C := Lib.hid (l2Parse_some hs hp)
    obtain ⟨x, hx1, hx2⟩ := readEx_asEx' hp
    have hg := parse_got (parseE_got hp).1
    cases he : envOf ns ts with
    | none =>
      rw [he] at CV
      have HR := Lib.hid (tyOf_env (l := s.data.toList) he)
      obtain ⟨p1, c1, rfl, -, -⟩ := h1
      obtain ⟨p2, c2, rfl, -, -⟩ := h2
      clear hp hn ht he hg hx1 hx2
      generalize bs (atomOf t) = A at *
      have B0 := Lib.hid (below1 w (.cells #[] 9))
      go_enter Tryz.func24, Tryz.ntmps24
      go_wp2_with (first | (go_at_call 40; go_must (refine (C.out _).mono ?_; rintro e w1 ⟨⟨p, m, c, rfl, hv⟩, hb1⟩; have HB1 := Lib.hid (hb1.alloc hb1.size (.cells #[.string A, .slice p m c] 57)))) | (go_at_call 63; go_must (refine (CV.out _ HB1.out).mono ?_; rintro e w2 ⟨rfl, hb2⟩)))
      all_goals
        go_ret2
        exact ⟨by rw [HR.out]; rfl, HB1.out.trans (hb2.mono HB1.out.size)⟩
    | some env =>
      rw [he] at CV
      obtain ⟨q1, q2⟩ := tyOf_tyS he hx1
      obtain ⟨hns, hts, hl, h8⟩ := envOf_lists he
      have hok := envOf_ok he
      have CT : Hid (∀ W p m c, Below w.heap.size w W → FV nS W (fun k => k < W.heap.size) t (nS t (.slice p m c)) → Calls Tryz.prog 64 #[.agg #[.string (bs (atomOf t)), .slice p m c], v1, v2] W fun e w' => e = .returned (.string (bs (tyS (tyR env x)))) ∧ Below W.heap.size W w') := Lib.hid (fun W p m c hW hv =>
        l3Type_top hg.1 (by have := hg.2; omega) hx2 hok (by rw [← envN_len, ← hns]; exact h8) (hns ▸ h1) (hts ▸ h2) hW hv)
      obtain ⟨rr, hrr⟩ : ∃ q, q = tyS (tyR env x) := ⟨_, rfl⟩
      rw [← hrr] at CT q1 q2
      have hfin : LkPost (tyOf ns ts s.data.toList) (.returned (.tuple #[.string (bs rr), .bool (!(bs rr).toList.isEmpty)])) := by
        unfold LkPost
        rw [q1, q2, bs_toList]
        by_cases hz : rr = []
        · subst hz; rfl
        · rw [decide_eq_false hz, show rr.isEmpty = false by simpa using hz]
      have HF := Lib.hid hfin
      obtain ⟨A, hA⟩ : ∃ q, q = bs (atomOf t) := ⟨_, rfl⟩
      rw [← hA] at C CT
      obtain ⟨p1, c1, rfl, -, -⟩ := h1
      obtain ⟨p2, c2, rfl, -, -⟩ := h2
      generalize bs rr = RR at *
      clear hfin q1 q2 hp hn ht he hg hx1 hx2 hns hts hl h8 hok hrr hA
      go_enter Tryz.func24, Tryz.ntmps24
      go_wp2_with (first | (go_at_call 40; go_must (refine (C.out _).mono ?_; rintro e w1 ⟨⟨p, m, c, rfl, hv⟩, hb1⟩; have HB1 := Lib.hid (hb1.alloc hb1.size (.cells #[.string A, .slice p m c] 57)); have V1 := Lib.hid ((hv.below (below1 w1 (.cells #[.string A, .slice p m c] 57)) (fun k hk => hk.2)).wide (ok' := fun q => q < (w1.alloc (.cells #[.string A, .slice p m c] 57)).heap.size) (fun k hk => by simp; omega)); have y1 := heap_alloc_new w1 (.cells #[.string A, .slice p m c] 57); clear hv)) | (go_at_call 63; go_must (refine (CV.out _ HB1.out).mono ?_; rintro e w2 ⟨rfl, hb2⟩; have HB2 := Lib.hid (HB1.out.trans (hb2.mono HB1.out.size)); have y2 := below_blk hb2 (lt_of_block y1) y1; have c20 := cell_of (j := 0) y2; have c21 := cell_of (j := 1) y2; have V2 := Lib.hid (V1.out.below hb2 (fun _ h => h) |>.wide (ok' := fun q => q < w2.heap.size) (fun k hk => Nat.lt_of_lt_of_le hk hb2.size)))) | (go_at_call 64; go_must (refine (CT.out _ _ _ _ HB2.out V2.out).mono ?_; rintro e w3 ⟨rfl, hb3⟩)))
      all_goals
        go_ret2
        exact ⟨HF.out, HB2.out.trans (hb3.mono HB2.out.size)⟩
/-- The type of a closed text, none if there is no type. -/
def clTy (l : List UInt8) : Nm := match readCl l with | none => [] | some x => tyS (tyR [] x)
theorem clTy_none {l : List UInt8} (h : readCl l = none) : clTy l = [] := by simp [clTy, h]
theorem clTy_some {l : List UInt8} {x : Ex} (h : readCl l = some x) : clTy l = tyS (tyR [] x) := by simp [clTy, h]
theorem readCl_ex {l : List UInt8} {x : Ex} (h : readCl l = some x) : readEx l = some x := by
  unfold readCl at h
  simp only [Option.filter_eq_some_iff] at h
  exact h.1
theorem envOf_nil : envOf [] [] = some [] := rfl
theorem typedOf_clTy (l : List UInt8) : typedOf l = !decide (clTy l = []) := by
  unfold typedOf
  cases hx : readEx l with
  | none =>
    rw [tyOf_ex hx, clTy_none (readCl_none hx)]; rfl
  | some x =>
    obtain ⟨q1, q2⟩ := tyOf_tyS envOf_nil hx
    rw [q2]
    by_cases hf : freeP x = []
    · rw [clTy_some (readCl_some hx hf)]
    · rw [clTy_none (readCl_no hx hf)]
      have : tyS (tyR [] x) = [] := by
        cases hr : tyR [] x with
        | error f => rfl
        | ok t => exact absurd (tyR_closed hr) hf
      rw [this]
set_option maxHeartbeats 4000000 in
theorem l3Closed_c (s : ByteArray) (hs : s.size ≤ 1048576) (w : World) :
    Calls Tryz.prog 68 #[.string s] w fun e w' => e = .returned (.string (bs (clTy s.data.toList))) ∧ Below w.heap.size w w' := by
  have CC : Hid (∀ W, Calls Tryz.prog 55 #[.string s] W fun e w' => e = .returned (.bool (readCl s.data.toList).isSome) ∧ Below W.heap.size W w') := Lib.hid (fun W => specExprClosed_c s hs W)
  cases hp : parseE s.data.toList with
  | none =>
    have C := Lib.hid (l2Parse_none hs hp)
    have HR := Lib.hid (clTy_none (readCl_none (readEx_none2 hp)))
    clear hp CC
    go_enter Tryz.func68, Tryz.ntmps68
    go_wp2_with (go_at_call 40; go_must (refine (C.out _).mono ?_; rintro e w1 ⟨⟨a, p, m, c, rfl, hnl⟩, hb1⟩))
    try go_region
    all_goals
      go_wp2_with fail
      go_ret
      exact ⟨by rw [HR.out]; rfl, by first | exact hb1.alloc hb1.size _ | exact (hb1.alloc hb1.size _).drew⟩
  | some t =>
    have C := Lib.hid (l2Parse_some hs hp)
    obtain ⟨x, hx1, hx2⟩ := readEx_asEx' hp
    have hg := parse_got (parseE_got hp).1
    cases hc : readCl s.data.toList with
    | none =>
      rw [hc] at CC
      have HR := Lib.hid (clTy_none hc)
      clear hp hc hg hx1 hx2
      generalize bs (atomOf t) = A at *
      go_enter Tryz.func68, Tryz.ntmps68
      go_wp2_with (first | (go_at_call 40; go_must (refine (C.out _).mono ?_; rintro e w1 ⟨⟨p, m, c, rfl, hv⟩, hb1⟩; have HB1 := Lib.hid (hb1.alloc hb1.size (.cells #[.string A, .slice p m c] 57)))) | (go_at_call 55; go_must (refine (CC.out _).mono ?_; rintro e w2 ⟨rfl, hb2⟩)))
      all_goals
        go_ret
        exact ⟨by rw [HR.out]; rfl, HB1.out.trans (hb2.mono HB1.out.size)⟩
    | some x' =>
      rw [hc] at CC
      have hxx : x' = x := by have := readCl_ex hc; rw [hx1] at this; simpa using this.symm
      subst hxx
      have HR := Lib.hid (clTy_some hc)
      have CT : Hid (∀ (W : World) p m c, FV nS W (fun k => k < W.heap.size) t (nS t (.slice p m c)) → Calls Tryz.prog 64 #[.agg #[.string (bs (atomOf t)), .slice p m c], .slice (some ⟨W.heap.size, 0, none⟩) 0 0, .slice (some ⟨W.heap.size + 1, 0, none⟩) 0 0] ((W.alloc (.cells #[] 9)).alloc (.cells #[] 9)) fun e w' => e = .returned (.string (bs (tyS (tyR [] x')))) ∧ Below W.heap.size W w') := Lib.hid (fun W p m c hv => by
        have hb := below2 W (.cells #[] 9) (.cells #[] 9)
        have k1 : StrS ((W.alloc (.cells #[] 9)).alloc (.cells #[] 9)) (.slice (some ⟨W.heap.size, 0, none⟩) 0 0) [] := str_of (l := []) (blk_alloc (heap_alloc_new W _)) (by simp)
        have k2 : StrS ((W.alloc (.cells #[] 9)).alloc (.cells #[] 9)) (.slice (some ⟨W.heap.size + 1, 0, none⟩) 0 0) [] := str_of (l := []) (heap_alloc_new2 W _ _) (by simp)
        exact (l3Type_top (w := (W.alloc (.cells #[] 9)).alloc (.cells #[] 9)) hg.1 (by have := hg.2; omega) hx2 envOK_nil (by simp) k1 k2 (Below.refl _ _) ((hv.below hb (fun _ h => h)).wide (fun k hk => Nat.lt_of_lt_of_le hk hb.size))).mono fun e w' ⟨h1, h2⟩ => ⟨h1, hb.trans (h2.mono hb.size)⟩)
      obtain ⟨A, hA⟩ : ∃ q, q = bs (atomOf t) := ⟨_, rfl⟩
      rw [← hA] at C CT
      generalize tyS (tyR [] x') = RR at *
      clear hp hc hg hx1 hx2 hA
      go_enter Tryz.func68, Tryz.ntmps68
      go_wp2_with (first | (go_at_call 40; go_must (refine (C.out _).mono ?_; rintro e w1 ⟨⟨p, m, c, rfl, hv⟩, hb1⟩; have HB1 := Lib.hid (hb1.alloc hb1.size (.cells #[.string A, .slice p m c] 57)); have V1 := Lib.hid ((hv.below (below1 w1 (.cells #[.string A, .slice p m c] 57)) (fun k hk => hk.2)).wide (ok' := fun q => q < (w1.alloc (.cells #[.string A, .slice p m c] 57)).heap.size) (fun k hk => by simp; omega)); have y1 := heap_alloc_new w1 (.cells #[.string A, .slice p m c] 57); clear hv)) | (go_at_call 55; go_must (refine (CC.out _).mono ?_; rintro e w2 ⟨rfl, hb2⟩; have HB2 := Lib.hid (HB1.out.trans (hb2.mono HB1.out.size)); have y2 := below_blk hb2 (lt_of_block y1) y1; have c20 := cell_of (j := 0) y2; have c21 := cell_of (j := 1) y2; have V2 := Lib.hid (V1.out.below hb2 (fun _ h => h) |>.wide (ok' := fun q => q < w2.heap.size) (fun k hk => Nat.lt_of_lt_of_le hk hb2.size)))) | (go_at_call 64; go_must (refine (CT.out _ _ _ _ V2.out).mono ?_; rintro e w3 ⟨rfl, hb3⟩)))
      all_goals
        go_ret
        exact ⟨by rw [HR.out]; rfl, HB2.out.trans (hb3.mono HB2.out.size)⟩
set_option maxHeartbeats 1000000 in
theorem specExprTyped_c (s : ByteArray) (hs : s.size ≤ 1048576) (w : World) :
    Calls Tryz.prog 32 #[.string s] w fun e w' => e = .returned (.bool (typedOf s.data.toList)) ∧ Below w.heap.size w w' := by
  have C := Lib.hid (l3Closed_c s hs)
  have HR : Hid (typedOf s.data.toList = !(bs (clTy s.data.toList)).toList.isEmpty) := Lib.hid (by
    rw [typedOf_clTy, bs_toList]
    by_cases hz : clTy s.data.toList = []
    · rw [hz]; rfl
    · rw [decide_eq_false hz, show (clTy s.data.toList).isEmpty = false by simpa using hz])
  rw [HR.out]
  generalize bs (clTy s.data.toList) = RR at *
  clear HR
  go_enter Tryz.func32, Tryz.ntmps32
  go_wp2_with (go_at_call 68; go_must (refine (C.out _).mono ?_; rintro e w1 ⟨rfl, hb1⟩))
  go_ret
  exact ⟨rfl, hb1⟩
end Go.Proofs.YtgljnmbbmjmkjaaGreatDoor
