/- The law FnEnv: its walk. The last one of a name hides those before it. Environments and names: what FnLook asks of the texts. The program's answers that are numbers and bools; the walks of the laws on them. -/
import Derived.Test.YtjncmmnbdabjnaaGreatDoorDrawE
import Derived.Test.YtjncmmnbdabjnaaGreatDoorImpl3c
import Derived.Test.YtjncmmnbdabjnaaGreatDoorSame
import Derived.OwnWalk
import Derived.BigQuiet
import Derived.Test.YtjncmmnbdabjnaaGreatDoorB3
import Derived.Test.YtjncmmnbdabjnaaGreatDoorImpl2dM
import Derived.Test.YtjncmmnbdabjnaaGreatDoorS1z
namespace Go.Proofs.YtjncmmnbdabjnaaGreatDoor
open Go.RowKit
set_option maxRecDepth 8000
set_option linter.unusedSimpArgs false
set_option linter.unusedVariables false
theorem lookE_mem {s : Nm} : ∀ {env : List (Nm × Tr)}, s ∈ envN env → (lookE env s).isSome = true
  | [], h => by simp [envN] at h
  | (n, t) :: env, h => by
    rw [envN_cons, List.mem_append, List.mem_singleton] at h
    simp only [lookE]
    by_cases hn : n = s
    · rw [if_pos hn]; rfl
    · rw [if_neg hn]
      exact lookE_mem (h.resolve_right (fun e => hn e.symm))
theorem lookE_back {s : Nm} : ∀ {env : List (Nm × Tr)}, (lookE env s).isSome = true → s ∈ envN env
  | [], h => by simp [lookE] at h
  | (n, t) :: env, h => by
    rw [envN_cons, List.mem_append, List.mem_singleton]
    simp only [lookE] at h
    by_cases hn : n = s
    · exact .inr hn.symm
    · rw [if_neg hn] at h
      exact .inl (lookE_back h)
/-- What is looked up, of an environment that is one. -/
theorem look_env {ns : List Nm} {ts : List (List UInt8)} {env : List (Nm × Tr)} (he : envOf ns ts = some env) (s : Nm) : (lookOf ns ts s).getD [] = lookK ns ts s ns.length ∧ ((lookOf ns ts s).isSome = true ↔ s ∈ ns) := by
  obtain ⟨h1, h2, h3, -⟩ := envOf_lists he
  have hl : env.length = ns.length := by rw [h1, envN_len]
  have hk := lookK_env s env
  rw [← h1, ← h2, hl] at hk
  rw [lookOf_some s he]
  refine ⟨hk.symm, ?_⟩
  rw [Option.isSome_map, h1]
  exact ⟨lookE_back, lookE_mem⟩
theorem lookK_yes {ns : List Nm} {ts : List (List UInt8)} {s : Nm} {k : Nat} (h1 : k < ns.length) (h2 : k < ts.length) (h : ns[k] = s) : lookK ns ts s (k + 1) = ts[k] := by
  simp only [lookK]
  rw [List.getD_eq_getElem?_getD, List.getElem?_eq_getElem h1, Option.getD_some, if_pos h, List.getD_eq_getElem?_getD, List.getElem?_eq_getElem h2, Option.getD_some]
theorem lookK_no {ns : List Nm} {ts : List (List UInt8)} {s : Nm} {k : Nat} (h1 : k < ns.length) (h : ¬ ns[k] = s) : lookK ns ts s (k + 1) = lookK ns ts s k := by
  simp only [lookK]
  rw [List.getD_eq_getElem?_getD, List.getElem?_eq_getElem h1, Option.getD_some, if_neg h]
theorem rowsE {w : World} {v : Value} {l : List Nm} (h : StrS w v l) (hl : l ≠ []) : ∃ rr off c, v = .slice (some ⟨rr, off, none⟩) l.length c ∧ rr < w.heap.size ∧ ∀ i : Nat, i < l.length → w.cell? ⟨rr, off + i, none⟩ = some (.string (bs (l.getD i []))) := by
  obtain ⟨p, c, rfl, h1, h2⟩ := h
  obtain ⟨r, off, rfl, h3⟩ := h2 hl
  have hc : ∀ i : Nat, i < l.length → w.cell? ⟨r, off + i, none⟩ = some (.string (bs (l.getD i []))) := fun i hi => by
    rw [StrS.cell h3 hi, List.getD_eq_getElem?_getD, List.getElem?_eq_getElem hi]; rfl
  exact ⟨r, off, c, rfl, World.block_lt_of_cell? _ _ (hc 0 (List.length_pos_iff.2 hl)), hc⟩
theorem belowN {b : Nat} {w w' : World} (h : Below b w w') (n : Nat) : Below b w (w'.drewN n) := ⟨h.os, h.tape, h.output, h.size, h.block⟩
end Go.Proofs.YtjncmmnbdabjnaaGreatDoor
namespace Go.Proofs.YtjncmmnbdabjnaaGreatDoor
open Go.RowKit
set_option maxRecDepth 8000
set_option linter.unusedSimpArgs false
set_option linter.unusedVariables false
theorem envAdd_app : ∀ (ns : List Nm) (ts : List (List UInt8)) (env e0 : List (Nm × Tr)), envAdd (env ++ e0) ns ts = (envAdd env ns ts).map (· ++ e0)
  | [], [], env, e0 => by simp [envAdd]
  | [], _ :: _, env, e0 => by simp [envAdd]
  | _ :: _, [], env, e0 => by simp [envAdd]
  | n :: ns, t :: ts, env, e0 => by
    simp only [envAdd]
    cases readTy t with
    | none => rfl
    | some u =>
      by_cases h : isNm n = true
      · simp only [h, if_true]
        exact envAdd_app ns ts ((n, u) :: env) e0
      · simp [h]
theorem envOf_more {ns : List Nm} {ts : List (List UInt8)} {env : List (Nm × Tr)} {n : Nm} {t : List UInt8} {u : Tr} (he : envOf ns ts = some env) (hn : isNm n = true) (ht : readTy t = some u) (hl : ns.length + 1 ≤ 8) : envOf ([n] ++ ns) ([t] ++ ts) = some (env ++ [(n, u)]) := by
  unfold envOf at he ⊢
  split at he
  · rename_i h
    rw [if_pos ⟨by simp; omega, by simp; omega⟩]
    simp only [List.cons_append, List.nil_append, envAdd, ht, hn, if_true]
    have := envAdd_app ns ts [] [(n, u)]
    rw [List.nil_append] at this
    rw [this, he]
    rfl
  · cases he
theorem lookE_app {s : Nm} {t : Tr} {e0 : List (Nm × Tr)} : ∀ {env : List (Nm × Tr)}, lookE env s = some t → lookE (env ++ e0) s = some t
  | [], h => by simp [lookE] at h
  | (n, u) :: env, h => by
    simp only [List.cons_append, lookE] at h ⊢
    by_cases hn : n = s
    · rw [if_pos hn] at h ⊢; exact h
    · rw [if_neg hn] at h ⊢; exact lookE_app h
theorem lookE_memT {s : Nm} {t : Tr} : ∀ {env : List (Nm × Tr)}, lookE env s = some t → t.text ∈ envT env
  | [], h => by simp [lookE] at h
  | (n, u) :: env, h => by
    rw [envT_cons, List.mem_append, List.mem_singleton]
    simp only [lookE] at h
    by_cases hn : n = s
    · rw [if_pos hn] at h; injection h with h; rw [h]; exact .inr rfl
    · rw [if_neg hn] at h; exact .inl (lookE_memT h)
theorem nmE_wf {l : List UInt8} (h : isNm l = true) : (Tr.atom l).wf ∧ l.length ≤ 4 := by
  cases l with
  | nil => simp [isNm] at h
  | cons b r =>
    simp only [isNm, Bool.and_eq_true, decide_eq_true_eq] at h
    obtain ⟨⟨h1, h2, h3⟩, h4⟩ := h
    obtain ⟨m, hm⟩ := Option.isSome_iff_exists.1 h4
    refine ⟨⟨by simp, fun c hc => ?_⟩, by simp; omega⟩
    rcases List.mem_cons.1 hc with rfl | hc
    · have : ∀ d : Nat, 97 ≤ d → d ≤ 122 → isAB (UInt8.ofNat d) = true := by
        intro d e1 e2
        have : ∀ k : Fin 26, isAB (UInt8.ofNat (97 + k.val)) = true := by decide
        have h5 := this ⟨d - 97, by omega⟩
        rwa [show 97 + (d - 97) = d by omega] at h5
      have h5 := this c.toNat h2 h3
      rwa [UInt8.ofNat_toNat] at h5
    · obtain ⟨k, hk, rfl⟩ := List.getElem_of_mem hc
      cases hv : Lib.digitVal r[k] with
      | none =>
        rw [decFrom_bad r 0 k _ (List.getElem?_eq_getElem hk) hv] at hm
        cases hm
      | some d =>
        have h5 := digit_back hv
        rw [← h5.2]
        have : ∀ d : Nat, d < 10 → isAB (UInt8.ofNat (48 + d)) = true := by decide
        exact this d h5.1
theorem name_read {s : Nm} (h : isNm s = true) : readEx s = some (.name s) := by
  obtain ⟨hw, hl⟩ := nmE_wf h
  have hp : parse (Tr.atom s).text = some (.atom s) := parse_text hw (by simp only [Tr.bytes]; omega) (by simp [Tr.depth])
  have hp2 : parse s = some (.atom s) := hp
  rw [readEx_some hp2, if_pos (by simp [Tr.size])]
  show atomEx s = _
  unfold atomEx
  have : numOf s = none := by
    cases hn : numOf s with
    | none => rfl
    | some n => have := numOf_notNm hn; rw [h] at this; cases this
  rw [this]
  simp [h]
def arrT : Tr := .list [.atom [62], .atom [105], .atom [105]]
theorem arr_read : readTy [40, 62, 32, 105, 32, 105, 41] = some arrT := by
  have hp : parse arrT.text = some arrT := parse_text (by simp only [arrT, Tr.wf, wfs]; decide) (by decide) (by decide)
  have hp2 : parse [40, 62, 32, 105, 32, 105, 41] = some arrT := hp
  rw [readTy_some hp2]; rfl
/-- What FnLook asks of the texts. -/
theorem look_law {ns : List Nm} {ts : List (List UInt8)} {env : List (Nm × Tr)} {s : Nm} {X : List UInt8} (he : envOf ns ts = some env) (hX : lookOf ns ts s = some X) (hl : ns.length ≤ 4) :
    tyOf ns ts s = some X ∧ (readTy X).isSome = true ∧ X ∈ ts ∧ lookOf ([[122, 57]] ++ ns) ([[40, 62, 32, 105, 32, 105, 41]] ++ ts) s = some X := by
  rw [lookOf_some s he] at hX
  cases hT : lookE env s with
  | none => rw [hT] at hX; cases hX
  | some T =>
    rw [hT] at hX
    simp only [Option.map_some, Option.some.injEq] at hX
    obtain ⟨h1, h2, h3, -⟩ := envOf_lists he
    have hs : s ∈ ns := by rw [h1]; exact lookE_back (by rw [hT]; rfl)
    have hm : X ∈ ts := by rw [h2, ← hX]; exact lookE_memT hT
    have hall := envOf_isSome ns ts
    rw [he] at hall
    simp only [Option.isSome_some, Bool.true_eq, Bool.and_eq_true, List.all_eq_true] at hall
    have hn := hall.1.1.1 s hs
    refine ⟨?_, hall.1.1.2 X hm, hm, ?_⟩
    · rw [tyOf_good he (name_read hn) (show tyR env (.name s) = .ok T by simp [tyR, hT, orBad]), hX]
    · rw [lookOf_some s (envOf_more he (show isNm [122, 57] = true by decide) arr_read (by omega)), lookE_app hT, Option.map_some, hX]
theorem owns_oneD {W : World} {b base : Nat} {x : Nm} (h : W.heap[b]? = some (.cells #[.string (bs x)] 9 (0, 0))) (hb : base ≤ b) : W.ownsRow base 9 1 (.slice (some ⟨b, 0, none⟩) 1 1) ([x] : List Nm).length (([x] : List Nm).map strV) := ⟨rfl, .inr ⟨b, 1, _, rfl, hb, h, Nat.le_refl _, by decide, rfl, rfl⟩⟩
end Go.Proofs.YtjncmmnbdabjnaaGreatDoor
namespace Go.Proofs.YtjncmmnbdabjnaaGreatDoor
open Go.RowKit
set_option maxRecDepth 8000
set_option linter.unusedSimpArgs false
set_option linter.unusedVariables false
theorem tyPost_shape {B : Nat} {res : Option Tr} {e : Ending} {w' : World} (h : TyPost B res e w') :
    ∃ a p n c x y z, e = .returned (.tuple #[.agg #[.string a, .slice p n c, .int .i64 x, .int .i64 y, .int .i64 z], .bool res.isSome]) := by
  match res, h with
  | none, h => exact ⟨_, _, _, _, _, _, _, h⟩
  | some t, ⟨p, n, c, h1, _⟩ => exact ⟨_, _, _, _, _, _, _, h1⟩
set_option maxHeartbeats 400000 in
theorem implTypeValid_c (s : ByteArray) (hs : s.size ≤ 1048576) (w : World) :
    Calls Tryz.prog 13 #[.string s] w fun e w' => e = .returned (.bool (readTy s.data.toList).isSome) ∧ Below w.heap.size w w' := by
  go_enter Tryz.func13, Tryz.ntmps13
  go_wp2_with (go_at_call 48; go_must (refine (readType_c s hs _).mono ?_; rintro e w1 ⟨hp, hb1⟩; obtain ⟨a, p, n, c, x, y, z, rfl⟩ := tyPost_shape hp; clear hp))
  go_ret
  exact ⟨rfl, hb1.alloc hb1.size _⟩
set_option maxHeartbeats 400000 in
theorem implFormSize_c (s : ByteArray) (hs : s.size ≤ 1048576) (w : World) :
    Calls Tryz.prog 19 #[.string s] w fun e w' => e = .returned (.int .i64 (sizeOfText s.data.toList)) ∧ Below w.heap.size w w' := by
  cases hp : parse s.data.toList with
  | none =>
    have C := Lib.hid (readForm_none hs hp)
    have HD := Lib.hid (show sizeOfText s.data.toList = -1 from by simp [sizeOfText, hp])
    clear hp
    go_enter Tryz.func19, Tryz.ntmps19
    go_wp2_with (go_at_call 55; go_must (refine (C.out _).mono ?_; rintro e w1 ⟨rfl, hb1⟩))
    go_ret
    exact ⟨ret_int HD.out.symm, hb1.alloc hb1.size _⟩
  | some t =>
    have C := Lib.hid (readForm_some hs hp)
    have HD := Lib.hid (show sizeOfText s.data.toList = (t.size : Int) from by simp [sizeOfText, hp])
    clear hp
    go_enter Tryz.func19, Tryz.ntmps19
    go_wp2_with (go_at_call 55; go_must (refine (C.out _).mono ?_; rintro e w1 ⟨⟨p, n, c, rfl, hv⟩, hb1⟩))
    go_ret
    exact ⟨ret_int HD.out.symm, hb1.alloc hb1.size _⟩

end Go.Proofs.YtjncmmnbdabjnaaGreatDoor
