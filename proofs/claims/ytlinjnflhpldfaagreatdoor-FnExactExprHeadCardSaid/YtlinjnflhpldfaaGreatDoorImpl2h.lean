/- The program reads whole texts as expressions. -/
import Derived.Test.YtlinjnflhpldfaaGreatDoorImpl2g
namespace Go.Proofs.YtlinjnflhpldfaaGreatDoor
open Go.RowKit
set_option maxRecDepth 8000
set_option linter.unusedSimpArgs false
set_option linter.unusedVariables false
theorem asExs_one (h : Tr) : asExs [h] = none := by
  simp only [asExs]
  by_cases h1 : atomOf h = kLet
  · rw [if_pos h1]; rfl
  · rw [if_neg h1]
    by_cases h2 : atomOf h = kFun
    · rw [if_pos h2]; rfl
    · rw [if_neg h2]; rfl
set_option maxHeartbeats 1000000 in
theorem asExpr_list0 (h : Tr) (ok : Nat → Prop) (w : World) (r off : Nat) (b z d : Int) (hrlt : r < w.heap.size) (e0 : w.cell? ⟨r, off, none⟩ = some (.string (bs (atomOf h)))) :
    Calls Tryz.prog 58 #[.agg #[.string (bs []), .slice (some ⟨r, off, none⟩) (0 + 1) 1, .int .i64 b, .int .i64 z, .int .i64 d]] w fun e w' => ExPost ok (asExs [h]) e w' ∧ Below w.heap.size w w' := by
  rw [asExs_one]
  by_cases hlet : atomOf h = kLet
  · have s1 : ((bs (atomOf h)).toList == [108, 101, 116]) = true := by rw [bs_toList, hlet]; rfl
    generalize atomOf h = hd0 at *
    clear hlet
    go_enter Tryz.func58, Tryz.ntmps58
    go_wp2_with (go_at_call 79; go_must (refine (isAtom_no _ _ _ _ (Nat.succ_ne_zero _) _ _ _ _).mono ?_; rintro e w1 ⟨rfl, hb1⟩; have c1 := below_blk hb1 (by simp) (heap_alloc_new _ _); have d0 := cell_of (j := 0) c1; have d1 := cell_of (j := 1) c1; have hw1 := (below1 w _).trans (hb1.mono (by simp)); have g0 := (hw1.cell (p := ⟨r, off, none⟩) hrlt).trans e0))
    go_quiet (fail)
    have hwq := hw1.trans ((below_drewI w1 nq).mono hw1.size)
    go_wp2_with (go_at_call 81; go_must (refine (asLet_bad _ 0 0 (by omega) (by omega) _).mono ?_; rintro e w2 ⟨rfl, hb2⟩))
    go_ret2
    exact ⟨ExPost.nil rfl, hwq.trans (hb2.mono hwq.size)⟩
  have s1 : ((bs (atomOf h)).toList == [108, 101, 116]) = false := by rw [bs_toList]; simpa [kLet] using hlet
  by_cases hfun : atomOf h = kFun
  · have s2 : ((bs (atomOf h)).toList == [102, 117, 110]) = true := by rw [bs_toList, hfun]; rfl
    generalize atomOf h = hd0 at *
    clear hlet hfun
    go_enter Tryz.func58, Tryz.ntmps58
    go_wp2_with (go_at_call 79; go_must (refine (isAtom_no _ _ _ _ (Nat.succ_ne_zero _) _ _ _ _).mono ?_; rintro e w1 ⟨rfl, hb1⟩; have c1 := below_blk hb1 (by simp) (heap_alloc_new _ _); have d0 := cell_of (j := 0) c1; have d1 := cell_of (j := 1) c1; have hw1 := (below1 w _).trans (hb1.mono (by simp)); have g0 := (hw1.cell (p := ⟨r, off, none⟩) hrlt).trans e0))
    go_quiet (fail)
    have hwq := hw1.trans ((below_drewI w1 nq).mono hw1.size)
    go_wp2_with (go_at_call 82; go_must (refine (asFun_bad _ 0 0 (by omega) (by omega) _).mono ?_; rintro e w2 ⟨rfl, hb2⟩))
    go_ret2
    exact ⟨ExPost.nil rfl, hwq.trans (hb2.mono hwq.size)⟩
  have s2 : ((bs (atomOf h)).toList == [102, 117, 110]) = false := by rw [bs_toList]; simpa [kFun] using hfun
  generalize atomOf h = hd0 at *
  clear hlet hfun
  go_enter Tryz.func58, Tryz.ntmps58
  go_wp2_with (go_at_call 79; go_must (refine (isAtom_no _ _ _ _ (Nat.succ_ne_zero _) _ _ _ _).mono ?_; rintro e w1 ⟨rfl, hb1⟩; have c1 := below_blk hb1 (by simp) (heap_alloc_new _ _); have d0 := cell_of (j := 0) c1; have d1 := cell_of (j := 1) c1; have hw1 := (below1 w _).trans (hb1.mono (by simp)); have g0 := (hw1.cell (p := ⟨r, off, none⟩) hrlt).trans e0))
  go_quiet (fail)
  have hwq := hw1.trans ((below_drewI w1 nq).mono hw1.size)
  go_wp2_with fail
  refine wp_loop_rounds 1 ?_
  rw [rounds_succ]
  go_wp2_with (go_at_call 83; go_must (refine (headExpr_other _ _ 0 0 (by omega) (by omega) (by omega) (by omega) _).mono ?_; rintro e w2 ⟨rfl, hb2⟩))
  go_ret2
  exact ⟨ExPost.nil rfl, hwq.trans (hb2.mono hwq.size)⟩
theorem asExpr_zero : AsExC 0 := fun t _ _ _ _ _ h => by omega
theorem asExpr_succ (n : Nat) (ih : AsExC n) : AsExC (n + 1) := by
  intro t p m c ok w hd hwf hby hv hok
  match t, hv with
  | .atom a, hv =>
    simp only [FV] at hv
    have hh := nI_inj _ _ _ hv
    simp only [Value.slice.injEq] at hh
    obtain ⟨rfl, rfl, rfl⟩ := hh
    have := asExpr_atom a (by simp only [Tr.bytes] at hby; omega) ok (Tr.atom a).bytes (Tr.atom a).size (Tr.atom a).depth w
    simpa only [asEx, atomOf] using this
  | .list ts, hv =>
    simp only [FV] at hv
    obtain ⟨r, off, cap, xs, hh, h2, h3, h4, h5, h6⟩ := hv
    have hh := nI_inj _ _ _ hh
    simp only [Value.slice.injEq] at hh
    obtain ⟨rfl, rfl, rfl⟩ := hh
    simp only [Tr.wf] at hwf
    obtain ⟨h, ps, rfl⟩ : ∃ h ps, ts = h :: ps := by cases ts with
      | nil => exact absurd rfl hwf.1
      | cons h ps => exact ⟨h, ps, rfl⟩
    have hget : ∀ t ∈ ps, ∃ i, ∃ hi : i < (h :: ps).length, (h :: ps)[i] = t := fun t ht => List.getElem_of_mem (List.mem_cons_of_mem _ ht)
    have hd' : ∀ t ∈ ps, t.depth < n := fun t ht => by obtain ⟨i, hi, rfl⟩ := hget t ht; have := depth_lt hi; omega
    have hw' : ∀ t ∈ ps, t.wf := fun t ht => by obtain ⟨i, hi, rfl⟩ := hget t ht; exact wf_get hwf.2 hi
    have hb' : ∀ t ∈ ps, t.bytes ≤ 12000 := fun t ht => by obtain ⟨i, hi, rfl⟩ := hget t ht; have := bytes_lt hi; omega
    have hlen : ps.length ≤ 12000 := by have := length_le_bytess (h :: ps); simp only [Tr.bytes] at hby; simp only [List.length_cons] at this; omega
    have hr := hok r h2
    by_cases hcap : c = 1
    · subst hcap
      have hps : ps = [] := by cases ps with
        | nil => rfl
        | cons a b => simp at h3
      subst hps
      obtain ⟨ys, _, _, e0⟩ := row_rest h6 h5
      have := asExpr_list0 h ok w r off (Tr.list [h]).bytes (Tr.list [h]).size (Tr.list [h]).depth hr e0
      simpa only [asEx, atomOf, List.length_cons, List.length_nil] using this
    · have := asExpr_list n ih h ps c ok w r off xs (Tr.list (h :: ps)).bytes (Tr.list (h :: ps)).size (Tr.list (h :: ps)).depth hd' hw' hb' h5 h6 hr hok (by simpa using h3) h4 hlen hcap
      simpa only [asEx, atomOf, List.length_cons] using this
theorem asExpr_all : ∀ n, AsExC n
  | 0 => asExpr_zero
  | n + 1 => asExpr_succ n (asExpr_all n)
/-- What reading a whole text as an expression hands back. -/
def RdPost (B : Nat) (res : Option Ex) (e : Ending) (w' : World) : Prop :=
  match res with
  | none => e = .returned (.tuple #[.nilIface, .bool false]) ∨ ∃ T u, e = .returned (.tuple #[.iface T u, .bool false])
  | some x => ∃ v, e = .returned (.tuple #[v, .bool true]) ∧ EV w' (fun k => B ≤ k ∧ k < w'.heap.size) x v
theorem rdPost_shape {B : Nat} {res : Option Ex} {e : Ending} {w' : World} (hq : RdPost B res e w') : ∃ x, e = .returned (.tuple #[x, .bool res.isSome]) := by
  unfold RdPost at hq
  cases res with
  | none => rcases hq with hq | ⟨T, u, hq⟩ <;> exact ⟨_, hq⟩
  | some x => obtain ⟨v, hq, _⟩ := hq; exact ⟨_, hq⟩
theorem rdPost_of {B : Nat} {ok : Nat → Prop} {res : Option Ex} {e : Ending} {w' : World} (h : ExPost ok res e w') (hk : ∀ k, ok k → B ≤ k ∧ k < w'.heap.size) : RdPost B res e w' := by
  unfold ExPost at h
  cases res with
  | none => exact h
  | some x => obtain ⟨v, hq, hv⟩ := h; exact ⟨v, hq, EV.move hk (fun _ _ => rfl) x v hv⟩
set_option maxHeartbeats 1000000 in
theorem readExpr_c (s : ByteArray) (hs : s.size ≤ 1048576) (w : World) :
    Calls Tryz.prog 34 #[.string s] w fun e w' => RdPost w.heap.size (readEx s.data.toList) e w' ∧ Below w.heap.size w w' := by
  cases hp : parse s.data.toList with
  | none =>
    have C := Lib.hid (readForm_none hs hp)
    have HR := Lib.hid (readEx_none hp)
    clear hp
    go_enter Tryz.func34, Tryz.ntmps34
    go_wp2_with (go_at_call 57; go_must (refine (C.out _).mono ?_; rintro e w1 ⟨rfl, hb1⟩))
    go_ret2
    exact ⟨by rw [HR.out]; exact .inl rfl, hb1.alloc hb1.size _⟩
  | some t =>
    have C := Lib.hid (readForm_some hs hp)
    have hg := parse_got hp
    have HR := Lib.hid (readEx_some hp)
    have hst : t.size ≤ 12000 := by have := (size_le t hg.1).1; have := hg.2; omega
    have CE : Hid (∀ (w1 W : World) (B : Nat) p n c, FV nI w1 (fun k => B ≤ k ∧ k < w1.heap.size) t (nI t (.slice p n c)) → Below w1.heap.size w1 W → Calls Tryz.prog 58 #[.agg #[.string (bs (atomOf t)), .slice p n c, .int .i64 t.bytes, .int .i64 t.size, .int .i64 t.depth]] W fun e w' => ExPost (fun k => B ≤ k ∧ k < w1.heap.size) (asEx t) e w' ∧ Below W.heap.size W w') :=
      Lib.hid (fun w1 W B p n c hv hW => asExpr_all (t.depth + 1) t p n c _ W (by omega) hg.1 (by have := hg.2; omega) (hv.below hW (fun k hk => hk.2)) (fun k hk => Nat.lt_of_lt_of_le hk.2 hW.size))
    clear hg
    by_cases h120 : t.size ≤ 120
    · have hd : ¬ (120 : Int) < (t.size : Int) := by omega
      have HR2 := Lib.hid (show readEx s.data.toList = asEx t by rw [HR.out, if_pos h120])
      clear hp HR
      go_enter Tryz.func34, Tryz.ntmps34
      go_wp2_with (first | (go_at_call 57; go_must (refine (C.out _).mono ?_; rintro e w1 ⟨⟨p, n, c, rfl, hv⟩, hb1⟩)) | (go_at_call 58; go_must (refine (CE.out w1 _ _ p n c hv (below1 _ _)).mono ?_; rintro e w2 ⟨hq, hb2⟩; obtain ⟨x, y, rfl⟩ := exPost_shape hq)))
      go_ret2
      have hs1 := hb1.size
      have hs2 := hb2.size
      simp only [alloc_size] at hs2
      exact ⟨by rw [HR2.out]; exact rdPost_of hq (fun k hk => ⟨hk.1, by omega⟩), (hb1.alloc hb1.size _).trans (hb2.mono (by simp; omega))⟩
    · have hd : (120 : Int) < (t.size : Int) := by omega
      have HR2 := Lib.hid (show readEx s.data.toList = none by rw [HR.out, if_neg h120])
      clear hp HR CE
      go_enter Tryz.func34, Tryz.ntmps34
      go_wp2_with (go_at_call 57; go_must (refine (C.out _).mono ?_; rintro e w1 ⟨⟨p, n, c, rfl, hv⟩, hb1⟩))
      go_ret2
      exact ⟨by rw [HR2.out]; exact .inl rfl, hb1.alloc hb1.size _⟩
set_option maxHeartbeats 400000 in
theorem implExprValid_c (s : ByteArray) (hs : s.size ≤ 1048576) (w : World) :
    Calls Tryz.prog 13 #[.string s] w fun e w' => e = .returned (.bool (readEx s.data.toList).isSome) ∧ Below w.heap.size w w' := by
  go_enter Tryz.func13, Tryz.ntmps13
  go_wp2_with (go_at_call 34; go_must (refine (readExpr_c s hs _).mono ?_; rintro e w1 ⟨hp, hb1⟩; obtain ⟨x, rfl⟩ := rdPost_shape hp; clear hp))
  go_ret
  exact ⟨rfl, hb1⟩
end Go.Proofs.YtlinjnflhpldfaaGreatDoor
