/- What ExprPut's outcome weighs: leaves of an expression. An expression with a closed one put for a name is an expression again, and its text is read as it if it keeps the limits. The plain mathematics of ExprOf: the plainest expression of a type. The reference model: the free names of a text, and whether it is closed. The reference model: the kids of a text. -/
import Derived.Test.YtjncmmnbdabjnaaGreatDoorImpl2w
import Derived.Test.YtjncmmnbdabjnaaGreatDoorPureT
import Derived.Test.YtjncmmnbdabjnaaGreatDoorImpl2y
import Derived.Test.YtjncmmnbdabjnaaGreatDoorS2dM
import Derived.Test.YtjncmmnbdabjnaaGreatDoorS2f
import Derived.Test.YtjncmmnbdabjnaaGreatDoorI2p
import Derived.Test.YtjncmmnbdabjnaaGreatDoorImpl2v
namespace Go.Proofs.YtjncmmnbdabjnaaGreatDoor
open Go.RowKit
set_option maxRecDepth 8000
set_option linter.unusedSimpArgs false
set_option linter.unusedVariables false
def leafs : Ex → Nat
  | .name _ => 1
  | .num _ => 1
  | .two _ a b => leafs a + leafs b
  | .one _ a => leafs a
  | .cond a b c => leafs a + leafs b + leafs c
  | .lete _ e b => leafs e + leafs b + 1
  | .func _ _ _ _ e => leafs e + 2
/-- Leaves and binders are few, measured by the size. -/
theorem leafs_size : ∀ x : Ex, 3 * leafs x ≤ 2 * (formOf x).size + 1
  | .name s => by simp [leafs, formOf, Tr.size]
  | .num n => by simp [leafs, formOf, Tr.size]
  | .two o a b => by
    have h1 := leafs_size a
    have h2 := leafs_size b
    simp only [leafs, formOf, Tr.size, sizes]; omega
  | .one o a => by
    have h1 := leafs_size a
    simp only [leafs, formOf, Tr.size, sizes]; omega
  | .cond a b c => by
    have h1 := leafs_size a
    have h2 := leafs_size b
    have h3 := leafs_size c
    simp only [leafs, formOf, Tr.size, sizes]; omega
  | .lete s a b => by
    have h1 := leafs_size a
    have h2 := leafs_size b
    simp only [leafs, formOf, Tr.size, sizes]; omega
  | .func f a A B x => by
    have h1 := leafs_size x
    simp only [leafs, formOf, Tr.size, sizes]; omega
theorem putE_weight {name : Nm} {b : Ex} {m : Nat} (hb : (formOf b).bytes ≤ m) : ∀ x : Ex, (formOf (putE name b x)).bytes ≤ (formOf x).bytes + leafs x * m
  | .name s => by
    simp only [putE]
    split
    · simp only [leafs, Nat.one_mul]; omega
    · omega
  | .num n => by simp only [putE]; omega
  | .two o x y => by
    have h1 := putE_weight (name := name) hb x
    have h2 := putE_weight (name := name) hb y
    simp only [putE, formOf, leafs, Tr.bytes, bytess, Nat.add_mul]; omega
  | .one o x => by
    have h1 := putE_weight (name := name) hb x
    simp only [putE, formOf, leafs, Tr.bytes, bytess, Nat.add_mul]; omega
  | .cond x y z => by
    have h1 := putE_weight (name := name) hb x
    have h2 := putE_weight (name := name) hb y
    have h3 := putE_weight (name := name) hb z
    simp only [putE, formOf, leafs, Tr.bytes, bytess, Nat.add_mul]; omega
  | .lete s x y => by
    have h1 := putE_weight (name := name) hb x
    have h2 : (formOf (if s = name then y else putE name b y)).bytes ≤ (formOf y).bytes + leafs y * m := by
      split
      · omega
      · exact putE_weight hb y
    simp only [putE, formOf, leafs, Tr.bytes, bytess, Nat.add_mul]; omega
  | .func f a A B x => by
    have h2 : (formOf (if f = name ∨ a = name then x else putE name b x)).bytes ≤ (formOf x).bytes + leafs x * m := by
      split
      · omega
      · exact putE_weight hb x
    simp only [putE, formOf, leafs, Tr.bytes, bytess, Nat.add_mul]; omega
/-- The text of an outcome is no longer than what can be read. -/
theorem putE_fits {name : Nm} {b x : Ex} (hb : (formOf b).bytes ≤ 12000) (hx : (formOf x).bytes ≤ 12000) (hs : (formOf x).size ≤ 120) : (formOf (putE name b x)).bytes ≤ 972000 := by
  have h1 := putE_weight (name := name) hb x
  have h2 := leafs_size x
  have h3 : leafs x ≤ 80 := by omega
  have h4 : leafs x * 12000 ≤ 80 * 12000 := Nat.mul_le_mul_right _ h3
  omega
end Go.Proofs.YtjncmmnbdabjnaaGreatDoor
namespace Go.Proofs.YtjncmmnbdabjnaaGreatDoor
open Go.RowKit
set_option maxRecDepth 8000
set_option linter.unusedSimpArgs false
set_option linter.unusedVariables false
theorem putE_good {name : Nm} {b : Ex} (hb : asEx (formOf b) = some b) : ∀ x : Ex, asEx (formOf x) = some x → asEx (formOf (putE name b x)) = some (putE name b x)
  | .name s, h => by simp only [putE]; split; exact hb; exact h
  | .num n, h => h
  | .two o x y, h => by
    have h := (good_two o x y).1 h
    exact (good_two o _ _).2 ⟨putE_good hb x h.1, putE_good hb y h.2⟩
  | .one o x, h => (good_one o _).2 (putE_good hb x ((good_one o x).1 h))
  | .cond x y z, h => by
    have h := (good_cond x y z).1 h
    exact (good_cond _ _ _).2 ⟨putE_good hb x h.1, putE_good hb y h.2.1, putE_good hb z h.2.2⟩
  | .lete s x y, h => by
    have h := (good_lete s x y).1 h
    refine (good_lete s _ _).2 ⟨h.1, putE_good hb x h.2.1, ?_⟩
    split; exact h.2.2; exact putE_good hb y h.2.2
  | .func f a A B x, h => by
    have h := (good_func f a A B x).1 h
    refine (good_func f a A B _).2 ⟨h.1, ?_⟩
    split; exact h.2; exact putE_good hb x h.2
/-- Whether the outcome's text is an expression is a matter of the limits. -/
theorem limT_valid {X : Ex} (hw : (formOf X).wf) (hg : asEx (formOf X) = some X) : limT (formOf X) = if (parseE (formOf X).text).isSome then some (formOf X).text else none := by
  have hi : isEx (formOf X) = true := by simp [isEx, hg]
  unfold limT
  by_cases h1 : (formOf X).bytes ≤ 12000 ∧ (formOf X).depth ≤ 60
  · have hp := parse_text hw h1.1 h1.2
    by_cases h2 : (formOf X).size ≤ 120
    · rw [parseE_some hp hi h2]; simp [h1, h2]
    · rw [parseE_long hp h2]; simp [h2]
  · have hp := parse_text_none hw h1
    rw [parseE_none hp]
    rw [if_neg (fun h => h1 h.2)]; simp
end Go.Proofs.YtjncmmnbdabjnaaGreatDoor
namespace Go.Proofs.YtjncmmnbdabjnaaGreatDoor
open Go.RowKit
set_option maxRecDepth 8000
set_option linter.unusedSimpArgs false
set_option linter.unusedVariables false
/-- The plainest expression of a type. -/
def exOf : Tr → Ex
  | .list [x, a, b] => if atomOf x = [42] then .two .pair (exOf a) (exOf b) else .func [102] [120] a b (exOf b)
  | _ => .num 0
theorem exOf_atom (a : List UInt8) : exOf (.atom a) = .num 0 := by simp [exOf]
theorem exOf_three (x a b : Tr) : exOf (.list [x, a, b]) = if atomOf x = [42] then .two .pair (exOf a) (exOf b) else .func [102] [120] a b (exOf b) := by rw [exOf]
theorem zero_text : formOf (.num 0) = .atom [48] := by simp [formOf, Lib.itoa, dd1]
structure OfOK (t : Tr) : Prop where
  wf : (formOf (exOf t)).wf
  bytes : (formOf (exOf t)).bytes ≤ 100 * t.size
  ok : exOK (exOf t)
  good : asEx (formOf (exOf t)) = some (exOf t)
theorem exOf_ok : ∀ (n : Nat) (t : Tr), t.depth ≤ n → isTyL t = true → OfOK t
  | _, .atom a, _, h => by
    refine ⟨?_, ?_, ?_, ?_⟩
    · rw [exOf_atom, zero_text]; exact ⟨by simp, by decide⟩
    · rw [exOf_atom, zero_text]; simp [Tr.bytes, Tr.size]
    · rw [exOf_atom]; simp [exOK]
    · rw [exOf_atom, zero_text]; simp [asEx, atomEx, numOf]
  | 0, .list ts, hd, h => by
    obtain ⟨x, a, b, rfl, -⟩ := isTy_list (isTyL_got h).1
    have := depths3 x a b
    omega
  | n + 1, .list ts, hd, h => by
    obtain ⟨x, a, b, rfl, hx, -⟩ := isTy_list (isTyL_got h).1
    have hdd := depths3 x a b
    have hsz := (isTyL_got h).2
    have hxc : atomOf x = [42] ∨ (¬ atomOf x = [42] ∧ atomOf x = [62]) := by
      rcases hx with hx | hx
      · exact .inr ⟨by rw [hx]; decide, hx⟩
      · exact .inl hx
    have hab : isTyL a = true ∧ isTyL b = true := by
      rcases hxc with e | ⟨_, e⟩
      · exact sidesTr_ok (c := 42) h (by simp [sidesTr, e])
      · exact sidesTr_ok (c := 62) h (by simp [sidesTr, e])
    have hsz2 : (Tr.list [x, a, b]).size = x.size + (a.size + (b.size + 0)) := by simp only [Tr.size, sizes]
    have hx1 : 1 ≤ x.size := by
      cases x with
      | atom y => simp [Tr.size]
      | list l => rcases hx with hx | hx <;> cases hx
    have kb := exOf_ok n b (by omega) hab.2
    have sa := isTyL_small hab.1
    have sb := isTyL_small hab.2
    rw [hsz2] at hsz
    rcases hxc with e | ⟨e, e2⟩
    · have ka := exOf_ok n a (by omega) hab.1
      have he : exOf (.list [x, a, b]) = .two .pair (exOf a) (exOf b) := by rw [exOf_three, if_pos e]
      refine ⟨?_, ?_, ?_, ?_⟩
      · rw [he]; simp only [formOf, Tr.wf, wfs]; exact ⟨by simp, ⟨by decide, by decide⟩, ka.wf, kb.wf, trivial⟩
      · rw [he, hsz2]
        have h1 := ka.bytes
        have h2 := kb.bytes
        have h3 : (op2N .pair).length = 4 := rfl
        simp only [formOf, Tr.bytes, bytess]; omega
      · rw [he]; exact ⟨ka.ok, kb.ok⟩
      · rw [he]; exact (good_two _ _ _).2 ⟨ka.good, kb.good⟩
    · have he : exOf (.list [x, a, b]) = .func [102] [120] a b (exOf b) := by rw [exOf_three, if_neg e]
      refine ⟨?_, ?_, ?_, ?_⟩
      · rw [he]; simp only [formOf, Tr.wf, wfs]; exact ⟨by simp, ⟨by decide, by decide⟩, ⟨by decide, by decide⟩, ⟨by decide, by decide⟩, sa.1, sb.1, kb.wf, trivial⟩
      · rw [he, hsz2]
        have h2 := kb.bytes
        have h3 : kFun.length = 3 := rfl
        have h4 := sa.2.1
        have h5 := sb.2.1
        have h6 := (isTy_small _ _ (Nat.le_refl _) sa.2.2.2.2).1
        have h7 := (isTy_small _ _ (Nat.le_refl _) sb.2.2.2.2).1
        simp only [formOf, Tr.bytes, bytess, List.length_cons, List.length_nil]; omega
      · rw [he]; exact ⟨by decide, by decide, kb.ok⟩
      · rw [he]; exact (good_func _ _ _ _ _).2 ⟨by rw [hab.1, hab.2]; decide, kb.good⟩
/-- ExprOf's answer. -/
def ofTx (l : List UInt8) : Option (List UInt8) := (readTy l).bind (fun t => limT (formOf (exOf t)))
theorem ofTx_none {l : List UInt8} (h : readTy l = none) : ofTx l = none := by simp [ofTx, h]
theorem ofTx_some {l : List UInt8} {t : Tr} (h : readTy l = some t) : ofTx l = limT (formOf (exOf t)) := by simp [ofTx, h]
theorem readTy_L {l : List UInt8} {t : Tr} (h : readTy l = some t) : isTyL t = true := by
  obtain ⟨_, _, _, _, h1, h2⟩ := readTy_got h
  simp [isTyL, h1, h2]
end Go.Proofs.YtjncmmnbdabjnaaGreatDoor
namespace Go.Proofs.YtjncmmnbdabjnaaGreatDoor
open Go.RowKit
set_option maxRecDepth 8000
set_option linter.unusedSimpArgs false
set_option linter.unusedVariables false
set_option maxHeartbeats 1000000 in
theorem specExprFree_c (s : ByteArray) (hs : s.size ≤ 1048576) (w : World) :
    Calls Tryz.prog 30 #[.string s] w fun e w' => PartsPost w.heap.size (freeE s.data.toList) e w' ∧ Below w.heap.size w w' := by
  cases hp : parseE s.data.toList with
  | none =>
    have C := Lib.hid (l2Parse_none hs hp)
    have HR := Lib.hid (freeE_none (readEx_none2 hp))
    clear hp
    go_enter Tryz.func30, Tryz.ntmps30
    go_wp2_with (go_at_call 51; go_must (refine (C.out _).mono ?_; rintro e w1 ⟨⟨a, p, m, c, rfl, hnl⟩, hb1⟩))
    go_ret2
    exact ⟨by rw [HR.out]; exact ⟨_, rfl, made_none hb1⟩, (hb1.alloc hb1.size _).alloc (by have := hb1.size; simp; omega) _⟩
  | some t =>
    have C := Lib.hid (l2Parse_some hs hp)
    obtain ⟨x, hx1, hx2⟩ := readEx_asEx' hp
    have hg := parse_got (parseE_got hp).1
    have hst := (size_le t hg.1).1
    have HR := Lib.hid (freeE_some hx1)
    have CR : Hid (∀ (w1 : World) (B0 : Nat) p m c, FV nS w1 (fun k => B0 ≤ k ∧ k < w1.heap.size) t (nS t (.slice p m c)) → Calls Tryz.prog 62 #[.agg #[.string (bs (atomOf t)), .slice p m c], .slice (some ⟨w1.heap.size + 1, 0, none⟩) 0 0, .slice (some ⟨w1.heap.size + 1 + 1, 0, none⟩) 0 0] (((w1.alloc (.cells #[.string (bs (atomOf t)), .slice p m c] 65)).alloc (.cells #[] 9)).alloc (.cells #[] 9)) fun e w' => AtPost w1.heap.size (w1.heap.size + 3) (.slice (some ⟨w1.heap.size + 1 + 1, 0, none⟩) 0 0) ((freeP x).foldl addA []) (((w1.alloc (.cells #[.string (bs (atomOf t)), .slice p m c] 65)).alloc (.cells #[] 9)).alloc (.cells #[] 9)) e w') := Lib.hid (fun w1 B0 p m c hv => by
      obtain ⟨W, hW⟩ : ∃ W, W = (((w1.alloc (.cells #[.string (bs (atomOf t)), .slice p m c] 65)).alloc (.cells #[] 9)).alloc (.cells #[] 9)) := ⟨_, rfl⟩
      have hbW : Below w1.heap.size w1 W := by rw [hW]; exact below3 _ _ _ _
      have hsW : W.heap.size = w1.heap.size + 3 := by rw [hW]; simp
      have hq1 : W.heap[w1.heap.size + 1]? = some (.cells #[] 9 (0, 0)) := by rw [hW]; exact blk_alloc (heap_alloc_new2 _ _ _)
      have hq2 : W.heap[w1.heap.size + 1 + 1]? = some (.cells #[] 9 (0, 0)) := by rw [hW]; have := heap_alloc_new2 (w1.alloc (.cells #[.string (bs (atomOf t)), .slice p m c] 65)) (.cells #[] 9) (.cells #[] 9); simpa using this
      rw [← hW]
      have h := l2Free_all (t.depth + 1) t x (nS t (.slice p m c)) w1.heap.size [] [] (.slice (some ⟨w1.heap.size + 1 + 1, 0, none⟩) 0 0) (.slice (some ⟨w1.heap.size + 1, 0, none⟩) 0 0) W (by omega) hg.1 (by have := hg.2; omega) (by have := hg.2; simp; omega) (by have := hg.2; simp; omega) hx2 ((FV.move (fun k hk => hk.2) (fun k hk => hbW.block k hk.2) _ _ hv)) (by omega) (owns_empty hq2 (by omega)) ⟨_, 0, rfl, by simp, fun hne => absurd rfl hne⟩ (fun k hk => by simp [Value.ownBlock] at hk; subst hk; exact ⟨by simp [Value.ownBlock], by omega⟩)
      rw [hsW] at h
      have e : addF [] [] (freeP x) = (freeP x).foldl addA [] := by rw [addF, rm_nil]
      rw [e] at h
      exact h)
    clear hp hx1 hx2 hst
    go_enter Tryz.func30, Tryz.ntmps30
    go_wp2_with (first | (go_at_call 51; go_must (refine (C.out _).mono ?_; rintro e w1 ⟨⟨p, m, c, rfl, hv⟩, hb1⟩)) | (go_at_call 62; go_must (refine (CR.out w1 _ p m c hv).mono ?_; rintro e w2 ⟨v2, rfl, ho2, hg2, hv2⟩)))
    go_ret2
    exact ⟨by rw [HR.out]; exact ⟨_, rfl, owns_base ho2 hb1.size⟩, below_grown2 hb1 (below3 _ _ _ _) hg2 (fun k hk => by simp [Value.ownBlock] at hk; have := hb1.size; omega)⟩
theorem closed_eq (l : List UInt8) : ((freeE l).isSome && decide (((freeE l).getD []).length = 0)) = (readCl l).isSome := by
  cases h : readEx l with
  | none => simp [freeE, readCl, h]
  | some x =>
    rw [freeE_some h]
    by_cases hf : freeP x = []
    · rw [readCl_some h hf, hf]; rfl
    · rw [readCl_no h hf]
      have : (freeP x).foldl addA [] ≠ [] := fun e => hf ((foldA_nil _).1 e)
      simp [this]
set_option maxHeartbeats 400000 in
theorem specExprClosed_c (s : ByteArray) (hs : s.size ≤ 1048576) (w : World) :
    Calls Tryz.prog 58 #[.string s] w fun e w' => e = .returned (.bool (readCl s.data.toList).isSome) ∧ Below w.heap.size w w' := by
  have C : Hid (∀ W, Calls Tryz.prog 30 #[.string s] W fun e w' => (∃ p n c, e = .returned (.tuple #[.slice p n c, .bool (freeE s.data.toList).isSome]) ∧ n = ((freeE s.data.toList).getD []).length) ∧ Below W.heap.size W w') := Lib.hid (fun W => (specExprFree_c s hs W).mono fun e w' ⟨⟨v, h1, h2⟩, h3⟩ => by
    obtain ⟨p, c, rfl⟩ := owns_slice h2
    exact ⟨⟨p, _, c, h1, rfl⟩, h3⟩)
  have HE := Lib.hid (closed_eq s.data.toList)
  have hn : ((freeE s.data.toList).getD []).length ≤ 120 := freeE_len
  generalize ((freeE s.data.toList).getD []).length = N at *
  generalize (freeE s.data.toList).isSome = z at *
  cases z with
  | false =>
    go_enter Tryz.func58, Tryz.ntmps58
    go_wp2_with (go_at_call 30; go_must (refine (C.out _).mono ?_; rintro e w1 ⟨⟨p, n, c, rfl, rfl⟩, hb1⟩))
    go_ret
    exact ⟨ret_bool (by rw [← HE.out]; rfl), hb1⟩
  | true =>
    by_cases h0 : N = 0
    · subst h0
      go_enter Tryz.func58, Tryz.ntmps58
      go_wp2_with (go_at_call 30; go_must (refine (C.out _).mono ?_; rintro e w1 ⟨⟨p, n, c, rfl, rfl⟩, hb1⟩))
      go_ret
      exact ⟨ret_bool (by rw [← HE.out]; rfl), hb1⟩
    · have hz : ((N : Int) == 0) = false := by simp; omega
      have hz2 : ¬ (N : Int) = 0 := by omega
      go_enter Tryz.func58, Tryz.ntmps58
      go_wp2_with (go_at_call 30; go_must (refine (C.out _).mono ?_; rintro e w1 ⟨⟨p, n, c, rfl, rfl⟩, hb1⟩))
      go_ret
      exact ⟨ret_bool (by rw [← HE.out]; simp [h0]), hb1⟩
end Go.Proofs.YtjncmmnbdabjnaaGreatDoor
namespace Go.Proofs.YtjncmmnbdabjnaaGreatDoor
open Go.RowKit
set_option maxRecDepth 8000
set_option linter.unusedSimpArgs false
set_option linter.unusedVariables false
theorem kidsTx_atom {l a : List UInt8} {x : Ex} (h : readEx l = some x) (hx : asEx (.atom a) = some x) : kidsTx l = some [] := by
  rw [kidsTx_some h]
  simp only [asEx, atomEx] at hx
  split at hx
  · simp only [Option.some.injEq] at hx; subst hx; rfl
  · split at hx
    · simp only [Option.some.injEq] at hx; subst hx; rfl
    · cases hx
end Go.Proofs.YtjncmmnbdabjnaaGreatDoor
