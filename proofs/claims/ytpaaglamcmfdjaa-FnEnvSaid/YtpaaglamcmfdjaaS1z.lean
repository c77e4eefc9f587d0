/- The reference model's orders, and its functions that answer numbers and bools. The reference model's answers on types. The reference model's text of a form. The reference model's parts of a form. The reference model's atoms. -/
import Derived.Test.YtpaaglamcmfdjaaS1y
import Derived.Test.YtpaaglamcmfdjaaI1y
import Derived.Test.YtpaaglamcmfdjaaB2
import Derived.Test.YtpaaglamcmfdjaaB3
import Derived.Test.YtpaaglamcmfdjaaB1
import Derived.Deep.LoopGhost
namespace Go.Proofs.Ytpaaglamcmfdjaa
open Go.RowKit
set_option maxRecDepth 8000
set_option linter.unusedSimpArgs false
set_option linter.unusedVariables false
set_option maxHeartbeats 400000 in
theorem l1Typed_c (t : Tr) (p : Option Addr) (m c : Nat) (ok : Nat → Prop) (w : World) (hwf : t.wf) (hb : t.bytes ≤ 1000000000) (hv : FV nS w ok t (nS t (.slice p m c))) (hok : ∀ k, ok k → k < w.heap.size) :
    Calls Try.prog 23 #[.agg #[.string (bs (atomOf t)), .slice p m c]] w fun e w' => e = .returned (.bool (isTy t && decide (t.size ≤ 16))) ∧ Below w.heap.size w w' := by
  have hs := (size_le t hwf).1
  have C1 : Hid (∀ W, Below w.heap.size w W → Calls Try.prog 31 #[.agg #[.string (bs (atomOf t)), .slice p m c]] W fun e w' => e = .returned (.bool (isTy t)) ∧ Below W.heap.size W w') :=
    Lib.hid (fun W hW => l1Type_c (t.depth + 1) t _ ok W (by omega) hwf (hv.below hW hok) (fun j hj => Nat.lt_of_lt_of_le (hok j hj) hW.size))
  have C2 : Hid (∀ W, Below w.heap.size w W → Calls Try.prog 32 #[.agg #[.string (bs (atomOf t)), .slice p m c]] W fun e w' => e = .returned (.int .i64 t.size) ∧ Below W.heap.size W w') :=
    Lib.hid (fun W hW => l1Size_c (t.depth + 1) t _ ok W (by omega) hwf hb (hv.below hW hok) (fun j hj => Nat.lt_of_lt_of_le (hok j hj) hW.size))
  clear hv
  cases ht : isTy t with
  | false =>
    rw [ht] at C1
    go_enter Try.func23, Try.ntmps23
    go_wp2_with (go_at_call 31; go_must (refine (C1.out _ (below1 _ _)).mono ?_; rintro e w1 ⟨rfl, hb1⟩))
    go_ret
    exact ⟨rfl, (below1 w _).trans (hb1.mono (by simp))⟩
  | true =>
    rw [ht] at C1
    go_enter Try.func23, Try.ntmps23
    go_wp2_with (first | (go_at_call 31; go_must (refine (C1.out _ (below1 _ _)).mono ?_; rintro e w1 ⟨rfl, hb1⟩; have hw1 := (below1 w _).trans (hb1.mono (by simp)); have c1 := below_blk hb1 (by simp) (heap_alloc_new _ _); have d0 := cell_of (j := 0) c1; have d1 := cell_of (j := 1) c1)) | (go_at_call 32; go_must (refine (C2.out _ hw1).mono ?_; rintro e w2 ⟨rfl, hb2⟩)))
    go_ret
    exact ⟨ret_bool (by rw [Bool.eq_iff_iff]; simp; omega), hw1.trans (hb2.mono hw1.size)⟩

end Go.Proofs.Ytpaaglamcmfdjaa
namespace Go.Proofs.Ytpaaglamcmfdjaa
open Go.RowKit
set_option linter.unusedSimpArgs false
set_option linter.unusedVariables false
theorem l1Parse_none {s : ByteArray} (hs : s.size ≤ 1048576) (hp : parse s.data.toList = none) (W : World) : Calls Try.prog 22 #[.string s] W fun e w' => (∃ a p n c, e = .returned (.tuple #[.agg #[.string a, .slice p n c], .bool false]) ∧ n ≤ maxLen) ∧ Below W.heap.size W w' :=
  (l1Parse_c s hs W).mono fun e w' ⟨h1, h2⟩ => ⟨by rw [hp] at h1; exact h1, h2⟩
theorem l1Parse_some {s : ByteArray} (hs : s.size ≤ 1048576) {t : Tr} (hp : parse s.data.toList = some t) (W : World) : Calls Try.prog 22 #[.string s] W fun e w' => (∃ p n c, e = .returned (.tuple #[.agg #[.string (bs (atomOf t)), .slice p n c], .bool true]) ∧ FV nS w' (fun k => W.heap.size ≤ k ∧ k < w'.heap.size) t (nS t (.slice p n c))) ∧ Below W.heap.size W w' :=
  (l1Parse_c s hs W).mono fun e w' ⟨h1, h2⟩ => ⟨by rw [hp] at h1; exact h1, h2⟩
set_option maxHeartbeats 400000 in
theorem specTypeValid_c (s : ByteArray) (hs : s.size ≤ 1048576) (w : World) :
    Calls Try.prog 13 #[.string s] w fun e w' => e = .returned (.bool (readTy s.data.toList).isSome) ∧ Below w.heap.size w w' := by
  cases hp : parse s.data.toList with
  | none =>
    have C := Lib.hid (l1Parse_none hs hp)
    have HR := Lib.hid (readTy_none hp)
    clear hp
    go_enter Try.func13, Try.ntmps13
    go_wp2_with (go_at_call 22; go_must (refine (C.out _).mono ?_; rintro e w1 ⟨⟨a, p, n, c, rfl, hn⟩, hb1⟩))
    go_ret
    exact ⟨ret_bool (by rw [HR.out]; rfl), hb1.alloc hb1.size _⟩
  | some t =>
    have C := Lib.hid (l1Parse_some hs hp)
    have hg := parse_got hp
    have HR := Lib.hid (readTy_some hp)
    clear hp
    have T : Hid (∀ (W : World) (p : Option Addr) (n c : Nat) (ok : Nat → Prop), FV nS W ok t (nS t (.slice p n c)) → (∀ k, ok k → k < W.heap.size) → Calls Try.prog 23 #[.agg #[.string (bs (atomOf t)), .slice p n c]] W fun e w' => e = .returned (.bool (isTy t && decide (t.size ≤ 16))) ∧ Below W.heap.size W w') :=
      Lib.hid (fun W p n c ok h1 h2 => l1Typed_c t p n c ok W hg.1 (by omega) h1 h2)
    go_enter Try.func13, Try.ntmps13
    go_wp2_with (first | (go_at_call 22; go_must (refine (C.out _).mono ?_; rintro e w1 ⟨⟨p, n, c, rfl, hv⟩, hb1⟩)) | (go_at_call 23; go_must (refine (T.out _ p n c (fun k => w.heap.size ≤ k ∧ k < w1.heap.size) (hv.below (below1 _ _) (fun k hk => hk.2)) (fun k hk => by simp; omega)).mono ?_; rintro e w2 ⟨rfl, hb2⟩)))
    go_ret
    exact ⟨ret_bool (by rw [HR.out]; cases isTy t && decide (t.size ≤ 16) <;> rfl), (hb1.alloc hb1.size _).trans (hb2.mono (by have := hb1.size; simp; omega))⟩
end Go.Proofs.Ytpaaglamcmfdjaa
namespace Go.Proofs.Ytpaaglamcmfdjaa
open Go.RowKit
set_option linter.unusedSimpArgs false
set_option linter.unusedVariables false
theorem texts_snocS : ∀ (ts : List Tr) (t : Tr), texts (ts ++ [t]) = if ts = [] then t.text else texts ts ++ 32 :: t.text
  | [], t => by simp [texts]
  | [a], t => by simp [texts]
  | a :: b :: ts, t => by
    have ih := texts_snocS (b :: ts) t
    simp only [List.cons_append, texts] at ih ⊢
    rw [ih]; simp
theorem wfs_takeS {ts : List Tr} (h : wfs ts) (k : Nat) : wfs (ts.take k) := by
  induction ts generalizing k with
  | nil => simp [wfs]
  | cons a ts ih => cases k with
    | zero => simp [wfs]
    | succ k => exact ⟨h.1, ih h.2 k⟩
/-- What of a list's text has been written ahead of the part with an index. -/
def preS (ts : List Tr) (k : Nat) : List UInt8 := 40 :: texts (ts.take k)
theorem preS_succ (ts : List Tr) (k : Nat) (h : k < ts.length) : preS ts (k + 1) = (if k = 0 then preS ts k else preS ts k ++ [32]) ++ ts[k].text := by
  unfold preS
  rw [take_snoc' _ _ h, texts_snocS]
  by_cases hk : k = 0
  · subst hk; simp [texts]
  · rw [if_neg hk, if_neg (by intro e; rcases List.take_eq_nil_iff.1 e with h1 | h1; exact hk h1; subst h1; simp at h)]; simp
theorem preS_end (ts : List Tr) : preS ts ts.length ++ [41] = (Tr.list ts).text := by
  unfold preS
  rw [List.take_length]; simp [Tr.text]
theorem preS_length (ts : List Tr) (k : Nat) (hw : wfs ts) : (preS ts k).length ≤ bytess ts + 1 := by
  unfold preS
  by_cases h : ts.take k = []
  · rw [h]; simp [texts]
  · have h1 := texts_length (ts.take k) (wfs_takeS hw k) h
    have h2 := bytess_take_le ts k
    simp only [List.length_cons]; omega
end Go.Proofs.Ytpaaglamcmfdjaa
namespace Go.Proofs.Ytpaaglamcmfdjaa
open Go.RowKit
set_option linter.unusedSimpArgs false
set_option linter.unusedVariables false
theorem Try.infoStr : (Try.prog.info? 9).map (fun i => (i.zero, i.size, i.bytes)) = some (some (.string ⟨#[]⟩), 1, 16) := by kernel_rfl
/-- The texts of the parts of a form that is no atom. -/
def partsOf (l : List UInt8) : Option (List (List UInt8)) :=
  match parse l with
  | some (.list ts) => some (ts.map Tr.text)
  | _ => none
/-- A slice of texts of the call's own, and whether there is one. -/
def PartsPost (B : Nat) (r : Option (List (List UInt8))) (e : Ending) (w' : World) : Prop :=
  ∃ v, e = .returned (.tuple #[v, .bool r.isSome]) ∧ w'.ownsRow B 9 1 v (r.getD []).length ((r.getD []).map strV)
theorem parts_take (ts : List Tr) (k : Nat) (h : k < ts.length) : ((ts.take (k + 1)).map (fun t => strV t.text)) = (ts.take k).map (fun t => strV t.text) ++ [.string (bs ts[k].text)] := by
  rw [take_snoc' _ _ h, List.map_append]; rfl
theorem owns_base {w : World} {base B : Nat} {e : TypeId} {size : Nat} {v : Value} {n : Nat} {xs : List Value} (h : w.ownsRow base e size v n xs) (hB : B ≤ base) : w.ownsRow B e size v n xs := by
  refine ⟨h.1, ?_⟩
  rcases h.2 with h2 | ⟨g, cap, cur, hv, hb, hr⟩
  · exact .inl h2
  · exact .inr ⟨g, cap, cur, hv, by omega, hr⟩
theorem made_none {w w1 : World} {o : Obj} (hb1 : Below w.heap.size w w1) : ((w1.alloc o).alloc (.cells #[] 9)).ownsRow w.heap.size 9 1 (.slice (some ⟨w1.heap.size + 1, 0, none⟩) 0 0) 0 [] := by
  have := World.ownsRow_made (w1.alloc o) #[] 0 (base := w.heap.size) (e := 9) (size := 1) (by have := hb1.size; simp; omega) (by decide) rfl
  simpa using this
end Go.Proofs.Ytpaaglamcmfdjaa
namespace Go.Proofs.Ytpaaglamcmfdjaa
open Go.RowKit
set_option linter.unusedSimpArgs false
set_option linter.unusedVariables false
/-- What adding atoms hands back. -/
def AtPost (B N : Nat) (v : Value) (l' : List (List UInt8)) (w : World) (e : Ending) (w' : World) : Prop :=
  ∃ v', e = .returned v' ∧ w'.ownsRow B 9 1 v' l'.length (l'.map strV) ∧ w.grownBy w' v.ownBlock ∧ (v'.ownBlock = v.ownBlock ∨ ∀ q, v'.ownBlock = some q → N ≤ q)
theorem owns_strS6 {w : World} {B : Nat} {v : Value} {l : List (List UInt8)} (h : w.ownsRow B 9 1 v l.length (l.map strV)) (hl : l.length ≤ 9223372036854775807) : StrS w v l := by
  rcases h.2 with ⟨rfl, h0⟩ | ⟨g, cap, cur, rfl, hb, hg, h1, h2, h3, h4⟩
  · exact ⟨none, 0, by rw [h0], hl, fun hne => absurd (List.eq_nil_of_length_eq_zero h0) hne⟩
  · exact ⟨_, cap, rfl, hl, fun _ => ⟨g, 0, rfl, owns_row h⟩⟩
theorem gB_alloc {w : World} (o : Obj) (row : Option Nat) : w.grownBy (w.alloc o) row := World.grownBy_alloc w o row
theorem gB_trans6 {a b c : World} {row : Option Nat} (h : a.grownBy b row) (k : b.grownBy c row) : a.grownBy c row :=
  ⟨k.os.trans h.os, k.tape.trans h.tape, k.output.trans h.output, Nat.le_trans h.size k.size, fun i hi hne => (k.block i (Nat.lt_of_lt_of_le hi h.size) hne).trans (h.block i hi hne)⟩
/-- .. where the row's block may be a new one by now. -/
theorem gB_next {a b c : World} {v v' : Value} (h : a.grownBy b v.ownBlock) (hv : v'.ownBlock = v.ownBlock ∨ ∀ q, v'.ownBlock = some q → a.heap.size ≤ q) (k : b.grownBy c v'.ownBlock) : a.grownBy c v.ownBlock :=
  ⟨k.os.trans h.os, k.tape.trans h.tape, k.output.trans h.output, Nat.le_trans h.size k.size, fun i hi hne => (k.block i (Nat.lt_of_lt_of_le hi h.size) (by
    rcases hv with hv | hv
    · rw [hv]; exact hne
    · intro e; have := hv i e.symm; omega)).trans (h.block i hi hne)⟩
theorem addA_yes {l : List (List UInt8)} {a : List UInt8} (h : a ∈ l) : addA l a = l := by rw [addA, if_pos h]
theorem addA_no {l : List (List UInt8)} {a : List UInt8} (h : a ∉ l) : addA l a = l ++ [a] := by rw [addA, if_neg h]
end Go.Proofs.Ytpaaglamcmfdjaa
