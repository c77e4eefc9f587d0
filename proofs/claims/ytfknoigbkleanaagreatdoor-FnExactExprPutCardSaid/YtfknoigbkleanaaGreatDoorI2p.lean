/- The program: closed expressions, counting, free names. The program: free names of a text. -/
import Derived.Test.YtfknoigbkleanaaGreatDoorI2n
import Derived.Test.YtfknoigbkleanaaGreatDoorS2f
import Derived.Test.YtfknoigbkleanaaGreatDoorShelf
namespace Go.Proofs.YtfknoigbkleanaaGreatDoor
open Go.RowKit
set_option maxRecDepth 8000
set_option linter.unusedSimpArgs false
set_option linter.unusedVariables false
def sumL : List Ex → Nat
  | [] => 0
  | k :: ks => lvs k + sumL ks
theorem sumL_snoc (e : Ex) : ∀ ks : List Ex, sumL (ks ++ [e]) = sumL ks + lvs e
  | [] => by simp [sumL]
  | k :: ks => by simp only [List.cons_append, sumL, sumL_snoc e ks]; omega
theorem lvs_kids : ∀ x : Ex, lvs x ≤ max 1 (sumL (kidsE x))
  | .name _ => by simp [lvs, kidsE, sumL]
  | .num _ => by simp [lvs, kidsE, sumL]
  | .two _ a b => by simp only [lvs, kidsE, sumL]; omega
  | .one _ a => by simp only [lvs, kidsE, sumL]; omega
  | .cond a b c => by simp only [lvs, kidsE, sumL]; omega
  | .lete x e b => by simp only [lvs, kidsE, sumL]; omega
  | .func f x _ _ e => by simp only [lvs, kidsE, sumL]; omega
theorem lvs_le : ∀ (n : Nat) (t : Tr) (x : Ex), t.depth < n → t.wf → asEx t = some x → lvs x ≤ t.size
  | 0, t, x, h, _, _ => by omega
  | n + 1, .atom a, x, _, _, h => by
    simp only [asEx, atomEx] at h
    simp only [Tr.size]
    split at h
    · simp only [Option.some.injEq] at h; subst h; simp [lvs]
    · split at h
      · simp only [Option.some.injEq] at h; subst h; simp [lvs]
      · cases h
  | n + 1, .list [], x, _, hw, h => by simp [Tr.wf] at hw
  | n + 1, .list (h :: ps), x, hd, hw, e => by
    obtain ⟨a, V⟩ := kidView e
    have hsp := size_pos (.list (h :: ps)) hw
    simp only [Tr.wf] at hw
    have hstep : ∀ j, j ≤ (kidsE x).length → sumL ((kidsE x).take j) ≤ sizes ((h :: ps).take (a + j)) := by
      intro j
      induction j with
      | zero => intro _; simp [sumL]
      | succ j ih =>
        intro hj
        have hj' : j < (kidsE x).length := by omega
        have hb := kids_bound V hj'
        have h1 := ih (by omega)
        have h2 := V.kid j hj' hb
        have h3 := lvs_le n _ _ (by have := depth_lt hb; omega) (wf_get hw.2 hb) h2
        have h5 := sizes_take (h :: ps) (a + j) hb
        rw [List.take_succ_eq_append_getElem hj', sumL_snoc, show a + (j + 1) = a + j + 1 by omega, h5]
        omega
    have h1 := hstep _ (Nat.le_refl _)
    rw [List.take_length] at h1
    have h2 := sizes_take_le (h :: ps) (a + (kidsE x).length)
    have h3 := lvs_kids x
    simp only [Tr.size] at hsp ⊢
    omega
theorem readEx_lvs {l : List UInt8} {x : Ex} (h : readEx l = some x) : lvs x ≤ 120 := by
  cases hp : parse l with
  | none => rw [readEx_none hp] at h; cases h
  | some t =>
    rw [readEx_some hp] at h
    split at h
    · rename_i hs
      have := lvs_le (t.depth + 1) t x (by omega) (parse_got hp).1 h
      omega
    · cases h
/-- The closed expression that is a text. -/
def readCl (l : List UInt8) : Option Ex := (readEx l).filter (fun x => (freeP x).isEmpty)
theorem readCl_none {l : List UInt8} (h : readEx l = none) : readCl l = none := by simp [readCl, h]
theorem readCl_no {l : List UInt8} {x : Ex} (h : readEx l = some x) (hf : freeP x ≠ []) : readCl l = none := by simp [readCl, h, Option.filter, hf]
theorem readCl_some {l : List UInt8} {x : Ex} (h : readEx l = some x) (hf : freeP x = []) : readCl l = some x := by simp [readCl, h, Option.filter, hf]
set_option maxHeartbeats 1000000 in
theorem readClosed_c (s : ByteArray) (hs : s.size ≤ 1048576) (w : World) :
    Calls Tryz.prog 58 #[.string s] w fun e w' => RdPost w.heap.size (readCl s.data.toList) e w' ∧ Below w.heap.size w w' := by
  cases hp : readEx s.data.toList with
  | none =>
    have C := Lib.hid (readExpr_none hs hp)
    have HR := Lib.hid (readCl_none hp)
    clear hp
    go_enter Tryz.func58, Tryz.ntmps58
    go_wp2_with (go_at_call 46; go_must (refine (C.out _).mono ?_; rintro e w1 ⟨⟨v, rfl⟩, hb1⟩))
    go_ret2
    exact ⟨by rw [HR.out]; exact .inl rfl, hb1⟩
  | some x =>
    have C := Lib.hid (readExpr_some hs hp)
    have hl := readEx_lvs hp
    have CF : Hid (∀ (w1 : World) (B : Nat) (v : Value), EV w1 (fun k => B ≤ k ∧ k < w1.heap.size) x v → Calls Tryz.prog 102 #[v] w1 (FpPost w1 (freeP x))) := Lib.hid (fun w1 B v hv => fp_all x v _ w1 (by omega) hv (fun k hk => hk.2))
    have hlen := freeP_lvs x
    by_cases hf : freeP x = []
    · have HR := Lib.hid (readCl_some hp hf)
      rw [hf] at CF
      clear hp hf
      go_enter Tryz.func58, Tryz.ntmps58
      go_wp2_with (first | (go_at_call 46; go_must (refine (C.out _).mono ?_; rintro e w1 ⟨⟨v, rfl, hv⟩, hb1⟩; obtain ⟨T, u, rfl⟩ := hv.iface)) | (go_at_call 102; go_must (refine (CF.out _ _ _ hv).mono ?_; rintro e w2 ⟨⟨v2, rfl, ho2⟩, hb2⟩; obtain ⟨p2, c2, rfl⟩ := owns_slice ho2; simp only [List.length_nil] at ho2)))
      go_ret2
      exact ⟨by rw [HR.out]; exact ⟨_, rfl, EV.move (fun k hk => ⟨hk.1, Nat.lt_of_lt_of_le hk.2 hb2.size⟩) (fun k hk => hb2.block k hk.2) _ _ hv⟩, hb1.trans (hb2.mono hb1.size)⟩
    · have HR := Lib.hid (readCl_no hp hf)
      have hpos : 0 < (freeP x).length := List.length_pos_iff.2 hf
      generalize freeP x = P at *
      clear hp hf
      go_enter Tryz.func58, Tryz.ntmps58
      go_wp2_with (first | (go_at_call 46; go_must (refine (C.out _).mono ?_; rintro e w1 ⟨⟨v, rfl, hv⟩, hb1⟩; obtain ⟨T, u, rfl⟩ := hv.iface)) | (go_at_call 102; go_must (refine (CF.out _ _ _ hv).mono ?_; rintro e w2 ⟨⟨v2, rfl, ho2⟩, hb2⟩; obtain ⟨p2, c2, rfl⟩ := owns_slice ho2)))
      go_ret2
      exact ⟨by rw [HR.out]; exact .inl rfl, hb1.trans (hb2.mono hb1.size)⟩
set_option maxHeartbeats 400000 in
theorem implExprClosed_c (s : ByteArray) (hs : s.size ≤ 1048576) (w : World) :
    Calls Tryz.prog 21 #[.string s] w fun e w' => e = .returned (.bool (readCl s.data.toList).isSome) ∧ Below w.heap.size w w' := by
  go_enter Tryz.func21, Tryz.ntmps21
  go_wp2_with (go_at_call 58; go_must (refine (readClosed_c s hs _).mono ?_; rintro e w1 ⟨hp, hb1⟩; obtain ⟨x, rfl⟩ := rdPost_shape hp; clear hp))
  go_ret
  exact ⟨rfl, hb1⟩
end Go.Proofs.YtfknoigbkleanaaGreatDoor
namespace Go.Proofs.YtfknoigbkleanaaGreatDoor
open Go.RowKit
set_option maxRecDepth 8000
set_option linter.unusedSimpArgs false
set_option linter.unusedVariables false
theorem clone_c (s : ByteArray) (hs : s.size ≤ 281474976710656) (w : World) : Calls Tryz.prog 53 #[.string s] w fun e w' => e = .returned (.string s) ∧ Below w.heap.size w w' := by
  have C := Lib.hid (fun W => Tryz.stringslite_Clone s W hs)
  go_enter Tryz.func53, Tryz.ntmps53
  go_wp2_with (go_at_call 104; go_must (refine (C.out _).mono ?_; rintro e w1 ⟨rfl, hb1⟩))
  go_ret
  exact ⟨rfl, hb1⟩
/-- The free names of the expression that is a text. -/
def freeE (l : List UInt8) : Option (List Nm) := (readEx l).map (fun x => (freeP x).foldl addA [])
theorem freeE_none {l : List UInt8} (h : readEx l = none) : freeE l = none := by simp [freeE, h]
theorem freeE_some {l : List UInt8} {x : Ex} (h : readEx l = some x) : freeE l = some ((freeP x).foldl addA []) := by simp [freeE, h]
theorem freeE_len {l : List UInt8} : ((freeE l).getD []).length ≤ 120 := by
  cases h : readEx l with
  | none => simp [freeE, h]
  | some x =>
    have h1 := readEx_lvs h
    have h2 := freeP_lvs x
    have h3 := (foldA_len (freeP x) []).2
    simp only [freeE_some h, Option.getD_some, List.length_nil] at h3 ⊢
    omega
/-- Names are short. -/
theorem freeP_short : ∀ (n : Nat) (t : Tr) (x : Ex), t.depth < n → t.wf → asEx t = some x → ∀ a ∈ freeP x, a.length ≤ 4
  | 0, t, x, h, _, _ => by omega
  | n + 1, .atom a, x, _, _, h => by
    simp only [asEx, atomEx] at h
    split at h
    · simp only [Option.some.injEq] at h; subst h; simp [freeP]
    · split at h
      · rename_i hm
        simp only [Option.some.injEq] at h; subst h
        intro b hb
        simp only [freeP, List.mem_singleton] at hb
        subst hb
        cases b with
        | nil => simp
        | cons c r => simp only [isNm, Bool.and_eq_true, decide_eq_true_eq] at hm; simp only [List.length_cons]; omega
      · cases h
  | n + 1, .list [], x, _, hw, h => by simp [Tr.wf] at hw
  | n + 1, .list (h :: ps), x, hd, hw, e => by
    obtain ⟨a, V⟩ := kidView e
    rw [freeP_kids x V.nn]
    simp only [Tr.wf] at hw
    have hstep : ∀ j, j ≤ (kidsE x).length → ∀ b ∈ freeKs (bindE x) 0 ((kidsE x).take j), b.length ≤ 4 := by
      intro j
      induction j with
      | zero => intro _; simp [freeKs]
      | succ j ih =>
        intro hj b hb
        have hj' : j < (kidsE x).length := by omega
        have hbd := kids_bound V hj'
        have h2 := V.kid j hj' hbd
        have h3 := freeP_short n _ _ (by have := depth_lt hbd; omega) (wf_get hw.2 hbd) h2
        rw [freeKs_take _ _ _ hj', List.mem_append] at hb
        rcases hb with hb | hb
        · exact ih (by omega) b hb
        · exact h3 b (List.mem_filter.1 hb).1
    have h1 := hstep _ (Nat.le_refl _)
    rw [List.take_length] at h1
    exact h1
theorem foldA_mem (P : List Nm) : ∀ l : List Nm, ∀ a ∈ P.foldl addA l, a ∈ l ∨ a ∈ P := by
  induction P with
  | nil => intro l a h; exact .inl h
  | cons b P ih =>
    intro l a h
    rcases ih (addA l b) a h with h | h
    · unfold addA at h
      split at h
      · exact .inl h
      · rcases List.mem_append.1 h with h | h
        · exact .inl h
        · exact .inr (by simp at h; simp [h])
    · exact .inr (List.mem_cons_of_mem _ h)
theorem readEx_short {l : List UInt8} {x : Ex} (h : readEx l = some x) : ∀ a ∈ (freeP x).foldl addA [], a.length ≤ 4 := by
  cases hp : parse l with
  | none => rw [readEx_none hp] at h; cases h
  | some t =>
    rw [readEx_some hp] at h
    split at h
    · intro a ha
      rcases foldA_mem _ _ a ha with h1 | h1
      · cases h1
      · exact freeP_short (t.depth + 1) t x (by omega) (parse_got hp).1 h a h1
    · cases h
theorem set_self (l : List Nm) (j : Nat) (h : j < l.length) : (l.map strV).set j (strV l[j]) = l.map strV := by
  apply List.ext_getElem?
  intro i
  by_cases hi : i = j
  · subst hi; simp [h]
  · rw [List.getElem?_set_ne (fun e => hi e.symm)]
set_option maxHeartbeats 1000000 in
theorem implExprFree_c (s : ByteArray) (hs : s.size ≤ 1048576) (w : World) :
    Calls Tryz.prog 13 #[.string s] w fun e w' => PartsPost w.heap.size (freeE s.data.toList) e w' ∧ Below w.heap.size w w' := by
  cases hp : readEx s.data.toList with
  | none =>
    have C := Lib.hid (readExpr_none hs hp)
    have HR := Lib.hid (freeE_none hp)
    clear hp
    go_enter Tryz.func13, Tryz.ntmps13
    go_wp2_with (go_at_call 46; go_must (refine (C.out _).mono ?_; rintro e w1 ⟨⟨v, rfl⟩, hb1⟩))
    go_ret2
    exact ⟨by rw [HR.out]; exact ⟨_, rfl, World.ownsRow_nil _ _ _ _⟩, hb1⟩
  | some x =>
    have C := Lib.hid (readExpr_some hs hp)
    have hl := readEx_lvs hp
    have HR := Lib.hid (freeE_some hp)
    have HSh := Lib.hid (readEx_short hp)
    have hlen : ((freeP x).foldl addA []).length ≤ 120 := by have := freeE_len (l := s.data.toList); rw [HR.out] at this; exact this
    have CF : Hid (∀ (w1 : World) (B : Nat) (v : Value), EV w1 (fun k => B ≤ k ∧ k < w1.heap.size) x v → Calls Tryz.prog 52 #[v] w1 (FpPost w1 ((freeP x).foldl addA []))) := Lib.hid (fun w1 B v hv => freeNames_c x v _ w1 (by omega) hv (fun k hk => hk.2))
    generalize (freeP x).foldl addA [] = l at *
    clear hp
    go_enter Tryz.func13, Tryz.ntmps13
    go_wp2_with (first | (go_at_call 46; go_must (refine (C.out _).mono ?_; rintro e w1 ⟨⟨v, rfl, hv⟩, hb1⟩; obtain ⟨T, u, rfl⟩ := hv.iface)) | (go_at_call 52; go_must (refine (CF.out _ _ _ hv).mono ?_; rintro e w2 ⟨⟨v2, rfl, ho2⟩, hb2⟩; obtain ⟨p2, c2, rfl⟩ := owns_slice ho2)))
    have HO := Lib.hid ho2
    have hb12 := hb1.trans (hb2.mono hb1.size)
    have hz12 := hb1.size
    clear ho2
    go_loopw [20] (fun i wr => ∃ j : Nat, j ≤ l.length ∧ i = .int .i64 j ∧ Hid (wr.ownsRow w1.heap.size 9 1 (.slice p2 l.length c2) l.length (l.map strV)) ∧ Below w1.heap.size w1 wr) (fun i _ => l.length - (intOf i).toNat)
    case atStart => exact ⟨0, Nat.zero_le _, rfl, HO, hb2⟩
    case round =>
      obtain ⟨j, hj, rfl, hO, hb⟩ := hrel
      by_cases hlt : j < l.length
      · obtain ⟨g, hg⟩ : ∃ g, p2 = some ⟨g, 0, none⟩ := by
          rcases hO.out.2 with ⟨h0, h00⟩ | ⟨g, cap, cur, h0, _⟩
          · omega
          · simp only [Value.slice.injEq] at h0; exact ⟨g, h0.1⟩
        subst hg
        have hrow := owns_row hO.out
        have c0 : wr.cell? ⟨g, j, none⟩ = some (.string (bs l[j])) := by have := StrS.cell hrow hlt; simpa using this
        have hsh := HSh.out l[j] (List.getElem_mem hlt)
        have CC := Lib.hid (clone_c (bs l[j]) (by rw [bs_size]; omega) wr)
        have HSet := Lib.hid (set_self l j hlt)
        have hbg := (own_lt hO.out (k := g) rfl)
        have hj0 : (0 : Int) ≤ (j : Int) := by omega
        have HX : Hid (∀ w3, Below wr.heap.size wr w3 → (w3.setCell ⟨g, j, none⟩ (.string (bs l[j]))).ownsRow w1.heap.size 9 1 (.slice (some ⟨g, 0, none⟩) l.length c2) l.length (l.map strV) ∧ Below w1.heap.size w1 (w3.setCell ⟨g, j, none⟩ (.string (bs l[j]))) ∧ w3.frozen? ⟨g, j, none⟩ = false ∧ w3.cell? ⟨g, j, none⟩ = some (.string (bs l[j]))) := Lib.hid (fun w3 h3 => by
          have h4 := owns_below hO.out h3
          have h5 := h4.stored j (strV l[j])
          rw [HSet.out] at h5
          refine ⟨h5.1, (hb.trans (h3.mono hb.size)).setCell hbg.1 _, ?_, ?_⟩
          · rcases h4.2 with ⟨h0, _⟩ | ⟨g', cap, cur, h0, _, hgg, _⟩
            · cases h0
            · simp only [Value.slice.injEq, Option.some.injEq, Addr.mk.injEq] at h0
              obtain ⟨⟨rfl, _⟩, _⟩ := h0
              exact free_of hgg
          · have := StrS.cell (owns_row h4) hlt; simpa using this)
        clear hrow hsh HSet HSh
        generalize l[j] = a at *
        go_wp2_with (go_at_call 53; go_must (refine (CC.out).mono ?_; rintro e w3 ⟨rfl, hb3⟩; obtain ⟨x1, x2, x3, x4⟩ := HX.out _ hb3; have X1 := Lib.hid x1; clear x1))
        go_roundw
        case rel => exact ⟨j + 1, by omega, by go_num, X1, x2⟩
        case measure => simp [intOf]; omega
      · have : j = l.length := by omega
        subst this
        go_wp2_with fail
        go_ret2
        exact ⟨by rw [HR.out]; exact ⟨_, rfl, owns_base hO.out hb1.size⟩, hb1.trans (hb.mono hb1.size)⟩
end Go.Proofs.YtfknoigbkleanaaGreatDoor
