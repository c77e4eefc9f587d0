/- The reference model: the free names of a text, and whether it is closed. -/
import Derived.Test.YtfknoigbkleanaaGreatDoorS2f
import Derived.Test.YtfknoigbkleanaaGreatDoorI2p
namespace Go.Proofs.YtfknoigbkleanaaGreatDoor
open Go.RowKit
set_option maxRecDepth 8000
set_option linter.unusedSimpArgs false
set_option linter.unusedVariables false
set_option maxHeartbeats 1000000 in
theorem specExprFree_c (s : ByteArray) (hs : s.size ≤ 1048576) (w : World) :
    Calls Tryz.prog 108 #[.string s] w fun e w' => PartsPost w.heap.size (freeE s.data.toList) e w' ∧ Below w.heap.size w w' := by
  cases hp : parseE s.data.toList with
  | none =>
    have C := Lib.hid (l2Parse_none hs hp)
    have HR := Lib.hid (freeE_none (readEx_none2 hp))
    clear hp
    go_enter Tryz.func108, Tryz.ntmps108
    go_wp2_with (go_at_call 49; go_must (refine (C.out _).mono ?_; rintro e w1 ⟨⟨a, p, m, c, rfl, hnl⟩, hb1⟩))
    go_ret2
    exact ⟨by rw [HR.out]; exact ⟨_, rfl, made_none hb1⟩, (hb1.alloc hb1.size _).alloc (by have := hb1.size; simp; omega) _⟩
  | some t =>
    have C := Lib.hid (l2Parse_some hs hp)
    obtain ⟨x, hx1, hx2⟩ := readEx_asEx' hp
    have hg := parse_got (parseE_got hp).1
    have hst := (size_le t hg.1).1
    have HR := Lib.hid (freeE_some hx1)
    have CR : Hid (∀ (w1 : World) (B0 : Nat) p m c, FV nS w1 (fun k => B0 ≤ k ∧ k < w1.heap.size) t (nS t (.slice p m c)) → Calls Tryz.prog 156 #[.agg #[.string (bs (atomOf t)), .slice p m c], .slice (some ⟨w1.heap.size + 1, 0, none⟩) 0 0, .slice (some ⟨w1.heap.size + 1 + 1, 0, none⟩) 0 0] (((w1.alloc (.cells #[.string (bs (atomOf t)), .slice p m c] 62)).alloc (.cells #[] 9)).alloc (.cells #[] 9)) fun e w' => AtPost w1.heap.size (w1.heap.size + 3) (.slice (some ⟨w1.heap.size + 1 + 1, 0, none⟩) 0 0) ((freeP x).foldl addA []) (((w1.alloc (.cells #[.string (bs (atomOf t)), .slice p m c] 62)).alloc (.cells #[] 9)).alloc (.cells #[] 9)) e w') := Lib.hid (fun w1 B0 p m c hv => by
      obtain ⟨W, hW⟩ : ∃ W, W = (((w1.alloc (.cells #[.string (bs (atomOf t)), .slice p m c] 62)).alloc (.cells #[] 9)).alloc (.cells #[] 9)) := ⟨_, rfl⟩
      have hbW : Below w1.heap.size w1 W := by rw [hW]; exact below3 _ _ _ _
      have hsW : W.heap.size = w1.heap.size + 3 := by rw [hW]; simp
      have hq1 : W.heap[w1.heap.size + 1]? = some (.cells #[] 9 (0, 0)) := by rw [hW]; exact blk_alloc (heap_alloc_new2 _ _ _)
      have hq2 : W.heap[w1.heap.size + 1 + 1]? = some (.cells #[] 9 (0, 0)) := by rw [hW]; have := heap_alloc_new2 (w1.alloc (.cells #[.string (bs (atomOf t)), .slice p m c] 62)) (.cells #[] 9) (.cells #[] 9); simpa using this
      rw [← hW]
      have h := l2Free_all (t.depth + 1) t x (nS t (.slice p m c)) w1.heap.size [] [] (.slice (some ⟨w1.heap.size + 1 + 1, 0, none⟩) 0 0) (.slice (some ⟨w1.heap.size + 1, 0, none⟩) 0 0) W (by omega) hg.1 (by have := hg.2; omega) (by have := hg.2; simp; omega) (by have := hg.2; simp; omega) hx2 ((FV.move (fun k hk => hk.2) (fun k hk => hbW.block k hk.2) _ _ hv)) (by omega) (owns_empty hq2 (by omega)) ⟨_, 0, rfl, by simp, fun hne => absurd rfl hne⟩ (fun k hk => by simp [Value.ownBlock] at hk; subst hk; exact ⟨by simp [Value.ownBlock], by omega⟩)
      rw [hsW] at h
      have e : addF [] [] (freeP x) = (freeP x).foldl addA [] := by rw [addF, rm_nil]
      rw [e] at h
      exact h)
    clear hp hx1 hx2 hst
    go_enter Tryz.func108, Tryz.ntmps108
    go_wp2_with (first | (go_at_call 49; go_must (refine (C.out _).mono ?_; rintro e w1 ⟨⟨p, m, c, rfl, hv⟩, hb1⟩)) | (go_at_call 156; go_must (refine (CR.out w1 _ p m c hv).mono ?_; rintro e w2 ⟨v2, rfl, ho2, hg2, hv2⟩)))
    go_ret2
    exact ⟨by rw [HR.out]; exact ⟨_, rfl, owns_base ho2 hb1.size⟩, below_grown2 hb1 (below3 _ _ _ _) hg2 (fun k hk => by simp [Value.ownBlock] at hk; have := hb1.size; omega)⟩
theorem closed_eq (l : List UInt8) : ((freeE l).isSome && decide (((freeE l).getD []).length = 0)) = (readCl l).isSome := by
  cases h : readEx l with
  | none => simp [freeE, readCl, h]
  | some x =>
    rw [freeE_some h]
    by_cases hf : freeP x = []
    · rw [readCl_some h hf, hf]; rfl
    · rw [readCl_no h hf]
      have : (freeP x).foldl addA [] ≠ [] := fun e => hf ((foldA_nil _).1 e)
      simp [this]
set_option maxHeartbeats 400000 in
theorem specExprClosed_c (s : ByteArray) (hs : s.size ≤ 1048576) (w : World) :
    Calls Tryz.prog 59 #[.string s] w fun e w' => e = .returned (.bool (readCl s.data.toList).isSome) ∧ Below w.heap.size w w' := by
  have C : Hid (∀ W, Calls Tryz.prog 108 #[.string s] W fun e w' => (∃ p n c, e = .returned (.tuple #[.slice p n c, .bool (freeE s.data.toList).isSome]) ∧ n = ((freeE s.data.toList).getD []).length) ∧ Below W.heap.size W w') := Lib.hid (fun W => (specExprFree_c s hs W).mono fun e w' ⟨⟨v, h1, h2⟩, h3⟩ => by
    obtain ⟨p, c, rfl⟩ := owns_slice h2
    exact ⟨⟨p, _, c, h1, rfl⟩, h3⟩)
  have HE := Lib.hid (closed_eq s.data.toList)
  have hn : ((freeE s.data.toList).getD []).length ≤ 120 := freeE_len
  generalize ((freeE s.data.toList).getD []).length = N at *
  generalize (freeE s.data.toList).isSome = z at *
  cases z with
  | false =>
    go_enter Tryz.func59, Tryz.ntmps59
    go_wp2_with (go_at_call 108; go_must (refine (C.out _).mono ?_; rintro e w1 ⟨⟨p, n, c, rfl, rfl⟩, hb1⟩))
    go_ret
    exact ⟨ret_bool (by rw [← HE.out]; rfl), hb1⟩
  | true =>
    by_cases h0 : N = 0
    · subst h0
      go_enter Tryz.func59, Tryz.ntmps59
      go_wp2_with (go_at_call 108; go_must (refine (C.out _).mono ?_; rintro e w1 ⟨⟨p, n, c, rfl, rfl⟩, hb1⟩))
      go_ret
      exact ⟨ret_bool (by rw [← HE.out]; rfl), hb1⟩
    · have hz : ((N : Int) == 0) = false := by simp; omega
      have hz2 : ¬ (N : Int) = 0 := by omega
      go_enter Tryz.func59, Tryz.ntmps59
      go_wp2_with (go_at_call 108; go_must (refine (C.out _).mono ?_; rintro e w1 ⟨⟨p, n, c, rfl, rfl⟩, hb1⟩))
      go_ret
      exact ⟨ret_bool (by rw [← HE.out]; simp [h0]), hb1⟩
end Go.Proofs.YtfknoigbkleanaaGreatDoor
