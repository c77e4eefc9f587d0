/- The reference model reads a whole text. The reference model's measures and types. The reference model's types. -/
import Derived.Test.YtohhkgamkahebaaDoorSpec1a
import Derived.Test.YtohhkgamkahebaaDoorB1
namespace Go.Proofs.YtohhkgamkahebaaDoor
open Go.RowKit
set_option maxRecDepth 8000
set_option linter.unusedSimpArgs false
set_option linter.unusedVariables false
/-- What reading a whole text hands back. -/
def ParsePost (B : Nat) (res : Option Tr) (e : Ending) (w' : World) : Prop :=
  match res with
  | none => ∃ a p n c, e = .returned (.tuple #[.agg #[.string a, .slice p n c], .bool false]) ∧ n ≤ maxLen
  | some t => ∃ p n c, e = .returned (.tuple #[.agg (nS t (.slice p n c)).toArray, .bool true]) ∧ FV nS w' (fun k => B ≤ k ∧ k < w'.heap.size) t (nS t (.slice p n c))
theorem parse_none_longS {l : List UInt8} (h : 12000 < l.length) : parse l = none := by simp [parse, h]
theorem parse_readS {l : List UInt8} (h : ¬ 12000 < l.length) : parse l = (match read 61 l with | some (t, []) => some t | _ => none) := by unfold parse; rw [if_neg h]; rfl
set_option maxHeartbeats 1000000 in
theorem l1Parse_c (s : ByteArray) (hs : s.size ≤ 1048576) (w : World) :
    Calls Tryd.prog 9 #[.string s] w fun e w' => ParsePost w.heap.size (parse s.data.toList) e w' ∧ Below w.heap.size w w' := by
  by_cases hlong : 12000 < s.size
  · have HP := Lib.hid (parse_none_longS (l := s.data.toList) (by simpa using hlong))
    have hd : decide (12000 < (s.size : Int)) = true := by simp; omega
    go_enter Tryd.func9, Tryd.ntmps9
    go_wp2_with fail
    exact bodyPost_ret (v := .tuple #[.agg #[.string ⟨#[]⟩, .slice none 0 0], .bool false]) (by simp [results, Tryd.results9, go_sem]) rfl ⟨by rw [HP.out]; exact ⟨_, _, _, _, rfl, Nat.zero_le _⟩, below1 _ _⟩
  · have hp := parse_readS (l := s.data.toList) (by simpa using hlong)
    have hs2 : s.size ≤ 12000 := by omega
    have HF := Lib.hid (fun w => l1Read_c s hs 61 0 0 w (by omega) (by omega))
    cases hres : read 61 s.data.toList with
    | none =>
      rw [hres] at hp
      have HP := Lib.hid hp
      have HC : Hid (∀ w, Calls Tryd.prog 13 #[.string s, .int .i64 0, .int .i64 0] w fun e w' => (∃ a p n c, e = .returned (.tuple #[.agg #[.string a, .slice p n c], .int .i64 (-1)]) ∧ n ≤ maxLen) ∧ Below w.heap.size w w') :=
        Lib.hid (fun w => (HF.out w).mono fun e w' ⟨h1, h2⟩ => ⟨by rw [List.drop_zero, hres] at h1; exact h1, h2⟩)
      clear hp hres HF
      have hd : ((-1 : Int) == (s.size : Int)) = false := by simp only [beq_eq_false_iff_ne, ne_eq]; omega
      go_enter Tryd.func9, Tryd.ntmps9
      go_wp2_with (go_at_call 13; go_must (refine (HC.out _).mono ?_; rintro e w1 ⟨⟨a, p, n, c, rfl, hn⟩, hb1⟩; have y0 := below_blk hb1 (by simp) (heap_alloc_new _ _); have z0 := cell_of (j := 0) y0; have z1 := cell_of (j := 1) y0; have f0 := free_of (j := 0) y0; have f1 := free_of (j := 1) y0; have hs1 := hb1.size; have hs4 : w.heap.size < w1.heap.size := (by simp at hs1; omega)))
      refine bodyPost_ret (v := .tuple #[.agg #[.string a, .slice p n c], .bool false]) (by simp [results, Tryd.results9, go_sem, z0, z1, hs4]) rfl ⟨by rw [HP.out]; exact ⟨_, _, _, _, rfl, hn⟩, ?_⟩
      exact ((((below1 w _).trans (hb1.mono (by simp))).setCell (by simp) _).setCell (by simp) _).alloc (by simp; omega) _
    | some tr =>
      obtain ⟨t, r⟩ := tr
      rw [hres] at hp
      have hgot := (read_got _ _ _ _ hres).length
      rw [size_data] at hgot
      have hwf := (read_got _ _ _ _ hres).wf
      obtain ⟨e', he'⟩ : ∃ e', s.size - r.length = e' := ⟨_, rfl⟩
      have hee : e' ≤ s.size := by omega
      have HC : Hid (∀ w, Calls Tryd.prog 13 #[.string s, .int .i64 0, .int .i64 0] w fun e w' => ∃ p n c, e = .returned (.tuple #[.agg #[.string (bs (atomOf t)), .slice p n c], .int .i64 (e' : Int)]) ∧ FV nS w' (fun k => w.heap.size ≤ k ∧ k < w'.heap.size) t (nS t (.slice p n c)) ∧ Below w.heap.size w w') :=
        Lib.hid (fun w => (HF.out w).mono fun e w' ⟨h1, h2⟩ => by
          rw [List.drop_zero, hres] at h1
          obtain ⟨cs, rfl, hv⟩ := h1
          obtain ⟨p, n, c, rfl⟩ := hv.node
          exact ⟨p, n, c, by rw [he']; rfl, hv, h2⟩)
      by_cases hend : e' = s.size
      · have hr0 : r = [] := by have h2 := (size_le _ hwf).2; have h3 := (size_le _ hwf).1; exact List.eq_nil_of_length_eq_zero (by omega)
        rw [hr0] at hp
        have HP := Lib.hid hp
        have hd : ((e' : Int) == (s.size : Int)) = true := by simp; omega
        clear hp hres HF he' hgot hwf hr0
        go_enter Tryd.func9, Tryd.ntmps9
        go_wp2_with (go_at_call 13; go_must (refine (HC.out _).mono ?_; rintro e w1 ⟨p, n, c, rfl, hv, hb1⟩; have y0 := below_blk hb1 (by simp) (heap_alloc_new _ _); have z0 := cell_of (j := 0) y0; have z1 := cell_of (j := 1) y0; have f0 := free_of (j := 0) y0; have f1 := free_of (j := 1) y0; have hs1 := hb1.size; have hs4 : w.heap.size < w1.heap.size := (by simp at hs1; omega)))
        refine bodyPost_ret (v := .tuple #[.agg #[.string (bs (atomOf t)), .slice p n c], .bool true]) (by simp [results, Tryd.results9, go_sem, z0, z1, hs4]) rfl ⟨?_, ?_⟩
        · rw [HP.out]
          refine ⟨p, n, c, rfl, FV.move (fun k hk => ?_) (fun k hk => ?_) _ _ hv⟩
          · simp at hk ⊢; omega
          · simp only [alloc_size] at hk
            rw [heap_alloc_old (h := by simp; omega), blk_set_other _ (by simp; omega), blk_set_other _ (by simp; omega)]
        · exact ((((below1 w _).trans (hb1.mono (by simp))).setCell (by simp) _).setCell (by simp) _).alloc (by simp; omega) _
      · have hr0 : ∃ a l, r = a :: l := by
          cases r with
          | nil => simp at he'; omega
          | cons a l => exact ⟨a, l, rfl⟩
        obtain ⟨a0, l0, hr0⟩ := hr0
        rw [hr0] at hp
        have HP := Lib.hid hp
        have hd : ((e' : Int) == (s.size : Int)) = false := by simp; omega
        clear hp hres HF he' hgot hwf hr0
        go_enter Tryd.func9, Tryd.ntmps9
        go_wp2_with (go_at_call 13; go_must (refine (HC.out _).mono ?_; rintro e w1 ⟨p, n, c, rfl, hv, hb1⟩; have y0 := below_blk hb1 (by simp) (heap_alloc_new _ _); have z0 := cell_of (j := 0) y0; have z1 := cell_of (j := 1) y0; have f0 := free_of (j := 0) y0; have f1 := free_of (j := 1) y0; have hs1 := hb1.size; have hs4 : w.heap.size < w1.heap.size := (by simp at hs1; omega)))
        refine bodyPost_ret (v := .tuple #[.agg #[.string (bs (atomOf t)), .slice p n c], .bool false]) (by simp [results, Tryd.results9, go_sem, z0, z1, hs4]) rfl ⟨by rw [HP.out]; exact ⟨_, _, _, _, rfl, FV.len_le nS_inj hv⟩, ?_⟩
        · exact ((((below1 w _).trans (hb1.mono (by simp))).setCell (by simp) _).setCell (by simp) _).alloc (by simp; omega) _
end Go.Proofs.YtohhkgamkahebaaDoor
namespace Go.Proofs.YtohhkgamkahebaaDoor
open Go.RowKit
set_option linter.unusedSimpArgs false
set_option linter.unusedVariables false
theorem atomne {a : List UInt8} (h : a ≠ []) : (!(bs a).toList.isEmpty) = true := by simp [bs_toList, h]
theorem emptyne : (!(bs []).toList.isEmpty) = false := by simp [bs_toList]

end Go.Proofs.YtohhkgamkahebaaDoor
namespace Go.Proofs.YtohhkgamkahebaaDoor
open Go.RowKit
set_option linter.unusedSimpArgs false
set_option linter.unusedVariables false
theorem bs_eq (a b : List UInt8) : ((bs a).toList == b) = (a == b) := by rw [bs_toList]
end Go.Proofs.YtohhkgamkahebaaDoor
