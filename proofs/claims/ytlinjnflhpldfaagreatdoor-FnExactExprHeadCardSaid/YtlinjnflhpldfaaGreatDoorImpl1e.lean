/- The program reads a whole text. -/
import Derived.Test.YtlinjnflhpldfaaGreatDoorImpl1d
namespace Go.Proofs.YtlinjnflhpldfaaGreatDoor
open Go.RowKit
set_option maxRecDepth 8000
set_option linter.unusedSimpArgs false
set_option linter.unusedVariables false
theorem form_all (s : ByteArray) (hs : s.size ≤ 12000) : ∀ d, d ≤ 61 → FormC s d
  | 0, _ => form_of s hs 0 (list_zero s)
  | d + 1, h => form_of s hs (d + 1) (list_succ s hs d (by omega) (form_all s hs d (by omega)))
/-- What reading a whole text hands back. -/
def ReadPost (B : Nat) (res : Option Tr) (e : Ending) (w' : World) : Prop :=
  match res with
  | none => e = .returned (.tuple #[.agg #[.string ⟨#[]⟩, .slice none 0 0, .int .i64 0, .int .i64 0, .int .i64 0], .bool false])
  | some t => ∃ p n c, e = .returned (.tuple #[.agg (nI t (.slice p n c)).toArray, .bool true]) ∧ FV nI w' (fun k => B ≤ k ∧ k < w'.heap.size) t (nI t (.slice p n c))
theorem parse_none_long {l : List UInt8} (h : 12000 < l.length) : parse l = none := by simp [parse, h]
theorem parse_read {l : List UInt8} (h : ¬ 12000 < l.length) : parse l = (match read 61 l with | some (t, []) => some t | _ => none) := by unfold parse; rw [if_neg h]; rfl
theorem below_row {a b : World} {B rb : Nat} (h : a.grownBy b (some rb)) (hB : B ≤ a.heap.size) (hrb : B ≤ rb) : Below B a b :=
  ⟨h.os, h.tape, h.output, h.size, fun k hk => h.block k (by omega) (by simp; omega)⟩
set_option maxHeartbeats 1000000 in
theorem readForm_c (s : ByteArray) (hs : s.size ≤ 1048576) (w : World) :
    Calls Tryz.prog 57 #[.string s] w fun e w' => ReadPost w.heap.size (parse s.data.toList) e w' ∧ Below w.heap.size w w' := by
  by_cases hlong : 12000 < s.size
  · have HP := Lib.hid (parse_none_long (l := s.data.toList) (by simpa using hlong))
    have hd : decide (12000 < (s.size : Int)) = true := by simp; omega
    go_enter Tryz.func57, Tryz.ntmps57
    go_wp2_with fail
    exact bodyPost_ret (v := .tuple #[.agg #[.string ⟨#[]⟩, .slice none 0 0, .int .i64 0, .int .i64 0, .int .i64 0], .bool false]) (by simp [results, Tryz.results57, go_sem]) rfl ⟨by rw [HP.out]; rfl, below1 _ _⟩
  · have hp := parse_read (l := s.data.toList) (by simpa using hlong)
    have hs2 : s.size ≤ 12000 := by omega
    have HF := Lib.hid (fun w rb (hr : RB w rb s 0) => form_all s hs2 60 (by omega) rb 0 w hr (by omega))
    cases hres : read 61 s.data.toList with
    | none =>
      rw [hres] at hp
      have HP := Lib.hid hp
      have HC : Hid (∀ w rb (hr : RB w rb s 0), Calls Tryz.prog 78 #[.pointer (some ⟨rb, 0, none⟩), .int .i64 60] w fun e w' => e = .returned (.tuple #[.agg #[.string ⟨#[]⟩, .slice none 0 0, .int .i64 0, .int .i64 0, .int .i64 0], .bool false]) ∧ (∃ i, RB w' rb s i) ∧ w.grownBy w' (some rb)) :=
        Lib.hid (fun w rb hr => form_none (form_all s hs2 60 (by omega)) hr (by omega) (by simpa using hres))
      clear hp hres HF
      go_enter Tryz.func57, Tryz.ntmps57
      go_wp2_with (go_at_call 78; go_must (refine (HC.out _ (w.heap.size + 1) (heap_alloc_new2 _ _ _)).mono ?_; rintro e w1 ⟨rfl, ⟨i, hr1⟩, hg1⟩; have y0 := grownBy_blk hg1 (blk_alloc (heap_alloc_new _ _)) (by omega); have z0 := cell_of (j := 0) y0; have z1 := cell_of (j := 1) y0; have z2 := cell_of (j := 2) y0; have z3 := cell_of (j := 3) y0; have z4 := cell_of (j := 4) y0; have f0 := free_of (j := 0) y0; have f1 := free_of (j := 1) y0; have f2 := free_of (j := 2) y0; have f3 := free_of (j := 3) y0; have f4 := free_of (j := 4) y0; have hs1 := hg1.size; have hs3 : w.heap.size + 1 < w1.heap.size := (by simp at hs1; omega); have hs4 : w.heap.size < w1.heap.size := (by omega)))
      refine bodyPost_ret (v := .tuple #[.agg #[.string ⟨#[]⟩, .slice none 0 0, .int .i64 0, .int .i64 0, .int .i64 0], .bool false]) (by simp [results, Tryz.results57, go_sem, z0, z1, z2, z3, z4, hs4]) rfl ⟨by rw [HP.out]; rfl, ?_⟩
      exact (((((((below2 w _ _).trans (below_row hg1 (by simp; omega) (by omega))).setCell (by simp) _).setCell (by simp) _).setCell (by simp) _).setCell (by simp) _).setCell (by simp) _).alloc (by simp; omega) _
    | some tr =>
      obtain ⟨t, r⟩ := tr
      rw [hres] at hp
      have hgot := (read_got _ _ _ _ hres).length
      rw [size_data] at hgot
      have hwf := (read_got _ _ _ _ hres).wf
      obtain ⟨e', he'⟩ : ∃ e', s.size - r.length = e' := ⟨_, rfl⟩
      have hee : e' ≤ s.size := by omega
      have HC : Hid (∀ w rb (hr : RB w rb s 0), Calls Tryz.prog 78 #[.pointer (some ⟨rb, 0, none⟩), .int .i64 60] w fun e w' => ∃ p n c, e = .returned (.tuple #[.agg #[.string (bs (atomOf t)), .slice p n c, .int .i64 t.bytes, .int .i64 t.size, .int .i64 t.depth], .bool true]) ∧
          FV nI w' (fun k => w.heap.size ≤ k ∧ k < w'.heap.size) t (nI t (.slice p n c)) ∧ RB w' rb s e' ∧ w.grownBy w' (some rb)) :=
        Lib.hid (fun w rb hr => form_some (form_all s hs2 60 (by omega)) hr (by omega) (by simpa using hres) he')
      by_cases hend : e' = s.size
      · have hr0 : r = [] := by have h2 := (size_le _ hwf).2; have h3 := (size_le _ hwf).1; exact List.eq_nil_of_length_eq_zero (by omega)
        rw [hr0] at hp
        have HP := Lib.hid hp
        have hd : decide (e' < s.size) = false := by simp; omega
        clear hp hres HF he' hgot hwf hr0
        go_enter Tryz.func57, Tryz.ntmps57
        go_wp2_with (go_at_call 78; go_must (refine (HC.out _ (w.heap.size + 1) (heap_alloc_new2 _ _ _)).mono ?_; rintro e w1 ⟨p, n, c, rfl, hv, hr1, hg1⟩; have y0 := grownBy_blk hg1 (blk_alloc (heap_alloc_new _ _)) (by omega); have z0 := cell_of (j := 0) y0; have z1 := cell_of (j := 1) y0; have z2 := cell_of (j := 2) y0; have z3 := cell_of (j := 3) y0; have z4 := cell_of (j := 4) y0; have f0 := free_of (j := 0) y0; have f1 := free_of (j := 1) y0; have f2 := free_of (j := 2) y0; have f3 := free_of (j := 3) y0; have f4 := free_of (j := 4) y0; have q0 := cell_of (j := 0) hr1; have q1 := cell_of (j := 1) hr1; have hs1 := hg1.size; have hs3 : w.heap.size + 1 < w1.heap.size := (by simp at hs1; omega); have hs4 : w.heap.size < w1.heap.size := (by omega)))
        refine bodyPost_ret (v := .tuple #[.agg #[.string (bs (atomOf t)), .slice p n c, .int .i64 t.bytes, .int .i64 t.size, .int .i64 t.depth], .bool true]) (by simp [results, Tryz.results57, go_sem, z0, z1, z2, z3, z4, hs4]) rfl ⟨?_, ?_⟩
        · rw [HP.out]
          refine ⟨p, n, c, rfl, FV.move (fun k hk => ?_) (fun k hk => ?_) _ _ hv⟩
          · simp at hk ⊢; omega
          · simp only [alloc_size] at hk
            rw [heap_alloc_old (h := by simp; omega), blk_set_other _ (by simp; omega), blk_set_other _ (by simp; omega), blk_set_other _ (by simp; omega), blk_set_other _ (by simp; omega), blk_set_other _ (by simp; omega)]
        · exact (((((((below2 w _ _).trans (below_row hg1 (by simp; omega) (by omega))).setCell (by simp) _).setCell (by simp) _).setCell (by simp) _).setCell (by simp) _).setCell (by simp) _).alloc (by simp; omega) _
      · have hr0 : ∃ a l, r = a :: l := by
          cases r with
          | nil => simp at he'; omega
          | cons a l => exact ⟨a, l, rfl⟩
        obtain ⟨a0, l0, hr0⟩ := hr0
        rw [hr0] at hp
        have HP := Lib.hid hp
        have hd : decide (e' < s.size) = true := by simp; omega
        clear hp hres HF he' hgot hwf hr0
        go_enter Tryz.func57, Tryz.ntmps57
        go_wp2_with (go_at_call 78; go_must (refine (HC.out _ (w.heap.size + 1) (heap_alloc_new2 _ _ _)).mono ?_; rintro e w1 ⟨p, n, c, rfl, hv, hr1, hg1⟩; have y0 := grownBy_blk hg1 (blk_alloc (heap_alloc_new _ _)) (by omega); have z0 := cell_of (j := 0) y0; have z1 := cell_of (j := 1) y0; have z2 := cell_of (j := 2) y0; have z3 := cell_of (j := 3) y0; have z4 := cell_of (j := 4) y0; have f0 := free_of (j := 0) y0; have f1 := free_of (j := 1) y0; have f2 := free_of (j := 2) y0; have f3 := free_of (j := 3) y0; have f4 := free_of (j := 4) y0; have q0 := cell_of (j := 0) hr1; have q1 := cell_of (j := 1) hr1; have hs1 := hg1.size; have hs3 : w.heap.size + 1 < w1.heap.size := (by simp at hs1; omega); have hs4 : w.heap.size < w1.heap.size := (by omega)))
        refine bodyPost_ret (v := .tuple #[.agg #[.string ⟨#[]⟩, .slice none 0 0, .int .i64 0, .int .i64 0, .int .i64 0], .bool false]) (by simp [results, Tryz.results57, go_sem, z0, z1, z2, z3, z4, hs4]) rfl ⟨by rw [HP.out]; rfl, ?_⟩
        exact (((((((below2 w _ _).trans (below_row hg1 (by simp; omega) (by omega))).setCell (by simp) _).setCell (by simp) _).setCell (by simp) _).setCell (by simp) _).setCell (by simp) _).alloc (by simp; omega) _
end Go.Proofs.YtlinjnflhpldfaaGreatDoor
