/- The program's reader of forms: lists and forms. -/
import Derived.Test.YtlinjnflhpldfaaGreatDoorImpl1b
namespace Go.Proofs.YtlinjnflhpldfaaGreatDoor
open Go.RowKit
set_option maxRecDepth 8000
set_option linter.unusedSimpArgs false
set_option linter.unusedVariables false
theorem Tryz.infoI : (Tryz.prog.info? 55).map (fun i => (i.zero, i.size, i.bytes)) = some (some (.agg #[.string ⟨#[]⟩, .slice none 0 0, .int .i64 0, .int .i64 0, .int .i64 0]), 5, 64) := by kernel_rfl
/-- What the reader makes of a form. -/
def FormPost (rb : Nat) (s : ByteArray) (B : Nat) (res : Option (Tr × List UInt8)) (e : Ending) (w' : World) : Prop :=
  match res with
  | none => e = .returned (.tuple #[.agg #[.string ⟨#[]⟩, .slice none 0 0, .int .i64 0, .int .i64 0, .int .i64 0], .bool false]) ∧ ∃ i, RB w' rb s i
  | some (t, r) => ∃ cs, e = .returned (.tuple #[.agg cs.toArray, .bool true]) ∧ FV nI w' (fun k => B ≤ k ∧ k < w'.heap.size) t cs ∧ RB w' rb s (s.size - r.length)
def FormC (s : ByteArray) (d : Nat) : Prop := ∀ (rb i : Nat) (w : World), RB w rb s i → i ≤ s.size →
  Calls Tryz.prog 78 #[.pointer (some ⟨rb, 0, none⟩), .int .i64 d] w fun e w' => FormPost rb s w.heap.size (read (d + 1) (s.data.toList.drop i)) e w' ∧ w.grownBy w' (some rb)
def ListC (s : ByteArray) (d : Nat) : Prop := ∀ (rb i : Nat) (w : World), RB w rb s i → i ≤ s.size →
  Calls Tryz.prog 101 #[.pointer (some ⟨rb, 0, none⟩), .int .i64 d] w fun e w' => FormPost rb s w.heap.size ((items (read d) (s.data.toList.drop i).length.succ (s.data.toList.drop i)).map fun p => (.list p.1, p.2)) e w' ∧ w.grownBy w' (some rb)
theorem grownBy_blk {w w' : World} {rb b : Nat} {o : Obj} (h : w.grownBy w' (some rb)) (hb : w.heap[b]? = some o) (hne : b ≠ rb) : w'.heap[b]? = some o := by rw [h.block b (lt_of_block hb) (by simpa using hne)]; exact hb
theorem FV.grownBy {nd : Tr → Value → List Value} {w w' : World} {rb : Nat} {lo hi : Nat} {t : Tr} {cs : List Value} (h : FV nd w (fun k => lo ≤ k ∧ k < hi) t cs) (hg : w.grownBy w' (some rb)) (hrb : rb < lo) (hh : hi ≤ w.heap.size) : FV nd w' (fun k => lo ≤ k ∧ k < hi) t cs :=
  FV.move (fun _ h => h) (fun k hk => hg.block k (by omega) (by simp; omega)) t cs h

set_option maxHeartbeats 1000000 in
theorem list_zero (s : ByteArray) : ListC s 0 := by
  intro rb i w hr hi
  have HN : Hid ((items (read 0) (s.data.toList.drop i).length.succ (s.data.toList.drop i)).map (fun p => (Tr.list p.1, p.2)) = none) := Lib.hid (by simp [items, read])
  go_enter Tryz.func101, Tryz.ntmps101
  go_wp2_with fail
  exact bodyPost_ret (v := .tuple #[.agg #[.string ⟨#[]⟩, .slice none 0 0, .int .i64 0, .int .i64 0, .int .i64 0], .bool false]) (by simp [results, Tryz.results101, go_sem]) rfl (by rw [HN.out]; exact ⟨⟨rfl, i, hr.alloc _⟩, grownBy_alloc (grownBy_refl _ _) _⟩)

theorem formPost_shape {rb : Nat} {s : ByteArray} {B : Nat} {res : Option (Tr × List UInt8)} {e : Ending} {w' : World} (h : FormPost rb s B res e w') :
    ∃ a p n c x y z okb, e = .returned (.tuple #[.agg #[.string a, .slice p n c, .int .i64 x, .int .i64 y, .int .i64 z], .bool okb]) := by
  match res, h with
  | none, h => exact ⟨_, _, _, _, _, _, _, _, h.1⟩
  | some (t, r), h =>
    obtain ⟨cs, h1, h2, _⟩ := h
    obtain ⟨p, n, c, rfl⟩ := h2.node
    exact ⟨_, _, _, _, _, _, _, _, h1⟩
theorem formPost_move {rb : Nat} {s : ByteArray} {B B' N : Nat} {res : Option (Tr × List UInt8)} {e : Ending} {w2 w3 : World} (h : FormPost rb s B res e w2) (hq : ∀ q, q ≠ N → w3.heap[q]? = w2.heap[q]?) (hz : w3.heap.size = w2.heap.size)
    (hB : B' ≤ B) (hN : N < B) (hr : rb ≠ N) : FormPost rb s B' res e w3 := by
  match res, h with
  | none, h =>
    obtain ⟨h1, i, h2⟩ := h
    exact ⟨h1, i, by unfold RB; rw [hq _ hr]; exact h2⟩
  | some (t, r), h =>
    obtain ⟨cs, h1, h2, h3⟩ := h
    exact ⟨cs, h1, FV.move (fun k hk => ⟨by omega, by omega⟩) (fun k hk => hq k (by omega)) t cs h2, by unfold RB; rw [hq _ hr]; exact h3⟩
theorem atom_form {rb : Nat} {s : ByteArray} {i B : Nat} {L : List UInt8} {e : Ending} {w' : World} (h : AtomPost rb s i (readAtom L) e w') : FormPost rb s B (readAtom L) e w' := by
  cases hr : readAtom L with
  | none => rw [hr] at h; exact ⟨h.1, i, h.2⟩
  | some tr =>
    obtain ⟨t, r⟩ := tr
    rw [hr] at h
    obtain ⟨rfl, _⟩ := readAtom_some hr
    exact ⟨_, h.1, by simp only [FV], h.2⟩

set_option maxHeartbeats 1000000 in
theorem form_of (s : ByteArray) (hs : s.size ≤ 12000) (d : Nat) (HL : ListC s d) : FormC s d := by
  intro rb i w hr hi
  have hrl := hr.lt
  by_cases hc : ∃ h : i < s.size, s[i] = 40
  · obtain ⟨hlt, hc⟩ := hc
    have HR := Lib.hid (read_list' s i d hlt hc)
    have HT := Lib.hid (fun w (hr : RB w rb s i) => take_yes s hs rb i 40 w hr hlt hc)
    clear hc
    go_enter Tryz.func78, Tryz.ntmps78
    go_wp2_with (first | (go_at_call 100; go_must (refine (HT.out _ (hr.alloc _)).mono ?_; rintro e w1 ⟨rfl, hr1, hg1, hz1⟩; have y0 := grownBy_blk hg1 (heap_alloc_new _ _) (by omega))) | (go_at_call 101; go_must (refine (HL rb (i + 1) w1 hr1 hlt).mono ?_; rintro e w2 ⟨hp, hg2⟩; obtain ⟨a, p, n, c, x, y, z, okb, rfl⟩ := formPost_shape hp; have y1 := grownBy_blk hg2 y0 (by omega); have z0 := cell_of (j := 0) y1; have z1 := cell_of (j := 1) y1; have z2 := cell_of (j := 2) y1; have z3 := cell_of (j := 3) y1; have z4 := cell_of (j := 4) y1; have f0 := free_of (j := 0) y1; have f1 := free_of (j := 1) y1; have f2 := free_of (j := 2) y1; have f3 := free_of (j := 3) y1; have f4 := free_of (j := 4) y1)))
    refine bodyPost_ret (v := .tuple #[.agg #[.string a, .slice p n c, .int .i64 x, .int .i64 y, .int .i64 z], .bool okb]) (by simp [results, Tryz.results78, go_sem, z0, z1, z2, z3, z4]) rfl ⟨?_, ?_⟩
    · rw [HR.out]
      exact formPost_move (N := w.heap.size) hp (by intro q hq; rw [blk_set_other _ (by simpa using hq), blk_set_other _ (by simpa using hq), blk_set_other _ (by simpa using hq), blk_set_other _ (by simpa using hq), blk_set_other _ (by simpa using hq)]) (by simp) (by have := hg1.size; simp at this; omega) (by have := hg1.size; simp at this; omega) (by omega)
    · exact grownBy_set_new (grownBy_set_new (grownBy_set_new (grownBy_set_new (grownBy_set_new (grownBy_trans (grownBy_trans (grownBy_alloc (grownBy_refl _ _) _) hg1) hg2) (by simp) _) (by simp) _) (by simp) _) (by simp) _) (by simp) _
  · have hc' : ∀ h : i < s.size, s[i] ≠ 40 := fun h e => hc ⟨h, e⟩
    have HR := Lib.hid (read_other s i d hc')
    have HT := Lib.hid (fun w (hr : RB w rb s i) => take_no s hs rb i 40 w hr hi hc')
    clear hc hc'
    go_enter Tryz.func78, Tryz.ntmps78
    go_wp2_with (first | (go_at_call 100; go_must (refine (HT.out _ (hr.alloc _)).mono ?_; rintro e w1 ⟨rfl, nd, hw1⟩; have hr1 : RB w1 rb s i := (by rw [hw1]; exact (hr.alloc _).drewN nd); have hg1 := Lib.hid (show w.grownBy w1 (some rb) from by rw [hw1]; exact grownBy_trans (grownBy_alloc (grownBy_refl _ _) _) (grownBy_drewN _ _ _)); have y0 : w1.heap[w.heap.size]? = some (.cells #[.string ⟨#[]⟩, .slice none 0 0, .int .i64 0, .int .i64 0, .int .i64 0] 55 (0, 0)) := (by rw [hw1]; exact heap_alloc_new _ _); have hz1 : w.heap.size + 1 ≤ w1.heap.size := (by rw [hw1]; simp); clear hw1)) | (go_at_call 102; go_must (refine (atom_c s hs rb i w1 hr1 hi).mono ?_; rintro e w2 ⟨hp0, hg2⟩; have hp := atom_form (B := w1.heap.size) hp0; clear hp0; obtain ⟨a, p, n, c, x, y, z, okb, rfl⟩ := formPost_shape hp; have y1 := grownBy_blk hg2 y0 (by omega); have z0 := cell_of (j := 0) y1; have z1 := cell_of (j := 1) y1; have z2 := cell_of (j := 2) y1; have z3 := cell_of (j := 3) y1; have z4 := cell_of (j := 4) y1; have f0 := free_of (j := 0) y1; have f1 := free_of (j := 1) y1; have f2 := free_of (j := 2) y1; have f3 := free_of (j := 3) y1; have f4 := free_of (j := 4) y1)))
    refine bodyPost_ret (v := .tuple #[.agg #[.string a, .slice p n c, .int .i64 x, .int .i64 y, .int .i64 z], .bool okb]) (by simp [results, Tryz.results78, go_sem, z0, z1, z2, z3, z4]) rfl ⟨?_, ?_⟩
    · rw [HR.out]
      exact formPost_move (N := w.heap.size) hp (by intro q hq; rw [blk_set_other _ (by simpa using hq), blk_set_other _ (by simpa using hq), blk_set_other _ (by simpa using hq), blk_set_other _ (by simpa using hq), blk_set_other _ (by simpa using hq)]) (by simp) (by omega) (by omega) (by omega)
    · exact grownBy_set_new (grownBy_set_new (grownBy_set_new (grownBy_set_new (grownBy_set_new (grownBy_trans hg1.out hg2) (by simp) _) (by simp) _) (by simp) _) (by simp) _) (by simp) _
end Go.Proofs.YtlinjnflhpldfaaGreatDoor
