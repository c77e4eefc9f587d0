/- Instructions: the program reads one. -/
import Derived.Test.YtfknoigbkleanaaGreatDoorIn9
import Derived.Test.YtfknoigbkleanaaGreatDoorIn4
import Derived.Test.YtfknoigbkleanaaGreatDoorI1z
namespace Go.Proofs.YtfknoigbkleanaaGreatDoor
open Go.RowKit
set_option maxRecDepth 8000
set_option linter.unusedSimpArgs false
set_option linter.unusedVariables false
theorem set15 {B : Nat} {w w' : World} {b : Nat} (h : Below B w w') (hb : B ≤ b) (v0 v1 v2 v3 v4 v5 v6 v7 v8 v9 v10 v11 v12 v13 v14 : Value) : Below B w (((((((((((((((w'.setCell ⟨b, 0, none⟩ v0).setCell ⟨b, 1, none⟩ v1).setCell ⟨b, 2, none⟩ v2).setCell ⟨b, 3, none⟩ v3).setCell ⟨b, 4, none⟩ v4).setCell ⟨b, 5, none⟩ v5).setCell ⟨b, 6, none⟩ v6).setCell ⟨b, 7, none⟩ v7).setCell ⟨b, 8, none⟩ v8).setCell ⟨b, 9, none⟩ v9).setCell ⟨b, 10, none⟩ v10).setCell ⟨b, 11, none⟩ v11).setCell ⟨b, 12, none⟩ v12).setCell ⟨b, 13, none⟩ v13).setCell ⟨b, 14, none⟩ v14) :=
  (((((((((((((((h.setCell hb _).setCell hb _).setCell hb _).setCell hb _).setCell hb _).setCell hb _).setCell hb _).setCell hb _).setCell hb _).setCell hb _).setCell hb _).setCell hb _).setCell hb _).setCell hb _).setCell hb _)
theorem set15_same {w : World} {b : Nat} {x0 x1 x2 x3 x4 x5 x6 x7 x8 x9 x10 x11 x12 x13 x14 : Value} {t : TypeId} (h : w.heap[b]? = some (.cells #[x0, x1, x2, x3, x4, x5, x6, x7, x8, x9, x10, x11, x12, x13, x14] t (0, 0))) (v0 v1 v2 v3 v4 v5 v6 v7 v8 v9 v10 v11 v12 v13 v14 : Value) : (((((((((((((((w.setCell ⟨b, 0, none⟩ v0).setCell ⟨b, 1, none⟩ v1).setCell ⟨b, 2, none⟩ v2).setCell ⟨b, 3, none⟩ v3).setCell ⟨b, 4, none⟩ v4).setCell ⟨b, 5, none⟩ v5).setCell ⟨b, 6, none⟩ v6).setCell ⟨b, 7, none⟩ v7).setCell ⟨b, 8, none⟩ v8).setCell ⟨b, 9, none⟩ v9).setCell ⟨b, 10, none⟩ v10).setCell ⟨b, 11, none⟩ v11).setCell ⟨b, 12, none⟩ v12).setCell ⟨b, 13, none⟩ v13).setCell ⟨b, 14, none⟩ v14).heap[b]? = some (.cells #[v0, v1, v2, v3, v4, v5, v6, v7, v8, v9, v10, v11, v12, v13, v14] t (0, 0)) := by
  have := (blk_set (j := 14) (blk_set (j := 13) (blk_set (j := 12) (blk_set (j := 11) (blk_set (j := 10) (blk_set (j := 9) (blk_set (j := 8) (blk_set (j := 7) (blk_set (j := 6) (blk_set (j := 5) (blk_set (j := 4) (blk_set (j := 3) (blk_set (j := 2) (blk_set (j := 1) (blk_set (j := 0) h v0) v1) v2) v3) v4) v5) v6) v7) v8) v9) v10) v11) v12) v13) v14)
  simpa using this
/-- The program's instruction behind a text. -/
def RiPost (l : List UInt8) (e : Ending) : Prop := ∃ (a1 a3 a7 a8 a9 a12 a13 a14 : Int) (s0 s4 s5 s10 : ByteArray) (p2 p6 p11 : Option Addr) (n2 c2 n6 c6 n11 c11 : Nat), e = .returned (.tuple #[.agg #[.string s0, .int .i64 a1, .slice p2 n2 c2, .int .i64 a3, .string s4, .string s5, .slice p6 n6 c6, .int .i64 a7, .int .i64 a8, .int .i64 a9, .string s10, .slice p11 n11 c11, .int .i64 a12, .int .i64 a13, .int .i64 a14], .bool (insOf l)]) ∧ (insOf l = true → ∃ t, parse l = some t ∧ s0 = bs (hdT t))
theorem take_c (k : UInt8) (hk : k = 100 ∨ k = 115 ∨ k = 110 ∨ k = 120 ∨ k = 108 ∨ k = 69 ∨ k = 87) (t : Tr) (p : Option Addr) (m c : Nat) (ok : Nat → Prop) (b base : Nat) (H : ByteArray) (M : Nat) (w : World) (hwf : t.wf) (hbt : t.bytes ≤ 12000) (hv : FV nI w ok t (nI t (.slice p m c))) (hok : ∀ k, ok k → k < w.heap.size) (hI : InB w b base H M) (hbb : base ≤ b) (hbw : base ≤ w.heap.size) (hM : M ≤ 12000) :
    Calls Tryz.prog 118 #[.pointer (some ⟨b, 0, none⟩), .int .u8 k.toNat, .agg #[.string (bs (atomOf t)), .slice p m c, .int .i64 t.bytes, .int .i64 t.size, .int .i64 t.depth]] w fun e w' => e = .returned (.bool (opB k t)) ∧ InB w' b base H (M + 1) ∧ Below base w w' := by
  rcases hk with rfl | rfl | rfl | rfl | rfl | rfl | rfl
  · exact take_d t p m c ok b base H M w hwf hbt hv hok hI hbb hbw hM
  · exact take_s t p m c ok b base H M w hwf hbt hv hok hI hbb hbw hM
  · exact take_n t p m c ok b base H M w hwf hbt hv hok hI hbb hbw hM
  · exact take_x t p m c ok b base H M w hwf hbt hv hok hI hbb hbw hM
  · exact take_l t p m c ok b base H M w hwf hbt hv hok hI hbb hbw hM
  · exact take_E t p m c ok b base H M w hwf hbt hv hok hI hbb hbw hM
  · exact take_W t p m c ok b base H M w hwf hbt hv hok hI hbb hbw hM
theorem letters_mem (h : List UInt8) (n : Nat) : ∀ k ∈ lettersOf h n, k = 100 ∨ k = 115 ∨ k = 110 ∨ k = 120 ∨ k = 108 ∨ k = 69 ∨ k = 87 := by
  unfold lettersOf
  repeat' split
  all_goals first
    | (simp; done)
    | (intro k hk
       rcases List.mem_cons.1 hk with rfl | hk
       · simp
       · rw [List.mem_replicate] at hk
         simp [hk.2])
set_option maxHeartbeats 4000000 in
theorem readInstr_none (s : ByteArray) (hs : s.size ≤ 1048576) (hp : parse s.data.toList = none) (w : World) :
    Calls Tryz.prog 71 #[.string s] w fun e w' => RiPost s.data.toList e ∧ Below w.heap.size w w' := by
  have C := Lib.hid (readForm_none hs hp)
  have HR := Lib.hid (show insOf s.data.toList = false by simp [insOf, hp])
  unfold RiPost
  rw [HR.out]
  have y0 := heap_alloc_new w (.cells #[.string ⟨#[]⟩, .int .i64 0, .slice none 0 0, .int .i64 0, .string ⟨#[]⟩, .string ⟨#[]⟩, .slice none 0 0, .int .i64 0, .int .i64 0, .int .i64 0, .string ⟨#[]⟩, .slice none 0 0, .int .i64 0, .int .i64 0, .int .i64 0] 78)
  clear hp
  go_enter Tryz.func71, Tryz.ntmps71
  go_wp2_with (go_at_call 61; go_must (refine (C.out _).mono ?_; rintro e w1 ⟨rfl, hb1⟩; have y1 := below_blk hb1 (by simp) y0; have z0 := cell_of (j := 0) y1; have f0 := free_of (j := 0) y1; have z1 := cell_of (j := 1) y1; have f1 := free_of (j := 1) y1; have z2 := cell_of (j := 2) y1; have f2 := free_of (j := 2) y1; have z3 := cell_of (j := 3) y1; have f3 := free_of (j := 3) y1; have z4 := cell_of (j := 4) y1; have f4 := free_of (j := 4) y1; have z5 := cell_of (j := 5) y1; have f5 := free_of (j := 5) y1; have z6 := cell_of (j := 6) y1; have f6 := free_of (j := 6) y1; have z7 := cell_of (j := 7) y1; have f7 := free_of (j := 7) y1; have z8 := cell_of (j := 8) y1; have f8 := free_of (j := 8) y1; have z9 := cell_of (j := 9) y1; have f9 := free_of (j := 9) y1; have z10 := cell_of (j := 10) y1; have f10 := free_of (j := 10) y1; have z11 := cell_of (j := 11) y1; have f11 := free_of (j := 11) y1; have z12 := cell_of (j := 12) y1; have f12 := free_of (j := 12) y1; have z13 := cell_of (j := 13) y1; have f13 := free_of (j := 13) y1; have z14 := cell_of (j := 14) y1; have f14 := free_of (j := 14) y1; have hs1 := hb1.size; have hs4 : w.heap.size < w1.heap.size := (by simp at hs1; omega)))
  have O := blk_alloc (o' := (.cells #[.string ⟨#[]⟩, .slice none 0 0, .int .i64 0, .int .i64 0, .int .i64 0] 56)) (set15_same y1 (.string ⟨#[]⟩) (.int .i64 0) (.slice none 0 0) (.int .i64 0) (.string ⟨#[]⟩) (.string ⟨#[]⟩) (.slice none 0 0) (.int .i64 0) (.int .i64 0) (.int .i64 0) (.string ⟨#[]⟩) (.slice none 0 0) (.int .i64 0) (.int .i64 0) (.int .i64 0))
  have q0 := cell_of (j := 0) O; have q1 := cell_of (j := 1) O; have q2 := cell_of (j := 2) O; have q3 := cell_of (j := 3) O; have q4 := cell_of (j := 4) O; have q5 := cell_of (j := 5) O; have q6 := cell_of (j := 6) O; have q7 := cell_of (j := 7) O; have q8 := cell_of (j := 8) O; have q9 := cell_of (j := 9) O; have q10 := cell_of (j := 10) O; have q11 := cell_of (j := 11) O; have q12 := cell_of (j := 12) O; have q13 := cell_of (j := 13) O; have q14 := cell_of (j := 14) O
  refine bodyPost_ret (v := .tuple #[.agg #[.string ⟨#[]⟩, .int .i64 0, .slice none 0 0, .int .i64 0, .string ⟨#[]⟩, .string ⟨#[]⟩, .slice none 0 0, .int .i64 0, .int .i64 0, .int .i64 0, .string ⟨#[]⟩, .slice none 0 0, .int .i64 0, .int .i64 0, .int .i64 0], .bool false]) (by simp [results, Tryz.results71, go_sem, q0, q1, q2, q3, q4, q5, q6, q7, q8, q9, q10, q11, q12, q13, q14]) rfl ⟨⟨0, 0, 0, 0, 0, 0, 0, 0, ⟨#[]⟩, ⟨#[]⟩, ⟨#[]⟩, ⟨#[]⟩, none, none, none, 0, 0, 0, 0, 0, 0, rfl, fun h => by cases h⟩, ?_⟩
  exact (set15 ((below1 w _).trans (hb1.mono (by simp))) (Nat.le_refl _) _ _ _ _ _ _ _ _ _ _ _ _ _ _ _).alloc (by simp; omega) _
set_option maxHeartbeats 4000000 in
theorem readInstr_atom (s : ByteArray) (hs : s.size ≤ 1048576) (a : List UInt8) (hp : parse s.data.toList = some (.atom a)) (w : World) :
    Calls Tryz.prog 71 #[.string s] w fun e w' => RiPost s.data.toList e ∧ Below w.heap.size w w' := by
  have C : Hid (∀ W, Calls Tryz.prog 61 #[.string s] W fun e w' => (∃ A c x y z, e = .returned (.tuple #[.agg #[.string A, .slice none 0 c, .int .i64 x, .int .i64 y, .int .i64 z], .bool true])) ∧ Below W.heap.size W w') := Lib.hid (fun W => (readForm_some hs hp W).mono fun e w' ⟨⟨p, n, c, h1, h2⟩, h3⟩ => ⟨by
    simp only [FV] at h2
    have hh := nI_inj _ _ _ h2
    simp only [Value.slice.injEq] at hh
    obtain ⟨rfl, rfl, rfl⟩ := hh
    exact ⟨_, _, _, _, _, h1⟩, h3⟩)
  have HR := Lib.hid (show insOf s.data.toList = false by simp [insOf, hp, insF])
  unfold RiPost
  rw [HR.out]
  have y0 := heap_alloc_new w (.cells #[.string ⟨#[]⟩, .int .i64 0, .slice none 0 0, .int .i64 0, .string ⟨#[]⟩, .string ⟨#[]⟩, .slice none 0 0, .int .i64 0, .int .i64 0, .int .i64 0, .string ⟨#[]⟩, .slice none 0 0, .int .i64 0, .int .i64 0, .int .i64 0] 78)
  clear hp
  go_enter Tryz.func71, Tryz.ntmps71
  go_wp2_with (first | (go_at_call 61; go_must (refine (C.out _).mono ?_; rintro e w1 ⟨⟨A, c, x, y, z, rfl⟩, hb1⟩; have y1 := below_blk hb1 (by simp) y0; have hs1 := hb1.size; have hs4 : w.heap.size < w1.heap.size := (by simp at hs1; omega); have HB1 := Lib.hid (((below1 w _).trans (hb1.mono (by simp))).alloc (by omega) (.cells #[.string A, .slice none 0 c, .int .i64 x, .int .i64 y, .int .i64 z] 56)); have y2 := blk_alloc (o' := (.cells #[.string A, .slice none 0 c, .int .i64 x, .int .i64 y, .int .i64 z] 56)) y1)) | (go_at_call 73; go_must (refine (isAtom_yes _ _ _ _ _ _ _).mono ?_; rintro e w2 ⟨rfl, hb2⟩; have y3 := below_blk hb2 (by simp; omega) y2; have z0 := cell_of (j := 0) y3; have f0 := free_of (j := 0) y3; have z1 := cell_of (j := 1) y3; have f1 := free_of (j := 1) y3; have z2 := cell_of (j := 2) y3; have f2 := free_of (j := 2) y3; have z3 := cell_of (j := 3) y3; have f3 := free_of (j := 3) y3; have z4 := cell_of (j := 4) y3; have f4 := free_of (j := 4) y3; have z5 := cell_of (j := 5) y3; have f5 := free_of (j := 5) y3; have z6 := cell_of (j := 6) y3; have f6 := free_of (j := 6) y3; have z7 := cell_of (j := 7) y3; have f7 := free_of (j := 7) y3; have z8 := cell_of (j := 8) y3; have f8 := free_of (j := 8) y3; have z9 := cell_of (j := 9) y3; have f9 := free_of (j := 9) y3; have z10 := cell_of (j := 10) y3; have f10 := free_of (j := 10) y3; have z11 := cell_of (j := 11) y3; have f11 := free_of (j := 11) y3; have z12 := cell_of (j := 12) y3; have f12 := free_of (j := 12) y3; have z13 := cell_of (j := 13) y3; have f13 := free_of (j := 13) y3; have z14 := cell_of (j := 14) y3; have f14 := free_of (j := 14) y3; have hs2 := hb2.size; have hs5 : w.heap.size < w2.heap.size := (by simp at hs2; omega))))
  have O := set15_same y3 (.string ⟨#[]⟩) (.int .i64 0) (.slice none 0 0) (.int .i64 0) (.string ⟨#[]⟩) (.string ⟨#[]⟩) (.slice none 0 0) (.int .i64 0) (.int .i64 0) (.int .i64 0) (.string ⟨#[]⟩) (.slice none 0 0) (.int .i64 0) (.int .i64 0) (.int .i64 0)
  have q0 := cell_of (j := 0) O; have q1 := cell_of (j := 1) O; have q2 := cell_of (j := 2) O; have q3 := cell_of (j := 3) O; have q4 := cell_of (j := 4) O; have q5 := cell_of (j := 5) O; have q6 := cell_of (j := 6) O; have q7 := cell_of (j := 7) O; have q8 := cell_of (j := 8) O; have q9 := cell_of (j := 9) O; have q10 := cell_of (j := 10) O; have q11 := cell_of (j := 11) O; have q12 := cell_of (j := 12) O; have q13 := cell_of (j := 13) O; have q14 := cell_of (j := 14) O
  refine bodyPost_ret (v := .tuple #[.agg #[.string ⟨#[]⟩, .int .i64 0, .slice none 0 0, .int .i64 0, .string ⟨#[]⟩, .string ⟨#[]⟩, .slice none 0 0, .int .i64 0, .int .i64 0, .int .i64 0, .string ⟨#[]⟩, .slice none 0 0, .int .i64 0, .int .i64 0, .int .i64 0], .bool false]) (by simp [results, Tryz.results71, go_sem, q0, q1, q2, q3, q4, q5, q6, q7, q8, q9, q10, q11, q12, q13, q14]) rfl ⟨⟨0, 0, 0, 0, 0, 0, 0, 0, ⟨#[]⟩, ⟨#[]⟩, ⟨#[]⟩, ⟨#[]⟩, none, none, none, 0, 0, 0, 0, 0, 0, rfl, fun h => by cases h⟩, ?_⟩
  exact set15 (HB1.out.trans (hb2.mono HB1.out.size)) (Nat.le_refl _) _ _ _ _ _ _ _ _ _ _ _ _ _ _ _
end Go.Proofs.YtfknoigbkleanaaGreatDoor
