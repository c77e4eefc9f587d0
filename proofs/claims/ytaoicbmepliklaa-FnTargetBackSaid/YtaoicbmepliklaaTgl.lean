/- The program reads a type of functions back from its target type; every form; the answer of TargetBack. -/
import Derived.Test.YtaoicbmepliklaaTgj
import Derived.Test.YtaoicbmepliklaaTgk
namespace Go.Proofs.Ytaoicbmepliklaa
open Go.RowKit
set_option maxRecDepth 8000
set_option linter.unusedSimpArgs false
set_option linter.unusedVariables false
set_option maxHeartbeats 20000000 in
theorem sf_pk_yes (R : Option Tr) (hd : ByteArray) (h1 : (hd.toList == [116]) = false) (r off cap : Nat) (n1 n2 n3 : Int) (w : World) (hrlt : r < w.heap.size) (hc1 : 2 ≤ cap) (hc2 : cap ≤ maxLen) (e0 : w.cell? ⟨r, off, none⟩ = some (.string hd))
    (CP : ∀ W, Below w.heap.size w W → Calls Try.prog 72 #[.agg #[.string ⟨#[]⟩, .slice (some ⟨r, off, none⟩) 2 cap, .int .i64 n1, .int .i64 n2, .int .i64 n3]] W fun e w' => (∃ r2 off2 c2 ua qa ma ca a1 a2 a3 uk qk mk ck k1 k2 k3, e = .returned (.tuple #[.slice (some ⟨r2, off2, none⟩) 2 c2, .bool true]) ∧ r2 < w.heap.size ∧ 2 ≤ c2 ∧ c2 ≤ maxLen ∧ (w.cell? ⟨r2, off2, none⟩ = some (.string ua) ∧ w.cell? ⟨r2, off2 + 1, none⟩ = some (.slice qa ma ca) ∧ w.cell? ⟨r2, off2 + 2, none⟩ = some (.int .i64 a1) ∧ w.cell? ⟨r2, off2 + 3, none⟩ = some (.int .i64 a2) ∧ w.cell? ⟨r2, off2 + 4, none⟩ = some (.int .i64 a3)) ∧ (w.cell? ⟨r2, off2 + 5, none⟩ = some (.string uk) ∧ w.cell? ⟨r2, off2 + 5 + 1, none⟩ = some (.slice qk mk ck) ∧ w.cell? ⟨r2, off2 + 5 + 2, none⟩ = some (.int .i64 k1) ∧ w.cell? ⟨r2, off2 + 5 + 3, none⟩ = some (.int .i64 k2) ∧ w.cell? ⟨r2, off2 + 5 + 4, none⟩ = some (.int .i64 k3)) ∧ Hid (∀ W, Below w.heap.size w W → Calls Try.prog 72 #[.agg #[.string uk, .slice qk mk ck, .int .i64 k1, .int .i64 k2, .int .i64 k3]] W fun e w' => (∃ r3 off3 c3 ub qb mb cb b1 b2 b3, e = .returned (.tuple #[.slice (some ⟨r3, off3, none⟩) 1 c3, .bool true]) ∧ r3 < w.heap.size ∧ 1 ≤ c3 ∧ c3 ≤ maxLen ∧ (w.cell? ⟨r3, off3, none⟩ = some (.string ub) ∧ w.cell? ⟨r3, off3 + 1, none⟩ = some (.slice qb mb cb) ∧ w.cell? ⟨r3, off3 + 2, none⟩ = some (.int .i64 b1) ∧ w.cell? ⟨r3, off3 + 3, none⟩ = some (.int .i64 b2) ∧ w.cell? ⟨r3, off3 + 4, none⟩ = some (.int .i64 b3)) ∧ Hid (∀ W, Below w.heap.size w W → Calls Try.prog 71 #[.string ⟨#[62]⟩, .agg #[.string ua, .slice qa ma ca, .int .i64 a1, .int .i64 a2, .int .i64 a3], .agg #[.string ub, .slice qb mb cb, .int .i64 b1, .int .i64 b2, .int .i64 b3]] W fun e w' => SfPost W.heap.size R e w' ∧ Below W.heap.size W w')) ∧ Below W.heap.size W w')) ∧ Below W.heap.size W w') :
    Calls Try.prog 39 #[.agg #[.string ⟨#[]⟩, .slice (some ⟨r, off, none⟩) 2 cap, .int .i64 n1, .int .i64 n2, .int .i64 n3]] w fun e w' => SfPost w.heap.size R e w' ∧ Below w.heap.size w w' := by
  have hc3' := maxLen_le hc2
  have HP1 := Lib.hid CP
  have y0 := heap_alloc_new2 w (.cells #[.string ⟨#[]⟩, .slice (some ⟨r, off, none⟩) 2 cap, .int .i64 n1, .int .i64 n2, .int .i64 n3] 41) (.cells #[.string ⟨#[]⟩, .slice none 0 0, .int .i64 0, .int .i64 0, .int .i64 0] 41)
  have b0 := blk_alloc (o' := .cells #[.string ⟨#[]⟩, .slice none 0 0, .int .i64 0, .int .i64 0, .int .i64 0] 41) (heap_alloc_new w (.cells #[.string ⟨#[]⟩, .slice (some ⟨r, off, none⟩) 2 cap, .int .i64 n1, .int .i64 n2, .int .i64 n3] 41))
  clear CP
  go_enter Try.func39, Try.ntmps39
  go_wp2_with (first | (go_at_call 55; go_must (refine (isAtom_no _ _ _ _ (by simp) _ _ _ _).mono ?_; rintro e w1 ⟨rfl, hb1⟩; have y1 := below_blk hb1 (lt_of_block y0) y0; have d1 := below_blk hb1 (lt_of_block b0) b0; have hB1 := (below2 w _ _).trans (hb1.mono (by simp; omega)); have hs1 := hb1.size; have q0 := cell_of (j := 0) d1; have q1 := cell_of (j := 1) d1; have q2 := cell_of (j := 2) d1; have q3 := cell_of (j := 3) d1; have q4 := cell_of (j := 4) d1; have g0 := (hB1.cell (p := ⟨r, off, none⟩) hrlt).trans e0)) | (go_at_call 72; first | ((with_reducible refine (HP1.out _ hB1).mono ?_); rintro e w2 ⟨⟨r2, off2, c2, ua, qa, ma, ca, a1, a2, a3, uk, qk, mk, ck, k1, k2, k3, rfl, hr2, hc4, hc5, ⟨j0, j1, j2, j3, j4⟩, ⟨l0, l1, l2, l3, l4⟩, CK⟩, hb2⟩; have hc5' := maxLen_le hc5; have y2 := below_blk hb2 (lt_of_block y1) y1; have hB2 := hB1.trans (hb2.mono hB1.size); have hs2 := hb2.size; have m0 := (hB2.cell (p := ⟨r2, off2 + 5, none⟩) hr2).trans l0; have m1 := (hB2.cell (p := ⟨r2, off2 + 5 + 1, none⟩) hr2).trans l1; have m2 := (hB2.cell (p := ⟨r2, off2 + 5 + 2, none⟩) hr2).trans l2; have m3 := (hB2.cell (p := ⟨r2, off2 + 5 + 3, none⟩) hr2).trans l3; have m4 := (hB2.cell (p := ⟨r2, off2 + 5 + 4, none⟩) hr2).trans l4) | ((with_reducible refine (CK.out _ hB2).mono ?_); rintro e w3 ⟨⟨r3, off3, c3, ub, qb, mb, cb, b1, b2, b3, rfl, hr3, hc6, hc7, ⟨i0, i1, i2, i3, i4⟩, CS⟩, hb3⟩; have hc7' := maxLen_le hc7; have y3 := below_blk hb3 (lt_of_block y2) y2; have hB3 := hB2.trans (hb3.mono hB2.size); have hs3 := hb3.size; have s0 := (hB3.cell (p := ⟨r2, off2, none⟩) hr2).trans j0; have s1 := (hB3.cell (p := ⟨r2, off2 + 1, none⟩) hr2).trans j1; have s2 := (hB3.cell (p := ⟨r2, off2 + 2, none⟩) hr2).trans j2; have s3 := (hB3.cell (p := ⟨r2, off2 + 3, none⟩) hr2).trans j3; have s4 := (hB3.cell (p := ⟨r2, off2 + 4, none⟩) hr2).trans j4; have t0 := (hB3.cell (p := ⟨r3, off3, none⟩) hr3).trans i0; have t1 := (hB3.cell (p := ⟨r3, off3 + 1, none⟩) hr3).trans i1; have t2 := (hB3.cell (p := ⟨r3, off3 + 2, none⟩) hr3).trans i2; have t3 := (hB3.cell (p := ⟨r3, off3 + 3, none⟩) hr3).trans i3; have t4 := (hB3.cell (p := ⟨r3, off3 + 4, none⟩) hr3).trans i4)))
  have hR0 := Below.refl w3.heap.size w3
  have hR1 := hR0.drew
  have hs9 : w.heap.size + 2 ≤ w3.heap.size := by simp at hs1; omega
  clear m0 m1 m2 m3 m4 y1 y2 hb1 hb2 hb3 d1 y0 b0 q0 q1 q2 q3 q4 g0 j0 j1 j2 j3 j4 l0 l1 l2 l3 l4 i0 i1 i2 i3 i4 CK
  first | (go_region_with (first | (go_at_call 71; ((with_reducible refine (CS.out _ ?_).mono ?_); (· exact hB3.trans (Below.mono (by assumption) hB3.size)); rintro e w4 ⟨hp, hb4⟩; obtain ⟨u4, p4, m4, k4, x4, y4, z4, b4, rfl⟩ := sfPost_shape hp; have hp' : SfPost w3.heap.size R _ w4 := hp; have HP := Lib.hid hp'; clear hp hp'; have hBw4 := Below.trans (by assumption : Below w3.heap.size w3 _) (hb4.mono (Below.size (by assumption))); have yw := below_blk hBw4 (lt_of_block y3) y3; have zc0 := cell_of (j := 0) yw; have zc1 := cell_of (j := 1) yw; have zc2 := cell_of (j := 2) yw; have zc3 := cell_of (j := 3) yw; have zc4 := cell_of (j := 4) yw; have zf0 := free_of (j := 0) yw; have zf1 := free_of (j := 1) yw; have zf2 := free_of (j := 2) yw; have zf3 := free_of (j := 3) yw; have zf4 := free_of (j := 4) yw)) | fail)) | fail
  all_goals
    go_wp2_with fail
    have hB2' := hB3.trans (hBw4.mono hB3.size)
    have O := set5_same yw (.string u4) (.slice p4 m4 k4) (.int .i64 x4) (.int .i64 y4) (.int .i64 z4)
    have r0 := cell_of (j := 0) O
    have r1 := cell_of (j := 1) O
    have r2 := cell_of (j := 2) O
    have r3 := cell_of (j := 3) O
    have r4 := cell_of (j := 4) O
    have hlt := lt_of_block yw
    refine bodyPost_ret (v := .tuple #[.agg #[.string u4, .slice p4 m4 k4, .int .i64 x4, .int .i64 y4, .int .i64 z4], .bool b4]) (by simp [results, Try.results39, go_sem, r0, r1, r2, r3, r4, hlt]) rfl ⟨sfPost_move HP.out (by omega) (by simp) (fun k hk1 hk2 => by rw [set5_other (by omega)]), ?_⟩
    first
      | exact (set5 hB2' (by omega) _ _ _ _ _).drew
      | exact set5 hB2' (by omega) _ _ _ _ _
end Go.Proofs.Ytaoicbmepliklaa
