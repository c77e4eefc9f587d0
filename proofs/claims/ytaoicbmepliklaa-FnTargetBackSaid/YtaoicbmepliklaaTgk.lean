/- The program reads a type back from its target type: lists that are none. -/
import Derived.Test.YtaoicbmepliklaaTgi
namespace Go.Proofs.Ytaoicbmepliklaa
open Go.RowKit
set_option maxRecDepth 8000
set_option linter.unusedSimpArgs false
set_option linter.unusedVariables false
theorem not_len (z : Bool) (m L : Nat) (h : z = true → m ≠ L) : z = false ∨ (z = true ∧ ((m : Int) != (L : Int)) = true ∧ ¬ (m : Int) = (L : Int)) := by
  cases z
  · exact .inl rfl
  · have := h rfl
    exact .inr ⟨rfl, by simp; omega, by omega⟩
theorem sfPost_none (B : Nat) (u : ByteArray) (p : Option Addr) (n c : Nat) (x y z : Int) (w : World) : SfPost B none (.returned (.tuple #[.agg #[.string u, .slice p n c, .int .i64 x, .int .i64 y, .int .i64 z], .bool false])) w := ⟨u, p, n, c, x, y, z, rfl⟩
/-- What packedNeeds hands back, by its length. -/
theorem pnPost_len {ok : Nat → Prop} {o : Option (List Tr)} {e : Ending} {w' : World} (L : Nat) (h : PnPost ok o e w') (ho : ∀ ns, o = some ns → ns.length ≠ L) : ∃ p n c z, e = .returned (.tuple #[.slice p n c, .bool z]) ∧ (z = true → n ≠ L) ∧ n ≤ maxLen := by
  cases o with
  | none => obtain ⟨p, n, c, h1, h2⟩ := h; exact ⟨p, n, c, false, h1, fun h => (by cases h), h2⟩
  | some ns => obtain ⟨r, off, c, xs, h1, h2, h3, h4, -⟩ := h; exact ⟨_, _, c, true, h1, fun _ => ho ns rfl, Nat.le_trans h3 h4⟩
set_option maxHeartbeats 20000000 in
theorem sf_no (B1 : Bool) (hd : ByteArray) (h1 : (hd.toList == [116]) = B1) (L : Nat) (hB : B1 = true → L ≠ 3) (hL : 1 ≤ L) (r off cap : Nat) (n1 n2 n3 : Int) (w : World) (hrlt : r < w.heap.size) (hc1 : L ≤ cap) (hc2 : cap ≤ maxLen) (e0 : w.cell? ⟨r, off, none⟩ = some (.string hd))
    (CP : ∀ W, Below w.heap.size w W → Calls Try.prog 72 #[.agg #[.string ⟨#[]⟩, .slice (some ⟨r, off, none⟩) L cap, .int .i64 n1, .int .i64 n2, .int .i64 n3]] W fun e w' => (∃ p n c z, e = .returned (.tuple #[.slice p n c, .bool z]) ∧ (z = true → n ≠ 2) ∧ n ≤ maxLen) ∧ Below W.heap.size W w') :
    Calls Try.prog 39 #[.agg #[.string ⟨#[]⟩, .slice (some ⟨r, off, none⟩) L cap, .int .i64 n1, .int .i64 n2, .int .i64 n3]] w fun e w' => SfPost w.heap.size none e w' ∧ Below w.heap.size w w' := by
  have hc3 := maxLen_le hc2
  have C := Lib.hid CP
  have hLpos : 0 < L := hL
  have y0 := heap_alloc_new2 w (.cells #[.string ⟨#[]⟩, .slice (some ⟨r, off, none⟩) L cap, .int .i64 n1, .int .i64 n2, .int .i64 n3] 41) (.cells #[.string ⟨#[]⟩, .slice none 0 0, .int .i64 0, .int .i64 0, .int .i64 0] 41)
  have b0 := blk_alloc (o' := .cells #[.string ⟨#[]⟩, .slice none 0 0, .int .i64 0, .int .i64 0, .int .i64 0] 41) (heap_alloc_new w (.cells #[.string ⟨#[]⟩, .slice (some ⟨r, off, none⟩) L cap, .int .i64 n1, .int .i64 n2, .int .i64 n3] 41))
  clear CP
  cases B1
  all_goals
    try (have hL3 : ((L : Int) == 3) = false := by have := hB rfl; simp; omega)
    try (have hL4 : ¬ (L : Int) = 3 := by have := hB rfl; omega)
    clear hB
    go_enter Try.func39, Try.ntmps39
    go_wp2_with (first | (go_at_call 55; go_must (refine (isAtom_no _ _ _ _ (by omega) _ _ _ _).mono ?_; rintro e w1 ⟨rfl, hb1⟩; have y1 := below_blk hb1 (lt_of_block y0) y0; have d1 := below_blk hb1 (lt_of_block b0) b0; have hB1 := (below2 w _ _).trans (hb1.mono (by simp; omega)); have hs1 := hb1.size; have q0 := cell_of (j := 0) d1; have q1 := cell_of (j := 1) d1; have q2 := cell_of (j := 2) d1; have q3 := cell_of (j := 3) d1; have q4 := cell_of (j := 4) d1; have g0 := (hB1.cell (p := ⟨r, off, none⟩) hrlt).trans e0)) | (go_at_call 72; go_must (refine (C.out _ hB1).mono ?_; rintro e w2 ⟨⟨p4, m4, c4, z4, rfl, hz4, hm4⟩, hb2⟩; have hm5 := maxLen_le hm4; have y2 := below_blk hb2 (lt_of_block y1) y1; have hB2 := hB1.trans (hb2.mono hB1.size); have zc0 := cell_of (j := 0) y2; have zc1 := cell_of (j := 1) y2; have zc2 := cell_of (j := 2) y2; have zc3 := cell_of (j := 3) y2; have zc4 := cell_of (j := 4) y2; have zf0 := free_of (j := 0) y2; have zf1 := free_of (j := 1) y2; have zf2 := free_of (j := 2) y2; have zf3 := free_of (j := 3) y2; have zf4 := free_of (j := 4) y2; rcases not_len z4 m4 2 hz4 with rfl | ⟨rfl, hn2, hn3⟩)))
    · go_wp2_with fail
      have O := set5_same y2 (.string ⟨#[]⟩) (.slice none 0 0) (.int .i64 0) (.int .i64 0) (.int .i64 0)
      have r0 := cell_of (j := 0) O
      have r1 := cell_of (j := 1) O
      have r2 := cell_of (j := 2) O
      have r3 := cell_of (j := 3) O
      have r4 := cell_of (j := 4) O
      have hlt := lt_of_block y2
      refine bodyPost_ret (v := .tuple #[.agg #[.string ⟨#[]⟩, .slice none 0 0, .int .i64 0, .int .i64 0, .int .i64 0], .bool false]) (by simp [results, Try.results39, go_sem, r0, r1, r2, r3, r4, hlt]) rfl ⟨sfPost_none _ _ _ _ _ _ _ _ _, ?_⟩
      exact set5 hB2 (by omega) _ _ _ _ _
    · go_wp2_with fail
      have O := set5_same y2 (.string ⟨#[]⟩) (.slice none 0 0) (.int .i64 0) (.int .i64 0) (.int .i64 0)
      have r0 := cell_of (j := 0) O
      have r1 := cell_of (j := 1) O
      have r2 := cell_of (j := 2) O
      have r3 := cell_of (j := 3) O
      have r4 := cell_of (j := 4) O
      have hlt := lt_of_block y2
      refine bodyPost_ret (v := .tuple #[.agg #[.string ⟨#[]⟩, .slice none 0 0, .int .i64 0, .int .i64 0, .int .i64 0], .bool false]) (by simp [results, Try.results39, go_sem, r0, r1, r2, r3, r4, hlt]) rfl ⟨sfPost_none _ _ _ _ _ _ _ _ _, ?_⟩
      exact set5 hB2 (by omega) _ _ _ _ _
set_option maxHeartbeats 20000000 in
theorem sf_pk_no (hd : ByteArray) (h1 : (hd.toList == [116]) = false) (a k : Tr) (r off cap : Nat) (n1 n2 n3 : Int) (w : World) (hrlt : r < w.heap.size) (hc1 : 2 ≤ cap) (hc2 : cap ≤ maxLen) (e0 : w.cell? ⟨r, off, none⟩ = some (.string hd))
    (CP : ∀ W, Below w.heap.size w W → Calls Try.prog 72 #[.agg #[.string ⟨#[]⟩, .slice (some ⟨r, off, none⟩) 2 cap, .int .i64 n1, .int .i64 n2, .int .i64 n3]] W fun e w' => (∃ r2 off2 c2 uk pk mk ck k1 k2 k3, e = .returned (.tuple #[.slice (some ⟨r2, off2, none⟩) 2 c2, .bool true]) ∧ r2 < w.heap.size ∧ 2 ≤ c2 ∧ c2 ≤ maxLen ∧ w'.cell? ⟨r2, off2 + 5, none⟩ = some (.string uk) ∧ w'.cell? ⟨r2, off2 + 5 + 1, none⟩ = some (.slice pk mk ck) ∧ w'.cell? ⟨r2, off2 + 5 + 2, none⟩ = some (.int .i64 k1) ∧ w'.cell? ⟨r2, off2 + 5 + 3, none⟩ = some (.int .i64 k2) ∧ w'.cell? ⟨r2, off2 + 5 + 4, none⟩ = some (.int .i64 k3) ∧
      Hid (∀ W', Below w.heap.size w W' → Calls Try.prog 72 #[.agg #[.string uk, .slice pk mk ck, .int .i64 k1, .int .i64 k2, .int .i64 k3]] W' fun e w' => (∃ p n c z, e = .returned (.tuple #[.slice p n c, .bool z]) ∧ (z = true → n ≠ 1) ∧ n ≤ maxLen) ∧ Below W'.heap.size W' w')) ∧ Below W.heap.size W w') :
    Calls Try.prog 39 #[.agg #[.string ⟨#[]⟩, .slice (some ⟨r, off, none⟩) 2 cap, .int .i64 n1, .int .i64 n2, .int .i64 n3]] w fun e w' => SfPost w.heap.size none e w' ∧ Below w.heap.size w w' := by
  have hc3 := maxLen_le hc2
  have C := Lib.hid CP
  have y0 := heap_alloc_new2 w (.cells #[.string ⟨#[]⟩, .slice (some ⟨r, off, none⟩) 2 cap, .int .i64 n1, .int .i64 n2, .int .i64 n3] 41) (.cells #[.string ⟨#[]⟩, .slice none 0 0, .int .i64 0, .int .i64 0, .int .i64 0] 41)
  have b0 := blk_alloc (o' := .cells #[.string ⟨#[]⟩, .slice none 0 0, .int .i64 0, .int .i64 0, .int .i64 0] 41) (heap_alloc_new w (.cells #[.string ⟨#[]⟩, .slice (some ⟨r, off, none⟩) 2 cap, .int .i64 n1, .int .i64 n2, .int .i64 n3] 41))
  clear CP
  go_enter Try.func39, Try.ntmps39
  go_wp2_with (first | (go_at_call 55; go_must (refine (isAtom_no _ _ _ _ (by simp) _ _ _ _).mono ?_; rintro e w1 ⟨rfl, hb1⟩; have y1 := below_blk hb1 (lt_of_block y0) y0; have d1 := below_blk hb1 (lt_of_block b0) b0; have hB1 := (below2 w _ _).trans (hb1.mono (by simp; omega)); have hs1 := hb1.size; have q0 := cell_of (j := 0) d1; have q1 := cell_of (j := 1) d1; have q2 := cell_of (j := 2) d1; have q3 := cell_of (j := 3) d1; have q4 := cell_of (j := 4) d1; have g0 := (hB1.cell (p := ⟨r, off, none⟩) hrlt).trans e0)) | (go_at_call 72; first | ((with_reducible refine (C.out _ hB1).mono ?_); rintro e w2 ⟨⟨r2, off2, c2, uk, pk, mk, ck, k1, k2, k3, rfl, hr2, hc4, hc5, d0, d1', d2, d3, d4, CK⟩, hb2⟩; have y2 := below_blk hb2 (lt_of_block y1) y1; have hB2 := hB1.trans (hb2.mono hB1.size)) | ((with_reducible refine (CK.out _ hB2).mono ?_); rintro e w3 ⟨⟨p4, m4, c4, z4, rfl, hz4, hm4⟩, hb3⟩; have hm5 := maxLen_le hm4; have y3 := below_blk hb3 (lt_of_block y2) y2; have hB3 := hB2.trans (hb3.mono hB2.size); have zc0 := cell_of (j := 0) y3; have zc1 := cell_of (j := 1) y3; have zc2 := cell_of (j := 2) y3; have zc3 := cell_of (j := 3) y3; have zc4 := cell_of (j := 4) y3; have zf0 := free_of (j := 0) y3; have zf1 := free_of (j := 1) y3; have zf2 := free_of (j := 2) y3; have zf3 := free_of (j := 3) y3; have zf4 := free_of (j := 4) y3; rcases not_len z4 m4 1 hz4 with rfl | ⟨rfl, hn2, hn3⟩)))
  · go_wp2_with fail
    have O := set5_same y3 (.string ⟨#[]⟩) (.slice none 0 0) (.int .i64 0) (.int .i64 0) (.int .i64 0)
    have r0 := cell_of (j := 0) O
    have r1 := cell_of (j := 1) O
    have r2 := cell_of (j := 2) O
    have r3 := cell_of (j := 3) O
    have r4 := cell_of (j := 4) O
    have hlt := lt_of_block y3
    refine bodyPost_ret (v := .tuple #[.agg #[.string ⟨#[]⟩, .slice none 0 0, .int .i64 0, .int .i64 0, .int .i64 0], .bool false]) (by simp [results, Try.results39, go_sem, r0, r1, r2, r3, r4, hlt]) rfl ⟨sfPost_none _ _ _ _ _ _ _ _ _, ?_⟩
    exact set5 hB3 (by omega) _ _ _ _ _
  · go_wp2_with fail
    have O := set5_same y3 (.string ⟨#[]⟩) (.slice none 0 0) (.int .i64 0) (.int .i64 0) (.int .i64 0)
    have r0 := cell_of (j := 0) O
    have r1 := cell_of (j := 1) O
    have r2 := cell_of (j := 2) O
    have r3 := cell_of (j := 3) O
    have r4 := cell_of (j := 4) O
    have hlt := lt_of_block y3
    refine bodyPost_ret (v := .tuple #[.agg #[.string ⟨#[]⟩, .slice none 0 0, .int .i64 0, .int .i64 0, .int .i64 0], .bool false]) (by simp [results, Try.results39, go_sem, r0, r1, r2, r3, r4, hlt]) rfl ⟨sfPost_none _ _ _ _ _ _ _ _ _, ?_⟩
    exact set5 hB3 (by omega) _ _ _ _ _
end Go.Proofs.Ytaoicbmepliklaa
