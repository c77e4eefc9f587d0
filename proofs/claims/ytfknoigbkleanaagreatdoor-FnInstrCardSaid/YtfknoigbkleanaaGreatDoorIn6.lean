/- Instructions: the program takes operands. -/
import Derived.Test.YtfknoigbkleanaaGreatDoorIn5
namespace Go.Proofs.YtfknoigbkleanaaGreatDoor
open Go.RowKit
set_option maxRecDepth 8000
set_option linter.unusedSimpArgs false
set_option linter.unusedVariables false
theorem set5I {w : World} {b : Nat} {x0 x1 x2 x3 x4 : Value} {t : TypeId} (h : w.heap[b]? = some (.cells #[x0, x1, x2, x3, x4] t (0, 0))) (v0 v1 v2 v3 v4 : Value) : (((((w.setCell ⟨b, 0, none⟩ v0).setCell ⟨b, 1, none⟩ v1).setCell ⟨b, 2, none⟩ v2).setCell ⟨b, 3, none⟩ v3).setCell ⟨b, 4, none⟩ v4).heap[b]? = some (.cells #[v0, v1, v2, v3, v4] t (0, 0)) := by
  have := blk_set (j := 4) (blk_set (j := 3) (blk_set (j := 2) (blk_set (j := 1) (blk_set (j := 0) h v0) v1) v2) v3) v4
  simpa using this
set_option maxHeartbeats 2000000 in
theorem part0_no (u : ByteArray) (p : Option Addr) (c : Nat) (x y z : Int) (w : World) :
    Calls Tryz.prog 191 #[.agg #[.string u, .slice p 0 c, .int .i64 x, .int .i64 y, .int .i64 z], .int .i64 0] w fun e w' => e = .returned (.agg #[.string ⟨#[]⟩, .slice none 0 0, .int .i64 0, .int .i64 0, .int .i64 0]) ∧ Below w.heap.size w w' := by
  have x1 := heap_alloc_new2 w (.cells #[.string u, .slice p 0 c, .int .i64 x, .int .i64 y, .int .i64 z] 56) (.cells #[.string ⟨#[]⟩, .slice none 0 0, .int .i64 0, .int .i64 0, .int .i64 0] 56)
  go_enter Tryz.func191, Tryz.ntmps191
  go_wp2_with fail
  have O := set5I x1 (.string ⟨#[]⟩) (.slice none 0 0) (.int .i64 0) (.int .i64 0) (.int .i64 0)
  have q0 := cell_of (j := 0) O
  have q1 := cell_of (j := 1) O
  have q2 := cell_of (j := 2) O
  have q3 := cell_of (j := 3) O
  have q4 := cell_of (j := 4) O
  first
    | exact bodyPost_ret (v := .agg #[.string ⟨#[]⟩, .slice none 0 0, .int .i64 0, .int .i64 0, .int .i64 0]) (by simp [results, Tryz.results191, go_sem, q0, q1, q2, q3, q4]) rfl ⟨rfl, set5 (below2 w _ _) (by omega) _ _ _ _ _⟩
    | exact bodyPost_ret (v := .agg #[.string ⟨#[]⟩, .slice none 0 0, .int .i64 0, .int .i64 0, .int .i64 0]) (by simp [results, Tryz.results191, go_sem]) rfl ⟨rfl, below2 w _ _⟩
set_option maxHeartbeats 2000000 in
theorem part0_yes (u : ByteArray) (r off n c : Nat) (hn : 1 ≤ n) (hc : n ≤ c) (hc2 : c ≤ maxLen) (x y z : Int) (w : World) (hr : r < w.heap.size) (v : ByteArray) (q : Option Addr) (m k : Nat) (a1 a2 a3 : Int)
    (e0 : w.cell? ⟨r, off, none⟩ = some (.string v)) (e1 : w.cell? ⟨r, off + 1, none⟩ = some (.slice q m k)) (e2 : w.cell? ⟨r, off + 2, none⟩ = some (.int .i64 a1)) (e3 : w.cell? ⟨r, off + 3, none⟩ = some (.int .i64 a2)) (e4 : w.cell? ⟨r, off + 4, none⟩ = some (.int .i64 a3)) :
    Calls Tryz.prog 191 #[.agg #[.string u, .slice (some ⟨r, off, none⟩) n c, .int .i64 x, .int .i64 y, .int .i64 z], .int .i64 0] w fun e w' => e = .returned (.agg #[.string v, .slice q m k, .int .i64 a1, .int .i64 a2, .int .i64 a3]) ∧ Below w.heap.size w w' := by
  have hm := maxLen_le hc2
  have hd : decide ((n : Int) ≤ 0) = false := by simp; omega
  have hd2 : ¬ (n : Int) ≤ 0 := by omega
  have hd3 : (0 : Nat) < n := by omega
  have x1 := heap_alloc_new2 w (.cells #[.string u, .slice (some ⟨r, off, none⟩) n c, .int .i64 x, .int .i64 y, .int .i64 z] 56) (.cells #[.string ⟨#[]⟩, .slice none 0 0, .int .i64 0, .int .i64 0, .int .i64 0] 56)
  go_enter Tryz.func191, Tryz.ntmps191
  go_wp2_with fail
  have O := set5I x1 (.string v) (.slice q m k) (.int .i64 a1) (.int .i64 a2) (.int .i64 a3)
  have q0 := cell_of (j := 0) O
  have q1 := cell_of (j := 1) O
  have q2 := cell_of (j := 2) O
  have q3 := cell_of (j := 3) O
  have q4 := cell_of (j := 4) O
  first
    | exact bodyPost_ret (v := .agg #[.string v, .slice q m k, .int .i64 a1, .int .i64 a2, .int .i64 a3]) (by simp [results, Tryz.results191, go_sem, q0, q1, q2, q3, q4]) rfl ⟨rfl, set5 (below2 w _ _) (by omega) _ _ _ _ _⟩
    | exact bodyPost_ret (v := .agg #[.string v, .slice q m k, .int .i64 a1, .int .i64 a2, .int .i64 a3]) (by simp [results, Tryz.results191, go_sem]) rfl ⟨rfl, below2 w _ _⟩
theorem part0_c (t : Tr) (p : Option Addr) (m c : Nat) (ok : Nat → Prop) (w : World) (hwf : t.wf) (hv : FV nI w ok t (nI t (.slice p m c))) (hok : ∀ k, ok k → k < w.heap.size) :
    Calls Tryz.prog 191 #[.agg #[.string (bs (atomOf t)), .slice p m c, .int .i64 t.bytes, .int .i64 t.size, .int .i64 t.depth], .int .i64 0] w fun e w' => (∃ p' m' c' x y z, e = .returned (.agg #[.string (bs (hdT t)), .slice p' m' c', .int .i64 x, .int .i64 y, .int .i64 z])) ∧ Below w.heap.size w w' := by
  match t, hv with
  | .atom a, hv =>
    simp only [FV] at hv
    have hh := nI_inj _ _ _ hv
    simp only [Value.slice.injEq] at hh
    obtain ⟨rfl, rfl, rfl⟩ := hh
    exact (part0_no _ _ _ _ _ _ w).mono fun e w' ⟨h1, h2⟩ => ⟨⟨_, _, _, _, _, _, h1⟩, h2⟩
  | .list [], hv => exact absurd rfl hwf.1
  | .list (h :: ts), hv =>
    obtain ⟨r, off, cap, xs, he, h2, h3, h4, h5, h6⟩ := hv.list_cells
    have hh := nI_inj _ _ _ he
    simp only [Value.slice.injEq] at hh
    obtain ⟨rfl, rfl, rfl⟩ := hh
    obtain ⟨cs, g1, g2⟩ := FVs.get nI_len h6 h5 0 (by simp)
    obtain ⟨p', m', c', rfl⟩ := g1.node
    have k0 : w.cell? ⟨r, off, none⟩ = some (.string (bs (atomOf h))) := by have := g2 0 _ rfl; simpa using this
    have k1 : w.cell? ⟨r, off + 1, none⟩ = some (.slice p' m' c') := by have := g2 1 _ rfl; simpa using this
    have k2 : w.cell? ⟨r, off + 2, none⟩ = some (.int .i64 h.bytes) := by have := g2 2 _ rfl; simpa using this
    have k3 : w.cell? ⟨r, off + 3, none⟩ = some (.int .i64 h.size) := by have := g2 3 _ rfl; simpa using this
    have k4 : w.cell? ⟨r, off + 4, none⟩ = some (.int .i64 h.depth) := by have := g2 4 _ rfl; simpa using this
    exact (part0_yes _ r off _ _ (by simp) h3 h4 _ _ _ w (hok r h2) _ _ _ _ _ _ _ k0 k1 k2 k3 k4).mono fun e w' ⟨q1, q2⟩ => ⟨⟨_, _, _, _, _, _, q1⟩, q2⟩
end Go.Proofs.YtfknoigbkleanaaGreatDoor
