/- The program's list of parts: its measures. -/
import Derived.Test.YtlinjnflhpldfaaGreatDoorImpl1a
namespace Go.Proofs.YtlinjnflhpldfaaGreatDoor
open Go.RowKit
set_option maxRecDepth 8000
set_option linter.unusedSimpArgs false
set_option linter.unusedVariables false
set_option maxHeartbeats 1000000 in
theorem newList_c (ts : List Tr) (xs : List Value) (ok : Nat → Prop) (r off cap : Nat) (w : World) (hv : FVs nI w ok ts xs) (hrow : hasRow w r off xs) (hok : ∀ k, ok k → k < w.heap.size) (hrl : r < w.heap.size) (hwf : wfs ts) (hb : bytess ts ≤ 1000000000) (hcap : cap ≤ maxLen) (hcl : ts.length ≤ cap) :
    Calls Tryz.prog 69 #[.slice (some ⟨r, off, none⟩) ts.length cap] w fun e w' => e = .returned (.agg (nI (.list ts) (.slice (some ⟨r, off, none⟩) ts.length cap)).toArray) ∧ Below w.heap.size w w' := by
  have hlen := length_le_bytess ts
  go_enter Tryz.func69, Tryz.ntmps69
  go_wp2_with fail
  go_loopg [10] ts.length (fun m i wr => ∃ k : Nat, m + k = ts.length ∧ i = .int .i64 k ∧ Below w.heap.size w wr ∧
    wr.heap[w.heap.size]? = some (.cells #[.string ⟨#[]⟩, .slice none 0 0, .int .i64 0, .int .i64 0, .int .i64 0] 55 (0, 0)) ∧
    wr.heap[w.heap.size + 1]? = some (.cells #[.string ⟨#[]⟩, .slice (some ⟨r, off, none⟩) ts.length cap, .int .i64 (1 + bytess (ts.take k) : Nat), .int .i64 (sizes (ts.take k)), .int .i64 (depths (ts.take k))] 55 (0, 0)))
  case atStart => exact ⟨0, by omega, rfl, below2 _ _ _, by rw [heap_alloc_old (h := by simp)]; exact heap_alloc_new _ _, by simpa [bytess, sizes, depths] using heap_alloc_new2 w _ _⟩
  case round =>
    obtain ⟨k, hm, rfl, hbl, hb0, hb1⟩ := hrel
    have l0 := cell_of (j := 0) hb1
    have l1 := cell_of (j := 1) hb1
    have l2 := cell_of (j := 2) hb1
    have l3 := cell_of (j := 3) hb1
    have l4 := cell_of (j := 4) hb1
    have g0 := free_of (j := 0) hb1
    have g1 := free_of (j := 1) hb1
    have g2 := free_of (j := 2) hb1
    have g3 := free_of (j := 3) hb1
    have g4 := free_of (j := 4) hb1
    have m0 := cell_of (j := 0) hb0
    have m1 := cell_of (j := 1) hb0
    have m2 := cell_of (j := 2) hb0
    have m3 := cell_of (j := 3) hb0
    have m4 := cell_of (j := 4) hb0
    have n0 := free_of (j := 0) hb0
    have n1 := free_of (j := 1) hb0
    have n2 := free_of (j := 2) hb0
    have n3 := free_of (j := 3) hb0
    have n4 := free_of (j := 4) hb0
    have hsz := lt_of_block hb1
    have s0 := sizes_le _ hwf
    have s1 := sizes_take_le ts k
    have s2 := bytess_take_le ts k
    have s3 := depths_take_le ts k
    have s4 := depths_le _ hwf
    by_cases hlt : k < ts.length
    · obtain ⟨cs, q1, q2⟩ := FVs.get nI_len hv hrow k hlt
      obtain ⟨p, pn, pc, rfl⟩ := q1.node
      have e0 : wr.cell? ⟨r, off + k * 5, none⟩ = some (.string (bs (atomOf ts[k]))) := by rw [hbl.cell (by exact hrl)]; exact q2 0 _ rfl
      have e1 : wr.cell? ⟨r, off + k * 5 + 1, none⟩ = some (.slice p pn pc) := by rw [hbl.cell (by exact hrl)]; exact q2 1 _ rfl
      have e2 : wr.cell? ⟨r, off + k * 5 + 2, none⟩ = some (.int .i64 ts[k].bytes) := by rw [hbl.cell (by exact hrl)]; exact q2 2 _ rfl
      have e3 : wr.cell? ⟨r, off + k * 5 + 3, none⟩ = some (.int .i64 ts[k].size) := by rw [hbl.cell (by exact hrl)]; exact q2 3 _ rfl
      have e4 : wr.cell? ⟨r, off + k * 5 + 4, none⟩ = some (.int .i64 ts[k].depth) := by rw [hbl.cell (by exact hrl)]; exact q2 4 _ rfl
      have hw := wf_get hwf hlt
      have s5 := (size_le _ hw).1
      have s6 := depth_le _ hw
      have s7 := bytess_take ts k hlt
      have s8 := bytess_take_le ts (k + 1)
      have s9 : ts[k].bytes ≤ 1000000000 := by omega
      have T1 := Lib.hid (sizes_take ts k hlt)
      have T2 := Lib.hid s7
      have T3 := Lib.hid (depths_take ts k hlt)
      have A2 : ((1 + bytess (ts.take (k + 1)) : Nat) : Int) = 1 + (bytess (ts.take k) : Int) + (1 + (ts[k].bytes : Int)) := by rw [s7]; omega
      have A3 : (sizes (ts.take (k + 1)) : Int) = (sizes (ts.take k) : Int) + (ts[k].size : Int) := by rw [T1.out]; omega
      have A4 : (depths (ts.take (k + 1)) : Int) = if (depths (ts.take k) : Int) < 1 + ts[k].depth then 1 + (ts[k].depth : Int) else (depths (ts.take k) : Int) := by rw [T3.out]; split <;> omega
      have A2 := Lib.hid A2
      have A3 := Lib.hid A3
      have A4 := Lib.hid A4
      clear s7
      go_wp2_with fail
      all_goals
        go_roundg (gk - 1)
        case measure => omega
        case rel =>
          refine ⟨k + 1, by omega, by go_num, ((((hbl.setCell (by simp) _).setCell (by simp) _).setCell (by simp) _).alloc (by simp; omega) _), ?_, ?_⟩
          · exact blk_alloc (by rw [blk_set_other _ (by simp), blk_set_other _ (by simp), blk_set_other _ (by simp)]; exact hb0)
          · first | rw [A2.out, A3.out, A4.out, if_pos (by assumption)] | rw [A2.out, A3.out, A4.out, if_neg (by omega)]
            exact blk_alloc (blk_set (blk_set (blk_set hb1 _) _) _)
    · have : k = ts.length := by omega
      subst this
      go_wp2_with fail
      refine bodyPost_ret (v := .agg (nI (.list ts) (.slice (some ⟨r, off, none⟩) ts.length cap)).toArray) (by simp [results, Tryz.results69, go_sem, m0, m1, m2, m3, m4, nI, atomOf, bs, Tr.bytes, Tr.size, Tr.depth]) rfl ⟨rfl, ?_⟩
      exact ((((hbl.setCell (by simp) _).setCell (by simp) _).setCell (by simp) _).setCell (by simp) _).setCell (by simp) _
end Go.Proofs.YtlinjnflhpldfaaGreatDoor
