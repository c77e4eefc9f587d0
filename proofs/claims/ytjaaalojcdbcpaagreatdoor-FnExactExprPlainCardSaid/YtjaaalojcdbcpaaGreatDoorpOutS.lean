/- The reference makes expressions plain: the copy that is written, from statement to statement. -/
import Derived.Test.YtjaaalojcdbcpaaGreatDoorpSpec2s
set_option maxHeartbeats 20000000
set_option linter.unusedVariables false
set_option linter.unusedSimpArgs false
namespace Go.Proofs.YtjaaalojcdbcpaaGreatDoor
open Go.RowKit Go.Proofs.Tryz
set_option maxRecDepth 8000
structure OutS (b B : Nat) (vf : Value) (w : World) (r off cap L g c1 O : Nat) (k : Nat) (ts : List Tr) (W : World) : Prop where
 b0 : W.heap[w.heap.size]? = some (.cells #[.string (bs []), .slice (some ⟨r, off, none⟩) L cap] 47 (0, 0))
 b2 : W.heap[w.heap.size + 1]? = some (.cells #[.string ⟨#[]⟩, .slice none 0 0] 47 (0, 0))
 b3 : W.heap[O]? = some (.cells #[.string ⟨#[]⟩, .slice (some ⟨g, 0, none⟩) L c1] 47 (0, 0))
 rn : RN W b vf k
 row : ∃ ys, W.ownsRow (w.heap.size + 2) 47 2 (.slice (some ⟨g, 0, none⟩) L c1) L ys ∧ FVs nS W (fun q => q < B ∨ (O < q ∧ q < W.heap.size)) ts ys
 on : Only b w W
 gO : g < O
 hO : w.heap.size + 1 < O
 Bb : B ≤ b
 bw : b < w.heap.size
 len : ts.length = L
section
variable {b B : Nat} {vf : Value} {w : World} {r off cap L g c1 O k : Nat} {ts : List Tr} {W W6 : World}
theorem OutS.gl (h : OutS b B vf w r off cap L g c1 O k ts W) : w.heap.size + 2 ≤ g ∧ g < W.heap.size := by
 obtain ⟨ys, h1, -⟩ := h.row
 have := h1.lt g rfl
 exact ⟨this.1, this.2⟩
theorem OutS.go (h : OutS b B vf w r off cap L g c1 O k ts W) (ho : Only b W W6) {k' : Nat} (hr : RN W6 b vf k') : OutS b B vf w r off cap L g c1 O k' ts W6 := by
 have hbw := h.bw
 have hBb := h.Bb
 have hO := h.hO
 have hgl := h.gl
 have hs := ho.size
 obtain ⟨ys, h1, h2⟩ := h.row
 refine ⟨ho.blk h.b0 (by omega), ho.blk h.b2 (by omega), ho.blk h.b3 (by omega), hr, ⟨ys, Z0e h1 ho (by omega), FVs.move (fun q hq => hq.imp id (fun h => ⟨h.1, by omega⟩)) (fun q hq => ho.block q (by have := lt_of_block h.b3; omega) (by omega)) _ _ h2⟩, h.on.trans ho, h.gO, h.hO, h.Bb, h.bw, h.len⟩
theorem OutS.set (h : OutS b B vf w r off cap L g c1 O k ts W) (ho : Only b W W6) {k' : Nat} (hr : RN W6 b vf k') {j : Nat} (hj : j < L) {t : Tr} {p : Option Addr} {m c : Nat} (hv : FV nS W6 (fun q => q < B ∨ (W.heap.size ≤ q ∧ q < W6.heap.size)) t (nS t (.slice p m c))) :
 OutS b B vf w r off cap L g c1 O k' (ts.set j t) ((W6.setCell ⟨g, j * 2, none⟩ (.string (bs (Z1 t)))).setCell ⟨g, j * 2 + 1, none⟩ (.slice p m c)) := by
 have h6 := h.go ho hr
 have hbw := h.bw
 have hBb := h.Bb
 have hO := h.hO
 have hgO := h.gO
 have hgl := h.gl
 have hs := ho.size
 have hOl := lt_of_block h.b3
 obtain ⟨ys, q1, q2⟩ := h6.row
 have hblk : ∀ q, q ≠ g → ((W6.setCell ⟨g, j * 2, none⟩ (.string (bs (Z1 t)))).setCell ⟨g, j * 2 + 1, none⟩ (.slice p m c)).heap[q]? = W6.heap[q]? := fun q hq => by
  rw [Z2 _ (by show q ≠ g; exact hq), Z2 _ (by show q ≠ g; exact hq)]
 refine ⟨?_, ?_, ?_, ?_, ⟨_, own_set q1 _ _ _, ?_⟩, ?_, h.gO, h.hO, h.Bb, h.bw, by rw [List.length_set]; exact h.len⟩
 · rw [hblk _ (by omega)]; exact h6.b0
 · rw [hblk _ (by omega)]; exact h6.b2
 · rw [hblk _ (by omega)]; exact h6.b3
 · unfold RN; rw [hblk _ (by omega)]; exact hr
 · refine FVs.setS (FVs.move (fun q hq => hq.imp id (fun h => ⟨h.1, by simp; omega⟩)) (fun q hq => hblk q (by omega)) _ _ q2) j (by rw [h.len]; exact hj) (FV.move (fun q hq => hq.imp id (fun h => ⟨by omega, by simp; omega⟩)) (fun q hq => hblk q ?_) _ _ hv)
   rcases hq with h | ⟨h, -⟩ <;> omega
 · exact (h6.on.setNew (by show w.heap.size ≤ g; omega) _).setNew (by show w.heap.size ≤ g; omega) _
theorem OutS.read (h : OutS b B vf w r off cap L g c1 O k ts W) : W.cell? ⟨O, 1, none⟩ = some (.slice (some ⟨g, 0, none⟩) L c1) ∧ W.cell? ⟨w.heap.size, 1, none⟩ = some (.slice (some ⟨r, off, none⟩) L cap) := ⟨Z8 h.b3, Z8 h.b0⟩
theorem OutS.keepS (h : OutS b B vf w r off cap L g c1 O k ts W) {j : Nat} (hj : j < L) : ∃ d0 d1, ∀ W', Only b W W' → W'.cell? ⟨O, 1, none⟩ = some (.slice (some ⟨g, 0, none⟩) L c1) ∧ W'.cell? ⟨w.heap.size, 1, none⟩ = some (.slice (some ⟨r, off, none⟩) L cap) ∧ W'.cell? ⟨g, j * 2, none⟩ = some d0 ∧ W'.cell? ⟨g, j * 2 + 1, none⟩ = some d1 ∧ W'.frozen? ⟨g, j * 2, none⟩ = false ∧ W'.frozen? ⟨g, j * 2 + 1, none⟩ = false := by
 have hbw := h.bw
 have hO := h.hO
 have hgl := h.gl
 obtain ⟨ys, h1, -⟩ := h.row
 obtain ⟨cur, hcur, hc0, hc1, hc2⟩ := own_row h1
 refine ⟨cur[j * 2], cur[j * 2 + 1], fun W' hW => ⟨Z8 (hW.blk h.b3 (by omega)), Z8 (hW.blk h.b0 (by omega)), ?_, ?_, Yg (hW.blk hcur (by omega)), Yg (hW.blk hcur (by omega))⟩⟩
 · exact (Z8 (hW.blk hcur (by omega))).trans (Array.getElem?_eq_getElem (by omega))
 · exact (Z8 (hW.blk hcur (by omega))).trans (Array.getElem?_eq_getElem (by omega))
theorem OutS.done {R : Ex × Nat} (h : OutS b B vf w r off cap L g c1 O k ts W) (hR : Z0 R.1 = .list ts) (hk : R.2 = k) {w' : World} (h1 : w'.heap.size = W.heap.size) (h2 : ∀ q, q ≠ w.heap.size + 1 → w'.heap[q]? = W.heap[q]?) (h3 : Only b w w') : PlR b B vf R w (.returned (.agg #[.string ⟨#[]⟩, .slice (some ⟨g, 0, none⟩) L c1])) w' := by
 have hbw := h.bw
 have hBb := h.Bb
 have hO := h.hO
 have hrn := h.rn
 obtain ⟨ys, q1, q2⟩ := h.row
 refine pl_done (O := O) (base := w.heap.size + 2) (rb := w.heap.size + 1) hR h.len (by omega) (by omega) q1 (by omega) (by omega) (by omega) q2 h1 h2 ?_ h3
 unfold RN
 rw [h2 b (by omega), hk]
 exact hrn
end
end Go.Proofs.YtjaaalojcdbcpaaGreatDoor
