/- The reference's draws: opening a code, picking a number. -/
import Derived.Test.YtldjdefbbabnnaaDoorOnly
import Derived.BigQuiet
namespace Go.Proofs.YtldjdefbbabnnaaDoor
open Go.RowKit
set_option maxRecDepth 8000
set_option linter.unusedSimpArgs false
set_option linter.unusedVariables false
/-- The bytes of a code. -/
def BRow (w : World) (a : Option Addr) (L c : Nat) (zs : List Int) : Prop :=
  L = 0 ∨ ∃ b off, a = some ⟨b, off, none⟩ ∧ b < w.heap.size ∧ L ≤ zs.length ∧ L ≤ c ∧ c ≤ maxLen ∧ (∀ i, i < L → w.cell? ⟨b, off + i, none⟩ = some (.int .u8 (zs.getD i 0))) ∧ ∀ i, 0 ≤ zs.getD i 0 ∧ zs.getD i 0 ≤ 255
theorem BRow.below {w w' : World} {a : Option Addr} {L c : Nat} {zs : List Int} (h : BRow w a L c zs) (hb : Below w.heap.size w w') : BRow w' a L c zs := by
  rcases h with h | ⟨b, off, rfl, h1, h2, h3, h4, h5, h6⟩
  · exact .inl h
  · exact .inr ⟨b, off, rfl, Nat.lt_of_lt_of_le h1 hb.size, h2, h3, h4, fun i hi => (hb.cell (p := ⟨b, off + i, none⟩) h1).trans (h5 i hi), h6⟩
theorem BRow.only {w w' : World} {q : Nat} {a : Option Addr} {L c : Nat} {zs : List Int} (h : BRow w a L c zs) (hb : Only q w w') (hq0 : L = 0 ∨ ∀ x, a = some x → x.block ≠ q) : BRow w' a L c zs := by
  rcases hq0 with hq0 | hq
  · exact .inl hq0
  rcases h with h | ⟨b, off, rfl, h1, h2, h3, h4, h5, h6⟩
  · exact .inl h
  · exact .inr ⟨b, off, rfl, Nat.lt_of_lt_of_le h1 hb.size, h2, h3, h4, fun i hi => (hb.cell (p := ⟨b, off + i, none⟩) h1 (hq ⟨b, off, none⟩ rfl)).trans (h5 i hi), h6⟩
theorem BRow.bound {w : World} {a : Option Addr} {L c : Nat} {zs : List Int} (h : BRow w a L c zs) : L ≤ 9223372036854775807 := by
  rcases h with h | ⟨b, off, rfl, h1, h2, h3, h4, h5, h6⟩
  · omega
  · have := maxLen_le h4; omega
/-- The reader of a code, in block q, behind p picks. -/
def RdD (w : World) (q : Nat) (a : Option Addr) (L c p : Nat) : Prop := w.heap[q]? = some (.cells #[.slice a L c, .int .i64 p] 41 (0, 0))
/-- A reader, its bytes with it. -/
structure Rd (w : World) (q : Nat) (a : Option Addr) (L c p : Nat) (zs : List Int) : Prop where
  blk : RdD w q a L c p
  row : BRow w a L c zs
  ne : L = 0 ∨ ∀ x, a = some x → x.block ≠ q
  len : L ≤ 2000
theorem Rd.below {w w' : World} {q : Nat} {a : Option Addr} {L c p : Nat} {zs : List Int} (h : Rd w q a L c p zs) (hb : Below w.heap.size w w') : Rd w' q a L c p zs :=
  ⟨below_blk hb (lt_of_block h.blk) h.blk, h.row.below hb, h.ne, h.len⟩
theorem xor_i64 (a b : Nat) (ha : a < 2 ^ 62) (hb : b < 2 ^ 62) : bits .xor .i64 (a : Int) (b : Int) = ((a ^^^ b : Nat) : Int) := by
  have hx : a ^^^ b < 2 ^ 62 := Nat.xor_lt_two_pow ha hb
  have h1 : (BitVec.ofInt 64 (a : Int)).toNat = a := by
    rw [BitVec.ofInt_natCast, BitVec.toNat_ofNat]; exact Nat.mod_eq_of_lt (by omega)
  have h2 : (BitVec.ofInt 64 (b : Int)).toNat = b := by
    rw [BitVec.ofInt_natCast, BitVec.toNat_ofNat]; exact Nat.mod_eq_of_lt (by omega)
  show IntKind.i64.wrap ((BitVec.ofInt 64 (a : Int) ^^^ BitVec.ofInt 64 (b : Int)).toNat : Int) = _
  rw [BitVec.toNat_xor, h1, h2, IntKind.wrap_i64]
  omega
/-- What a pick leaves. -/
def PickPost (q : Nat) (a : Option Addr) (L c p : Nat) (n : Int) (w : World) (e : Ending) (w' : World) : Prop := (∃ r : Int, e = .returned (.int .i64 r) ∧ 0 ≤ r ∧ (r < n ∨ r = 0)) ∧ RdD w' q a L c (p + 1) ∧ Only q w w'
theorem rd_set {w : World} {q : Nat} {a : Option Addr} {L c p : Nat} (h : RdD w q a L c p) : RdD (w.setCell ⟨q, 1, none⟩ (.int .i64 ((p : Int) + 1))) q a L c (p + 1) := by
  have := blk_set (j := 1) h (.int .i64 ((p : Int) + 1))
  exact this
set_option maxHeartbeats 4000000 in
theorem pick_c (q : Nat) (a : Option Addr) (L c p : Nat) (zs : List Int) (n : Int) (w : World) (h : Rd w q a L c p zs) (hp : p ≤ 1000000) (hn : n ≤ 1000000) :
    Calls Tryd.prog 10 #[.pointer (some ⟨q, 0, none⟩), .int .i64 n] w fun e w' => PickPost q a L c p n w e w' := by
  have hblk : w.heap[q]? = some (.cells #[.slice a L c, .int .i64 p] 41 (0, 0)) := h.blk
  have r0 := cell_of (j := 0) hblk
  have r1 := cell_of (j := 1) hblk
  have f1 := free_of (j := 1) hblk
  have hL := h.len
  have HS := Lib.hid (rd_set h.blk)
  have w1 : IntKind.i64.wrap ((p : Int) + 1) = (p : Int) + 1 := by rw [IntKind.wrap_i64]; omega
  have w2 : IntKind.i64.wrap ((p : Int) + 1 - 1) = (p : Int) := by rw [IntKind.wrap_i64]; omega
  have HO := Lib.hid ((Only.refl q w).set (p := ⟨q, 1, none⟩) rfl (.int .i64 ((p : Int) + 1)))
  by_cases h1 : n < 1
  · go_enter Tryd.func10, Tryd.ntmps10
    go_wp2_with fail
    go_ret
    exact ⟨⟨0, rfl, by omega, by omega⟩, HS.out, HO.out⟩
  · have hd : decide (n < 1) = false := decide_eq_false h1
    rcases h.row with rfl | ⟨b, off, rfl, hb, hz, hLc, hcm, hcell, hrange⟩
    · go_enter Tryd.func10, Tryd.ntmps10
      go_wp2_with fail
      go_ret
      exact ⟨⟨0, rfl, by omega, by omega⟩, HS.out, HO.out⟩
    · by_cases h0 : L = 0
      · subst h0
        go_enter Tryd.func10, Tryd.ntmps10
        go_wp2_with fail
        go_ret
        exact ⟨⟨0, rfl, by omega, by omega⟩, HS.out, HO.out⟩
      · have hbq := h.ne.resolve_left h0 _ rfl
        have hL0 : ¬ (L : Int) = 0 := by omega
        have hL1 : ((L : Int) == 0) = false := by simp; omega
        by_cases hlt : p < L
        · have hltI : (p : Int) < (L : Int) := by omega
          have x0 : (w.setCell ⟨q, 1, none⟩ (.int .i64 ((p : Int) + 1))).cell? ⟨b, off + p, none⟩ = some (.int .u8 (zs.getD p 0)) := by
            rw [HO.out.cell (p := ⟨b, off + p, none⟩) hb hbq]; exact hcell p hlt
          have hu := hrange p
          have hp0 : (0 : Int) ≤ (p : Int) := by omega
          obtain ⟨u, hu9⟩ : ∃ u, u = zs.getD p 0 := ⟨_, rfl⟩
          rw [← hu9] at x0 hu
          have w3 : IntKind.i64.wrap u = u := by rw [IntKind.wrap_i64]; omega
          have hrem : u.tmod n = u % n := Int.tmod_eq_emod_of_nonneg hu.1
          have hr0 : 0 ≤ u % n := Int.emod_nonneg _ (by omega)
          have hr1 : u % n < n := Int.emod_lt_of_pos _ (by omega)
          have w4 : IntKind.i64.wrap (u % n) = u % n := by rw [IntKind.wrap_i64]; omega
          have hnz : ¬ n = 0 := by omega
          clear hcell hrange h hz hu9
          go_enter Tryd.func10, Tryd.ntmps10
          go_wp2_with fail
          go_ret
          exact ⟨⟨u % n, ret_int (by first | rfl | simp), hr0, .inl hr1⟩, HS.out, HO.out⟩
        · have hltI : ¬ (p : Int) < (L : Int) := by omega
          obtain ⟨j1, hj1⟩ : ∃ j, j = p % L := ⟨_, rfl⟩
          obtain ⟨j2, hj2⟩ : ∃ j, j = (p * 7 + 3) % L := ⟨_, rfl⟩
          obtain ⟨d, hd9⟩ : ∃ d, d = p / L := ⟨_, rfl⟩
          have l1 : j1 < L := by rw [hj1]; exact Nat.mod_lt _ (by omega)
          have l2 : j2 < L := by rw [hj2]; exact Nat.mod_lt _ (by omega)
          have l3 : d ≤ 1000000 := by rw [hd9]; exact Nat.le_trans (Nat.div_le_self _ _) hp
          have E1 : (p : Int).tmod (L : Int) = (j1 : Int) := by rw [hj1, Int.tmod_eq_emod_of_nonneg (by omega)]; simp
          have E2 : ((p : Int) * 7 + 3).tmod (L : Int) = (j2 : Int) := by rw [hj2, Int.tmod_eq_emod_of_nonneg (by omega)]; simp
          have E3 : (p : Int).tdiv (L : Int) = (d : Int) := by rw [hd9, Int.tdiv_eq_ediv_of_nonneg (by omega)]; simp
          have x1 : (w.setCell ⟨q, 1, none⟩ (.int .i64 ((p : Int) + 1))).cell? ⟨b, off + j1, none⟩ = some (.int .u8 (zs.getD j1 0)) := by
            rw [HO.out.cell (p := ⟨b, off + j1, none⟩) hb hbq]; exact hcell j1 l1
          have x2 : (w.setCell ⟨q, 1, none⟩ (.int .i64 ((p : Int) + 1))).cell? ⟨b, off + j2, none⟩ = some (.int .u8 (zs.getD j2 0)) := by
            rw [HO.out.cell (p := ⟨b, off + j2, none⟩) hb hbq]; exact hcell j2 l2
          have hu1 := hrange j1
          have hu2 := hrange j2
          obtain ⟨u1, hv1⟩ : ∃ u, u = zs.getD j1 0 := ⟨_, rfl⟩
          obtain ⟨u2, hv2⟩ : ∃ u, u = zs.getD j2 0 := ⟨_, rfl⟩
          rw [← hv1] at x1 hu1
          rw [← hv2] at x2 hu2
          have a1 : IntKind.i64.wrap u1 = u1 := by rw [IntKind.wrap_i64]; omega
          have a2 : IntKind.i64.wrap u2 = u2 := by rw [IntKind.wrap_i64]; omega
          have a3 : IntKind.i64.wrap (u1 * 131) = u1 * 131 := by rw [IntKind.wrap_i64]; omega
          have a4 : IntKind.i64.wrap (u2 * 1117) = u2 * 1117 := by rw [IntKind.wrap_i64]; omega
          have a5 : IntKind.i64.wrap ((p : Int) * 7) = (p : Int) * 7 := by rw [IntKind.wrap_i64]; omega
          have a6 : IntKind.i64.wrap ((p : Int) * 7 + 3) = (p : Int) * 7 + 3 := by rw [IntKind.wrap_i64]; omega
          have a7 : IntKind.i64.wrap (u1 * 131 + u2 * 1117) = u1 * 131 + u2 * 1117 := by rw [IntKind.wrap_i64]; omega
          have a8 : IntKind.i64.wrap ((p : Int) * 29) = (p : Int) * 29 := by rw [IntKind.wrap_i64]; omega
          have a9 : IntKind.i64.wrap (u1 * 131 + u2 * 1117 + (p : Int) * 29) = u1 * 131 + u2 * 1117 + (p : Int) * 29 := by rw [IntKind.wrap_i64]; omega
          have b1 : IntKind.i64.wrap ((d : Int) * 53) = (d : Int) * 53 := by rw [IntKind.wrap_i64]; omega
          have b2 : IntKind.i64.wrap (u1 * 131 + u2 * 1117 + (p : Int) * 29 + (d : Int) * 53) = u1 * 131 + u2 * 1117 + (p : Int) * 29 + (d : Int) * 53 := by rw [IntKind.wrap_i64]; omega
          have b3 : IntKind.i64.wrap (j1 : Int) = (j1 : Int) := by rw [IntKind.wrap_i64]; omega
          have b4 : IntKind.i64.wrap (j2 : Int) = (j2 : Int) := by rw [IntKind.wrap_i64]; omega
          have b5 : IntKind.i64.wrap (d : Int) = (d : Int) := by rw [IntKind.wrap_i64]; omega
          have i1 : (0 : Int) ≤ (j1 : Int) := by omega
          have i2 : (0 : Int) ≤ (j2 : Int) := by omega
          have i3 : (j1 : Int) < (L : Int) := by omega
          have i4 : (j2 : Int) < (L : Int) := by omega
          obtain ⟨X, hX⟩ : ∃ X : Nat, u1 * 131 + u2 * 1117 + (p : Int) * 29 + (d : Int) * 53 = (X : Int) := ⟨(u1 * 131 + u2 * 1117 + (p : Int) * 29 + (d : Int) * 53).toNat, by omega⟩
          have hX2 : X ≤ 1000000000 := by omega
          have HX := Lib.hid hX
          have hxr := xor_i64 X (X / 64) (by omega) (by omega)
          have hq1 : ((X / 64 : Nat) : Int) = (X : Int) / 64 := by simp
          obtain ⟨Y, hY⟩ : ∃ Y, Y = X ^^^ X / 64 := ⟨_, rfl⟩
          rw [← hY, hq1] at hxr
          clear hq1
          have hY2 : Y < 2 ^ 30 := by rw [hY]; exact Nat.xor_lt_two_pow (by omega) (by omega)
          have hrem : (Y : Int).tmod n = (Y : Int) % n := Int.tmod_eq_emod_of_nonneg (by omega)
          have hr0 : 0 ≤ (Y : Int) % n := Int.emod_nonneg _ (by omega)
          have hr1 : (Y : Int) % n < n := Int.emod_lt_of_pos _ (by omega)
          have w4 : IntKind.i64.wrap ((Y : Int) % n) = (Y : Int) % n := by rw [IntKind.wrap_i64]; omega
          have hnz : ¬ n = 0 := by omega
          clear hX hcell hrange h hz hv1 hv2 hj1 hj2 hd9 hY hu1 hu2
          go_enter Tryd.func10, Tryd.ntmps10
          go_wp2_with fail
          go_quiet (fail)
          rw [HX.out]
          go_wp2_with fail
          go_ret
          exact ⟨⟨(Y : Int) % n, ret_int (by first | rfl | rw [hxr, hrem]), hr0, .inl hr1⟩, HS.out, HO.out.next ⟨rfl, rfl, rfl, Nat.le_refl _, fun _ _ => rfl⟩⟩
set_option maxHeartbeats 1000000 in
theorem l6Open_c (a : Option Addr) (L c : Nat) (zs : List Int) (w : World) (hr : BRow w a L c zs) :
    Calls Tryd.prog 9 #[.slice a L c] w fun e w' => e = .returned (.pointer (some ⟨w.heap.size, 0, none⟩)) ∧ (∃ L' c', Rd w' w.heap.size a L' c' 0 zs) ∧ Below w.heap.size w w' := by
  have hr2 := hr
  rcases hr with rfl | ⟨b, off, rfl, hb, hz, hLc, hcm, hcell, hrange⟩
  · go_enter Tryd.func9, Tryd.ntmps9
    go_wp2_with fail
    go_ret
    exact ⟨rfl, ⟨0, _, heap_alloc_new _ _, .inl rfl, .inl rfl, by omega⟩, below1 _ _⟩
  · have hm := maxLen_le hcm
    by_cases h2 : (L : Int) > 2000
    · have hk : (2000 : Int) ≤ (c : Int) := by omega
      go_enter Tryd.func9, Tryd.ntmps9
      go_wp2_with fail
      go_ret
      exact ⟨rfl, ⟨2000, _, heap_alloc_new _ _, BRow.below (.inr ⟨b, off, rfl, hb, by omega, by omega, hcm, fun i hi => hcell i (by omega), hrange⟩) (below1 _ _), .inr (fun x hx => by cases hx; exact Nat.ne_of_lt hb), by omega⟩, below1 _ _⟩
    · have h3 : decide ((L : Int) > 2000) = false := decide_eq_false h2
      go_enter Tryd.func9, Tryd.ntmps9
      go_wp2_with fail
      go_ret
      exact ⟨rfl, ⟨L, _, heap_alloc_new _ _, hr2.below (below1 _ _), .inr (fun x hx => by cases hx; exact Nat.ne_of_lt hb), by omega⟩, below1 _ _⟩
/-- A code that came in: its bytes. -/
theorem brow_in {W : World} {a : Option Addr} {L c : Nat} {zs : List Int} (h : (a = none ∧ L = 0) ∨ ∃ x, a = some x ∧ L ≤ c ∧ c ≤ maxLen ∧ zs.length = c ∧ (∀ i, i < zs.length → W.cell? (x.add i) = some (.int .u8 (zs.getD i 0))) ∧ ∀ n ∈ zs, (Lit.int .u8 n).wf = true) : BRow W a L c zs := by
  rcases h with ⟨rfl, rfl⟩ | ⟨x, rfl, h1, h2, h3, h4, h5⟩
  · exact .inl rfl
  · by_cases h0 : L = 0
    · exact .inl h0
    · obtain ⟨b, off, spot⟩ := x
      have hc := h4 0 (by omega)
      have hspot : spot = none := by simpa [Addr.add] using World.cell?_spot hc
      subst hspot
      refine .inr ⟨b, off, rfl, ?_, by omega, h1, h2, fun i hi => by
        have e : (⟨b, off, none⟩ : Addr).add i = ⟨b, off + i, none⟩ := by unfold Addr.add; split <;> simp_all
        rw [← e]; exact h4 i (by omega), fun i => ?_⟩
      · have := World.block_lt_of_cell? _ _ hc
        simpa [Addr.add] using this
      · by_cases hi : i < zs.length
        · have h6 := h5 (zs.getD i 0) (by rw [List.getD_eq_getElem?_getD, List.getElem?_eq_getElem hi]; exact List.getElem_mem hi)
          simp only [Lit.wf, Bool.and_eq_true, decide_eq_true_eq] at h6
          have e1 : IntKind.u8.min = 0 := by decide
          have e2 : IntKind.u8.max = 255 := by decide
          omega
        · rw [List.getD_eq_getElem?_getD, List.getElem?_eq_none (by omega)]
          simp
end Go.Proofs.YtldjdefbbabnnaaDoor
