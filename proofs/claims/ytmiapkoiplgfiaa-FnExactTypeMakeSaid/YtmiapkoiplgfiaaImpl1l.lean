/- The program makes types. -/
import Derived.Test.YtmiapkoiplgfiaaImpl1k
import Derived.Test.YtmiapkoiplgfiaaNodes
import Derived.Test.YtmiapkoiplgfiaaPure3
import Derived.Deep.RegionHeld3
import Derived.Deep.DrawnRows
import Derived.Deep.DeepCutAuto
namespace Go.Proofs.Ytmiapkoiplgfiaa
open Go.RowKit
set_option linter.unusedSimpArgs false
set_option linter.unusedVariables false
attribute [local go_sem ↓] Go.wp_at_zero Go.wp_at_succ
theorem KA {wx : World} {S : World → Prop} (K : ∀ W, Below wx.heap.size wx W → S W) {W : World} {o : Obj} (h : Below wx.heap.size wx W) : S (W.alloc o) := K _ (h.alloc h.size o)
theorem KS5 {wx : World} {S : World → Prop} (K : ∀ W, Below wx.heap.size wx W → S W) {W : World} {b : Nat} {v0 v1 v2 v3 v4 : Value} (h : Below wx.heap.size wx W) (hb : wx.heap.size ≤ b) : S (((((W.setCell ⟨b, 0, none⟩ v0).setCell ⟨b, 1, none⟩ v1).setCell ⟨b, 2, none⟩ v2).setCell ⟨b, 3, none⟩ v3).setCell ⟨b, 4, none⟩ v4) := K _ (set5 h hb _ _ _ _ _)
theorem one_more (w : World) (a : Obj) : w.heap.size < (w.alloc a).heap.size := by simp only [alloc_size]; omega
theorem two_more (w : World) (a b : Obj) : w.heap.size < ((w.alloc a).alloc b).heap.size := by simp only [alloc_size]; omega
theorem one_two (w : World) (a b : Obj) : w.heap.size + 1 < ((w.alloc a).alloc b).heap.size := by simp only [alloc_size]; omega
theorem row_of {w : World} {b : Nat} {cs : Array Value} {t : TypeId} (h : w.heap[b]? = some (.cells cs t (0, 0))) : hasRow w b 0 cs.toList := by
  intro j v hj
  rw [cell_of h]; simpa using hj
theorem lt_of_row {w : World} {r : Nat} {x : Value} {xs : List Value} (h : hasRow w r 0 (x :: xs)) : r < w.heap.size := World.block_lt_of_cell? w ⟨r, 0 + 0, none⟩ (h 0 x rfl)
theorem set5_other {w' : World} {b q : Nat} (h : q ≠ b) (v0 v1 v2 v3 v4 : Value) : (((((w'.setCell ⟨b, 0, none⟩ v0).setCell ⟨b, 1, none⟩ v1).setCell ⟨b, 2, none⟩ v2).setCell ⟨b, 3, none⟩ v3).setCell ⟨b, 4, none⟩ v4).heap[q]? = w'.heap[q]? := by
  rw [blk_set_other _ (by simpa using h), blk_set_other _ (by simpa using h), blk_set_other _ (by simpa using h), blk_set_other _ (by simpa using h), blk_set_other _ (by simpa using h)]
theorem set5_same {w : World} {b : Nat} {x0 x1 x2 x3 x4 : Value} {t : TypeId} (h : w.heap[b]? = some (.cells #[x0, x1, x2, x3, x4] t (0, 0))) (v0 v1 v2 v3 v4 : Value) : (((((w.setCell ⟨b, 0, none⟩ v0).setCell ⟨b, 1, none⟩ v1).setCell ⟨b, 2, none⟩ v2).setCell ⟨b, 3, none⟩ v3).setCell ⟨b, 4, none⟩ v4).heap[b]? = some (.cells #[v0, v1, v2, v3, v4] t (0, 0)) := by
  have h0 := blk_set (j := 0) h v0
  have h1 := blk_set (j := 1) h0 v1
  have h2 := blk_set (j := 2) h1 v2
  have h3 := blk_set (j := 3) h2 v3
  have h4 := blk_set (j := 4) h3 v4
  simpa using h4
theorem made_row {W : World} {r lim : Nat} {h a b : Tr} {x y z : List Value} (hh : FV nI W (fun k => k < lim) h x) (ha : FV nI W (fun k => k < lim) a y) (hb : FV nI W (fun k => k < lim) b z) : FVs nI W (fun k => k < lim) [h, a, b] (x ++ (y ++ (z ++ []))) := by
  simp only [FVs]
  exact ⟨_, _, rfl, hh, _, _, rfl, ha, _, _, rfl, hb, rfl⟩
theorem made_whole {W : World} {r lim : Nat} {h a b : Tr} {xs : List Value} (hv : FVs nI W (fun k => k < lim) [h, a, b] xs) (hr : hasRow W r 0 xs) (hrl : r < W.heap.size) (hl : lim ≤ W.heap.size) :
    FV nI W (fun k => k < W.heap.size) (.list [h, a, b]) (nI (.list [h, a, b]) (.slice (some ⟨r, 0, none⟩) 3 3)) := by
  simp only [FV]
  exact ⟨r, 0, 3, xs, rfl, hrl, by simp, by decide, hr, FVs.move (fun k hk => by omega) (fun k hk => rfl) _ _ hv⟩

set_option maxHeartbeats 20000000 in
theorem implTypeMake_h (f : Bool) (c : UInt8) (hc : c = if f = true then 62 else 42) (a b : ByteArray) (ha : a.size ≤ 1048576) (hb : b.size ≤ 1048576) (w : World) :
    Calls Try.prog 31 #[.bool f, .string a, .string b] w fun e w' => MakePost (makeT c a.data.toList b.data.toList) e ∧ Below w.heap.size w w' := by
  have hcc : c = 62 ∨ c = 42 := by rw [hc]; split <;> simp
  have HC := Lib.hid hc
  clear hc
  cases h1 : readTy a.data.toList with
  | none =>
    have C1 := Lib.hid (readType_none ha h1)
    have HR := Lib.hid (makeT_left (c := c) b.data.toList h1)
    clear h1
    go_enter Try.func31, Try.ntmps31
    go_wp2_with (go_at_call 46; go_must (refine (C1.out _).mono ?_; rintro e w1 ⟨rfl, hb1⟩))
    go_ret2
    exact ⟨by rw [HR.out]; rfl, hb1.alloc hb1.size _⟩
  | some ta =>
    have C1 := Lib.hid (readType_some ha h1)
    obtain ⟨ua, a1, a2, a3, hua, ha1, ha2, ha3, hna⟩ := nI_named ta
    rw [← hua, ← ha1, ← ha2, ← ha3] at C1
    cases h2 : readTy b.data.toList with
    | none =>
      have C2 := Lib.hid (readType_none hb h2)
      have HR := Lib.hid (makeT_right (c := c) a.data.toList h2)
      clear h1 h2 hua ha1 ha2 ha3 hna
      go_enter Try.func31, Try.ntmps31
      go_wp2_with (go_at_call 46; first | ((with_reducible refine (C1.out _).mono ?_); rintro e w1 ⟨⟨p1, n1, c1, rfl, hv1⟩, hb1⟩; have hk1 := hb1.alloc hb1.size (.cells #[.string ua, .slice p1 n1 c1, .int .i64 a1, .int .i64 a2, .int .i64 a3] 41)) | ((with_reducible refine (C2.out _).mono ?_); rintro e w2 ⟨rfl, hb2⟩))
      go_ret2
      exact ⟨by rw [HR.out]; rfl, (hk1.trans (hb2.mono hk1.size)).alloc (by have := hb2.size; have := hk1.size; omega) _⟩
    | some tb =>
      have C2 := Lib.hid (readType_some hb h2)
      obtain ⟨ub, b1, b2, b3, hub, hb1', hb2', hb3', hnb⟩ := nI_named tb
      rw [← hub, ← hb1', ← hb2', ← hb3'] at C2
      obtain ⟨um, m1, m2, m3, -, hm1, hm2, hm3, hnm⟩ := nI_named (Tr.list [.atom [c], ta, tb])
      have hR0 := makeT_some (c := c) h1 h2
      have hga := readTy_got h1
      have hgb := readTy_got h2
      have hty := made_ty (c := c) hcc hga.2.2.2.2.1 hgb.2.2.2.2.1
      have hsm := isTy_small _ _ (Nat.le_refl _) hty
      have hsz3 : ta.size ≤ 16 ∧ tb.size ≤ 16 := ⟨hga.2.2.2.2.2, hgb.2.2.2.2.2⟩
      have hsz : (Tr.list [.atom [c], ta, tb]).size = 1 + ta.size + tb.size := by simp only [Tr.size, sizes]; omega
      have hbyt : bytess [.atom [c], ta, tb] ≤ 1000000000 := by have h9 := hsm.1; simp only [Tr.bytes] at h9; omega
      have TX : Hid (∀ (W : World) (r : Nat), FV nI W (fun k => k < W.heap.size) (Tr.list [.atom [c], ta, tb]) (nI (Tr.list [.atom [c], ta, tb]) (.slice (some ⟨r, 0, none⟩) 3 3)) → Calls Try.prog 36 #[.agg #[.string ⟨#[]⟩, .slice (some ⟨r, 0, none⟩) 3 3, .int .i64 m1, .int .i64 m2, .int .i64 m3]] W fun e w' => e = .returned (.string (bs (Tr.list [.atom [c], ta, tb]).text)) ∧ Below W.heap.size W w') :=
        Lib.hid (fun W r k1 => by rw [hm1, hm2, hm3]; exact text_c (Tr.list [.atom [c], ta, tb]) _ 3 3 _ W hsm.2.2 (by omega) k1 (fun k hk => hk))
      obtain ⟨v, hv⟩ : ∃ v, v = decide ((16 : Int) < m2) := ⟨_, rfl⟩
      have HR : Hid (makeT c a.data.toList b.data.toList = if v = true then none else some (Tr.list [.atom [c], ta, tb])) := Lib.hid (by
        rw [hR0, hv, hm2, hsz]
        by_cases q : 1 + ta.size + tb.size ≤ 16
        · rw [if_pos q, if_neg (by simp; omega)]
        · rw [if_neg q, if_pos (by simp; omega)])
      have Hv := Lib.hid hv
      have NLt : Hid (∀ (wx : World) (p1 p2 : Option Addr) (n1 c1 n2 c2 : Nat), FV nI wx (fun k => k < wx.heap.size) ta (nI ta (.slice p1 n1 c1)) → FV nI wx (fun k => k < wx.heap.size) tb (nI tb (.slice p2 n2 c2)) → ∀ X r, hasRow X r 0 (#[.string ⟨#[c]⟩, .slice none 0 0, .int .i64 1, .int .i64 1, .int .i64 0, .string ua, .slice p1 n1 c1, .int .i64 a1, .int .i64 a2, .int .i64 a3, .string ub, .slice p2 n2 c2, .int .i64 b1, .int .i64 b2, .int .i64 b3] : Array Value).toList → Below wx.heap.size wx X → Calls Try.prog 34 #[.slice (some ⟨r, 0, none⟩) 3 3] X fun e w'' => e = .returned (.agg #[.string ⟨#[]⟩, .slice (some ⟨r, 0, none⟩) 3 3, .int .i64 m1, .int .i64 m2, .int .i64 m3]) ∧ Below X.heap.size X w'') :=
        Lib.hid (fun wx p1 p2 n1 c1 n2 c2 k1 k2 X r hr hB => by
          have hfs := made_row (r := r) (h := .atom [c]) (x := nI (.atom [c]) (.slice none 0 0)) (by simp only [FV]) (k1.below hB (fun k hk => hk)) (k2.below hB (fun k hk => hk))
          have := newList_n 3 [.atom [c], ta, tb] rfl _ (fun k => k < wx.heap.size) r 3 X hfs (by rw [hna, hnb]; exact hr) (fun k hk => Nat.lt_of_lt_of_le hk hB.size) (lt_of_row hr) hsm.2.2.2 hbyt (by decide) (by decide)
          rw [hm1, hm2, hm3]
          exact this)
      have MW : Hid (∀ (wx : World) (p1 p2 : Option Addr) (n1 c1 n2 c2 : Nat), FV nI wx (fun k => k < wx.heap.size) ta (nI ta (.slice p1 n1 c1)) → FV nI wx (fun k => k < wx.heap.size) tb (nI tb (.slice p2 n2 c2)) → ∀ X r, hasRow X r 0 (#[.string ⟨#[c]⟩, .slice none 0 0, .int .i64 1, .int .i64 1, .int .i64 0, .string ua, .slice p1 n1 c1, .int .i64 a1, .int .i64 a2, .int .i64 a3, .string ub, .slice p2 n2 c2, .int .i64 b1, .int .i64 b2, .int .i64 b3] : Array Value).toList → Below wx.heap.size wx X → FV nI X (fun k => k < X.heap.size) (Tr.list [.atom [c], ta, tb]) (nI (Tr.list [.atom [c], ta, tb]) (.slice (some ⟨r, 0, none⟩) 3 3))) :=
        Lib.hid (fun wx p1 p2 n1 c1 n2 c2 k1 k2 X r hr hB => by
          have hfs := made_row (r := r) (h := .atom [c]) (x := nI (.atom [c]) (.slice none 0 0)) (by simp only [FV]) (k1.below hB (fun k hk => hk)) (k2.below hB (fun k hk => hk))
          exact made_whole hfs (by rw [hna, hnb]; exact hr) (lt_of_row hr) hB.size)
      have NAt : Hid (∀ X : World, Calls Try.prog 51 #[.string ⟨#[c]⟩] X fun e w' => e = .returned (.agg #[.string ⟨#[c]⟩, .slice none 0 0, .int .i64 1, .int .i64 1, .int .i64 0]) ∧ Below X.heap.size X w') := Lib.hid (fun X => newAtom_c ⟨#[c]⟩ X (show 1 ≤ 12000 by decide))
      clear h1 h2 hua ha1 ha2 ha3 hna hub hb1' hb2' hb3' hnb hm1 hm2 hm3 hnm hR0 hga hgb hty hsm hsz3 hsz hbyt hv
      go_enter Try.func31, Try.ntmps31
      go_upto_if 27 with (go_at_call 46; first | ((with_reducible refine (C1.out _).mono ?_); rintro e w1 ⟨⟨p1, n1, c1, rfl, hv1⟩, hb1⟩; have hk1 := hb1.alloc hb1.size (.cells #[.string ua, .slice p1 n1 c1, .int .i64 a1, .int .i64 a2, .int .i64 a3] 41); have hn1 := heap_alloc_new w1 (.cells #[.string ua, .slice p1 n1 c1, .int .i64 a1, .int .i64 a2, .int .i64 a3] 41)) | ((with_reducible refine (C2.out _).mono ?_); rintro e w2 ⟨⟨p2, n2, c2, rfl, hv2⟩, hb2⟩))
      have hs1 := hb1.size
      have hs2 := hb2.size
      have BW := Lib.hid ((hk1.trans (hb2.mono hk1.size)).alloc (by simp at hs2; omega) (.cells #[.string ub, .slice p2 n2 c2, .int .i64 b1, .int .i64 b2, .int .i64 b3] 41))
      have X8 := blk_alloc (o' := .cells #[.string ub, .slice p2 n2 c2, .int .i64 b1, .int .i64 b2, .int .i64 b3] 41) (below_blk hb2 (lt_of_block hn1) hn1)
      have X10 := heap_alloc_new w2 (.cells #[.string ub, .slice p2 n2 c2, .int .i64 b1, .int .i64 b2, .int .i64 b3] 41)
      have VA : Hid (FV nI (w2.alloc (.cells #[.string ub, .slice p2 n2 c2, .int .i64 b1, .int .i64 b2, .int .i64 b3] 41)) (fun k => k < (w2.alloc (.cells #[.string ub, .slice p2 n2 c2, .int .i64 b1, .int .i64 b2, .int .i64 b3] 41)).heap.size) ta (nI ta (.slice p1 n1 c1))) :=
        Lib.hid (((((hv1.below (below1 w1 (.cells #[.string ua, .slice p1 n1 c1, .int .i64 a1, .int .i64 a2, .int .i64 a3] 41)) (fun k hk => hk.2)).below hb2 (fun k hk => by simp; omega)).below (below1 w2 _) (fun k hk => by simp at hs2; omega))).wide (fun k hk => by simp at hs2 ⊢; omega))
      have VB : Hid (FV nI (w2.alloc (.cells #[.string ub, .slice p2 n2 c2, .int .i64 b1, .int .i64 b2, .int .i64 b3] 41)) (fun k => k < (w2.alloc (.cells #[.string ub, .slice p2 n2 c2, .int .i64 b1, .int .i64 b2, .int .i64 b3] 41)).heap.size) tb (nI tb (.slice p2 n2 c2))) :=
        Lib.hid ((hv2.below (below1 w2 _) (fun k hk => hk.2)).wide (fun k hk => by simp; omega))
      clear hk1 hb1 hb2 hv1 hv2 hn1 hs1 hs2
      generalize hwx : w2.alloc (.cells #[.string ub, .slice p2 n2 c2, .int .i64 b1, .int .i64 b2, .int .i64 b3] 41) = wx at *
      generalize w1.heap.size = b8 at *
      generalize w2.heap.size = b10 at *
      clear hwx
      have NLx := Lib.hid (NLt.out wx p1 p2 n1 c1 n2 c2 VA.out VB.out)
      have MWx := Lib.hid (MW.out wx p1 p2 n1 c1 n2 c2 VA.out VB.out)
      clear NLt MW C1 C2
      go_cut [11] (fun v W => v = .string ⟨#[c]⟩ ∧ wx = W)
      case first =>
        have hc := HC.out
        clear HC
        cases f
        · go_wp2_with fail
          go_meet
          exact ⟨by rw [hc]; rfl, rfl⟩
        · go_wp2_with fail
          go_meet
          exact ⟨by rw [hc]; rfl, rfl⟩
      case rest =>
      obtain ⟨rfl, rfl⟩ := hcut
      go_wp2_with fail
      go_cut [12] (fun v W => ∃ (b12 r : Nat), v = .pointer (some ⟨b12, 0, none⟩) ∧ W.heap[b12]? = some (.cells #[.string ⟨#[]⟩, .slice (some ⟨r, 0, none⟩) 3 3, .int .i64 m1, .int .i64 m2, .int .i64 m3] 41 (0, 0)) ∧ Hid (FV nI W (fun k => k < W.heap.size) (Tr.list [.atom [c], ta, tb]) (nI (Tr.list [.atom [c], ta, tb]) (.slice (some ⟨r, 0, none⟩) 3 3))) ∧ Hid (Below wx.heap.size wx W))
      case first =>
        have l8 := lt_of_block X8
        have l10 := lt_of_block X10
        have K : Hid (∀ W, Below wx.heap.size wx W → (fun W => Below wx.heap.size wx W ∧ (W.cell? ⟨b8, 0, none⟩ = some (.string ua) ∧ W.cell? ⟨b8, 1, none⟩ = some (.slice p1 n1 c1) ∧ W.cell? ⟨b8, 2, none⟩ = some (.int .i64 a1) ∧ W.cell? ⟨b8, 3, none⟩ = some (.int .i64 a2) ∧ W.cell? ⟨b8, 4, none⟩ = some (.int .i64 a3)) ∧ (W.cell? ⟨b10, 0, none⟩ = some (.string ub) ∧ W.cell? ⟨b10, 1, none⟩ = some (.slice p2 n2 c2) ∧ W.cell? ⟨b10, 2, none⟩ = some (.int .i64 b1) ∧ W.cell? ⟨b10, 3, none⟩ = some (.int .i64 b2) ∧ W.cell? ⟨b10, 4, none⟩ = some (.int .i64 b3))) W) := Lib.hid (fun W hW => ⟨hW, ⟨(hW.cell (p := ⟨b8, 0, none⟩) l8).trans (cell_of (j := 0) X8), (hW.cell (p := ⟨b8, 1, none⟩) l8).trans (cell_of (j := 1) X8), (hW.cell (p := ⟨b8, 2, none⟩) l8).trans (cell_of (j := 2) X8), (hW.cell (p := ⟨b8, 3, none⟩) l8).trans (cell_of (j := 3) X8), (hW.cell (p := ⟨b8, 4, none⟩) l8).trans (cell_of (j := 4) X8)⟩, (hW.cell (p := ⟨b10, 0, none⟩) l10).trans (cell_of (j := 0) X10), (hW.cell (p := ⟨b10, 1, none⟩) l10).trans (cell_of (j := 1) X10), (hW.cell (p := ⟨b10, 2, none⟩) l10).trans (cell_of (j := 2) X10), (hW.cell (p := ⟨b10, 3, none⟩) l10).trans (cell_of (j := 3) X10), (hW.cell (p := ⟨b10, 4, none⟩) l10).trans (cell_of (j := 4) X10)⟩)
        have S0 := Lib.hid (K.out _ ((Below.refl _ _).drew))
        clear X8 X10 VA VB TX HR Hv BW
        go_region_held3 (fun W => Below wx.heap.size wx W ∧ (W.cell? ⟨b8, 0, none⟩ = some (.string ua) ∧ W.cell? ⟨b8, 1, none⟩ = some (.slice p1 n1 c1) ∧ W.cell? ⟨b8, 2, none⟩ = some (.int .i64 a1) ∧ W.cell? ⟨b8, 3, none⟩ = some (.int .i64 a2) ∧ W.cell? ⟨b8, 4, none⟩ = some (.int .i64 a3)) ∧ (W.cell? ⟨b10, 0, none⟩ = some (.string ub) ∧ W.cell? ⟨b10, 1, none⟩ = some (.slice p2 n2 c2) ∧ W.cell? ⟨b10, 2, none⟩ = some (.int .i64 b1) ∧ W.cell? ⟨b10, 3, none⟩ = some (.int .i64 b2) ∧ W.cell? ⟨b10, 4, none⟩ = some (.int .i64 b3)))
          (first | exact S0.out | assumption | exact KA K.out (And.left (by assumption)) | exact KA K.out hS4.1 | exact KS5 K.out hS4.1 HB12 | fail)
          (first | (go_at_call 51; have hh := And.left (by assumption : Below wx.heap.size wx _ ∧ _); (refine (NAt.out _).mono ?_); rintro e w' ⟨rfl, hb9⟩; have hS2 := K.out _ (hh.trans (hb9.mono hh.size)); first | (have yz : w'.heap[wx.heap.size]? = some (.cells #[.string ⟨#[]⟩, .slice none 0 0, .int .i64 0, .int .i64 0, .int .i64 0] 41 (0, 0)) := below_blk hb9 (one_more wx.drew _) (heap_alloc_new wx.drew _)) | skip) | (go_at_call 34; have hh := And.left (by assumption : Below wx.heap.size wx _ ∧ _); (refine (NLx.out _ _ (by first | exact row_of (heap_alloc_new _ _) | exact row_of (blk_alloc (heap_alloc_new _ _)) | exact row_of (heap_alloc_new2 _ _ _)) hh).mono ?_); rintro e w4 ⟨rfl, hb4⟩; have hS4 := K.out _ (hh.trans (hb4.mono hh.size)); first | (have H := blk_alloc (o' := .cells #[.string ⟨#[c]⟩, .slice none 0 0, .int .i64 1, .int .i64 1, .int .i64 0, .string ua, .slice p1 n1 c1, .int .i64 a1, .int .i64 a2, .int .i64 a3, .string ub, .slice p2 n2 c2, .int .i64 b1, .int .i64 b2, .int .i64 b3] 41) yz; have y12 := below_blk hb4 (lt_of_block H) H; have hrow4 : hasRow w4 w'.heap.size 0 (#[.string ⟨#[c]⟩, .slice none 0 0, .int .i64 1, .int .i64 1, .int .i64 0, .string ua, .slice p1 n1 c1, .int .i64 a1, .int .i64 a2, .int .i64 a3, .string ub, .slice p2 n2 c2, .int .i64 b1, .int .i64 b2, .int .i64 b3] : Array Value).toList := (row_of (heap_alloc_new w' (.cells #[.string ⟨#[c]⟩, .slice none 0 0, .int .i64 1, .int .i64 1, .int .i64 0, .string ua, .slice p1 n1 c1, .int .i64 a1, .int .i64 a2, .int .i64 a3, .string ub, .slice p2 n2 c2, .int .i64 b1, .int .i64 b2, .int .i64 b3] 41))).move (hb4.block _ (one_more _ _)); clear H; have hne := Nat.ne_of_gt (lt_of_block yz); have HB12 := Nat.le_refl wx.heap.size; have d0 := cell_of (j := 0) y12; have d1 := cell_of (j := 1) y12; have d2 := cell_of (j := 2) y12; have d3 := cell_of (j := 3) y12; have d4 := cell_of (j := 4) y12; have g0 := free_of (j := 0) y12; have g1 := free_of (j := 1) y12; have g2 := free_of (j := 2) y12; have g3 := free_of (j := 3) y12; have g4 := free_of (j := 4) y12) | (have H := blk_alloc (o' := .cells #[.string ⟨#[c]⟩, .slice none 0 0, .int .i64 1, .int .i64 1, .int .i64 0, .string ua, .slice p1 n1 c1, .int .i64 a1, .int .i64 a2, .int .i64 a3, .string ub, .slice p2 n2 c2, .int .i64 b1, .int .i64 b2, .int .i64 b3] 41) (heap_alloc_new w' (.cells #[.string ⟨#[]⟩, .slice none 0 0, .int .i64 0, .int .i64 0, .int .i64 0] 41)); have y12 := below_blk hb4 (lt_of_block H) H; have hrow4 : hasRow w4 (w'.heap.size + 1) 0 (#[.string ⟨#[c]⟩, .slice none 0 0, .int .i64 1, .int .i64 1, .int .i64 0, .string ua, .slice p1 n1 c1, .int .i64 a1, .int .i64 a2, .int .i64 a3, .string ub, .slice p2 n2 c2, .int .i64 b1, .int .i64 b2, .int .i64 b3] : Array Value).toList := (row_of (heap_alloc_new2 w' (.cells #[.string ⟨#[]⟩, .slice none 0 0, .int .i64 0, .int .i64 0, .int .i64 0] 41) (.cells #[.string ⟨#[c]⟩, .slice none 0 0, .int .i64 1, .int .i64 1, .int .i64 0, .string ua, .slice p1 n1 c1, .int .i64 a1, .int .i64 a2, .int .i64 a3, .string ub, .slice p2 n2 c2, .int .i64 b1, .int .i64 b2, .int .i64 b3] 41))).move (hb4.block _ (one_two _ _ _)); clear H; have hne := Nat.succ_ne_self w'.heap.size; have HB12 := hS2.1.size; have d0 := cell_of (j := 0) y12; have d1 := cell_of (j := 1) y12; have d2 := cell_of (j := 2) y12; have d3 := cell_of (j := 3) y12; have d4 := cell_of (j := 4) y12; have g0 := free_of (j := 0) y12; have g1 := free_of (j := 1) y12; have g2 := free_of (j := 2) y12; have g3 := free_of (j := 3) y12; have g4 := free_of (j := 4) y12) | (have H := heap_alloc_new2 w' (.cells #[.string ⟨#[c]⟩, .slice none 0 0, .int .i64 1, .int .i64 1, .int .i64 0, .string ua, .slice p1 n1 c1, .int .i64 a1, .int .i64 a2, .int .i64 a3, .string ub, .slice p2 n2 c2, .int .i64 b1, .int .i64 b2, .int .i64 b3] 41) (.cells #[.string ⟨#[]⟩, .slice none 0 0, .int .i64 0, .int .i64 0, .int .i64 0] 41); have y12 := below_blk hb4 (lt_of_block H) H; have hrow4 : hasRow w4 w'.heap.size 0 (#[.string ⟨#[c]⟩, .slice none 0 0, .int .i64 1, .int .i64 1, .int .i64 0, .string ua, .slice p1 n1 c1, .int .i64 a1, .int .i64 a2, .int .i64 a3, .string ub, .slice p2 n2 c2, .int .i64 b1, .int .i64 b2, .int .i64 b3] : Array Value).toList := (row_of (blk_alloc (o' := .cells #[.string ⟨#[]⟩, .slice none 0 0, .int .i64 0, .int .i64 0, .int .i64 0] 41) (heap_alloc_new w' (.cells #[.string ⟨#[c]⟩, .slice none 0 0, .int .i64 1, .int .i64 1, .int .i64 0, .string ua, .slice p1 n1 c1, .int .i64 a1, .int .i64 a2, .int .i64 a3, .string ub, .slice p2 n2 c2, .int .i64 b1, .int .i64 b2, .int .i64 b3] 41)))).move (hb4.block _ (two_more _ _ _)); clear H; have hne := (Nat.succ_ne_self w'.heap.size).symm; have HB12 := Nat.le_succ_of_le hS2.1.size; have d0 := cell_of (j := 0) y12; have d1 := cell_of (j := 1) y12; have d2 := cell_of (j := 2) y12; have d3 := cell_of (j := 3) y12; have d4 := cell_of (j := 4) y12; have g0 := free_of (j := 0) y12; have g1 := free_of (j := 1) y12; have g2 := free_of (j := 2) y12; have g3 := free_of (j := 3) y12; have g4 := free_of (j := 4) y12) | (have hrow4 : hasRow w4 w'.heap.size 0 (#[.string ⟨#[c]⟩, .slice none 0 0, .int .i64 1, .int .i64 1, .int .i64 0, .string ua, .slice p1 n1 c1, .int .i64 a1, .int .i64 a2, .int .i64 a3, .string ub, .slice p2 n2 c2, .int .i64 b1, .int .i64 b2, .int .i64 b3] : Array Value).toList := (row_of (heap_alloc_new w' (.cells #[.string ⟨#[c]⟩, .slice none 0 0, .int .i64 1, .int .i64 1, .int .i64 0, .string ua, .slice p1 n1 c1, .int .i64 a1, .int .i64 a2, .int .i64 a3, .string ub, .slice p2 n2 c2, .int .i64 b1, .int .i64 b2, .int .i64 b3] 41))).move (hb4.block _ (one_more _ _)))) | fail)
        all_goals
          go_wp2_with fail
          go_meet
          first
            | exact ⟨_, _, rfl, set5_same y12 _ _ _ _ _, Lib.hid (MWx.out _ _ (hrow4.move (set5_other hne _ _ _ _ _)) (set5 hS4.1 HB12 _ _ _ _ _)), Lib.hid (set5 hS4.1 HB12 _ _ _ _ _)⟩
            | exact ⟨_, _, rfl, heap_alloc_new _ _, Lib.hid (MWx.out _ _ (hrow4.move (heap_alloc_old _ _ (lt_of_row hrow4))) (hS4.1.alloc hS4.1.size _)), Lib.hid (hS4.1.alloc hS4.1.size _)⟩
      case rest =>
        obtain ⟨b12, r, rfl, hb12, hfv, hbl⟩ := hcut
        have e0 := cell_of (j := 0) hb12
        have e1 := cell_of (j := 1) hb12
        have e2 := cell_of (j := 2) hb12
        have e3 := cell_of (j := 3) hb12
        have e4 := cell_of (j := 4) hb12
        clear X8 X10 VA VB NLx MWx NAt
        cases v with
        | true =>
          have hd : decide ((16 : Int) < m2) = true := Hv.out.symm
          clear TX
          go_wp2_with fail
          go_ret2
          exact ⟨by rw [HR.out]; rfl, BW.out.trans (hbl.out.mono BW.out.size)⟩
        | false =>
          have hd : decide ((16 : Int) < m2) = false := Hv.out.symm
          go_wp2_with (go_at_call 36; go_must (refine (TX.out _ r hfv.out).mono ?_; rintro e w9 ⟨rfl, hb9⟩))
          go_ret2
          exact ⟨by rw [HR.out]; rfl, (BW.out.trans (hbl.out.mono BW.out.size)).trans (hb9.mono (by have := hbl.out.size; have := BW.out.size; omega))⟩
end Go.Proofs.Ytmiapkoiplgfiaa
