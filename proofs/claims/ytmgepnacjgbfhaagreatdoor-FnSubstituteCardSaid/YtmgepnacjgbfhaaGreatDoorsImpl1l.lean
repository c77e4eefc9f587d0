/- The program makes types. -/
import Derived.Test.YtmgepnacjgbfhaaGreatDoorsImpl1k
import Derived.Test.YtmgepnacjgbfhaaGreatDoorsB1
import Derived.Deep.RegionHeld3
import Derived.Deep.DrawnRows
import Derived.Deep.DeepCutAuto
namespace Go.Proofs.YtmgepnacjgbfhaaGreatDoor
open Go.RowKit Go.Proofs.Tryz
set_option maxRecDepth 8000
set_option maxHeartbeats 20000000
set_option linter.unusedVariables false
set_option linter.unusedSimpArgs false
attribute [local go_sem ↓] Go.wp_at_zero Go.wp_at_succ
def Jn (c : UInt8) (ta tb : Tr) : Tr := .list [.atom [c], ta, tb]
theorem Z4n (c : UInt8) (ta tb : Tr) : (Jn c ta tb).size = 1 + ta.size + tb.size := by simp only [Jn, Tr.size, Xo]; omega
theorem Z6t (ok : Nat → Prop) (c : UInt8) (hcc : c = 62 ∨ c = 42) (ta tb : Tr) (hta : X5 ta = true) (hsa : ta.size ≤ 16) (htb : X5 tb = true) (hsb : tb.size ≤ 16) (ua ub : ByteArray) (a1 a2 a3 b1 b2 b3 m1 m2 m3 : Int) (p1 p2 : Option Addr) (n1 c1 n2 c2 : Nat) (w : World)
 (hna : ∀ v, nI ta v = [.string ua, v, .int .i64 a1, .int .i64 a2, .int .i64 a3]) (hnb : ∀ v, nI tb v = [.string ub, v, .int .i64 b1, .int .i64 b2, .int .i64 b3]) (hm1 : m1 = (Jn c ta tb).bytes) (hm2 : m2 = (Jn c ta tb).size) (hm3 : m3 = (Jn c ta tb).depth)
 (hok : ∀ k, ok k → k < w.heap.size) (hva : FV nI w ok ta (nI ta (.slice p1 n1 c1))) (hvb : FV nI w ok tb (nI tb (.slice p2 n2 c2))) :
 Calls prog 81 #[.string ⟨#[c]⟩, .agg #[.string ua, .slice p1 n1 c1, .int .i64 a1, .int .i64 a2, .int .i64 a3], .agg #[.string ub, .slice p2 n2 c2, .int .i64 b1, .int .i64 b2, .int .i64 b3]] w fun e w' => (∃ r, e = .returned (.tuple #[.agg #[.string ⟨#[]⟩, .slice (some ⟨r, 0, none⟩) 3 3, .int .i64 m1, .int .i64 m2, .int .i64 m3], .bool (decide (m2 ≤ 16))]) ∧ FV nI w' (fun q => ok q ∨ (w.heap.size ≤ q ∧ q < w'.heap.size)) (Jn c ta tb) (nI (Jn c ta tb) (.slice (some ⟨r, 0, none⟩) 3 3))) ∧ Below w.heap.size w w' := by
 have hty := made_ty (c := c) hcc hta htb
 have hsm := K5 _ _ (Nat.le_refl _) hty
 have hsz := Z4n c ta tb
 have hbyt : Zq [.atom [c], ta, tb] ≤ 1000000000 := by have h9 := hsm.1; simp only [Jn] at hsz; simp only [Tr.bytes] at h9; omega
 have h3 := Z4e w (.cells #[.string ua, .slice p1 n1 c1, .int .i64 a1, .int .i64 a2, .int .i64 a3] 49) (.cells #[.string ub, .slice p2 n2 c2, .int .i64 b1, .int .i64 b2, .int .i64 b3] 49) (.cells #[.string ⟨#[]⟩, .slice none 0 0, .int .i64 0, .int .i64 0, .int .i64 0] 49)
 have hb3 := Q6 w (.cells #[.string ua, .slice p1 n1 c1, .int .i64 a1, .int .i64 a2, .int .i64 a3] 49) (.cells #[.string ub, .slice p2 n2 c2, .int .i64 b1, .int .i64 b2, .int .i64 b3] 49) (.cells #[.string ⟨#[]⟩, .slice none 0 0, .int .i64 0, .int .i64 0, .int .i64 0] 49)
 have VA0 := H_ ((hva.below hb3 hok).wide (ok' := fun q => q < (((w.alloc (.cells #[.string ua, .slice p1 n1 c1, .int .i64 a1, .int .i64 a2, .int .i64 a3] 49)).alloc (.cells #[.string ub, .slice p2 n2 c2, .int .i64 b1, .int .i64 b2, .int .i64 b3] 49)).alloc (.cells #[.string ⟨#[]⟩, .slice none 0 0, .int .i64 0, .int .i64 0, .int .i64 0] 49)).heap.size) (fun q hq => by have := hok q hq; simp; omega))
 have VA1 := H_ (hva.below hb3 hok)
 have VB1 := H_ (hvb.below hb3 hok)
 have VB0 := H_ ((hvb.below hb3 hok).wide (ok' := fun q => q < (((w.alloc (.cells #[.string ua, .slice p1 n1 c1, .int .i64 a1, .int .i64 a2, .int .i64 a3] 49)).alloc (.cells #[.string ub, .slice p2 n2 c2, .int .i64 b1, .int .i64 b2, .int .i64 b3] 49)).alloc (.cells #[.string ⟨#[]⟩, .slice none 0 0, .int .i64 0, .int .i64 0, .int .i64 0] 49)).heap.size) (fun q hq => by have := hok q hq; simp; omega))
 have NLt : Hid (∀ (wx : World), FV nI wx (fun k => k < wx.heap.size) ta (nI ta (.slice p1 n1 c1)) → FV nI wx (fun k => k < wx.heap.size) tb (nI tb (.slice p2 n2 c2)) → ∀ X r, Yc X r 0 (#[.string ⟨#[c]⟩, .slice none 0 0, .int .i64 1, .int .i64 1, .int .i64 0, .string ua, .slice p1 n1 c1, .int .i64 a1, .int .i64 a2, .int .i64 a3, .string ub, .slice p2 n2 c2, .int .i64 b1, .int .i64 b2, .int .i64 b3] : Array Value).toList → Below wx.heap.size wx X → Calls prog 100 #[.slice (some ⟨r, 0, none⟩) 3 3] X fun e w'' => e = .returned (.agg #[.string ⟨#[]⟩, .slice (some ⟨r, 0, none⟩) 3 3, .int .i64 m1, .int .i64 m2, .int .i64 m3]) ∧ Below X.heap.size X w'') :=
  H_ (fun wx k1 k2 X r hr hB => by
   have hfs := made_row (r := r) (h := .atom [c]) (x := nI (.atom [c]) (.slice none 0 0)) (by simp only [FV]) (k1.below hB (fun k hk => hk)) (k2.below hB (fun k hk => hk))
   have := Qi 3 [.atom [c], ta, tb] rfl _ (fun k => k < wx.heap.size) r 3 X hfs (by rw [hna, hnb]; exact hr) (fun k hk => Nat.lt_of_lt_of_le hk hB.size) (Z4p hr) hsm.2.2.2 hbyt (by decide) (by decide)
   rw [hm1, hm2, hm3]
   exact this)
 have MW : Hid (∀ (wx : World), FV nI wx ok ta (nI ta (.slice p1 n1 c1)) → FV nI wx ok tb (nI tb (.slice p2 n2 c2)) → w.heap.size ≤ wx.heap.size → ∀ X r, Yc X r 0 (#[.string ⟨#[c]⟩, .slice none 0 0, .int .i64 1, .int .i64 1, .int .i64 0, .string ua, .slice p1 n1 c1, .int .i64 a1, .int .i64 a2, .int .i64 a3, .string ub, .slice p2 n2 c2, .int .i64 b1, .int .i64 b2, .int .i64 b3] : Array Value).toList → Below wx.heap.size wx X → wx.heap.size ≤ r → FV nI X (fun k => ok k ∨ (wx.heap.size ≤ k ∧ k < X.heap.size)) (Jn c ta tb) (nI (Jn c ta tb) (.slice (some ⟨r, 0, none⟩) 3 3))) :=
  H_ (fun wx k1 k2 hsw X r hr hB hrr => by
   have j1 := k1.below hB (fun k hk => Nat.lt_of_lt_of_le (hok k hk) hsw)
   have j2 := k2.below hB (fun k hk => Nat.lt_of_lt_of_le (hok k hk) hsw)
   rw [hna] at j1
   rw [hnb] at j2
   have hfs : FVs nI X ok [.atom [c], ta, tb] ([.string ⟨#[c]⟩, .slice none 0 0, .int .i64 1, .int .i64 1, .int .i64 0] ++ ([.string ua, .slice p1 n1 c1, .int .i64 a1, .int .i64 a2, .int .i64 a3] ++ ([.string ub, .slice p2 n2 c2, .int .i64 b1, .int .i64 b2, .int .i64 b3] ++ []))) := by
    simp only [FVs]
    exact ⟨_, _, rfl, by simp only [FV]; rfl, _, _, rfl, j1, _, _, rfl, j2, rfl⟩
   simp only [Jn, FV]
   exact ⟨r, 0, 3, _, rfl, .inr ⟨hrr, Z4p hr⟩, by simp, by decide, hr, FVs.move (fun k hk => .inl hk) (fun k hk => rfl) _ _ hfs⟩)
 have NAt : Hid (∀ X : World, Calls prog 83 #[.string ⟨#[c]⟩] X fun e w' => e = .returned (.agg #[.string ⟨#[c]⟩, .slice none 0 0, .int .i64 1, .int .i64 1, .int .i64 0]) ∧ Below X.heap.size X w') := H_ (fun X => Kb ⟨#[c]⟩ X (show 1 ≤ 12000 by decide))
 have BW := H_ hb3
 obtain ⟨X8, X10, X6⟩ := h3
 have HOK := H_ hok
 clear hok hty hsm hsz hbyt hb3 hva hvb hna hnb hm1 hm2 hm3 hta hsa htb hsb hcc
 go_enter func81, ntmps81
 go_wp2_with fail
 generalize hwx : ((w.alloc (.cells #[.string ua, .slice p1 n1 c1, .int .i64 a1, .int .i64 a2, .int .i64 a3] 49)).alloc (.cells #[.string ub, .slice p2 n2 c2, .int .i64 b1, .int .i64 b2, .int .i64 b3] 49)).alloc (.cells #[.string ⟨#[]⟩, .slice none 0 0, .int .i64 0, .int .i64 0, .int .i64 0] 49) = wx at *
 have hws : w.heap.size + 3 = wx.heap.size := by rw [← hwx]; simp
 clear hwx
 have NLx := H_ (NLt.out wx VA0.out VB0.out)
 have MWx := H_ (MW.out wx VA1.out VB1.out (by omega))
 clear NLt MW
 obtain ⟨b8, hb8⟩ : ∃ b, b = w.heap.size := ⟨_, rfl⟩
 obtain ⟨b10, hb10⟩ : ∃ b, b = w.heap.size + 1 := ⟨_, rfl⟩
 obtain ⟨b6, hb6⟩ : ∃ b, b = w.heap.size + 2 := ⟨_, rfl⟩
 rw [← hb8] at X8
 rw [← hb10] at X10
 rw [← hb6] at X6
 have l8 := lt_of_block X8
 have l10 := lt_of_block X10
 have l6 := lt_of_block X6
 have H6 := H_ (show w.heap.size ≤ b6 by omega)
 simp only [Nat.add_assoc, Nat.reduceAdd]
 rw [← hb6, ← hb10, ← hb8]
 clear hb8 hb10 hb6 hws
 go_cut [8] (fun v W => ∃ (b12 r : Nat), v = .pointer (some ⟨b12, 0, none⟩) ∧ W.heap[b12]? = some (.cells #[.string ⟨#[]⟩, .slice (some ⟨r, 0, none⟩) 3 3, .int .i64 m1, .int .i64 m2, .int .i64 m3] 49 (0, 0)) ∧ Hid (FV nI W (fun k => ok k ∨ (wx.heap.size ≤ k ∧ k < W.heap.size)) (Jn c ta tb) (nI (Jn c ta tb) (.slice (some ⟨r, 0, none⟩) 3 3))) ∧ Hid (wx.heap.size ≤ b12 ∧ wx.heap.size ≤ r) ∧ Hid (Below wx.heap.size wx W))
 case first =>
  have K : Hid (∀ W, Below wx.heap.size wx W → (fun W => Below wx.heap.size wx W ∧ (W.cell? ⟨b8, 0, none⟩ = some (.string ua) ∧ W.cell? ⟨b8, 1, none⟩ = some (.slice p1 n1 c1) ∧ W.cell? ⟨b8, 2, none⟩ = some (.int .i64 a1) ∧ W.cell? ⟨b8, 3, none⟩ = some (.int .i64 a2) ∧ W.cell? ⟨b8, 4, none⟩ = some (.int .i64 a3)) ∧ (W.cell? ⟨b10, 0, none⟩ = some (.string ub) ∧ W.cell? ⟨b10, 1, none⟩ = some (.slice p2 n2 c2) ∧ W.cell? ⟨b10, 2, none⟩ = some (.int .i64 b1) ∧ W.cell? ⟨b10, 3, none⟩ = some (.int .i64 b2) ∧ W.cell? ⟨b10, 4, none⟩ = some (.int .i64 b3))) W) := H_ (fun W hW => ⟨hW, ⟨(hW.cell (p := ⟨b8, 0, none⟩) l8).trans (Z2 (j := 0) X8), (hW.cell (p := ⟨b8, 1, none⟩) l8).trans (Z2 (j := 1) X8), (hW.cell (p := ⟨b8, 2, none⟩) l8).trans (Z2 (j := 2) X8), (hW.cell (p := ⟨b8, 3, none⟩) l8).trans (Z2 (j := 3) X8), (hW.cell (p := ⟨b8, 4, none⟩) l8).trans (Z2 (j := 4) X8)⟩, (hW.cell (p := ⟨b10, 0, none⟩) l10).trans (Z2 (j := 0) X10), (hW.cell (p := ⟨b10, 1, none⟩) l10).trans (Z2 (j := 1) X10), (hW.cell (p := ⟨b10, 2, none⟩) l10).trans (Z2 (j := 2) X10), (hW.cell (p := ⟨b10, 3, none⟩) l10).trans (Z2 (j := 3) X10), (hW.cell (p := ⟨b10, 4, none⟩) l10).trans (Z2 (j := 4) X10)⟩)
  have S0 := H_ (K.out _ ((Below.refl _ _).drew))
  clear X8 X10 X6 VA0 VB0 VA1 VB1 BW l8 l10 l6 H6
  go_region_held3 (fun W => Below wx.heap.size wx W ∧ (W.cell? ⟨b8, 0, none⟩ = some (.string ua) ∧ W.cell? ⟨b8, 1, none⟩ = some (.slice p1 n1 c1) ∧ W.cell? ⟨b8, 2, none⟩ = some (.int .i64 a1) ∧ W.cell? ⟨b8, 3, none⟩ = some (.int .i64 a2) ∧ W.cell? ⟨b8, 4, none⟩ = some (.int .i64 a3)) ∧ (W.cell? ⟨b10, 0, none⟩ = some (.string ub) ∧ W.cell? ⟨b10, 1, none⟩ = some (.slice p2 n2 c2) ∧ W.cell? ⟨b10, 2, none⟩ = some (.int .i64 b1) ∧ W.cell? ⟨b10, 3, none⟩ = some (.int .i64 b2) ∧ W.cell? ⟨b10, 4, none⟩ = some (.int .i64 b3)))
   (first | exact S0.out | assumption | exact KA K.out (And.left (by assumption)) | exact KA K.out hS4.1 | exact KS5 K.out hS4.1 HB12 | fail)
   (first | (go_at_call 83; have hh := And.left (by assumption : Below wx.heap.size wx _ ∧ _); (refine (NAt.out _).mono ?_); rintro e w' ⟨rfl, hb9⟩; have hS2 := K.out _ (hh.trans (hb9.mono hh.size)); first | (have yz : w'.heap[wx.heap.size]? = some (.cells #[.string ⟨#[]⟩, .slice none 0 0, .int .i64 0, .int .i64 0, .int .i64 0] 49 (0, 0)) := Z1 hb9 (Xy wx.drew _) (heap_alloc_new wx.drew _)) | skip) | (go_at_call 100; have hh := And.left (by assumption : Below wx.heap.size wx _ ∧ _); (refine (NLx.out _ _ (by first | exact Z3b (heap_alloc_new _ _) | exact Z3b (Z5 (heap_alloc_new _ _)) | exact Z3b (Z9 _ _ _)) hh).mono ?_); rintro e w4 ⟨rfl, hb4⟩; have hS4 := K.out _ (hh.trans (hb4.mono hh.size)); first | (have H := Z5 (o' := .cells #[.string ⟨#[c]⟩, .slice none 0 0, .int .i64 1, .int .i64 1, .int .i64 0, .string ua, .slice p1 n1 c1, .int .i64 a1, .int .i64 a2, .int .i64 a3, .string ub, .slice p2 n2 c2, .int .i64 b1, .int .i64 b2, .int .i64 b3] 49) yz; have y12 := Z1 hb4 (lt_of_block H) H; have hrow4 : Yc w4 w'.heap.size 0 (#[.string ⟨#[c]⟩, .slice none 0 0, .int .i64 1, .int .i64 1, .int .i64 0, .string ua, .slice p1 n1 c1, .int .i64 a1, .int .i64 a2, .int .i64 a3, .string ub, .slice p2 n2 c2, .int .i64 b1, .int .i64 b2, .int .i64 b3] : Array Value).toList := (Z3b (heap_alloc_new w' (.cells #[.string ⟨#[c]⟩, .slice none 0 0, .int .i64 1, .int .i64 1, .int .i64 0, .string ua, .slice p1 n1 c1, .int .i64 a1, .int .i64 a2, .int .i64 a3, .string ub, .slice p2 n2 c2, .int .i64 b1, .int .i64 b2, .int .i64 b3] 49))).move (hb4.block _ (Xy _ _)); clear H; have hne := Nat.ne_of_gt (lt_of_block yz); have HB12 := Nat.le_refl wx.heap.size; have HR12 := hS2.1.size; obtain ⟨d0, d1, d2, d3, d4⟩ := Zb y12; obtain ⟨g0, g1, g2, g3, g4⟩ := Zf y12) | (have H := Z5 (o' := .cells #[.string ⟨#[c]⟩, .slice none 0 0, .int .i64 1, .int .i64 1, .int .i64 0, .string ua, .slice p1 n1 c1, .int .i64 a1, .int .i64 a2, .int .i64 a3, .string ub, .slice p2 n2 c2, .int .i64 b1, .int .i64 b2, .int .i64 b3] 49) (heap_alloc_new w' (.cells #[.string ⟨#[]⟩, .slice none 0 0, .int .i64 0, .int .i64 0, .int .i64 0] 49)); have y12 := Z1 hb4 (lt_of_block H) H; have hrow4 : Yc w4 (w'.heap.size + 1) 0 (#[.string ⟨#[c]⟩, .slice none 0 0, .int .i64 1, .int .i64 1, .int .i64 0, .string ua, .slice p1 n1 c1, .int .i64 a1, .int .i64 a2, .int .i64 a3, .string ub, .slice p2 n2 c2, .int .i64 b1, .int .i64 b2, .int .i64 b3] : Array Value).toList := (Z3b (Z9 w' (.cells #[.string ⟨#[]⟩, .slice none 0 0, .int .i64 0, .int .i64 0, .int .i64 0] 49) (.cells #[.string ⟨#[c]⟩, .slice none 0 0, .int .i64 1, .int .i64 1, .int .i64 0, .string ua, .slice p1 n1 c1, .int .i64 a1, .int .i64 a2, .int .i64 a3, .string ub, .slice p2 n2 c2, .int .i64 b1, .int .i64 b2, .int .i64 b3] 49))).move (hb4.block _ (one_two _ _ _)); clear H; have hne := Nat.succ_ne_self w'.heap.size; have HB12 := hS2.1.size; have HR12 := Nat.le_succ_of_le hS2.1.size; obtain ⟨d0, d1, d2, d3, d4⟩ := Zb y12; obtain ⟨g0, g1, g2, g3, g4⟩ := Zf y12) | (have H := Z9 w' (.cells #[.string ⟨#[c]⟩, .slice none 0 0, .int .i64 1, .int .i64 1, .int .i64 0, .string ua, .slice p1 n1 c1, .int .i64 a1, .int .i64 a2, .int .i64 a3, .string ub, .slice p2 n2 c2, .int .i64 b1, .int .i64 b2, .int .i64 b3] 49) (.cells #[.string ⟨#[]⟩, .slice none 0 0, .int .i64 0, .int .i64 0, .int .i64 0] 49); have y12 := Z1 hb4 (lt_of_block H) H; have hrow4 : Yc w4 w'.heap.size 0 (#[.string ⟨#[c]⟩, .slice none 0 0, .int .i64 1, .int .i64 1, .int .i64 0, .string ua, .slice p1 n1 c1, .int .i64 a1, .int .i64 a2, .int .i64 a3, .string ub, .slice p2 n2 c2, .int .i64 b1, .int .i64 b2, .int .i64 b3] : Array Value).toList := (Z3b (Z5 (o' := .cells #[.string ⟨#[]⟩, .slice none 0 0, .int .i64 0, .int .i64 0, .int .i64 0] 49) (heap_alloc_new w' (.cells #[.string ⟨#[c]⟩, .slice none 0 0, .int .i64 1, .int .i64 1, .int .i64 0, .string ua, .slice p1 n1 c1, .int .i64 a1, .int .i64 a2, .int .i64 a3, .string ub, .slice p2 n2 c2, .int .i64 b1, .int .i64 b2, .int .i64 b3] 49)))).move (hb4.block _ (two_more _ _ _)); clear H; have hne := (Nat.succ_ne_self w'.heap.size).symm; have HB12 := Nat.le_succ_of_le hS2.1.size; have HR12 := hS2.1.size; obtain ⟨d0, d1, d2, d3, d4⟩ := Zb y12; obtain ⟨g0, g1, g2, g3, g4⟩ := Zf y12) | (have hrow4 : Yc w4 w'.heap.size 0 (#[.string ⟨#[c]⟩, .slice none 0 0, .int .i64 1, .int .i64 1, .int .i64 0, .string ua, .slice p1 n1 c1, .int .i64 a1, .int .i64 a2, .int .i64 a3, .string ub, .slice p2 n2 c2, .int .i64 b1, .int .i64 b2, .int .i64 b3] : Array Value).toList := (Z3b (heap_alloc_new w' (.cells #[.string ⟨#[c]⟩, .slice none 0 0, .int .i64 1, .int .i64 1, .int .i64 0, .string ua, .slice p1 n1 c1, .int .i64 a1, .int .i64 a2, .int .i64 a3, .string ub, .slice p2 n2 c2, .int .i64 b1, .int .i64 b2, .int .i64 b3] 49))).move (hb4.block _ (Xy _ _)))) | fail)
  all_goals
   go_wp2_with fail
   go_meet
   first
    | exact ⟨_, _, rfl, Zg y12 _ _ _ _ _, H_ (MWx.out _ _ (hrow4.move (Y2 hne _ _ _ _ _)) (Ym hS4.1 HB12 _ _ _ _ _) HR12), H_ ⟨HB12, HR12⟩, H_ (Ym hS4.1 HB12 _ _ _ _ _)⟩
    | exact ⟨_, _, rfl, heap_alloc_new _ _, H_ (MWx.out _ _ (hrow4.move (heap_alloc_old _ _ (Z4p hrow4))) (hS4.1.alloc hS4.1.size _) hS2.1.size), H_ ⟨hS4.1.size, hS2.1.size⟩, H_ (hS4.1.alloc hS4.1.size _)⟩
 case rest =>
  obtain ⟨b12, r, rfl, hb12, hfv, hbr, hbl⟩ := hcut
  obtain ⟨hbr1, hbr2⟩ := hbr.out
  have y6 := Z1 hbl.out l6 X6
  have hne : b12 ≠ b6 := by omega
  have hne2 := hne.symm
  obtain ⟨c0, c1, c2, c3, c4⟩ := Zb hb12
  obtain ⟨z0, z1, z2, z3, z4⟩ := Zb y6
  obtain ⟨f0, f1, f2, f3, f4⟩ := Zf y6
  have O := Zg y6 (.string ⟨#[]⟩) (.slice (some ⟨r, 0, none⟩) 3 3) (.int .i64 m1) (.int .i64 m2) (.int .i64 m3)
  obtain ⟨r0, r1, r2, r3, r4⟩ := Zb O
  have hlb6 := l6
  clear X8 X10 X6 VA0 VB0 VA1 VB1 NLx MWx NAt l8 l10
  go_wp2_with fail
  go_region
  all_goals
   go_wp2_with fail
   refine bodyPost_ret (v := .tuple #[.agg #[.string ⟨#[]⟩, .slice (some ⟨r, 0, none⟩) 3 3, .int .i64 m1, .int .i64 m2, .int .i64 m3], .bool (decide (m2 ≤ 16))]) (by simp [results, results81, go_sem, r0, r1, r2, r3, r4]) rfl ⟨⟨r, rfl, ?_⟩, ?_⟩
   · refine FV.move (fun q hq => ?_) (fun q hq => ?_) _ _ hfv.out
     · have h1 := BW.out.size; have h2 := hbl.out.size
       rcases hq with hq | hq
       · exact .inl hq
       · exact .inr ⟨by omega, by simp; omega⟩
     · have h6 := H6.out
       have hq9 : q < w.heap.size ∨ (wx.heap.size ≤ q ∧ q < wc.heap.size) := hq.imp (HOK.out q) id
       show (((((wc.setCell ⟨b6, 0, none⟩ _).setCell ⟨b6, 1, none⟩ _).setCell ⟨b6, 2, none⟩ _).setCell ⟨b6, 3, none⟩ _).setCell ⟨b6, 4, none⟩ _).heap[q]? = _
       exact Y2 (by omega) _ _ _ _ _
   · exact (Ym (BW.out.trans (hbl.out.mono BW.out.size)) H6.out _ _ _ _ _).drew
end Go.Proofs.YtmgepnacjgbfhaaGreatDoor
