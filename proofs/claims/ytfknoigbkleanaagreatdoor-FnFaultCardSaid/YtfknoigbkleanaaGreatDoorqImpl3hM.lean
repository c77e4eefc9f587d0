/- The program makes types. The program: the type of an expression by the types of its parts: the other heads. -/
import Derived.Test.YtfknoigbkleanaaGreatDoorqImpl3bM
import Derived.Test.YtfknoigbkleanaaGreatDoorqB1
import Derived.Deep.RegionHeld3
import Derived.Deep.DrawnRows
import Derived.Deep.DeepCutAuto
import Derived.Test.YtfknoigbkleanaaGreatDoorqImpl3g
namespace Go.Proofs.YtfknoigbkleanaaGreatDoor
open Go.RowKit Go.Proofs.Tryz
set_option maxRecDepth 8000
set_option maxHeartbeats 20000000
set_option linter.unusedVariables false
set_option linter.unusedSimpArgs false
attribute [local go_sem ↓] Go.wp_at_zero Go.wp_at_succ
def Kh (c : UInt8) (ta tb : Tr) : Tr := .list [.atom [c], ta, tb]
theorem Z6e (c : UInt8) (ta tb : Tr) : (Kh c ta tb).size = 1 + ta.size + tb.size := by simp only [Kh, Tr.size, Yo]; omega
theorem Z8t (ok : Nat → Prop) (c : UInt8) (hcc : c = 62 ∨ c = 42) (ta tb : Tr) (hta : Xk ta = true) (hsa : ta.size ≤ 16) (htb : Xk tb = true) (hsb : tb.size ≤ 16) (ua ub : ByteArray) (a1 a2 a3 b1 b2 b3 m1 m2 m3 : Int) (p1 p2 : Option Addr) (n1 c1 n2 c2 : Nat) (w : World)
 (hna : ∀ v, nI ta v = [.string ua, v, .int .i64 a1, .int .i64 a2, .int .i64 a3]) (hnb : ∀ v, nI tb v = [.string ub, v, .int .i64 b1, .int .i64 b2, .int .i64 b3]) (hm1 : m1 = (Kh c ta tb).bytes) (hm2 : m2 = (Kh c ta tb).size) (hm3 : m3 = (Kh c ta tb).depth)
 (hok : ∀ k, ok k → k < w.heap.size) (hva : FV nI w ok ta (nI ta (.slice p1 n1 c1))) (hvb : FV nI w ok tb (nI tb (.slice p2 n2 c2))) :
 Calls prog 141 #[.string ⟨#[c]⟩, .agg #[.string ua, .slice p1 n1 c1, .int .i64 a1, .int .i64 a2, .int .i64 a3], .agg #[.string ub, .slice p2 n2 c2, .int .i64 b1, .int .i64 b2, .int .i64 b3]] w fun e w' => (∃ r, e = .returned (.tuple #[.agg #[.string ⟨#[]⟩, .slice (some ⟨r, 0, none⟩) 3 3, .int .i64 m1, .int .i64 m2, .int .i64 m3], .bool (decide (m2 ≤ 16))]) ∧ FV nI w' (fun q => ok q ∨ (w.heap.size ≤ q ∧ q < w'.heap.size)) (Kh c ta tb) (nI (Kh c ta tb) (.slice (some ⟨r, 0, none⟩) 3 3))) ∧ Below w.heap.size w w' := by
 have hty := made_ty (c := c) hcc hta htb
 have hsm := K5 _ _ (Nat.le_refl _) hty
 have hsz := Z6e c ta tb
 have hbyt : Zk [.atom [c], ta, tb] ≤ 1000000000 := by have h9 := hsm.1; simp only [Kh] at hsz; simp only [Tr.bytes] at h9; omega
 have h3 := Z68 w (.cells #[.string ua, .slice p1 n1 c1, .int .i64 a1, .int .i64 a2, .int .i64 a3] 56) (.cells #[.string ub, .slice p2 n2 c2, .int .i64 b1, .int .i64 b2, .int .i64 b3] 56) (.cells #[.string ⟨#[]⟩, .slice none 0 0, .int .i64 0, .int .i64 0, .int .i64 0] 56)
 have hb3 := Kk w (.cells #[.string ua, .slice p1 n1 c1, .int .i64 a1, .int .i64 a2, .int .i64 a3] 56) (.cells #[.string ub, .slice p2 n2 c2, .int .i64 b1, .int .i64 b2, .int .i64 b3] 56) (.cells #[.string ⟨#[]⟩, .slice none 0 0, .int .i64 0, .int .i64 0, .int .i64 0] 56)
 have VA0 := H_ ((hva.below hb3 hok).wide (ok' := fun q => q < (((w.alloc (.cells #[.string ua, .slice p1 n1 c1, .int .i64 a1, .int .i64 a2, .int .i64 a3] 56)).alloc (.cells #[.string ub, .slice p2 n2 c2, .int .i64 b1, .int .i64 b2, .int .i64 b3] 56)).alloc (.cells #[.string ⟨#[]⟩, .slice none 0 0, .int .i64 0, .int .i64 0, .int .i64 0] 56)).heap.size) (fun q hq => by have := hok q hq; simp; omega))
 have VA1 := H_ (hva.below hb3 hok)
 have VB1 := H_ (hvb.below hb3 hok)
 have VB0 := H_ ((hvb.below hb3 hok).wide (ok' := fun q => q < (((w.alloc (.cells #[.string ua, .slice p1 n1 c1, .int .i64 a1, .int .i64 a2, .int .i64 a3] 56)).alloc (.cells #[.string ub, .slice p2 n2 c2, .int .i64 b1, .int .i64 b2, .int .i64 b3] 56)).alloc (.cells #[.string ⟨#[]⟩, .slice none 0 0, .int .i64 0, .int .i64 0, .int .i64 0] 56)).heap.size) (fun q hq => by have := hok q hq; simp; omega))
 have NLt : Hid (∀ (wx : World), FV nI wx (fun k => k < wx.heap.size) ta (nI ta (.slice p1 n1 c1)) → FV nI wx (fun k => k < wx.heap.size) tb (nI tb (.slice p2 n2 c2)) → ∀ X r, Y4 X r 0 (#[.string ⟨#[c]⟩, .slice none 0 0, .int .i64 1, .int .i64 1, .int .i64 0, .string ua, .slice p1 n1 c1, .int .i64 a1, .int .i64 a2, .int .i64 a3, .string ub, .slice p2 n2 c2, .int .i64 b1, .int .i64 b2, .int .i64 b3] : Array Value).toList → Below wx.heap.size wx X → Calls prog 154 #[.slice (some ⟨r, 0, none⟩) 3 3] X fun e w'' => e = .returned (.agg #[.string ⟨#[]⟩, .slice (some ⟨r, 0, none⟩) 3 3, .int .i64 m1, .int .i64 m2, .int .i64 m3]) ∧ Below X.heap.size X w'') :=
  H_ (fun wx k1 k2 X r hr hB => by
   have hfs := made_row (r := r) (h := .atom [c]) (x := nI (.atom [c]) (.slice none 0 0)) (by simp only [FV]) (k1.below hB (fun k hk => hk)) (k2.below hB (fun k hk => hk))
   have := J1 3 [.atom [c], ta, tb] rfl _ (fun k => k < wx.heap.size) r 3 X hfs (by rw [hna, hnb]; exact hr) (fun k hk => Nat.lt_of_lt_of_le hk hB.size) (Z6g hr) hsm.2.2.2 hbyt (by decide) (by decide)
   rw [hm1, hm2, hm3]
   exact this)
 have MW : Hid (∀ (wx : World), FV nI wx ok ta (nI ta (.slice p1 n1 c1)) → FV nI wx ok tb (nI tb (.slice p2 n2 c2)) → w.heap.size ≤ wx.heap.size → ∀ X r, Y4 X r 0 (#[.string ⟨#[c]⟩, .slice none 0 0, .int .i64 1, .int .i64 1, .int .i64 0, .string ua, .slice p1 n1 c1, .int .i64 a1, .int .i64 a2, .int .i64 a3, .string ub, .slice p2 n2 c2, .int .i64 b1, .int .i64 b2, .int .i64 b3] : Array Value).toList → Below wx.heap.size wx X → wx.heap.size ≤ r → FV nI X (fun k => ok k ∨ (wx.heap.size ≤ k ∧ k < X.heap.size)) (Kh c ta tb) (nI (Kh c ta tb) (.slice (some ⟨r, 0, none⟩) 3 3))) :=
  H_ (fun wx k1 k2 hsw X r hr hB hrr => by
   have j1 := k1.below hB (fun k hk => Nat.lt_of_lt_of_le (hok k hk) hsw)
   have j2 := k2.below hB (fun k hk => Nat.lt_of_lt_of_le (hok k hk) hsw)
   rw [hna] at j1
   rw [hnb] at j2
   have hfs : FVs nI X ok [.atom [c], ta, tb] ([.string ⟨#[c]⟩, .slice none 0 0, .int .i64 1, .int .i64 1, .int .i64 0] ++ ([.string ua, .slice p1 n1 c1, .int .i64 a1, .int .i64 a2, .int .i64 a3] ++ ([.string ub, .slice p2 n2 c2, .int .i64 b1, .int .i64 b2, .int .i64 b3] ++ []))) := by
    simp only [FVs]
    exact ⟨_, _, rfl, by simp only [FV]; rfl, _, _, rfl, j1, _, _, rfl, j2, rfl⟩
   simp only [Kh, FV]
   exact ⟨r, 0, 3, _, rfl, .inr ⟨hrr, Z6g hr⟩, by simp, by decide, hr, FVs.move (fun k hk => .inl hk) (fun k hk => rfl) _ _ hfs⟩)
 have NAt : Hid (∀ X : World, Calls prog 143 #[.string ⟨#[c]⟩] X fun e w' => e = .returned (.agg #[.string ⟨#[c]⟩, .slice none 0 0, .int .i64 1, .int .i64 1, .int .i64 0]) ∧ Below X.heap.size X w') := H_ (fun X => Vb ⟨#[c]⟩ X (show 1 ≤ 12000 by decide))
 have BW := H_ hb3
 obtain ⟨X8, X10, X6⟩ := h3
 have HOK := H_ hok
 clear hok hty hsm hsz hbyt hb3 hva hvb hna hnb hm1 hm2 hm3 hta hsa htb hsb hcc
 go_enter func141, ntmps141
 go_wp2_with fail
 generalize hwx : ((w.alloc (.cells #[.string ua, .slice p1 n1 c1, .int .i64 a1, .int .i64 a2, .int .i64 a3] 56)).alloc (.cells #[.string ub, .slice p2 n2 c2, .int .i64 b1, .int .i64 b2, .int .i64 b3] 56)).alloc (.cells #[.string ⟨#[]⟩, .slice none 0 0, .int .i64 0, .int .i64 0, .int .i64 0] 56) = wx at *
 have hws : w.heap.size + 3 = wx.heap.size := by rw [← hwx]; simp
 clear hwx
 have NLx := H_ (NLt.out wx VA0.out VB0.out)
 have MWx := H_ (MW.out wx VA1.out VB1.out (by omega))
 clear NLt MW
 obtain ⟨b8, hb8⟩ : ∃ b, b = w.heap.size := ⟨_, rfl⟩
 obtain ⟨b10, hb10⟩ : ∃ b, b = w.heap.size + 1 := ⟨_, rfl⟩
 obtain ⟨b6, hb6⟩ : ∃ b, b = w.heap.size + 2 := ⟨_, rfl⟩
 rw [← hb8] at X8
 rw [← hb10] at X10
 rw [← hb6] at X6
 have l8 := lt_of_block X8
 have l10 := lt_of_block X10
 have l6 := lt_of_block X6
 have H6 := H_ (show w.heap.size ≤ b6 by omega)
 simp only [Nat.add_assoc, Nat.reduceAdd]
 rw [← hb6, ← hb10, ← hb8]
 clear hb8 hb10 hb6 hws
 go_cut [8] (fun v W => ∃ (b12 r : Nat), v = .pointer (some ⟨b12, 0, none⟩) ∧ W.heap[b12]? = some (.cells #[.string ⟨#[]⟩, .slice (some ⟨r, 0, none⟩) 3 3, .int .i64 m1, .int .i64 m2, .int .i64 m3] 56 (0, 0)) ∧ Hid (FV nI W (fun k => ok k ∨ (wx.heap.size ≤ k ∧ k < W.heap.size)) (Kh c ta tb) (nI (Kh c ta tb) (.slice (some ⟨r, 0, none⟩) 3 3))) ∧ Hid (wx.heap.size ≤ b12 ∧ wx.heap.size ≤ r) ∧ Hid (Below wx.heap.size wx W))
 case first =>
  have K : Hid (∀ W, Below wx.heap.size wx W → (fun W => Below wx.heap.size wx W ∧ (W.cell? ⟨b8, 0, none⟩ = some (.string ua) ∧ W.cell? ⟨b8, 1, none⟩ = some (.slice p1 n1 c1) ∧ W.cell? ⟨b8, 2, none⟩ = some (.int .i64 a1) ∧ W.cell? ⟨b8, 3, none⟩ = some (.int .i64 a2) ∧ W.cell? ⟨b8, 4, none⟩ = some (.int .i64 a3)) ∧ (W.cell? ⟨b10, 0, none⟩ = some (.string ub) ∧ W.cell? ⟨b10, 1, none⟩ = some (.slice p2 n2 c2) ∧ W.cell? ⟨b10, 2, none⟩ = some (.int .i64 b1) ∧ W.cell? ⟨b10, 3, none⟩ = some (.int .i64 b2) ∧ W.cell? ⟨b10, 4, none⟩ = some (.int .i64 b3))) W) := H_ (fun W hW => ⟨hW, ⟨(hW.cell (p := ⟨b8, 0, none⟩) l8).trans (Z3 (j := 0) X8), (hW.cell (p := ⟨b8, 1, none⟩) l8).trans (Z3 (j := 1) X8), (hW.cell (p := ⟨b8, 2, none⟩) l8).trans (Z3 (j := 2) X8), (hW.cell (p := ⟨b8, 3, none⟩) l8).trans (Z3 (j := 3) X8), (hW.cell (p := ⟨b8, 4, none⟩) l8).trans (Z3 (j := 4) X8)⟩, (hW.cell (p := ⟨b10, 0, none⟩) l10).trans (Z3 (j := 0) X10), (hW.cell (p := ⟨b10, 1, none⟩) l10).trans (Z3 (j := 1) X10), (hW.cell (p := ⟨b10, 2, none⟩) l10).trans (Z3 (j := 2) X10), (hW.cell (p := ⟨b10, 3, none⟩) l10).trans (Z3 (j := 3) X10), (hW.cell (p := ⟨b10, 4, none⟩) l10).trans (Z3 (j := 4) X10)⟩)
  have S0 := H_ (K.out _ ((Below.refl _ _).drew))
  clear X8 X10 X6 VA0 VB0 VA1 VB1 BW l8 l10 l6 H6
  go_region_held3 (fun W => Below wx.heap.size wx W ∧ (W.cell? ⟨b8, 0, none⟩ = some (.string ua) ∧ W.cell? ⟨b8, 1, none⟩ = some (.slice p1 n1 c1) ∧ W.cell? ⟨b8, 2, none⟩ = some (.int .i64 a1) ∧ W.cell? ⟨b8, 3, none⟩ = some (.int .i64 a2) ∧ W.cell? ⟨b8, 4, none⟩ = some (.int .i64 a3)) ∧ (W.cell? ⟨b10, 0, none⟩ = some (.string ub) ∧ W.cell? ⟨b10, 1, none⟩ = some (.slice p2 n2 c2) ∧ W.cell? ⟨b10, 2, none⟩ = some (.int .i64 b1) ∧ W.cell? ⟨b10, 3, none⟩ = some (.int .i64 b2) ∧ W.cell? ⟨b10, 4, none⟩ = some (.int .i64 b3)))
   (first | exact S0.out | assumption | exact KA K.out (And.left (by assumption)) | exact KA K.out hS4.1 | exact KS5 K.out hS4.1 HB12 | fail)
   (first | (go_at_call 143; have hh := And.left (by assumption : Below wx.heap.size wx _ ∧ _); (refine (NAt.out _).mono ?_); rintro e w' ⟨rfl, hb9⟩; have hS2 := K.out _ (hh.trans (hb9.mono hh.size)); first | (have yz : w'.heap[wx.heap.size]? = some (.cells #[.string ⟨#[]⟩, .slice none 0 0, .int .i64 0, .int .i64 0, .int .i64 0] 56 (0, 0)) := Z1 hb9 (Qb wx.drew _) (heap_alloc_new wx.drew _)) | skip) | (go_at_call 154; have hh := And.left (by assumption : Below wx.heap.size wx _ ∧ _); (refine (NLx.out _ _ (by first | exact Z59 (heap_alloc_new _ _) | exact Z59 (Z8 (heap_alloc_new _ _)) | exact Z59 (Z9 _ _ _)) hh).mono ?_); rintro e w4 ⟨rfl, hb4⟩; have hS4 := K.out _ (hh.trans (hb4.mono hh.size)); first | (have H := Z8 (o' := .cells #[.string ⟨#[c]⟩, .slice none 0 0, .int .i64 1, .int .i64 1, .int .i64 0, .string ua, .slice p1 n1 c1, .int .i64 a1, .int .i64 a2, .int .i64 a3, .string ub, .slice p2 n2 c2, .int .i64 b1, .int .i64 b2, .int .i64 b3] 56) yz; have y12 := Z1 hb4 (lt_of_block H) H; have hrow4 : Y4 w4 w'.heap.size 0 (#[.string ⟨#[c]⟩, .slice none 0 0, .int .i64 1, .int .i64 1, .int .i64 0, .string ua, .slice p1 n1 c1, .int .i64 a1, .int .i64 a2, .int .i64 a3, .string ub, .slice p2 n2 c2, .int .i64 b1, .int .i64 b2, .int .i64 b3] : Array Value).toList := (Z59 (heap_alloc_new w' (.cells #[.string ⟨#[c]⟩, .slice none 0 0, .int .i64 1, .int .i64 1, .int .i64 0, .string ua, .slice p1 n1 c1, .int .i64 a1, .int .i64 a2, .int .i64 a3, .string ub, .slice p2 n2 c2, .int .i64 b1, .int .i64 b2, .int .i64 b3] 56))).move (hb4.block _ (Qb _ _)); clear H; have hne := Nat.ne_of_gt (lt_of_block yz); have HB12 := Nat.le_refl wx.heap.size; have HR12 := hS2.1.size; obtain ⟨d0, d1, d2, d3, d4⟩ := Zb y12; obtain ⟨g0, g1, g2, g3, g4⟩ := Zg y12) | (have H := Z8 (o' := .cells #[.string ⟨#[c]⟩, .slice none 0 0, .int .i64 1, .int .i64 1, .int .i64 0, .string ua, .slice p1 n1 c1, .int .i64 a1, .int .i64 a2, .int .i64 a3, .string ub, .slice p2 n2 c2, .int .i64 b1, .int .i64 b2, .int .i64 b3] 56) (heap_alloc_new w' (.cells #[.string ⟨#[]⟩, .slice none 0 0, .int .i64 0, .int .i64 0, .int .i64 0] 56)); have y12 := Z1 hb4 (lt_of_block H) H; have hrow4 : Y4 w4 (w'.heap.size + 1) 0 (#[.string ⟨#[c]⟩, .slice none 0 0, .int .i64 1, .int .i64 1, .int .i64 0, .string ua, .slice p1 n1 c1, .int .i64 a1, .int .i64 a2, .int .i64 a3, .string ub, .slice p2 n2 c2, .int .i64 b1, .int .i64 b2, .int .i64 b3] : Array Value).toList := (Z59 (Z9 w' (.cells #[.string ⟨#[]⟩, .slice none 0 0, .int .i64 0, .int .i64 0, .int .i64 0] 56) (.cells #[.string ⟨#[c]⟩, .slice none 0 0, .int .i64 1, .int .i64 1, .int .i64 0, .string ua, .slice p1 n1 c1, .int .i64 a1, .int .i64 a2, .int .i64 a3, .string ub, .slice p2 n2 c2, .int .i64 b1, .int .i64 b2, .int .i64 b3] 56))).move (hb4.block _ (one_two _ _ _)); clear H; have hne := Nat.succ_ne_self w'.heap.size; have HB12 := hS2.1.size; have HR12 := Nat.le_succ_of_le hS2.1.size; obtain ⟨d0, d1, d2, d3, d4⟩ := Zb y12; obtain ⟨g0, g1, g2, g3, g4⟩ := Zg y12) | (have H := Z9 w' (.cells #[.string ⟨#[c]⟩, .slice none 0 0, .int .i64 1, .int .i64 1, .int .i64 0, .string ua, .slice p1 n1 c1, .int .i64 a1, .int .i64 a2, .int .i64 a3, .string ub, .slice p2 n2 c2, .int .i64 b1, .int .i64 b2, .int .i64 b3] 56) (.cells #[.string ⟨#[]⟩, .slice none 0 0, .int .i64 0, .int .i64 0, .int .i64 0] 56); have y12 := Z1 hb4 (lt_of_block H) H; have hrow4 : Y4 w4 w'.heap.size 0 (#[.string ⟨#[c]⟩, .slice none 0 0, .int .i64 1, .int .i64 1, .int .i64 0, .string ua, .slice p1 n1 c1, .int .i64 a1, .int .i64 a2, .int .i64 a3, .string ub, .slice p2 n2 c2, .int .i64 b1, .int .i64 b2, .int .i64 b3] : Array Value).toList := (Z59 (Z8 (o' := .cells #[.string ⟨#[]⟩, .slice none 0 0, .int .i64 0, .int .i64 0, .int .i64 0] 56) (heap_alloc_new w' (.cells #[.string ⟨#[c]⟩, .slice none 0 0, .int .i64 1, .int .i64 1, .int .i64 0, .string ua, .slice p1 n1 c1, .int .i64 a1, .int .i64 a2, .int .i64 a3, .string ub, .slice p2 n2 c2, .int .i64 b1, .int .i64 b2, .int .i64 b3] 56)))).move (hb4.block _ (two_more _ _ _)); clear H; have hne := (Nat.succ_ne_self w'.heap.size).symm; have HB12 := Nat.le_succ_of_le hS2.1.size; have HR12 := hS2.1.size; obtain ⟨d0, d1, d2, d3, d4⟩ := Zb y12; obtain ⟨g0, g1, g2, g3, g4⟩ := Zg y12) | (have hrow4 : Y4 w4 w'.heap.size 0 (#[.string ⟨#[c]⟩, .slice none 0 0, .int .i64 1, .int .i64 1, .int .i64 0, .string ua, .slice p1 n1 c1, .int .i64 a1, .int .i64 a2, .int .i64 a3, .string ub, .slice p2 n2 c2, .int .i64 b1, .int .i64 b2, .int .i64 b3] : Array Value).toList := (Z59 (heap_alloc_new w' (.cells #[.string ⟨#[c]⟩, .slice none 0 0, .int .i64 1, .int .i64 1, .int .i64 0, .string ua, .slice p1 n1 c1, .int .i64 a1, .int .i64 a2, .int .i64 a3, .string ub, .slice p2 n2 c2, .int .i64 b1, .int .i64 b2, .int .i64 b3] 56))).move (hb4.block _ (Qb _ _)))) | fail)
  all_goals
   go_wp2_with fail
   go_meet
   first
    | exact ⟨_, _, rfl, Zi y12 _ _ _ _ _, H_ (MWx.out _ _ (hrow4.move (Yd hne _ _ _ _ _)) (Yy hS4.1 HB12 _ _ _ _ _) HR12), H_ ⟨HB12, HR12⟩, H_ (Yy hS4.1 HB12 _ _ _ _ _)⟩
    | exact ⟨_, _, rfl, heap_alloc_new _ _, H_ (MWx.out _ _ (hrow4.move (heap_alloc_old _ _ (Z6g hrow4))) (hS4.1.alloc hS4.1.size _) hS2.1.size), H_ ⟨hS4.1.size, hS2.1.size⟩, H_ (hS4.1.alloc hS4.1.size _)⟩
 case rest =>
  obtain ⟨b12, r, rfl, hb12, hfv, hbr, hbl⟩ := hcut
  obtain ⟨hbr1, hbr2⟩ := hbr.out
  have y6 := Z1 hbl.out l6 X6
  have hne : b12 ≠ b6 := by omega
  have hne2 := hne.symm
  obtain ⟨c0, c1, c2, c3, c4⟩ := Zb hb12
  obtain ⟨z0, z1, z2, z3, z4⟩ := Zb y6
  obtain ⟨f0, f1, f2, f3, f4⟩ := Zg y6
  have O := Zi y6 (.string ⟨#[]⟩) (.slice (some ⟨r, 0, none⟩) 3 3) (.int .i64 m1) (.int .i64 m2) (.int .i64 m3)
  obtain ⟨r0, r1, r2, r3, r4⟩ := Zb O
  have hlb6 := l6
  clear X8 X10 X6 VA0 VB0 VA1 VB1 NLx MWx NAt l8 l10
  go_wp2_with fail
  go_region
  all_goals
   go_wp2_with fail
   refine bodyPost_ret (v := .tuple #[.agg #[.string ⟨#[]⟩, .slice (some ⟨r, 0, none⟩) 3 3, .int .i64 m1, .int .i64 m2, .int .i64 m3], .bool (decide (m2 ≤ 16))]) (by simp [results, results141, go_sem, r0, r1, r2, r3, r4]) rfl ⟨⟨r, rfl, ?_⟩, ?_⟩
   · refine FV.move (fun q hq => ?_) (fun q hq => ?_) _ _ hfv.out
     · have h1 := BW.out.size; have h2 := hbl.out.size
       rcases hq with hq | hq
       · exact .inl hq
       · exact .inr ⟨by omega, by simp; omega⟩
     · have h6 := H6.out
       have hq9 : q < w.heap.size ∨ (wx.heap.size ≤ q ∧ q < wc.heap.size) := hq.imp (HOK.out q) id
       show (((((wc.setCell ⟨b6, 0, none⟩ _).setCell ⟨b6, 1, none⟩ _).setCell ⟨b6, 2, none⟩ _).setCell ⟨b6, 3, none⟩ _).setCell ⟨b6, 4, none⟩ _).heap[q]? = _
       exact Yd (by omega) _ _ _ _ _
   · exact (Yy (BW.out.trans (hbl.out.mono BW.out.size)) H6.out _ _ _ _ _).drew
def SdPostO (ok : Nat → Prop) (r : Option (Tr × Tr)) (e : Ending) (w' : World) : Prop :=
 match r with
 | none => e = .returned (.tuple #[.agg #[.string ⟨#[]⟩, .slice none 0 0, .int .i64 0, .int .i64 0, .int .i64 0], .agg #[.string ⟨#[]⟩, .slice none 0 0, .int .i64 0, .int .i64 0, .int .i64 0], .bool false])
 | some (a, b) => ∃ p1 n1 c1 p2 n2 c2, e = .returned (.tuple #[.agg #[.string (bs (Z0 a)), .slice p1 n1 c1, .int .i64 a.bytes, .int .i64 a.size, .int .i64 a.depth], .agg #[.string (bs (Z0 b)), .slice p2 n2 c2, .int .i64 b.bytes, .int .i64 b.size, .int .i64 b.depth], .bool true]) ∧ FV nI w' ok a (nI a (.slice p1 n1 c1)) ∧ FV nI w' ok b (nI b (.slice p2 n2 c2))
theorem Z24 (ok : Nat → Prop) (c : UInt8) (t : Tr) (p : Option Addr) (n k : Nat) (w : World) (hok : ∀ k, ok k → k < w.heap.size) (hty : Xk t = true) (hwf : t.wf) (hv : FV nI w ok t (nI t (.slice p n k))) :
 Calls prog 113 #[.agg #[.string (bs (Z0 t)), .slice p n k, .int .i64 t.bytes, .int .i64 t.size, .int .i64 t.depth], .string (bs [c])] w fun e w' => SdPostO ok (Ya c t) e w' ∧ Below w.heap.size w w' := by
 match t, hty, hwf, hv with
 | .atom a, _, _, hv =>
   simp only [FV] at hv
   have hh := Jz _ _ _ hv
   simp only [Value.slice.injEq] at hh
   obtain ⟨rfl, rfl, rfl⟩ := hh
   rw [Z5s]
   exact Z2k c _ _ _ _ _ _ rfl w (fun W hW => Z39 _ _ _ _ _ _ _ _)
 | .list ts, hty, hwf, hv =>
   obtain ⟨x, a, b, rfl, hx, hta, htb⟩ := Q4 hty
   have HI : ∀ (W : World), Below w.heap.size w W → Calls prog 161 #[.agg #[.string (bs []), .slice p n k, .int .i64 (Tr.list [x, a, b]).bytes, .int .i64 (Tr.list [x, a, b]).size, .int .i64 (Tr.list [x, a, b]).depth], .string (bs [c])] W fun e w' => e = .returned (.bool (Z3t [c] (.list [x, a, b]))) ∧ Below W.heap.size W w' :=
    fun W hW => Z2y (Tr.list [x, a, b]).depth (Z2x _) [c] _ p n k _ W (by omega) hwf (hv.below hW hok) (fun j hj => Nat.lt_of_lt_of_le (hok j hj) hW.size)
   have hTW := Z0g [c] x a b
   rw [hta, htb] at hTW
   by_cases hxh : Z0 x = [c]
   · rw [Qq hxh]
     rw [hTW, show (Z0 x == [c] && true && true) = true by simp [hxh]] at HI
     obtain ⟨r, off, cap, xs, hh, h2, h3, h4, h5, h6⟩ := FV.list_cells hv
     have hh' := Jz _ _ _ hh
     simp only [Value.slice.injEq] at hh'
     obtain ⟨rfl, rfl, rfl⟩ := hh'
     obtain ⟨-, ⟨p1, n1, q1, v1, r1⟩, ⟨p2, n2, q2, v2, r2⟩⟩ := FVs.three Qc h6 h5
     exact (Z6u c _ _ _ _ _ _ r off _ p1 p2 n1 q1 n2 q2 _ _ _ _ _ _ w (hok r h2) h3 h4 HI (r1 0 _ rfl) (r1 1 _ rfl) (r1 2 _ rfl) (r1 3 _ rfl) (r1 4 _ rfl) (r2 0 _ rfl) (r2 1 _ rfl) (r2 2 _ rfl) (r2 3 _ rfl) (r2 4 _ rfl)).mono fun e w' ⟨k1, k2⟩ => ⟨⟨p1, n1, q1, p2, n2, q2, k1, v1.below k2 hok, v2.below k2 hok⟩, k2⟩
   · rw [Z2l hxh]
     rw [hTW, show (Z0 x == [c] && true && true) = false by simp [hxh]] at HI
     exact Z2k c _ _ _ _ _ _ rfl w HI
theorem tp_fst (ok : Nat → Prop) (ta : Tr) (u v : Value) (w : World) (hok : ∀ k, ok k → k < w.heap.size) (hty : Zp ta = true) (hr : Z1y w ok [ta] v) :
 Calls prog 92 #[.iface 164 u, v] w fun e w' => Je w ok (J7 .fst ta) e w' ∧ Below w.heap.size w w' := by
 obtain ⟨r, off, cap, ys, rfl, h1, h2, h3, h4, h5⟩ : ∃ r off cap ys, v = .slice (some ⟨r, off, none⟩) 1 cap ∧ 1 ≤ cap ∧ cap ≤ maxLen ∧ r < w.heap.size ∧ Y4 w r off ys ∧ FVs nI w ok [ta] ys := by
  rcases hr with ⟨h, _⟩ | h
  · cases h
  · exact h
 have hm := Zt h2
 obtain ⟨cs1, g1, w1⟩ := FVs.get Qc h5 h4 0 (by simp)
 obtain ⟨p1, n1, c1, rfl⟩ := g1.node
 simp only [List.getElem_cons_zero, List.getElem_cons_succ] at g1 w1
 obtain ⟨ua, a1, a2, a3, hu1, hx1, hy1, hz1, hq1⟩ := Zq ta
 rw [hq1] at w1
 have x0 : w.cell? ⟨r, off, none⟩ = some (.string ua) := by simpa using w1 0 _ rfl
 have x1 : w.cell? ⟨r, off + 1, none⟩ = some (.slice p1 n1 c1) := by simpa using w1 1 _ rfl
 have x2 : w.cell? ⟨r, off + 2, none⟩ = some (.int .i64 a1) := by simpa using w1 2 _ rfl
 have x3 : w.cell? ⟨r, off + 3, none⟩ = some (.int .i64 a2) := by simpa using w1 3 _ rfl
 have x4 : w.cell? ⟨r, off + 4, none⟩ = some (.int .i64 a3) := by simpa using w1 4 _ rfl
 have KS : Hid (∀ W, Below w.heap.size w W → W.cell? ⟨r, off, none⟩ = some (.string ua) ∧ W.cell? ⟨r, off + 1, none⟩ = some (.slice p1 n1 c1) ∧ W.cell? ⟨r, off + 2, none⟩ = some (.int .i64 a1) ∧ W.cell? ⟨r, off + 3, none⟩ = some (.int .i64 a2) ∧ W.cell? ⟨r, off + 4, none⟩ = some (.int .i64 a3)) := H_ (fun W hW => ⟨(hW.cell (p := ⟨r, off, none⟩) h3).trans (x0), (hW.cell (p := ⟨r, off + 1, none⟩) h3).trans (x1), (hW.cell (p := ⟨r, off + 2, none⟩) h3).trans (x2), (hW.cell (p := ⟨r, off + 3, none⟩) h3).trans (x3), (hW.cell (p := ⟨r, off + 4, none⟩) h3).trans (x4)⟩)
 have hwf := (Zf hty).1
 cases hs : Ya 42 ta with
 | none =>
   have CS : Hid (∀ W, Below w.heap.size w W → Calls prog 113 #[.agg #[.string ua, .slice p1 n1 c1, .int .i64 a1, .int .i64 a2, .int .i64 a3], .string ⟨#[42]⟩] W fun e w' => e = .returned (.tuple #[.agg #[.string ⟨#[]⟩, .slice none 0 0, .int .i64 0, .int .i64 0, .int .i64 0], .agg #[.string ⟨#[]⟩, .slice none 0 0, .int .i64 0, .int .i64 0, .int .i64 0], .bool false]) ∧ Below W.heap.size W w') := H_ (fun W hW => by
    have h := Z24 ok 42 ta p1 n1 c1 W (fun k hk => Nat.lt_of_lt_of_le (hok k hk) hW.size) (Zy hty).1 hwf (g1.below hW hok)
    rw [hs, ← hu1, ← hx1, ← hy1, ← hz1] at h
    exact h)
   rw [show J7 .fst ta = none by simp [J7, hs]]
   have kx := KS.out _ (Z4 w (.cells #[.string ⟨#[]⟩, .slice none 0 0, .int .i64 0, .int .i64 0, .int .i64 0] 56))
   obtain ⟨ix0, ix1, ix2, ix3, ix4⟩ := kx
   clear hty hwf hs KS g1 w1 hu1 hx1 hy1 hz1 hq1 x0 x1 x2 x3 x4 h4 h5 hr h1
   go_enter func92, ntmps92
   go_wp2_with (go_at_call 113; go_must (refine (CS.out _ (Z4 w _)).mono ?_; rintro e w1 ⟨rfl, hb1⟩; have y9 := Z8 (o' := (.cells #[.string ⟨#[]⟩, .slice none 0 0, .int .i64 0, .int .i64 0, .int .i64 0] 56)) (Z8 (o' := (.cells #[.string ⟨#[]⟩, .slice none 0 0, .int .i64 0, .int .i64 0, .int .i64 0] 56)) (Z1 hb1 (lt_of_block (heap_alloc_new w (.cells #[.string ⟨#[]⟩, .slice none 0 0, .int .i64 0, .int .i64 0, .int .i64 0] 56))) (heap_alloc_new w (.cells #[.string ⟨#[]⟩, .slice none 0 0, .int .i64 0, .int .i64 0, .int .i64 0] 56)))); have hB9 := H_ ((Y0 (Y0 (Yk (Z4 w (.cells #[.string ⟨#[]⟩, .slice none 0 0, .int .i64 0, .int .i64 0, .int .i64 0] 56))) hb1) (Zl w1 (.cells #[.string ⟨#[]⟩, .slice none 0 0, .int .i64 0, .int .i64 0, .int .i64 0] 56) (.cells #[.string ⟨#[]⟩, .slice none 0 0, .int .i64 0, .int .i64 0, .int .i64 0] 56))).1); obtain ⟨f0, f1, f2, f3, f4⟩ := Zg y9; obtain ⟨z0, z1, z2, z3, z4⟩ := Zb y9))
   have O := Zi y9 (.string ⟨#[]⟩) (.slice none 0 0) (.int .i64 0) (.int .i64 0) (.int .i64 0)
   obtain ⟨r0, r1, r2, r3, r4⟩ := Zb O
   refine bodyPost_ret (v := .tuple #[.agg #[.string ⟨#[]⟩, .slice none 0 0, .int .i64 0, .int .i64 0, .int .i64 0], .bool false]) (by simp [results, results92, go_sem, r0, r1, r2, r3, r4]) rfl ⟨⟨_, _, _, _, _, _, _, rfl⟩, ?_⟩
   exact Yy hB9.out (Nat.le_refl _) _ _ _ _ _
 | some ab =>
   obtain ⟨a, b⟩ := ab
   obtain ⟨xa, g1', g2', g3', hxa, hg1, hg2, hg3, hqa⟩ := Zq a
   obtain ⟨xb, e1', e2', e3', hxb, he1, he2, he3, hqb⟩ := Zq b
   obtain ⟨g1i, hg1i⟩ : ∃ x : Int, x = g1' := ⟨_, rfl⟩
   have CS : Hid (∀ W, Below w.heap.size w W → Calls prog 113 #[.agg #[.string ua, .slice p1 n1 c1, .int .i64 a1, .int .i64 a2, .int .i64 a3], .string ⟨#[42]⟩] W fun e w' => (∃ q1 m1 k1 q2 m2 k2, e = .returned (.tuple #[.agg #[.string xa, .slice q1 m1 k1, .int .i64 g1', .int .i64 g2', .int .i64 g3'], .agg #[.string xb, .slice q2 m2 k2, .int .i64 e1', .int .i64 e2', .int .i64 e3'], .bool true]) ∧ FV nI w' ok a (nI a (.slice q1 m1 k1)) ∧ FV nI w' ok b (nI b (.slice q2 m2 k2))) ∧ Below W.heap.size W w') := H_ (fun W hW => by
    have h := Z24 ok 42 ta p1 n1 c1 W (fun k hk => Nat.lt_of_lt_of_le (hok k hk) hW.size) (Zy hty).1 hwf (g1.below hW hok)
    rw [hs, ← hu1, ← hx1, ← hy1, ← hz1] at h
    rw [hxa, hg1, hg2, hg3, hxb, he1, he2, he3]
    exact h)
   rw [show J7 .fst ta = some a by simp [J7, hs]]
   have HE := H_ (And.intro hxa (And.intro hg1 (And.intro hg2 hg3)))
   have kx := KS.out _ (Z4 w (.cells #[.string ⟨#[]⟩, .slice none 0 0, .int .i64 0, .int .i64 0, .int .i64 0] 56))
   obtain ⟨ix0, ix1, ix2, ix3, ix4⟩ := kx
   clear hty hwf hs KS hxa hg1 hg2 hg3 hqa hxb he1 he2 he3 hqb hg1i g1 w1 hu1 hx1 hy1 hz1 hq1 x0 x1 x2 x3 x4 h4 h5 hr h1
   go_enter func92, ntmps92
   go_wp2_with (go_at_call 113; go_must (refine (CS.out _ (Z4 w _)).mono ?_; rintro e w1 ⟨⟨q1, m1, k1, q2, m2, k2, rfl, hfa, hfb⟩, hb1⟩; have y9 := Z8 (o' := (.cells #[.string xb, .slice q2 m2 k2, .int .i64 e1', .int .i64 e2', .int .i64 e3'] 56)) (Z8 (o' := (.cells #[.string xa, .slice q1 m1 k1, .int .i64 g1', .int .i64 g2', .int .i64 g3'] 56)) (Z1 hb1 (lt_of_block (heap_alloc_new w (.cells #[.string ⟨#[]⟩, .slice none 0 0, .int .i64 0, .int .i64 0, .int .i64 0] 56))) (heap_alloc_new w (.cells #[.string ⟨#[]⟩, .slice none 0 0, .int .i64 0, .int .i64 0, .int .i64 0] 56)))); have hB9 := H_ ((Y0 (Y0 (Yk (Z4 w (.cells #[.string ⟨#[]⟩, .slice none 0 0, .int .i64 0, .int .i64 0, .int .i64 0] 56))) hb1) (Zl w1 (.cells #[.string xa, .slice q1 m1 k1, .int .i64 g1', .int .i64 g2', .int .i64 g3'] 56) (.cells #[.string xb, .slice q2 m2 k2, .int .i64 e1', .int .i64 e2', .int .i64 e3'] 56))).1); obtain ⟨f0, f1, f2, f3, f4⟩ := Zg y9; obtain ⟨z0, z1, z2, z3, z4⟩ := Zb y9))
   have O := Zi y9 (.string xa) (.slice q1 m1 k1) (.int .i64 g1') (.int .i64 g2') (.int .i64 g3')
   obtain ⟨r0, r1, r2, r3, r4⟩ := Zb O
   refine bodyPost_ret (v := .tuple #[.agg #[.string xa, .slice q1 m1 k1, .int .i64 g1', .int .i64 g2', .int .i64 g3'], .bool true]) (by simp [results, results92, go_sem, r0, r1, r2, r3, r4]) rfl ⟨?_, ?_⟩
   · obtain ⟨z1, z2, z3, z4⟩ := HE.out
     refine ⟨_, _, _, by rw [z1, z2, z3, z4], FV.move (fun k hk => .inl hk) (fun k hk => ?_) _ _ hfa⟩
     have hk2 := hok k hk
     have hk3 := hb1.size
     simp only [Xg] at hk3
     refine (Yd (by omega) _ _ _ _ _).trans ?_
     rw [heap_alloc_old _ _ (by simp; omega), heap_alloc_old _ _ (by omega)]
   · exact Yy hB9.out (Nat.le_refl _) _ _ _ _ _
theorem tp_snd (ok : Nat → Prop) (ta : Tr) (u v : Value) (w : World) (hok : ∀ k, ok k → k < w.heap.size) (hty : Zp ta = true) (hr : Z1y w ok [ta] v) :
 Calls prog 92 #[.iface 165 u, v] w fun e w' => Je w ok (J7 .snd ta) e w' ∧ Below w.heap.size w w' := by
 obtain ⟨r, off, cap, ys, rfl, h1, h2, h3, h4, h5⟩ : ∃ r off cap ys, v = .slice (some ⟨r, off, none⟩) 1 cap ∧ 1 ≤ cap ∧ cap ≤ maxLen ∧ r < w.heap.size ∧ Y4 w r off ys ∧ FVs nI w ok [ta] ys := by
  rcases hr with ⟨h, _⟩ | h
  · cases h
  · exact h
 have hm := Zt h2
 obtain ⟨cs1, g1, w1⟩ := FVs.get Qc h5 h4 0 (by simp)
 obtain ⟨p1, n1, c1, rfl⟩ := g1.node
 simp only [List.getElem_cons_zero, List.getElem_cons_succ] at g1 w1
 obtain ⟨ua, a1, a2, a3, hu1, hx1, hy1, hz1, hq1⟩ := Zq ta
 rw [hq1] at w1
 have x0 : w.cell? ⟨r, off, none⟩ = some (.string ua) := by simpa using w1 0 _ rfl
 have x1 : w.cell? ⟨r, off + 1, none⟩ = some (.slice p1 n1 c1) := by simpa using w1 1 _ rfl
 have x2 : w.cell? ⟨r, off + 2, none⟩ = some (.int .i64 a1) := by simpa using w1 2 _ rfl
 have x3 : w.cell? ⟨r, off + 3, none⟩ = some (.int .i64 a2) := by simpa using w1 3 _ rfl
 have x4 : w.cell? ⟨r, off + 4, none⟩ = some (.int .i64 a3) := by simpa using w1 4 _ rfl
 have KS : Hid (∀ W, Below w.heap.size w W → W.cell? ⟨r, off, none⟩ = some (.string ua) ∧ W.cell? ⟨r, off + 1, none⟩ = some (.slice p1 n1 c1) ∧ W.cell? ⟨r, off + 2, none⟩ = some (.int .i64 a1) ∧ W.cell? ⟨r, off + 3, none⟩ = some (.int .i64 a2) ∧ W.cell? ⟨r, off + 4, none⟩ = some (.int .i64 a3)) := H_ (fun W hW => ⟨(hW.cell (p := ⟨r, off, none⟩) h3).trans (x0), (hW.cell (p := ⟨r, off + 1, none⟩) h3).trans (x1), (hW.cell (p := ⟨r, off + 2, none⟩) h3).trans (x2), (hW.cell (p := ⟨r, off + 3, none⟩) h3).trans (x3), (hW.cell (p := ⟨r, off + 4, none⟩) h3).trans (x4)⟩)
 have hwf := (Zf hty).1
 cases hs : Ya 42 ta with
 | none =>
   have CS : Hid (∀ W, Below w.heap.size w W → Calls prog 113 #[.agg #[.string ua, .slice p1 n1 c1, .int .i64 a1, .int .i64 a2, .int .i64 a3], .string ⟨#[42]⟩] W fun e w' => e = .returned (.tuple #[.agg #[.string ⟨#[]⟩, .slice none 0 0, .int .i64 0, .int .i64 0, .int .i64 0], .agg #[.string ⟨#[]⟩, .slice none 0 0, .int .i64 0, .int .i64 0, .int .i64 0], .bool false]) ∧ Below W.heap.size W w') := H_ (fun W hW => by
    have h := Z24 ok 42 ta p1 n1 c1 W (fun k hk => Nat.lt_of_lt_of_le (hok k hk) hW.size) (Zy hty).1 hwf (g1.below hW hok)
    rw [hs, ← hu1, ← hx1, ← hy1, ← hz1] at h
    exact h)
   rw [show J7 .snd ta = none by simp [J7, hs]]
   have kx := KS.out _ (Z4 w (.cells #[.string ⟨#[]⟩, .slice none 0 0, .int .i64 0, .int .i64 0, .int .i64 0] 56))
   obtain ⟨ix0, ix1, ix2, ix3, ix4⟩ := kx
   clear hty hwf hs KS g1 w1 hu1 hx1 hy1 hz1 hq1 x0 x1 x2 x3 x4 h4 h5 hr h1
   go_enter func92, ntmps92
   go_wp2_with (go_at_call 113; go_must (refine (CS.out _ (Z4 w _)).mono ?_; rintro e w1 ⟨rfl, hb1⟩; have y9 := Z8 (o' := (.cells #[.string ⟨#[]⟩, .slice none 0 0, .int .i64 0, .int .i64 0, .int .i64 0] 56)) (Z8 (o' := (.cells #[.string ⟨#[]⟩, .slice none 0 0, .int .i64 0, .int .i64 0, .int .i64 0] 56)) (Z1 hb1 (lt_of_block (heap_alloc_new w (.cells #[.string ⟨#[]⟩, .slice none 0 0, .int .i64 0, .int .i64 0, .int .i64 0] 56))) (heap_alloc_new w (.cells #[.string ⟨#[]⟩, .slice none 0 0, .int .i64 0, .int .i64 0, .int .i64 0] 56)))); have hB9 := H_ ((Y0 (Y0 (Yk (Z4 w (.cells #[.string ⟨#[]⟩, .slice none 0 0, .int .i64 0, .int .i64 0, .int .i64 0] 56))) hb1) (Zl w1 (.cells #[.string ⟨#[]⟩, .slice none 0 0, .int .i64 0, .int .i64 0, .int .i64 0] 56) (.cells #[.string ⟨#[]⟩, .slice none 0 0, .int .i64 0, .int .i64 0, .int .i64 0] 56))).1); obtain ⟨f0, f1, f2, f3, f4⟩ := Zg y9; obtain ⟨z0, z1, z2, z3, z4⟩ := Zb y9))
   have O := Zi y9 (.string ⟨#[]⟩) (.slice none 0 0) (.int .i64 0) (.int .i64 0) (.int .i64 0)
   obtain ⟨r0, r1, r2, r3, r4⟩ := Zb O
   refine bodyPost_ret (v := .tuple #[.agg #[.string ⟨#[]⟩, .slice none 0 0, .int .i64 0, .int .i64 0, .int .i64 0], .bool false]) (by simp [results, results92, go_sem, r0, r1, r2, r3, r4]) rfl ⟨⟨_, _, _, _, _, _, _, rfl⟩, ?_⟩
   exact Yy hB9.out (Nat.le_refl _) _ _ _ _ _
 | some ab =>
   obtain ⟨a, b⟩ := ab
   obtain ⟨xa, g1', g2', g3', hxa, hg1, hg2, hg3, hqa⟩ := Zq a
   obtain ⟨xb, e1', e2', e3', hxb, he1, he2, he3, hqb⟩ := Zq b
   obtain ⟨g1i, hg1i⟩ : ∃ x : Int, x = g1' := ⟨_, rfl⟩
   have CS : Hid (∀ W, Below w.heap.size w W → Calls prog 113 #[.agg #[.string ua, .slice p1 n1 c1, .int .i64 a1, .int .i64 a2, .int .i64 a3], .string ⟨#[42]⟩] W fun e w' => (∃ q1 m1 k1 q2 m2 k2, e = .returned (.tuple #[.agg #[.string xa, .slice q1 m1 k1, .int .i64 g1', .int .i64 g2', .int .i64 g3'], .agg #[.string xb, .slice q2 m2 k2, .int .i64 e1', .int .i64 e2', .int .i64 e3'], .bool true]) ∧ FV nI w' ok a (nI a (.slice q1 m1 k1)) ∧ FV nI w' ok b (nI b (.slice q2 m2 k2))) ∧ Below W.heap.size W w') := H_ (fun W hW => by
    have h := Z24 ok 42 ta p1 n1 c1 W (fun k hk => Nat.lt_of_lt_of_le (hok k hk) hW.size) (Zy hty).1 hwf (g1.below hW hok)
    rw [hs, ← hu1, ← hx1, ← hy1, ← hz1] at h
    rw [hxa, hg1, hg2, hg3, hxb, he1, he2, he3]
    exact h)
   rw [show J7 .snd ta = some b by simp [J7, hs]]
   have HE := H_ (And.intro hxb (And.intro he1 (And.intro he2 he3)))
   have kx := KS.out _ (Z4 w (.cells #[.string ⟨#[]⟩, .slice none 0 0, .int .i64 0, .int .i64 0, .int .i64 0] 56))
   obtain ⟨ix0, ix1, ix2, ix3, ix4⟩ := kx
   clear hty hwf hs KS hxa hg1 hg2 hg3 hqa hxb he1 he2 he3 hqb hg1i g1 w1 hu1 hx1 hy1 hz1 hq1 x0 x1 x2 x3 x4 h4 h5 hr h1
   go_enter func92, ntmps92
   go_wp2_with (go_at_call 113; go_must (refine (CS.out _ (Z4 w _)).mono ?_; rintro e w1 ⟨⟨q1, m1, k1, q2, m2, k2, rfl, hfa, hfb⟩, hb1⟩; have y9 := Z8 (o' := (.cells #[.string xb, .slice q2 m2 k2, .int .i64 e1', .int .i64 e2', .int .i64 e3'] 56)) (Z8 (o' := (.cells #[.string xa, .slice q1 m1 k1, .int .i64 g1', .int .i64 g2', .int .i64 g3'] 56)) (Z1 hb1 (lt_of_block (heap_alloc_new w (.cells #[.string ⟨#[]⟩, .slice none 0 0, .int .i64 0, .int .i64 0, .int .i64 0] 56))) (heap_alloc_new w (.cells #[.string ⟨#[]⟩, .slice none 0 0, .int .i64 0, .int .i64 0, .int .i64 0] 56)))); have hB9 := H_ ((Y0 (Y0 (Yk (Z4 w (.cells #[.string ⟨#[]⟩, .slice none 0 0, .int .i64 0, .int .i64 0, .int .i64 0] 56))) hb1) (Zl w1 (.cells #[.string xa, .slice q1 m1 k1, .int .i64 g1', .int .i64 g2', .int .i64 g3'] 56) (.cells #[.string xb, .slice q2 m2 k2, .int .i64 e1', .int .i64 e2', .int .i64 e3'] 56))).1); obtain ⟨f0, f1, f2, f3, f4⟩ := Zg y9; obtain ⟨z0, z1, z2, z3, z4⟩ := Zb y9))
   have O := Zi y9 (.string xb) (.slice q2 m2 k2) (.int .i64 e1') (.int .i64 e2') (.int .i64 e3')
   obtain ⟨r0, r1, r2, r3, r4⟩ := Zb O
   refine bodyPost_ret (v := .tuple #[.agg #[.string xb, .slice q2 m2 k2, .int .i64 e1', .int .i64 e2', .int .i64 e3'], .bool true]) (by simp [results, results92, go_sem, r0, r1, r2, r3, r4]) rfl ⟨?_, ?_⟩
   · obtain ⟨z1, z2, z3, z4⟩ := HE.out
     refine ⟨_, _, _, by rw [z1, z2, z3, z4], FV.move (fun k hk => .inl hk) (fun k hk => ?_) _ _ hfb⟩
     have hk2 := hok k hk
     have hk3 := hb1.size
     simp only [Xg] at hk3
     refine (Yd (by omega) _ _ _ _ _).trans ?_
     rw [heap_alloc_old _ _ (by simp; omega), heap_alloc_old _ _ (by omega)]
   · exact Yy hB9.out (Nat.le_refl _) _ _ _ _ _
end Go.Proofs.YtfknoigbkleanaaGreatDoor
