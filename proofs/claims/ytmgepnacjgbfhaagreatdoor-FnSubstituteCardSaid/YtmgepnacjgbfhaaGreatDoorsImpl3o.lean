/- The program makes the plainest expression of a type. -/
import Derived.Test.YtmgepnacjgbfhaaGreatDoorsPureSM
import Derived.Test.YtmgepnacjgbfhaaGreatDoorsImpl1k
import Derived.Test.YtmgepnacjgbfhaaGreatDoorsSpec3hM
import Derived.Deep.RegionHeld3
namespace Go.Proofs.YtmgepnacjgbfhaaGreatDoor
open Go.RowKit Go.Proofs.Tryz
set_option maxRecDepth 8000
set_option maxHeartbeats 20000000
set_option linter.unusedVariables false
set_option linter.unusedSimpArgs false
theorem fm_of : ∀ (n : Nat) (t : Tr), t.depth ≤ n → Zn t = true → FmC (Ys t)
 | _, .atom a, _, _ => by rw [Kd]; exact fm_num 0
 | 0, .list ts, hd, h => by
   obtain ⟨x, a, b, rfl, -⟩ := Q3 (Zw h).1
   have := Jv x a b
   omega
 | n + 1, .list ts, hd, h => by
   obtain ⟨x, a, b, rfl, hx, -⟩ := Q3 (Zw h).1
   have hdd := Jv x a b
   rw [J8]
   by_cases e : Z0 x = [42]
   · have hab := Xk h (Q9 (a := a) (b := b) e)
     rw [if_pos e]
     exact fm_pair _ _ (fm_of n a (by omega) hab.1) (fm_of n b (by omega) hab.2)
   · have e2 : Z0 x = [62] := hx.resolve_right e
     have hab := Xk h (Q9 (a := a) (b := b) e2)
     rw [if_neg e]
     exact fm_fun [102] [120] a b _ (fm_of n b (by omega) hab.2)
def OfCi (n : Nat) : Prop := ∀ (t : Tr) (p : Option Addr) (m c : Nat) (w : World), t.depth < n → Zn t = true → FV nI w (fun k => k < w.heap.size) t (nI t (.slice p m c)) →
    Calls prog 29 #[.agg #[.string (bs (Z0 t)), .slice p m c, .int .i64 t.bytes, .int .i64 t.size, .int .i64 t.depth]] w fun e w' => (∃ v, e = .returned v ∧ EV w' (fun k => k < w'.heap.size) (Ys t) v) ∧ Below w.heap.size w w'
theorem sides_n {c : UInt8} {t : Tr} (hty : Zn t = true) (hs : Zy c t = none) {p : Option Addr} {m k : Nat} {W : World} (hv : FV nI W (fun q => q < W.heap.size) t (nI t (.slice p m k))) :
 Calls prog 63 #[.agg #[.string (bs (Z0 t)), .slice p m k, .int .i64 t.bytes, .int .i64 t.size, .int .i64 t.depth], .string ⟨#[c]⟩] W fun e w' => e = .returned (.tuple #[.agg #[.string ⟨#[]⟩, .slice none 0 0, .int .i64 0, .int .i64 0, .int .i64 0], .agg #[.string ⟨#[]⟩, .slice none 0 0, .int .i64 0, .int .i64 0, .int .i64 0], .bool false]) ∧ Below W.heap.size W w' := by
 have h := sides_c c t p m k W (Zw hty).1 (Ze hty).1 hv
 rw [hs] at h
 exact h
theorem sides_s {c : UInt8} {t a b : Tr} (hty : Zn t = true) (hs : Zy c t = some (a, b)) {p : Option Addr} {m k : Nat} {W : World} (hv : FV nI W (fun q => q < W.heap.size) t (nI t (.slice p m k))) :
 Calls prog 63 #[.agg #[.string (bs (Z0 t)), .slice p m k, .int .i64 t.bytes, .int .i64 t.size, .int .i64 t.depth], .string ⟨#[c]⟩] W fun e w' => (∃ p1 n1 c1 p2 n2 c2, e = .returned (.tuple #[.agg #[.string (bs (Z0 a)), .slice p1 n1 c1, .int .i64 a.bytes, .int .i64 a.size, .int .i64 a.depth], .agg #[.string (bs (Z0 b)), .slice p2 n2 c2, .int .i64 b.bytes, .int .i64 b.size, .int .i64 b.depth], .bool true]) ∧ FV nI w' (fun k => k < W.heap.size) a (nI a (.slice p1 n1 c1)) ∧ FV nI w' (fun k => k < W.heap.size) b (nI b (.slice p2 n2 c2))) ∧ Below W.heap.size W w' := by
 have h := sides_c c t p m k W (Zw hty).1 (Ze hty).1 hv
 rw [hs] at h
 exact h
theorem FV.onO {w w' : World} {t : Tr} {cs : List Value} (h : FV nI w (fun k => k < w.heap.size) t cs) (hb : Below w.heap.size w w') : FV nI w' (fun k => k < w'.heap.size) t cs := (h.below hb (fun _ h => h)).wide (fun k hk => Nat.lt_of_lt_of_le hk hb.size)
theorem EV.onO {w w' : World} {x : Ex} {v : Value} (h : EV w (fun k => k < w.heap.size) x v) (hb : Below w.heap.size w w') : EV w' (fun k => k < w'.heap.size) x v := EV.move (fun k hk => Nat.lt_of_lt_of_le hk hb.size) (fun k hk => hb.block k hk) _ _ h
theorem of_num (t : Tr) (hty : Zn t = true) (h1 : Zy 62 t = none) (h2 : Zy 42 t = none) (he : Ys t = .num 0) (p : Option Addr) (m c : Nat) (w : World) (hv : FV nI w (fun k => k < w.heap.size) t (nI t (.slice p m c))) :
 Calls prog 29 #[.agg #[.string (bs (Z0 t)), .slice p m c, .int .i64 t.bytes, .int .i64 t.size, .int .i64 t.depth]] w fun e w' => (∃ v, e = .returned v ∧ EV w' (fun k => k < w'.heap.size) (Ys t) v) ∧ Below w.heap.size w w' := by
 rw [he]
 obtain ⟨tu, t1, t2, t3, hu, ht1, ht2, ht3, hq⟩ := Zm t
 have S1 : Hid (∀ (W : World), FV nI W (fun q => q < W.heap.size) t (nI t (.slice p m c)) → Calls prog 63 #[.agg #[.string tu, .slice p m c, .int .i64 t1, .int .i64 t2, .int .i64 t3], .string ⟨#[62]⟩] W fun e w' => e = .returned (.tuple #[.agg #[.string ⟨#[]⟩, .slice none 0 0, .int .i64 0, .int .i64 0, .int .i64 0], .agg #[.string ⟨#[]⟩, .slice none 0 0, .int .i64 0, .int .i64 0, .int .i64 0], .bool false]) ∧ Below W.heap.size W w') := H_ (fun W k => by rw [hu, ht1, ht2, ht3]; exact sides_n hty h1 k)
 have S2 : Hid (∀ (W : World), FV nI W (fun q => q < W.heap.size) t (nI t (.slice p m c)) → Calls prog 63 #[.agg #[.string tu, .slice p m c, .int .i64 t1, .int .i64 t2, .int .i64 t3], .string ⟨#[42]⟩] W fun e w' => e = .returned (.tuple #[.agg #[.string ⟨#[]⟩, .slice none 0 0, .int .i64 0, .int .i64 0, .int .i64 0], .agg #[.string ⟨#[]⟩, .slice none 0 0, .int .i64 0, .int .i64 0, .int .i64 0], .bool false]) ∧ Below W.heap.size W w') := H_ (fun W k => by rw [hu, ht1, ht2, ht3]; exact sides_n hty h2 k)
 rw [← hu, ← ht1, ← ht2, ← ht3]
 have V0 := H_ (FV.onO hv (Z4 w (.cells #[.string tu, .slice p m c, .int .i64 t1, .int .i64 t2, .int .i64 t3] 49)))
 have y0 := heap_alloc_new w (.cells #[.string tu, .slice p m c, .int .i64 t1, .int .i64 t2, .int .i64 t3] 49)
 have HB0 := H_ (Xp (Z4 w (.cells #[.string tu, .slice p m c, .int .i64 t1, .int .i64 t2, .int .i64 t3] 49)))
 clear hty h1 h2 he hv hu ht1 ht2 ht3 hq
 go_enter func29, ntmps29
 go_wp2_with (go_at_call 63; first | ((with_reducible refine (S1.out _ V0.out).mono ?_); rintro e w1 ⟨rfl, hb1⟩; have y1 := Z5 (o' := (.cells #[.string ⟨#[]⟩, .slice none 0 0, .int .i64 0, .int .i64 0, .int .i64 0] 49)) (Z5 (o' := (.cells #[.string ⟨#[]⟩, .slice none 0 0, .int .i64 0, .int .i64 0, .int .i64 0] 49)) (Z1 hb1 (lt_of_block y0) y0)); obtain ⟨z0, z1, z2, z3, z4⟩ := Zb y1; have V1 := H_ (FV.onO (FV.onO V0.out hb1) (Zi w1 (.cells #[.string ⟨#[]⟩, .slice none 0 0, .int .i64 0, .int .i64 0, .int .i64 0] 49) (.cells #[.string ⟨#[]⟩, .slice none 0 0, .int .i64 0, .int .i64 0, .int .i64 0] 49))); have B1 := H_ (Yb (Yb HB0.out hb1) (Zi w1 (.cells #[.string ⟨#[]⟩, .slice none 0 0, .int .i64 0, .int .i64 0, .int .i64 0] 49) (.cells #[.string ⟨#[]⟩, .slice none 0 0, .int .i64 0, .int .i64 0, .int .i64 0] 49)))) | ((with_reducible refine (S2.out _ V1.out).mono ?_); rintro e w2 ⟨rfl, hb2⟩))
 go_ret
 exact ⟨⟨_, rfl, by simp only [EV]; rfl⟩, (Yb (Yb B1.out hb2) (Zi _ _ _)).1⟩
theorem of_fun (n : Nat) (ih : OfCi n) (t a b : Tr) (hty : Zn t = true) (h1 : Zy 62 t = some (a, b)) (he : Ys t = .func [102] [120] a b (Ys b)) (hdb : b.depth < n) (hbT : Zn b = true) (p : Option Addr) (m c : Nat) (w : World) (hv : FV nI w (fun k => k < w.heap.size) t (nI t (.slice p m c))) :
 Calls prog 29 #[.agg #[.string (bs (Z0 t)), .slice p m c, .int .i64 t.bytes, .int .i64 t.size, .int .i64 t.depth]] w fun e w' => (∃ v, e = .returned v ∧ EV w' (fun k => k < w'.heap.size) (Ys t) v) ∧ Below w.heap.size w w' := by
 rw [he]
 obtain ⟨tu, t1, t2, t3, hu, ht1, ht2, ht3, hq⟩ := Zm t
 obtain ⟨ua, a1, a2, a3, hua, ha1, ha2, ha3, hna⟩ := Zm a
 obtain ⟨ub, b1, b2, b3, hub, hb1', hb2', hb3', hnb⟩ := Zm b
 have S1 : Hid (∀ (W : World), FV nI W (fun q => q < W.heap.size) t (nI t (.slice p m c)) → Calls prog 63 #[.agg #[.string tu, .slice p m c, .int .i64 t1, .int .i64 t2, .int .i64 t3], .string ⟨#[62]⟩] W fun e w' => (∃ p1 n1 c1 p2 n2 c2, e = .returned (.tuple #[.agg #[.string ua, .slice p1 n1 c1, .int .i64 a1, .int .i64 a2, .int .i64 a3], .agg #[.string ub, .slice p2 n2 c2, .int .i64 b1, .int .i64 b2, .int .i64 b3], .bool true]) ∧ FV nI w' (fun k => k < W.heap.size) a (nI a (.slice p1 n1 c1)) ∧ FV nI w' (fun k => k < W.heap.size) b (nI b (.slice p2 n2 c2))) ∧ Below W.heap.size W w') := H_ (fun W k => by rw [hu, ht1, ht2, ht3, hua, ha1, ha2, ha3, hub, hb1', hb2', hb3']; exact sides_s hty h1 k)
 have CR : Hid (∀ (W : World) p2 n2 c2, FV nI W (fun k => k < W.heap.size) b (nI b (.slice p2 n2 c2)) → Calls prog 29 #[.agg #[.string ub, .slice p2 n2 c2, .int .i64 b1, .int .i64 b2, .int .i64 b3]] W fun e w' => (∃ v, e = .returned v ∧ EV w' (fun k => k < w'.heap.size) (Ys b) v) ∧ Below W.heap.size W w') := H_ (fun W p2 n2 c2 k => by rw [hub, hb1', hb2', hb3']; exact ih b p2 n2 c2 W hdb hbT k)
 rw [← hu, ← ht1, ← ht2, ← ht3]
 have V0 := H_ (FV.onO hv (Z4 w (.cells #[.string tu, .slice p m c, .int .i64 t1, .int .i64 t2, .int .i64 t3] 49)))
 have HB0 := H_ (Xp (Z4 w (.cells #[.string tu, .slice p m c, .int .i64 t1, .int .i64 t2, .int .i64 t3] 49)))
 have HNA := H_ hna
 have HNB := H_ hnb
 clear hty h1 he hv hu ht1 ht2 ht3 hq hua ha1 ha2 ha3 hub hb1' hb2' hb3' ih hdb hbT hna hnb
 go_enter func29, ntmps29
 go_wp2_with (go_at_call 63; go_must (refine (S1.out _ V0.out).mono ?_; rintro e w1 ⟨⟨p1, n1, c1, p2, n2, c2, rfl, hva, hvb⟩, hb1⟩; have hS := H_ hb1.size))
 have XA := Z5 (o' := (.cells #[.string ub, .slice p2 n2 c2, .int .i64 b1, .int .i64 b2, .int .i64 b3] 49)) (heap_alloc_new w1 (.cells #[.string ua, .slice p1 n1 c1, .int .i64 a1, .int .i64 a2, .int .i64 a3] 49))
 have XB := Z9 w1 (.cells #[.string ua, .slice p1 n1 c1, .int .i64 a1, .int .i64 a2, .int .i64 a3] 49) (.cells #[.string ub, .slice p2 n2 c2, .int .i64 b1, .int .i64 b2, .int .i64 b3] 49)
 have VA := H_ ((hva.below (Zi w1 (.cells #[.string ua, .slice p1 n1 c1, .int .i64 a1, .int .i64 a2, .int .i64 a3] 49) (.cells #[.string ub, .slice p2 n2 c2, .int .i64 b1, .int .i64 b2, .int .i64 b3] 49)) (fun k hk => Nat.lt_of_lt_of_le hk hS.out)).wide (ok' := fun q => q < ((w1.alloc (.cells #[.string ua, .slice p1 n1 c1, .int .i64 a1, .int .i64 a2, .int .i64 a3] 49)).alloc (.cells #[.string ub, .slice p2 n2 c2, .int .i64 b1, .int .i64 b2, .int .i64 b3] 49)).heap.size) (fun k hk => by have := hS.out; simp at *; omega))
 have VB := H_ ((hvb.below (Zi w1 (.cells #[.string ua, .slice p1 n1 c1, .int .i64 a1, .int .i64 a2, .int .i64 a3] 49) (.cells #[.string ub, .slice p2 n2 c2, .int .i64 b1, .int .i64 b2, .int .i64 b3] 49)) (fun k hk => Nat.lt_of_lt_of_le hk hS.out)).wide (ok' := fun q => q < ((w1.alloc (.cells #[.string ua, .slice p1 n1 c1, .int .i64 a1, .int .i64 a2, .int .i64 a3] 49)).alloc (.cells #[.string ub, .slice p2 n2 c2, .int .i64 b1, .int .i64 b2, .int .i64 b3] 49)).heap.size) (fun k hk => by have := hS.out; simp at *; omega))
 have BW := H_ ((Yb (Yb HB0.out hb1) (Zi w1 (.cells #[.string ua, .slice p1 n1 c1, .int .i64 a1, .int .i64 a2, .int .i64 a3] 49) (.cells #[.string ub, .slice p2 n2 c2, .int .i64 b1, .int .i64 b2, .int .i64 b3] 49))).1)
 clear hva hvb hb1
 generalize hwx : (w1.alloc (.cells #[.string ua, .slice p1 n1 c1, .int .i64 a1, .int .i64 a2, .int .i64 a3] 49)).alloc (.cells #[.string ub, .slice p2 n2 c2, .int .i64 b1, .int .i64 b2, .int .i64 b3] 49) = wx at *
 clear hwx
 generalize w1.heap.size = b9 at *
 have l8 := lt_of_block XA
 have l10 := lt_of_block XB
 have K : Hid (∀ W, Below wx.heap.size wx W → (fun W => Below wx.heap.size wx W ∧ (W.cell? ⟨b9, 0, none⟩ = some (.string ua) ∧ W.cell? ⟨b9, 1, none⟩ = some (.slice p1 n1 c1) ∧ W.cell? ⟨b9, 2, none⟩ = some (.int .i64 a1) ∧ W.cell? ⟨b9, 3, none⟩ = some (.int .i64 a2) ∧ W.cell? ⟨b9, 4, none⟩ = some (.int .i64 a3)) ∧ (W.cell? ⟨b9 + 1, 0, none⟩ = some (.string ub) ∧ W.cell? ⟨b9 + 1, 1, none⟩ = some (.slice p2 n2 c2) ∧ W.cell? ⟨b9 + 1, 2, none⟩ = some (.int .i64 b1) ∧ W.cell? ⟨b9 + 1, 3, none⟩ = some (.int .i64 b2) ∧ W.cell? ⟨b9 + 1, 4, none⟩ = some (.int .i64 b3))) W) := H_ (fun W hW => ⟨hW, ⟨(hW.cell (p := ⟨b9, 0, none⟩) l8).trans (Z2 (j := 0) XA), (hW.cell (p := ⟨b9, 1, none⟩) l8).trans (Z2 (j := 1) XA), (hW.cell (p := ⟨b9, 2, none⟩) l8).trans (Z2 (j := 2) XA), (hW.cell (p := ⟨b9, 3, none⟩) l8).trans (Z2 (j := 3) XA), (hW.cell (p := ⟨b9, 4, none⟩) l8).trans (Z2 (j := 4) XA)⟩, (hW.cell (p := ⟨b9 + 1, 0, none⟩) l10).trans (Z2 (j := 0) XB), (hW.cell (p := ⟨b9 + 1, 1, none⟩) l10).trans (Z2 (j := 1) XB), (hW.cell (p := ⟨b9 + 1, 2, none⟩) l10).trans (Z2 (j := 2) XB), (hW.cell (p := ⟨b9 + 1, 3, none⟩) l10).trans (Z2 (j := 3) XB), (hW.cell (p := ⟨b9 + 1, 4, none⟩) l10).trans (Z2 (j := 4) XB)⟩)
 have S0 := H_ (K.out _ ((Below.refl _ _).drew))
 clear XA XB
 go_region_held3 (fun W => Below wx.heap.size wx W ∧ (W.cell? ⟨b9, 0, none⟩ = some (.string ua) ∧ W.cell? ⟨b9, 1, none⟩ = some (.slice p1 n1 c1) ∧ W.cell? ⟨b9, 2, none⟩ = some (.int .i64 a1) ∧ W.cell? ⟨b9, 3, none⟩ = some (.int .i64 a2) ∧ W.cell? ⟨b9, 4, none⟩ = some (.int .i64 a3)) ∧ (W.cell? ⟨b9 + 1, 0, none⟩ = some (.string ub) ∧ W.cell? ⟨b9 + 1, 1, none⟩ = some (.slice p2 n2 c2) ∧ W.cell? ⟨b9 + 1, 2, none⟩ = some (.int .i64 b1) ∧ W.cell? ⟨b9 + 1, 3, none⟩ = some (.int .i64 b2) ∧ W.cell? ⟨b9 + 1, 4, none⟩ = some (.int .i64 b3))) (first | exact S0.out | assumption | fail) (first | (go_at_call 29; have hh := And.left (by assumption : Below wx.heap.size wx _ ∧ _); (with_reducible refine (CR.out _ p2 n2 c2 (VB.out.onO hh)).mono ?_); rintro e w' ⟨⟨v, rfl, hv9⟩, hb9⟩; obtain ⟨T9, u9, rfl⟩ := hv9.iface; have hB9 := hh.trans (hb9.mono hh.size); have hS2 := K.out _ hB9) | fail)
 all_goals
  go_wp2_with fail
  go_ret
  refine ⟨⟨_, rfl, p1, n1, c1, p2, n2, c2, _, by rw [HNA.out, HNB.out]; rfl, VA.out.onO ?_, VB.out.onO ?_, hv9⟩, BW.out.trans (Below.mono ?_ BW.out.size)⟩ <;> first | exact hB9 | exact hB9.drew
theorem of_pair (n : Nat) (ih : OfCi n) (t a b : Tr) (hty : Zn t = true) (h0 : Zy 62 t = none) (h1 : Zy 42 t = some (a, b)) (he : Ys t = .two .pair (Ys a) (Ys b)) (hda : a.depth < n) (haT : Zn a = true) (hdb : b.depth < n) (hbT : Zn b = true) (p : Option Addr) (m c : Nat) (w : World) (hv : FV nI w (fun k => k < w.heap.size) t (nI t (.slice p m c))) :
 Calls prog 29 #[.agg #[.string (bs (Z0 t)), .slice p m c, .int .i64 t.bytes, .int .i64 t.size, .int .i64 t.depth]] w fun e w' => (∃ v, e = .returned v ∧ EV w' (fun k => k < w'.heap.size) (Ys t) v) ∧ Below w.heap.size w w' := by
 rw [he]
 obtain ⟨tu, t1, t2, t3, hu, ht1, ht2, ht3, hq⟩ := Zm t
 obtain ⟨ua, a1, a2, a3, hua, ha1, ha2, ha3, hna⟩ := Zm a
 obtain ⟨ub, b1, b2, b3, hub, hb1', hb2', hb3', hnb⟩ := Zm b
 have S0' : Hid (∀ (W : World), FV nI W (fun q => q < W.heap.size) t (nI t (.slice p m c)) → Calls prog 63 #[.agg #[.string tu, .slice p m c, .int .i64 t1, .int .i64 t2, .int .i64 t3], .string ⟨#[62]⟩] W fun e w' => e = .returned (.tuple #[.agg #[.string ⟨#[]⟩, .slice none 0 0, .int .i64 0, .int .i64 0, .int .i64 0], .agg #[.string ⟨#[]⟩, .slice none 0 0, .int .i64 0, .int .i64 0, .int .i64 0], .bool false]) ∧ Below W.heap.size W w') := H_ (fun W k => by rw [hu, ht1, ht2, ht3]; exact sides_n hty h0 k)
 have S1 : Hid (∀ (W : World), FV nI W (fun q => q < W.heap.size) t (nI t (.slice p m c)) → Calls prog 63 #[.agg #[.string tu, .slice p m c, .int .i64 t1, .int .i64 t2, .int .i64 t3], .string ⟨#[42]⟩] W fun e w' => (∃ p1 n1 c1 p2 n2 c2, e = .returned (.tuple #[.agg #[.string ua, .slice p1 n1 c1, .int .i64 a1, .int .i64 a2, .int .i64 a3], .agg #[.string ub, .slice p2 n2 c2, .int .i64 b1, .int .i64 b2, .int .i64 b3], .bool true]) ∧ FV nI w' (fun k => k < W.heap.size) a (nI a (.slice p1 n1 c1)) ∧ FV nI w' (fun k => k < W.heap.size) b (nI b (.slice p2 n2 c2))) ∧ Below W.heap.size W w') := H_ (fun W k => by rw [hu, ht1, ht2, ht3, hua, ha1, ha2, ha3, hub, hb1', hb2', hb3']; exact sides_s hty h1 k)
 have CA : Hid (∀ (W : World) p1 n1 c1, FV nI W (fun k => k < W.heap.size) a (nI a (.slice p1 n1 c1)) → Calls prog 29 #[.agg #[.string ua, .slice p1 n1 c1, .int .i64 a1, .int .i64 a2, .int .i64 a3]] W fun e w' => (∃ v, e = .returned v ∧ EV w' (fun k => k < w'.heap.size) (Ys a) v) ∧ Below W.heap.size W w') := H_ (fun W p1 n1 c1 k => by rw [hua, ha1, ha2, ha3]; exact ih a p1 n1 c1 W hda haT k)
 have CR : Hid (∀ (W : World) p2 n2 c2, FV nI W (fun k => k < W.heap.size) b (nI b (.slice p2 n2 c2)) → Calls prog 29 #[.agg #[.string ub, .slice p2 n2 c2, .int .i64 b1, .int .i64 b2, .int .i64 b3]] W fun e w' => (∃ v, e = .returned v ∧ EV w' (fun k => k < w'.heap.size) (Ys b) v) ∧ Below W.heap.size W w') := H_ (fun W p2 n2 c2 k => by rw [hub, hb1', hb2', hb3']; exact ih b p2 n2 c2 W hdb hbT k)
 rw [← hu, ← ht1, ← ht2, ← ht3]
 have V0 := H_ (FV.onO hv (Z4 w (.cells #[.string tu, .slice p m c, .int .i64 t1, .int .i64 t2, .int .i64 t3] 49)))
 have y0 := heap_alloc_new w (.cells #[.string tu, .slice p m c, .int .i64 t1, .int .i64 t2, .int .i64 t3] 49)
 have HB00 := H_ (Xp (Z4 w (.cells #[.string tu, .slice p m c, .int .i64 t1, .int .i64 t2, .int .i64 t3] 49)))
 clear hty h0 h1 he hv hu ht1 ht2 ht3 hq hua ha1 ha2 ha3 hub hb1' hb2' hb3' ih hda haT hdb hbT hna hnb
 go_enter func29, ntmps29
 go_wp2_with (go_at_call 63; first | ((with_reducible refine (S0'.out _ V0.out).mono ?_); rintro e w1 ⟨rfl, hb1⟩; have y1 := Z5 (o' := (.cells #[.string ⟨#[]⟩, .slice none 0 0, .int .i64 0, .int .i64 0, .int .i64 0] 49)) (Z5 (o' := (.cells #[.string ⟨#[]⟩, .slice none 0 0, .int .i64 0, .int .i64 0, .int .i64 0] 49)) (Z1 hb1 (lt_of_block y0) y0)); obtain ⟨z0, z1, z2, z3, z4⟩ := Zb y1; have V1 := H_ (FV.onO (FV.onO V0.out hb1) (Zi w1 (.cells #[.string ⟨#[]⟩, .slice none 0 0, .int .i64 0, .int .i64 0, .int .i64 0] 49) (.cells #[.string ⟨#[]⟩, .slice none 0 0, .int .i64 0, .int .i64 0, .int .i64 0] 49))); have HB0 := H_ (Yb (Yb HB00.out hb1) (Zi w1 (.cells #[.string ⟨#[]⟩, .slice none 0 0, .int .i64 0, .int .i64 0, .int .i64 0] 49) (.cells #[.string ⟨#[]⟩, .slice none 0 0, .int .i64 0, .int .i64 0, .int .i64 0] 49))); clear hb1) | ((with_reducible refine (S1.out _ V1.out).mono ?_); rintro e w2 ⟨⟨p1, n1, c1, p2, n2, c2, rfl, hva, hvb⟩, hb2⟩; have hS := H_ hb2.size))
 have XA := Z5 (o' := (.cells #[.string ub, .slice p2 n2 c2, .int .i64 b1, .int .i64 b2, .int .i64 b3] 49)) (heap_alloc_new w2 (.cells #[.string ua, .slice p1 n1 c1, .int .i64 a1, .int .i64 a2, .int .i64 a3] 49))
 have XB := Z9 w2 (.cells #[.string ua, .slice p1 n1 c1, .int .i64 a1, .int .i64 a2, .int .i64 a3] 49) (.cells #[.string ub, .slice p2 n2 c2, .int .i64 b1, .int .i64 b2, .int .i64 b3] 49)
 have VA := H_ ((hva.below (Zi w2 (.cells #[.string ua, .slice p1 n1 c1, .int .i64 a1, .int .i64 a2, .int .i64 a3] 49) (.cells #[.string ub, .slice p2 n2 c2, .int .i64 b1, .int .i64 b2, .int .i64 b3] 49)) (fun k hk => Nat.lt_of_lt_of_le hk hS.out)).wide (ok' := fun q => q < ((w2.alloc (.cells #[.string ua, .slice p1 n1 c1, .int .i64 a1, .int .i64 a2, .int .i64 a3] 49)).alloc (.cells #[.string ub, .slice p2 n2 c2, .int .i64 b1, .int .i64 b2, .int .i64 b3] 49)).heap.size) (fun k hk => by have := hS.out; simp at *; omega))
 have VB := H_ ((hvb.below (Zi w2 (.cells #[.string ua, .slice p1 n1 c1, .int .i64 a1, .int .i64 a2, .int .i64 a3] 49) (.cells #[.string ub, .slice p2 n2 c2, .int .i64 b1, .int .i64 b2, .int .i64 b3] 49)) (fun k hk => Nat.lt_of_lt_of_le hk hS.out)).wide (ok' := fun q => q < ((w2.alloc (.cells #[.string ua, .slice p1 n1 c1, .int .i64 a1, .int .i64 a2, .int .i64 a3] 49)).alloc (.cells #[.string ub, .slice p2 n2 c2, .int .i64 b1, .int .i64 b2, .int .i64 b3] 49)).heap.size) (fun k hk => by have := hS.out; simp at *; omega))
 have BW := H_ ((Yb (Yb HB0.out hb2) (Zi w2 (.cells #[.string ua, .slice p1 n1 c1, .int .i64 a1, .int .i64 a2, .int .i64 a3] 49) (.cells #[.string ub, .slice p2 n2 c2, .int .i64 b1, .int .i64 b2, .int .i64 b3] 49))).1)
 clear hva hvb hb2
 generalize hwx : (w2.alloc (.cells #[.string ua, .slice p1 n1 c1, .int .i64 a1, .int .i64 a2, .int .i64 a3] 49)).alloc (.cells #[.string ub, .slice p2 n2 c2, .int .i64 b1, .int .i64 b2, .int .i64 b3] 49) = wx at *
 clear hwx
 generalize w2.heap.size = b9 at *
 have l8 := lt_of_block XA
 have l10 := lt_of_block XB
 have K : Hid (∀ W, Below wx.heap.size wx W → (fun W => Below wx.heap.size wx W ∧ (W.cell? ⟨b9, 0, none⟩ = some (.string ua) ∧ W.cell? ⟨b9, 1, none⟩ = some (.slice p1 n1 c1) ∧ W.cell? ⟨b9, 2, none⟩ = some (.int .i64 a1) ∧ W.cell? ⟨b9, 3, none⟩ = some (.int .i64 a2) ∧ W.cell? ⟨b9, 4, none⟩ = some (.int .i64 a3)) ∧ (W.cell? ⟨b9 + 1, 0, none⟩ = some (.string ub) ∧ W.cell? ⟨b9 + 1, 1, none⟩ = some (.slice p2 n2 c2) ∧ W.cell? ⟨b9 + 1, 2, none⟩ = some (.int .i64 b1) ∧ W.cell? ⟨b9 + 1, 3, none⟩ = some (.int .i64 b2) ∧ W.cell? ⟨b9 + 1, 4, none⟩ = some (.int .i64 b3))) W) := H_ (fun W hW => ⟨hW, ⟨(hW.cell (p := ⟨b9, 0, none⟩) l8).trans (Z2 (j := 0) XA), (hW.cell (p := ⟨b9, 1, none⟩) l8).trans (Z2 (j := 1) XA), (hW.cell (p := ⟨b9, 2, none⟩) l8).trans (Z2 (j := 2) XA), (hW.cell (p := ⟨b9, 3, none⟩) l8).trans (Z2 (j := 3) XA), (hW.cell (p := ⟨b9, 4, none⟩) l8).trans (Z2 (j := 4) XA)⟩, (hW.cell (p := ⟨b9 + 1, 0, none⟩) l10).trans (Z2 (j := 0) XB), (hW.cell (p := ⟨b9 + 1, 1, none⟩) l10).trans (Z2 (j := 1) XB), (hW.cell (p := ⟨b9 + 1, 2, none⟩) l10).trans (Z2 (j := 2) XB), (hW.cell (p := ⟨b9 + 1, 3, none⟩) l10).trans (Z2 (j := 3) XB), (hW.cell (p := ⟨b9 + 1, 4, none⟩) l10).trans (Z2 (j := 4) XB)⟩)
 have S0 := H_ (K.out _ ((Below.refl _ _).drew))
 clear XA XB
 go_region_held3 (fun W => Below wx.heap.size wx W ∧ (W.cell? ⟨b9, 0, none⟩ = some (.string ua) ∧ W.cell? ⟨b9, 1, none⟩ = some (.slice p1 n1 c1) ∧ W.cell? ⟨b9, 2, none⟩ = some (.int .i64 a1) ∧ W.cell? ⟨b9, 3, none⟩ = some (.int .i64 a2) ∧ W.cell? ⟨b9, 4, none⟩ = some (.int .i64 a3)) ∧ (W.cell? ⟨b9 + 1, 0, none⟩ = some (.string ub) ∧ W.cell? ⟨b9 + 1, 1, none⟩ = some (.slice p2 n2 c2) ∧ W.cell? ⟨b9 + 1, 2, none⟩ = some (.int .i64 b1) ∧ W.cell? ⟨b9 + 1, 3, none⟩ = some (.int .i64 b2) ∧ W.cell? ⟨b9 + 1, 4, none⟩ = some (.int .i64 b3))) (first | exact S0.out | assumption | fail) (first | (go_at_call 29; have hh := And.left (by assumption : Below wx.heap.size wx _ ∧ _); first | ((with_reducible refine (CA.out _ p1 n1 c1 (VA.out.onO hh)).mono ?_); rintro e w7 ⟨⟨v, rfl, hv7⟩, hb7⟩; obtain ⟨T7, u7, rfl⟩ := hv7.iface; have hB7 := hh.trans (hb7.mono hh.size); have hS7 := K.out _ hB7) | ((with_reducible refine (CR.out _ p2 n2 c2 (VB.out.onO hh)).mono ?_); rintro e w9 ⟨⟨v, rfl, hv9⟩, hb9⟩; obtain ⟨T9, u9, rfl⟩ := hv9.iface; have hB9 := hh.trans (hb9.mono hh.size); have hS9 := K.out _ hB9)) | fail)
 all_goals
  go_wp2_with fail
  go_ret
  first
   | exact ⟨⟨_, rfl, _, _, rfl, EV.onO hv7 hb9, hv9⟩, BW.out.trans (hB9.mono BW.out.size)⟩
   | exact ⟨⟨_, rfl, _, _, rfl, EV.onO (w' := w9) hv7 hb9, hv9⟩, BW.out.trans (hB9.drew.mono BW.out.size)⟩
theorem of_all : ∀ n, OfCi n
 | 0 => fun t _ _ _ _ h => by omega
 | n + 1 => fun t p m c w hd hty hv => by
   match t, hd, hty, hv with
   | .atom a, _, hty, hv => exact of_num _ hty rfl rfl (Kd a) p m c w hv
   | .list ts, hd, hty, hv =>
     obtain ⟨x, a, b, rfl, hx, -⟩ := Q3 (Zw hty).1
     have hdd := Jv x a b
     by_cases e : Z0 x = [42]
     · have h1 := Q9 (a := a) (b := b) e
       have hab := Xk hty h1
       have h0 : Zy 62 (.list [x, a, b]) = none := Z0w (by rw [e]; decide)
       exact of_pair n (of_all n) _ a b hty h0 h1 (by rw [J8, if_pos e]) (by omega) hab.1 (by omega) hab.2 p m c w hv
     · have e2 : Z0 x = [62] := hx.resolve_right e
       have h1 := Q9 (a := a) (b := b) e2
       have hab := Xk hty h1
       exact of_fun n (of_all n) _ a b hty h1 (by rw [J8, if_neg e]) (by omega) hab.2 p m c w hv
theorem implExprOf_c (s : ByteArray) (hs : s.size ≤ 1048576) (w : World) (hT : Tab w) :
 Calls prog 10 #[.string s] w fun e w' => Kl (Z5x s.data.toList) e ∧ Below w.heap.size w w' := by
 cases hr : Y3 s.data.toList with
 | none =>
   have C := H_ (Z2t hs hr)
   have HR := H_ (Z2h hr)
   clear hr hT
   go_enter func10, ntmps10
   go_wp2_with (go_at_call 27; go_must (refine (C.out _).mono ?_; rintro e w1 ⟨rfl, hb1⟩))
   go_ret2
   exact ⟨by rw [HR.out]; rfl, hb1.alloc hb1.size _⟩
 | some t =>
   have C := H_ (Z2s hs hr)
   have hL := readTy_L hr
   have hok := Vh t.depth t (Nat.le_refl _) hL
   have hsz := (Zw hL).2
   have hby := hok.bytes
   obtain ⟨tu, t1, t2, t3, hu, ht1, ht2, ht3, hq⟩ := Zm t
   rw [← hu, ← ht1, ← ht2, ← ht3] at C
   have CO : Hid (∀ (W : World) p m c, FV nI W (fun k => k < W.heap.size) t (nI t (.slice p m c)) → Calls prog 29 #[.agg #[.string tu, .slice p m c, .int .i64 t1, .int .i64 t2, .int .i64 t3]] W fun e w' => (∃ v, e = .returned v ∧ EV w' (fun k => k < w'.heap.size) (Ys t) v) ∧ Below W.heap.size W w') := H_ (fun W p m c k => by rw [hu, ht1, ht2, ht3]; exact of_all (t.depth + 1) t p m c W (by omega) hL k)
   obtain ⟨tx, z, ht⟩ : ∃ tx z, ∀ e : Ending, Kl (Vw (Z3 (Ys t))) e → e = .returned (.tuple #[.string tx, .bool z]) := ⟨_, _, fun _ h => h⟩
   have HX : Hid (Kl (Z5x s.data.toList) (.returned (.tuple #[.string tx, .bool z]))) := H_ (by
    have h1 := ht _ (show Kl (Vw (Z3 (Ys t))) (.returned (.tuple #[.string (bs ((Vw (Z3 (Ys t))).getD [])), .bool (Vw (Z3 (Ys t))).isSome])) from rfl)
    rw [Z2g hr, ← h1]; rfl)
   have CM : Hid (∀ (W : World) (v : Value), EV W (fun k => k < W.heap.size) (Ys t) v → Below w.heap.size w W → Calls prog 28 #[v] W fun e w' => e = .returned (.tuple #[.string tx, .bool z]) ∧ Below W.heap.size W w') := H_ (fun W v h1 h2 => (Z6v (Ys t) (fm_of t.depth t (Nat.le_refl _) hL) v W hok.ok hok.wf (by omega) h1 (hT.below h2)).mono fun e w' ⟨k1, k2⟩ => ⟨ht e k1, k2⟩)
   clear hr hL hok hsz hby hu ht1 ht2 ht3 hq ht hT
   generalize Ys t = X at *
   go_enter func10, ntmps10
   go_wp2_with (first | (go_at_call 27; go_must (refine (C.out _).mono ?_; rintro e w1 ⟨⟨p, m, c, rfl, hv⟩, hb1⟩; have V1 := H_ ((hv.below (Z4 w1 (.cells #[.string tu, .slice p m c, .int .i64 t1, .int .i64 t2, .int .i64 t3] 49)) (fun k hk => hk.2)).wide (ok' := fun q => q < (w1.alloc (.cells #[.string tu, .slice p m c, .int .i64 t1, .int .i64 t2, .int .i64 t3] 49)).heap.size) (fun k hk => by simp; omega)); clear hv)) | (go_at_call 29; go_must (refine (CO.out _ _ _ _ V1.out).mono ?_; rintro e w2 ⟨⟨v, rfl, hv2⟩, hb2⟩; obtain ⟨T2, u2, rfl⟩ := hv2.iface)) | (go_at_call 28; go_must (refine (CM.out _ _ hv2 ((Yb (Yb (Xp hb1) (Z4 _ _)) hb2).1)).mono ?_; rintro e w3 ⟨rfl, hb3⟩)))
   go_ret2
   exact ⟨HX.out, (Yb (Yb (Yb (Xp hb1) (Z4 _ _)) hb2) hb3).1⟩
end Go.Proofs.YtmgepnacjgbfhaaGreatDoor
