/- The program makes the plainest expression of a type. -/
import Derived.Test.YtfknoigbkleanaaGreatDoorqLawRtM
import Derived.Test.YtfknoigbkleanaaGreatDoorqImpl3bM
import Derived.Deep.RegionHeld3
namespace Go.Proofs.YtfknoigbkleanaaGreatDoor
open Go.RowKit Go.Proofs.Tryz
set_option maxRecDepth 8000
set_option maxHeartbeats 20000000
set_option linter.unusedVariables false
set_option linter.unusedSimpArgs false
theorem fm_of : ∀ (n : Nat) (t : Tr), t.depth ≤ n → Zp t = true → FmC (Xd t)
 | _, .atom a, _, _ => by rw [Vf]; exact fm_num 0
 | 0, .list ts, hd, h => by
   obtain ⟨x, a, b, rfl, -⟩ := Q4 (Zy h).1
   have := Ku x a b
   omega
 | n + 1, .list ts, hd, h => by
   obtain ⟨x, a, b, rfl, hx, -⟩ := Q4 (Zy h).1
   have hdd := Ku x a b
   rw [Jq]
   by_cases e : Z0 x = [42]
   · have hab := Xv h (Qq (a := a) (b := b) e)
     rw [if_pos e]
     exact fm_pair _ _ (fm_of n a (by omega) hab.1) (fm_of n b (by omega) hab.2)
   · have e2 : Z0 x = [62] := hx.resolve_right e
     have hab := Xv h (Qq (a := a) (b := b) e2)
     rw [if_neg e]
     exact fm_fun [102] [120] a b _ (fm_of n b (by omega) hab.2)
def OfC (n : Nat) : Prop := ∀ (t : Tr) (p : Option Addr) (m c : Nat) (w : World), t.depth < n → Zp t = true → FV nI w (fun k => k < w.heap.size) t (nI t (.slice p m c)) →
    Calls prog 64 #[.agg #[.string (bs (Z0 t)), .slice p m c, .int .i64 t.bytes, .int .i64 t.size, .int .i64 t.depth]] w fun e w' => (∃ v, e = .returned v ∧ EV w' (fun k => k < w'.heap.size) (Xd t) v) ∧ Below w.heap.size w w'
theorem sides_n {c : UInt8} {t : Tr} (hty : Zp t = true) (hs : Ya c t = none) {p : Option Addr} {m k : Nat} {W : World} (hv : FV nI W (fun q => q < W.heap.size) t (nI t (.slice p m k))) :
 Calls prog 113 #[.agg #[.string (bs (Z0 t)), .slice p m k, .int .i64 t.bytes, .int .i64 t.size, .int .i64 t.depth], .string ⟨#[c]⟩] W fun e w' => e = .returned (.tuple #[.agg #[.string ⟨#[]⟩, .slice none 0 0, .int .i64 0, .int .i64 0, .int .i64 0], .agg #[.string ⟨#[]⟩, .slice none 0 0, .int .i64 0, .int .i64 0, .int .i64 0], .bool false]) ∧ Below W.heap.size W w' := by
 have h := sides_c c t p m k W (Zy hty).1 (Zf hty).1 hv
 rw [hs] at h
 exact h
theorem sides_s {c : UInt8} {t a b : Tr} (hty : Zp t = true) (hs : Ya c t = some (a, b)) {p : Option Addr} {m k : Nat} {W : World} (hv : FV nI W (fun q => q < W.heap.size) t (nI t (.slice p m k))) :
 Calls prog 113 #[.agg #[.string (bs (Z0 t)), .slice p m k, .int .i64 t.bytes, .int .i64 t.size, .int .i64 t.depth], .string ⟨#[c]⟩] W fun e w' => (∃ p1 n1 c1 p2 n2 c2, e = .returned (.tuple #[.agg #[.string (bs (Z0 a)), .slice p1 n1 c1, .int .i64 a.bytes, .int .i64 a.size, .int .i64 a.depth], .agg #[.string (bs (Z0 b)), .slice p2 n2 c2, .int .i64 b.bytes, .int .i64 b.size, .int .i64 b.depth], .bool true]) ∧ FV nI w' (fun k => k < W.heap.size) a (nI a (.slice p1 n1 c1)) ∧ FV nI w' (fun k => k < W.heap.size) b (nI b (.slice p2 n2 c2))) ∧ Below W.heap.size W w' := by
 have h := sides_c c t p m k W (Zy hty).1 (Zf hty).1 hv
 rw [hs] at h
 exact h
theorem FV.onO {w w' : World} {t : Tr} {cs : List Value} (h : FV nI w (fun k => k < w.heap.size) t cs) (hb : Below w.heap.size w w') : FV nI w' (fun k => k < w'.heap.size) t cs := (h.below hb (fun _ h => h)).wide (fun k hk => Nat.lt_of_lt_of_le hk hb.size)
theorem EV.onO {w w' : World} {x : Ex} {v : Value} (h : EV w (fun k => k < w.heap.size) x v) (hb : Below w.heap.size w w') : EV w' (fun k => k < w'.heap.size) x v := EV.move (fun k hk => Nat.lt_of_lt_of_le hk hb.size) (fun k hk => hb.block k hk) _ _ h
theorem of_num (t : Tr) (hty : Zp t = true) (h1 : Ya 62 t = none) (h2 : Ya 42 t = none) (he : Xd t = .num 0) (p : Option Addr) (m c : Nat) (w : World) (hv : FV nI w (fun k => k < w.heap.size) t (nI t (.slice p m c))) :
 Calls prog 64 #[.agg #[.string (bs (Z0 t)), .slice p m c, .int .i64 t.bytes, .int .i64 t.size, .int .i64 t.depth]] w fun e w' => (∃ v, e = .returned v ∧ EV w' (fun k => k < w'.heap.size) (Xd t) v) ∧ Below w.heap.size w w' := by
 rw [he]
 obtain ⟨tu, t1, t2, t3, hu, ht1, ht2, ht3, hq⟩ := Zq t
 have S1 : Hid (∀ (W : World), FV nI W (fun q => q < W.heap.size) t (nI t (.slice p m c)) → Calls prog 113 #[.agg #[.string tu, .slice p m c, .int .i64 t1, .int .i64 t2, .int .i64 t3], .string ⟨#[62]⟩] W fun e w' => e = .returned (.tuple #[.agg #[.string ⟨#[]⟩, .slice none 0 0, .int .i64 0, .int .i64 0, .int .i64 0], .agg #[.string ⟨#[]⟩, .slice none 0 0, .int .i64 0, .int .i64 0, .int .i64 0], .bool false]) ∧ Below W.heap.size W w') := H_ (fun W k => by rw [hu, ht1, ht2, ht3]; exact sides_n hty h1 k)
 have S2 : Hid (∀ (W : World), FV nI W (fun q => q < W.heap.size) t (nI t (.slice p m c)) → Calls prog 113 #[.agg #[.string tu, .slice p m c, .int .i64 t1, .int .i64 t2, .int .i64 t3], .string ⟨#[42]⟩] W fun e w' => e = .returned (.tuple #[.agg #[.string ⟨#[]⟩, .slice none 0 0, .int .i64 0, .int .i64 0, .int .i64 0], .agg #[.string ⟨#[]⟩, .slice none 0 0, .int .i64 0, .int .i64 0, .int .i64 0], .bool false]) ∧ Below W.heap.size W w') := H_ (fun W k => by rw [hu, ht1, ht2, ht3]; exact sides_n hty h2 k)
 rw [← hu, ← ht1, ← ht2, ← ht3]
 have V0 := H_ (FV.onO hv (Z4 w (.cells #[.string tu, .slice p m c, .int .i64 t1, .int .i64 t2, .int .i64 t3] 56)))
 have y0 := heap_alloc_new w (.cells #[.string tu, .slice p m c, .int .i64 t1, .int .i64 t2, .int .i64 t3] 56)
 have HB0 := H_ (Yk (Z4 w (.cells #[.string tu, .slice p m c, .int .i64 t1, .int .i64 t2, .int .i64 t3] 56)))
 clear hty h1 h2 he hv hu ht1 ht2 ht3 hq
 go_enter func64, ntmps64
 go_wp2_with (go_at_call 113; first | ((with_reducible refine (S1.out _ V0.out).mono ?_); rintro e w1 ⟨rfl, hb1⟩; have y1 := Z8 (o' := (.cells #[.string ⟨#[]⟩, .slice none 0 0, .int .i64 0, .int .i64 0, .int .i64 0] 56)) (Z8 (o' := (.cells #[.string ⟨#[]⟩, .slice none 0 0, .int .i64 0, .int .i64 0, .int .i64 0] 56)) (Z1 hb1 (lt_of_block y0) y0)); obtain ⟨z0, z1, z2, z3, z4⟩ := Zb y1; have V1 := H_ (FV.onO (FV.onO V0.out hb1) (Zl w1 (.cells #[.string ⟨#[]⟩, .slice none 0 0, .int .i64 0, .int .i64 0, .int .i64 0] 56) (.cells #[.string ⟨#[]⟩, .slice none 0 0, .int .i64 0, .int .i64 0, .int .i64 0] 56))); have B1 := H_ (Y0 (Y0 HB0.out hb1) (Zl w1 (.cells #[.string ⟨#[]⟩, .slice none 0 0, .int .i64 0, .int .i64 0, .int .i64 0] 56) (.cells #[.string ⟨#[]⟩, .slice none 0 0, .int .i64 0, .int .i64 0, .int .i64 0] 56)))) | ((with_reducible refine (S2.out _ V1.out).mono ?_); rintro e w2 ⟨rfl, hb2⟩))
 go_ret
 exact ⟨⟨_, rfl, by simp only [EV]; rfl⟩, (Y0 (Y0 B1.out hb2) (Zl _ _ _)).1⟩
theorem of_fun (n : Nat) (ih : OfC n) (t a b : Tr) (hty : Zp t = true) (h1 : Ya 62 t = some (a, b)) (he : Xd t = .func [102] [120] a b (Xd b)) (hdb : b.depth < n) (hbT : Zp b = true) (p : Option Addr) (m c : Nat) (w : World) (hv : FV nI w (fun k => k < w.heap.size) t (nI t (.slice p m c))) :
 Calls prog 64 #[.agg #[.string (bs (Z0 t)), .slice p m c, .int .i64 t.bytes, .int .i64 t.size, .int .i64 t.depth]] w fun e w' => (∃ v, e = .returned v ∧ EV w' (fun k => k < w'.heap.size) (Xd t) v) ∧ Below w.heap.size w w' := by
 rw [he]
 obtain ⟨tu, t1, t2, t3, hu, ht1, ht2, ht3, hq⟩ := Zq t
 obtain ⟨ua, a1, a2, a3, hua, ha1, ha2, ha3, hna⟩ := Zq a
 obtain ⟨ub, b1, b2, b3, hub, hb1', hb2', hb3', hnb⟩ := Zq b
 have S1 : Hid (∀ (W : World), FV nI W (fun q => q < W.heap.size) t (nI t (.slice p m c)) → Calls prog 113 #[.agg #[.string tu, .slice p m c, .int .i64 t1, .int .i64 t2, .int .i64 t3], .string ⟨#[62]⟩] W fun e w' => (∃ p1 n1 c1 p2 n2 c2, e = .returned (.tuple #[.agg #[.string ua, .slice p1 n1 c1, .int .i64 a1, .int .i64 a2, .int .i64 a3], .agg #[.string ub, .slice p2 n2 c2, .int .i64 b1, .int .i64 b2, .int .i64 b3], .bool true]) ∧ FV nI w' (fun k => k < W.heap.size) a (nI a (.slice p1 n1 c1)) ∧ FV nI w' (fun k => k < W.heap.size) b (nI b (.slice p2 n2 c2))) ∧ Below W.heap.size W w') := H_ (fun W k => by rw [hu, ht1, ht2, ht3, hua, ha1, ha2, ha3, hub, hb1', hb2', hb3']; exact sides_s hty h1 k)
 have CR : Hid (∀ (W : World) p2 n2 c2, FV nI W (fun k => k < W.heap.size) b (nI b (.slice p2 n2 c2)) → Calls prog 64 #[.agg #[.string ub, .slice p2 n2 c2, .int .i64 b1, .int .i64 b2, .int .i64 b3]] W fun e w' => (∃ v, e = .returned v ∧ EV w' (fun k => k < w'.heap.size) (Xd b) v) ∧ Below W.heap.size W w') := H_ (fun W p2 n2 c2 k => by rw [hub, hb1', hb2', hb3']; exact ih b p2 n2 c2 W hdb hbT k)
 rw [← hu, ← ht1, ← ht2, ← ht3]
 have V0 := H_ (FV.onO hv (Z4 w (.cells #[.string tu, .slice p m c, .int .i64 t1, .int .i64 t2, .int .i64 t3] 56)))
 have HB0 := H_ (Yk (Z4 w (.cells #[.string tu, .slice p m c, .int .i64 t1, .int .i64 t2, .int .i64 t3] 56)))
 have HNA := H_ hna
 have HNB := H_ hnb
 clear hty h1 he hv hu ht1 ht2 ht3 hq hua ha1 ha2 ha3 hub hb1' hb2' hb3' ih hdb hbT hna hnb
 go_enter func64, ntmps64
 go_wp2_with (go_at_call 113; go_must (refine (S1.out _ V0.out).mono ?_; rintro e w1 ⟨⟨p1, n1, c1, p2, n2, c2, rfl, hva, hvb⟩, hb1⟩; have hS := H_ hb1.size))
 have XA := Z8 (o' := (.cells #[.string ub, .slice p2 n2 c2, .int .i64 b1, .int .i64 b2, .int .i64 b3] 56)) (heap_alloc_new w1 (.cells #[.string ua, .slice p1 n1 c1, .int .i64 a1, .int .i64 a2, .int .i64 a3] 56))
 have XB := Z9 w1 (.cells #[.string ua, .slice p1 n1 c1, .int .i64 a1, .int .i64 a2, .int .i64 a3] 56) (.cells #[.string ub, .slice p2 n2 c2, .int .i64 b1, .int .i64 b2, .int .i64 b3] 56)
 have VA := H_ ((hva.below (Zl w1 (.cells #[.string ua, .slice p1 n1 c1, .int .i64 a1, .int .i64 a2, .int .i64 a3] 56) (.cells #[.string ub, .slice p2 n2 c2, .int .i64 b1, .int .i64 b2, .int .i64 b3] 56)) (fun k hk => Nat.lt_of_lt_of_le hk hS.out)).wide (ok' := fun q => q < ((w1.alloc (.cells #[.string ua, .slice p1 n1 c1, .int .i64 a1, .int .i64 a2, .int .i64 a3] 56)).alloc (.cells #[.string ub, .slice p2 n2 c2, .int .i64 b1, .int .i64 b2, .int .i64 b3] 56)).heap.size) (fun k hk => by have := hS.out; simp at *; omega))
 have VB := H_ ((hvb.below (Zl w1 (.cells #[.string ua, .slice p1 n1 c1, .int .i64 a1, .int .i64 a2, .int .i64 a3] 56) (.cells #[.string ub, .slice p2 n2 c2, .int .i64 b1, .int .i64 b2, .int .i64 b3] 56)) (fun k hk => Nat.lt_of_lt_of_le hk hS.out)).wide (ok' := fun q => q < ((w1.alloc (.cells #[.string ua, .slice p1 n1 c1, .int .i64 a1, .int .i64 a2, .int .i64 a3] 56)).alloc (.cells #[.string ub, .slice p2 n2 c2, .int .i64 b1, .int .i64 b2, .int .i64 b3] 56)).heap.size) (fun k hk => by have := hS.out; simp at *; omega))
 have BW := H_ ((Y0 (Y0 HB0.out hb1) (Zl w1 (.cells #[.string ua, .slice p1 n1 c1, .int .i64 a1, .int .i64 a2, .int .i64 a3] 56) (.cells #[.string ub, .slice p2 n2 c2, .int .i64 b1, .int .i64 b2, .int .i64 b3] 56))).1)
 clear hva hvb hb1
 generalize hwx : (w1.alloc (.cells #[.string ua, .slice p1 n1 c1, .int .i64 a1, .int .i64 a2, .int .i64 a3] 56)).alloc (.cells #[.string ub, .slice p2 n2 c2, .int .i64 b1, .int .i64 b2, .int .i64 b3] 56) = wx at *
 clear hwx
 generalize w1.heap.size = b9 at *
 have l8 := lt_of_block XA
 have l10 := lt_of_block XB
 have K : Hid (∀ W, Below wx.heap.size wx W → (fun W => Below wx.heap.size wx W ∧ (W.cell? ⟨b9, 0, none⟩ = some (.string ua) ∧ W.cell? ⟨b9, 1, none⟩ = some (.slice p1 n1 c1) ∧ W.cell? ⟨b9, 2, none⟩ = some (.int .i64 a1) ∧ W.cell? ⟨b9, 3, none⟩ = some (.int .i64 a2) ∧ W.cell? ⟨b9, 4, none⟩ = some (.int .i64 a3)) ∧ (W.cell? ⟨b9 + 1, 0, none⟩ = some (.string ub) ∧ W.cell? ⟨b9 + 1, 1, none⟩ = some (.slice p2 n2 c2) ∧ W.cell? ⟨b9 + 1, 2, none⟩ = some (.int .i64 b1) ∧ W.cell? ⟨b9 + 1, 3, none⟩ = some (.int .i64 b2) ∧ W.cell? ⟨b9 + 1, 4, none⟩ = some (.int .i64 b3))) W) := H_ (fun W hW => ⟨hW, ⟨(hW.cell (p := ⟨b9, 0, none⟩) l8).trans (Z3 (j := 0) XA), (hW.cell (p := ⟨b9, 1, none⟩) l8).trans (Z3 (j := 1) XA), (hW.cell (p := ⟨b9, 2, none⟩) l8).trans (Z3 (j := 2) XA), (hW.cell (p := ⟨b9, 3, none⟩) l8).trans (Z3 (j := 3) XA), (hW.cell (p := ⟨b9, 4, none⟩) l8).trans (Z3 (j := 4) XA)⟩, (hW.cell (p := ⟨b9 + 1, 0, none⟩) l10).trans (Z3 (j := 0) XB), (hW.cell (p := ⟨b9 + 1, 1, none⟩) l10).trans (Z3 (j := 1) XB), (hW.cell (p := ⟨b9 + 1, 2, none⟩) l10).trans (Z3 (j := 2) XB), (hW.cell (p := ⟨b9 + 1, 3, none⟩) l10).trans (Z3 (j := 3) XB), (hW.cell (p := ⟨b9 + 1, 4, none⟩) l10).trans (Z3 (j := 4) XB)⟩)
 have S0 := H_ (K.out _ ((Below.refl _ _).drew))
 clear XA XB
 go_region_held3 (fun W => Below wx.heap.size wx W ∧ (W.cell? ⟨b9, 0, none⟩ = some (.string ua) ∧ W.cell? ⟨b9, 1, none⟩ = some (.slice p1 n1 c1) ∧ W.cell? ⟨b9, 2, none⟩ = some (.int .i64 a1) ∧ W.cell? ⟨b9, 3, none⟩ = some (.int .i64 a2) ∧ W.cell? ⟨b9, 4, none⟩ = some (.int .i64 a3)) ∧ (W.cell? ⟨b9 + 1, 0, none⟩ = some (.string ub) ∧ W.cell? ⟨b9 + 1, 1, none⟩ = some (.slice p2 n2 c2) ∧ W.cell? ⟨b9 + 1, 2, none⟩ = some (.int .i64 b1) ∧ W.cell? ⟨b9 + 1, 3, none⟩ = some (.int .i64 b2) ∧ W.cell? ⟨b9 + 1, 4, none⟩ = some (.int .i64 b3))) (first | exact S0.out | assumption | fail) (first | (go_at_call 64; have hh := And.left (by assumption : Below wx.heap.size wx _ ∧ _); (with_reducible refine (CR.out _ p2 n2 c2 (VB.out.onO hh)).mono ?_); rintro e w' ⟨⟨v, rfl, hv9⟩, hb9⟩; obtain ⟨T9, u9, rfl⟩ := hv9.iface; have hB9 := hh.trans (hb9.mono hh.size); have hS2 := K.out _ hB9) | fail)
 all_goals
  go_wp2_with fail
  go_ret
  refine ⟨⟨_, rfl, p1, n1, c1, p2, n2, c2, _, by rw [HNA.out, HNB.out]; rfl, VA.out.onO ?_, VB.out.onO ?_, hv9⟩, BW.out.trans (Below.mono ?_ BW.out.size)⟩ <;> first | exact hB9 | exact hB9.drew
theorem of_pair (n : Nat) (ih : OfC n) (t a b : Tr) (hty : Zp t = true) (h0 : Ya 62 t = none) (h1 : Ya 42 t = some (a, b)) (he : Xd t = .two .pair (Xd a) (Xd b)) (hda : a.depth < n) (haT : Zp a = true) (hdb : b.depth < n) (hbT : Zp b = true) (p : Option Addr) (m c : Nat) (w : World) (hv : FV nI w (fun k => k < w.heap.size) t (nI t (.slice p m c))) :
 Calls prog 64 #[.agg #[.string (bs (Z0 t)), .slice p m c, .int .i64 t.bytes, .int .i64 t.size, .int .i64 t.depth]] w fun e w' => (∃ v, e = .returned v ∧ EV w' (fun k => k < w'.heap.size) (Xd t) v) ∧ Below w.heap.size w w' := by
 rw [he]
 obtain ⟨tu, t1, t2, t3, hu, ht1, ht2, ht3, hq⟩ := Zq t
 obtain ⟨ua, a1, a2, a3, hua, ha1, ha2, ha3, hna⟩ := Zq a
 obtain ⟨ub, b1, b2, b3, hub, hb1', hb2', hb3', hnb⟩ := Zq b
 have S0' : Hid (∀ (W : World), FV nI W (fun q => q < W.heap.size) t (nI t (.slice p m c)) → Calls prog 113 #[.agg #[.string tu, .slice p m c, .int .i64 t1, .int .i64 t2, .int .i64 t3], .string ⟨#[62]⟩] W fun e w' => e = .returned (.tuple #[.agg #[.string ⟨#[]⟩, .slice none 0 0, .int .i64 0, .int .i64 0, .int .i64 0], .agg #[.string ⟨#[]⟩, .slice none 0 0, .int .i64 0, .int .i64 0, .int .i64 0], .bool false]) ∧ Below W.heap.size W w') := H_ (fun W k => by rw [hu, ht1, ht2, ht3]; exact sides_n hty h0 k)
 have S1 : Hid (∀ (W : World), FV nI W (fun q => q < W.heap.size) t (nI t (.slice p m c)) → Calls prog 113 #[.agg #[.string tu, .slice p m c, .int .i64 t1, .int .i64 t2, .int .i64 t3], .string ⟨#[42]⟩] W fun e w' => (∃ p1 n1 c1 p2 n2 c2, e = .returned (.tuple #[.agg #[.string ua, .slice p1 n1 c1, .int .i64 a1, .int .i64 a2, .int .i64 a3], .agg #[.string ub, .slice p2 n2 c2, .int .i64 b1, .int .i64 b2, .int .i64 b3], .bool true]) ∧ FV nI w' (fun k => k < W.heap.size) a (nI a (.slice p1 n1 c1)) ∧ FV nI w' (fun k => k < W.heap.size) b (nI b (.slice p2 n2 c2))) ∧ Below W.heap.size W w') := H_ (fun W k => by rw [hu, ht1, ht2, ht3, hua, ha1, ha2, ha3, hub, hb1', hb2', hb3']; exact sides_s hty h1 k)
 have CA : Hid (∀ (W : World) p1 n1 c1, FV nI W (fun k => k < W.heap.size) a (nI a (.slice p1 n1 c1)) → Calls prog 64 #[.agg #[.string ua, .slice p1 n1 c1, .int .i64 a1, .int .i64 a2, .int .i64 a3]] W fun e w' => (∃ v, e = .returned v ∧ EV w' (fun k => k < w'.heap.size) (Xd a) v) ∧ Below W.heap.size W w') := H_ (fun W p1 n1 c1 k => by rw [hua, ha1, ha2, ha3]; exact ih a p1 n1 c1 W hda haT k)
 have CR : Hid (∀ (W : World) p2 n2 c2, FV nI W (fun k => k < W.heap.size) b (nI b (.slice p2 n2 c2)) → Calls prog 64 #[.agg #[.string ub, .slice p2 n2 c2, .int .i64 b1, .int .i64 b2, .int .i64 b3]] W fun e w' => (∃ v, e = .returned v ∧ EV w' (fun k => k < w'.heap.size) (Xd b) v) ∧ Below W.heap.size W w') := H_ (fun W p2 n2 c2 k => by rw [hub, hb1', hb2', hb3']; exact ih b p2 n2 c2 W hdb hbT k)
 rw [← hu, ← ht1, ← ht2, ← ht3]
 have V0 := H_ (FV.onO hv (Z4 w (.cells #[.string tu, .slice p m c, .int .i64 t1, .int .i64 t2, .int .i64 t3] 56)))
 have y0 := heap_alloc_new w (.cells #[.string tu, .slice p m c, .int .i64 t1, .int .i64 t2, .int .i64 t3] 56)
 have HB00 := H_ (Yk (Z4 w (.cells #[.string tu, .slice p m c, .int .i64 t1, .int .i64 t2, .int .i64 t3] 56)))
 clear hty h0 h1 he hv hu ht1 ht2 ht3 hq hua ha1 ha2 ha3 hub hb1' hb2' hb3' ih hda haT hdb hbT hna hnb
 go_enter func64, ntmps64
 go_wp2_with (go_at_call 113; first | ((with_reducible refine (S0'.out _ V0.out).mono ?_); rintro e w1 ⟨rfl, hb1⟩; have y1 := Z8 (o' := (.cells #[.string ⟨#[]⟩, .slice none 0 0, .int .i64 0, .int .i64 0, .int .i64 0] 56)) (Z8 (o' := (.cells #[.string ⟨#[]⟩, .slice none 0 0, .int .i64 0, .int .i64 0, .int .i64 0] 56)) (Z1 hb1 (lt_of_block y0) y0)); obtain ⟨z0, z1, z2, z3, z4⟩ := Zb y1; have V1 := H_ (FV.onO (FV.onO V0.out hb1) (Zl w1 (.cells #[.string ⟨#[]⟩, .slice none 0 0, .int .i64 0, .int .i64 0, .int .i64 0] 56) (.cells #[.string ⟨#[]⟩, .slice none 0 0, .int .i64 0, .int .i64 0, .int .i64 0] 56))); have HB0 := H_ (Y0 (Y0 HB00.out hb1) (Zl w1 (.cells #[.string ⟨#[]⟩, .slice none 0 0, .int .i64 0, .int .i64 0, .int .i64 0] 56) (.cells #[.string ⟨#[]⟩, .slice none 0 0, .int .i64 0, .int .i64 0, .int .i64 0] 56))); clear hb1) | ((with_reducible refine (S1.out _ V1.out).mono ?_); rintro e w2 ⟨⟨p1, n1, c1, p2, n2, c2, rfl, hva, hvb⟩, hb2⟩; have hS := H_ hb2.size))
 have XA := Z8 (o' := (.cells #[.string ub, .slice p2 n2 c2, .int .i64 b1, .int .i64 b2, .int .i64 b3] 56)) (heap_alloc_new w2 (.cells #[.string ua, .slice p1 n1 c1, .int .i64 a1, .int .i64 a2, .int .i64 a3] 56))
 have XB := Z9 w2 (.cells #[.string ua, .slice p1 n1 c1, .int .i64 a1, .int .i64 a2, .int .i64 a3] 56) (.cells #[.string ub, .slice p2 n2 c2, .int .i64 b1, .int .i64 b2, .int .i64 b3] 56)
 have VA := H_ ((hva.below (Zl w2 (.cells #[.string ua, .slice p1 n1 c1, .int .i64 a1, .int .i64 a2, .int .i64 a3] 56) (.cells #[.string ub, .slice p2 n2 c2, .int .i64 b1, .int .i64 b2, .int .i64 b3] 56)) (fun k hk => Nat.lt_of_lt_of_le hk hS.out)).wide (ok' := fun q => q < ((w2.alloc (.cells #[.string ua, .slice p1 n1 c1, .int .i64 a1, .int .i64 a2, .int .i64 a3] 56)).alloc (.cells #[.string ub, .slice p2 n2 c2, .int .i64 b1, .int .i64 b2, .int .i64 b3] 56)).heap.size) (fun k hk => by have := hS.out; simp at *; omega))
 have VB := H_ ((hvb.below (Zl w2 (.cells #[.string ua, .slice p1 n1 c1, .int .i64 a1, .int .i64 a2, .int .i64 a3] 56) (.cells #[.string ub, .slice p2 n2 c2, .int .i64 b1, .int .i64 b2, .int .i64 b3] 56)) (fun k hk => Nat.lt_of_lt_of_le hk hS.out)).wide (ok' := fun q => q < ((w2.alloc (.cells #[.string ua, .slice p1 n1 c1, .int .i64 a1, .int .i64 a2, .int .i64 a3] 56)).alloc (.cells #[.string ub, .slice p2 n2 c2, .int .i64 b1, .int .i64 b2, .int .i64 b3] 56)).heap.size) (fun k hk => by have := hS.out; simp at *; omega))
 have BW := H_ ((Y0 (Y0 HB0.out hb2) (Zl w2 (.cells #[.string ua, .slice p1 n1 c1, .int .i64 a1, .int .i64 a2, .int .i64 a3] 56) (.cells #[.string ub, .slice p2 n2 c2, .int .i64 b1, .int .i64 b2, .int .i64 b3] 56))).1)
 clear hva hvb hb2
 generalize hwx : (w2.alloc (.cells #[.string ua, .slice p1 n1 c1, .int .i64 a1, .int .i64 a2, .int .i64 a3] 56)).alloc (.cells #[.string ub, .slice p2 n2 c2, .int .i64 b1, .int .i64 b2, .int .i64 b3] 56) = wx at *
 clear hwx
 generalize w2.heap.size = b9 at *
 have l8 := lt_of_block XA
 have l10 := lt_of_block XB
 have K : Hid (∀ W, Below wx.heap.size wx W → (fun W => Below wx.heap.size wx W ∧ (W.cell? ⟨b9, 0, none⟩ = some (.string ua) ∧ W.cell? ⟨b9, 1, none⟩ = some (.slice p1 n1 c1) ∧ W.cell? ⟨b9, 2, none⟩ = some (.int .i64 a1) ∧ W.cell? ⟨b9, 3, none⟩ = some (.int .i64 a2) ∧ W.cell? ⟨b9, 4, none⟩ = some (.int .i64 a3)) ∧ (W.cell? ⟨b9 + 1, 0, none⟩ = some (.string ub) ∧ W.cell? ⟨b9 + 1, 1, none⟩ = some (.slice p2 n2 c2) ∧ W.cell? ⟨b9 + 1, 2, none⟩ = some (.int .i64 b1) ∧ W.cell? ⟨b9 + 1, 3, none⟩ = some (.int .i64 b2) ∧ W.cell? ⟨b9 + 1, 4, none⟩ = some (.int .i64 b3))) W) := H_ (fun W hW => ⟨hW, ⟨(hW.cell (p := ⟨b9, 0, none⟩) l8).trans (Z3 (j := 0) XA), (hW.cell (p := ⟨b9, 1, none⟩) l8).trans (Z3 (j := 1) XA), (hW.cell (p := ⟨b9, 2, none⟩) l8).trans (Z3 (j := 2) XA), (hW.cell (p := ⟨b9, 3, none⟩) l8).trans (Z3 (j := 3) XA), (hW.cell (p := ⟨b9, 4, none⟩) l8).trans (Z3 (j := 4) XA)⟩, (hW.cell (p := ⟨b9 + 1, 0, none⟩) l10).trans (Z3 (j := 0) XB), (hW.cell (p := ⟨b9 + 1, 1, none⟩) l10).trans (Z3 (j := 1) XB), (hW.cell (p := ⟨b9 + 1, 2, none⟩) l10).trans (Z3 (j := 2) XB), (hW.cell (p := ⟨b9 + 1, 3, none⟩) l10).trans (Z3 (j := 3) XB), (hW.cell (p := ⟨b9 + 1, 4, none⟩) l10).trans (Z3 (j := 4) XB)⟩)
 have S0 := H_ (K.out _ ((Below.refl _ _).drew))
 clear XA XB
 go_region_held3 (fun W => Below wx.heap.size wx W ∧ (W.cell? ⟨b9, 0, none⟩ = some (.string ua) ∧ W.cell? ⟨b9, 1, none⟩ = some (.slice p1 n1 c1) ∧ W.cell? ⟨b9, 2, none⟩ = some (.int .i64 a1) ∧ W.cell? ⟨b9, 3, none⟩ = some (.int .i64 a2) ∧ W.cell? ⟨b9, 4, none⟩ = some (.int .i64 a3)) ∧ (W.cell? ⟨b9 + 1, 0, none⟩ = some (.string ub) ∧ W.cell? ⟨b9 + 1, 1, none⟩ = some (.slice p2 n2 c2) ∧ W.cell? ⟨b9 + 1, 2, none⟩ = some (.int .i64 b1) ∧ W.cell? ⟨b9 + 1, 3, none⟩ = some (.int .i64 b2) ∧ W.cell? ⟨b9 + 1, 4, none⟩ = some (.int .i64 b3))) (first | exact S0.out | assumption | fail) (first | (go_at_call 64; have hh := And.left (by assumption : Below wx.heap.size wx _ ∧ _); first | ((with_reducible refine (CA.out _ p1 n1 c1 (VA.out.onO hh)).mono ?_); rintro e w7 ⟨⟨v, rfl, hv7⟩, hb7⟩; obtain ⟨T7, u7, rfl⟩ := hv7.iface; have hB7 := hh.trans (hb7.mono hh.size); have hS7 := K.out _ hB7) | ((with_reducible refine (CR.out _ p2 n2 c2 (VB.out.onO hh)).mono ?_); rintro e w9 ⟨⟨v, rfl, hv9⟩, hb9⟩; obtain ⟨T9, u9, rfl⟩ := hv9.iface; have hB9 := hh.trans (hb9.mono hh.size); have hS9 := K.out _ hB9)) | fail)
 all_goals
  go_wp2_with fail
  go_ret
  first
   | exact ⟨⟨_, rfl, _, _, rfl, EV.onO hv7 hb9, hv9⟩, BW.out.trans (hB9.mono BW.out.size)⟩
   | exact ⟨⟨_, rfl, _, _, rfl, EV.onO (w' := w9) hv7 hb9, hv9⟩, BW.out.trans (hB9.drew.mono BW.out.size)⟩
theorem of_all : ∀ n, OfC n
 | 0 => fun t _ _ _ _ h => by omega
 | n + 1 => fun t p m c w hd hty hv => by
   match t, hd, hty, hv with
   | .atom a, _, hty, hv => exact of_num _ hty rfl rfl (Vf a) p m c w hv
   | .list ts, hd, hty, hv =>
     obtain ⟨x, a, b, rfl, hx, -⟩ := Q4 (Zy hty).1
     have hdd := Ku x a b
     by_cases e : Z0 x = [42]
     · have h1 := Qq (a := a) (b := b) e
       have hab := Xv hty h1
       have h0 : Ya 62 (.list [x, a, b]) = none := Z2l (by rw [e]; decide)
       exact of_pair n (of_all n) _ a b hty h0 h1 (by rw [Jq, if_pos e]) (by omega) hab.1 (by omega) hab.2 p m c w hv
     · have e2 : Z0 x = [62] := hx.resolve_right e
       have h1 := Qq (a := a) (b := b) e2
       have hab := Xv hty h1
       exact of_fun n (of_all n) _ a b hty h1 (by rw [Jq, if_neg e]) (by omega) hab.2 p m c w hv
theorem implExprOf_c (s : ByteArray) (hs : s.size ≤ 1048576) (w : World) (hT : Tab w) :
 Calls prog 27 #[.string s] w fun e w' => Z6o (Z8n s.data.toList) e ∧ Below w.heap.size w w' := by
 cases hr : Yi s.data.toList with
 | none =>
   have C := H_ (Z4s hs hr)
   have HR := H_ (Z29 hr)
   clear hr hT
   go_enter func27, ntmps27
   go_wp2_with (go_at_call 56; go_must (refine (C.out _).mono ?_; rintro e w1 ⟨rfl, hb1⟩))
   go_ret2
   exact ⟨by rw [HR.out]; rfl, hb1.alloc hb1.size _⟩
 | some t =>
   have C := H_ (Z4r hs hr)
   have hL := Z8h hr
   have hok := Z0s t.depth t (Nat.le_refl _) hL
   have hsz := (Zy hL).2
   have hby := hok.bytes
   obtain ⟨tu, t1, t2, t3, hu, ht1, ht2, ht3, hq⟩ := Zq t
   rw [← hu, ← ht1, ← ht2, ← ht3] at C
   have CO : Hid (∀ (W : World) p m c, FV nI W (fun k => k < W.heap.size) t (nI t (.slice p m c)) → Calls prog 64 #[.agg #[.string tu, .slice p m c, .int .i64 t1, .int .i64 t2, .int .i64 t3]] W fun e w' => (∃ v, e = .returned v ∧ EV w' (fun k => k < w'.heap.size) (Xd t) v) ∧ Below W.heap.size W w') := H_ (fun W p m c k => by rw [hu, ht1, ht2, ht3]; exact of_all (t.depth + 1) t p m c W (by omega) hL k)
   obtain ⟨tx, z, ht⟩ : ∃ tx z, ∀ e : Ending, Z6o (Z5c (Z2 (Xd t))) e → e = .returned (.tuple #[.string tx, .bool z]) := ⟨_, _, fun _ h => h⟩
   have HX : Hid (Z6o (Z8n s.data.toList) (.returned (.tuple #[.string tx, .bool z]))) := H_ (by
    have h1 := ht _ (show Z6o (Z5c (Z2 (Xd t))) (.returned (.tuple #[.string (bs ((Z5c (Z2 (Xd t))).getD [])), .bool (Z5c (Z2 (Xd t))).isSome])) from rfl)
    rw [Z49 hr, ← h1]; rfl)
   have CM : Hid (∀ (W : World) (v : Value), EV W (fun k => k < W.heap.size) (Xd t) v → Below w.heap.size w W → Calls prog 63 #[v] W fun e w' => e = .returned (.tuple #[.string tx, .bool z]) ∧ Below W.heap.size W w') := H_ (fun W v h1 h2 => (madeText_h (Xd t) (fm_of t.depth t (Nat.le_refl _) hL) v W hok.ok hok.wf (by omega) h1 (hT.below h2)).mono fun e w' ⟨k1, k2⟩ => ⟨ht e k1, k2⟩)
   clear hr hL hok hsz hby hu ht1 ht2 ht3 hq ht hT
   generalize Xd t = X at *
   go_enter func27, ntmps27
   go_wp2_with (first | (go_at_call 56; go_must (refine (C.out _).mono ?_; rintro e w1 ⟨⟨p, m, c, rfl, hv⟩, hb1⟩; have V1 := H_ ((hv.below (Z4 w1 (.cells #[.string tu, .slice p m c, .int .i64 t1, .int .i64 t2, .int .i64 t3] 56)) (fun k hk => hk.2)).wide (ok' := fun q => q < (w1.alloc (.cells #[.string tu, .slice p m c, .int .i64 t1, .int .i64 t2, .int .i64 t3] 56)).heap.size) (fun k hk => by simp; omega)); clear hv)) | (go_at_call 64; go_must (refine (CO.out _ _ _ _ V1.out).mono ?_; rintro e w2 ⟨⟨v, rfl, hv2⟩, hb2⟩; obtain ⟨T2, u2, rfl⟩ := hv2.iface)) | (go_at_call 63; go_must (refine (CM.out _ _ hv2 ((Y0 (Y0 (Yk hb1) (Z4 _ _)) hb2).1)).mono ?_; rintro e w3 ⟨rfl, hb3⟩)))
   go_ret2
   exact ⟨HX.out, (Y0 (Y0 (Y0 (Yk hb1) (Z4 _ _)) hb2) hb3).1⟩
end Go.Proofs.YtfknoigbkleanaaGreatDoor
