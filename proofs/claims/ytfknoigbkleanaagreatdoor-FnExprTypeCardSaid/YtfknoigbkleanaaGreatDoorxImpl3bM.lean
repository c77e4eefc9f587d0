/- The program: both types of a type with a head. The program's environments: linked frames. -/
import Derived.Test.YtfknoigbkleanaaGreatDoorxImpl1rM
import Derived.Test.YtfknoigbkleanaaGreatDoorxPureT
import Derived.Deep.RegionHeld3
import Derived.BigRegion
import Derived.Deep.DrawnRows
import Derived.Deep.DeepCutAuto
import Derived.Test.YtfknoigbkleanaaGreatDoorxI2a
import Derived.Test.YtfknoigbkleanaaGreatDoorxS2fM
import Derived.Deep.LoopGhost
namespace Go.Proofs.YtfknoigbkleanaaGreatDoor
open Go.RowKit Go.Proofs.Tryz
set_option maxRecDepth 8000
set_option maxHeartbeats 20000000
set_option linter.unusedVariables false
set_option linter.unusedSimpArgs false
theorem KA {wx : World} {S : World → Prop} (K : ∀ W, Below wx.heap.size wx W → S W) {W : World} {o : Obj} (h : Below wx.heap.size wx W) : S (W.alloc o) := K _ (h.alloc h.size o)
theorem KS5 {wx : World} {S : World → Prop} (K : ∀ W, Below wx.heap.size wx W → S W) {W : World} {b : Nat} {v0 v1 v2 v3 v4 : Value} (h : Below wx.heap.size wx W) (hb : wx.heap.size ≤ b) : S (((((W.setCell ⟨b, 0, none⟩ v0).setCell ⟨b, 1, none⟩ v1).setCell ⟨b, 2, none⟩ v2).setCell ⟨b, 3, none⟩ v3).setCell ⟨b, 4, none⟩ v4) := K _ (Yn h hb _ _ _ _ _)
theorem Q2 (w : World) (a : Obj) : w.heap.size < (w.alloc a).heap.size := by simp only [X3]; omega
theorem two_more (w : World) (a b : Obj) : w.heap.size < ((w.alloc a).alloc b).heap.size := by simp only [X3]; omega
theorem one_two (w : World) (a b : Obj) : w.heap.size + 1 < ((w.alloc a).alloc b).heap.size := by simp only [X3]; omega
theorem Z3i {w : World} {b : Nat} {cs : Array Value} {t : TypeId} (h : w.heap[b]? = some (.cells cs t (0, 0))) : Yb w b 0 cs.toList := by
 intro j v hj
 rw [Z2 h]; simpa using hj
theorem Z4z {w : World} {r : Nat} {x : Value} {xs : List Value} (h : Yb w r 0 (x :: xs)) : r < w.heap.size := World.block_lt_of_cell? w ⟨r, 0 + 0, none⟩ (h 0 x rfl)
theorem Y4 {w' : World} {b q : Nat} (h : q ≠ b) (v0 v1 v2 v3 v4 : Value) : (((((w'.setCell ⟨b, 0, none⟩ v0).setCell ⟨b, 1, none⟩ v1).setCell ⟨b, 2, none⟩ v2).setCell ⟨b, 3, none⟩ v3).setCell ⟨b, 4, none⟩ v4).heap[q]? = w'.heap[q]? := by
 rw [Z9 _ (by simpa using h), Z9 _ (by simpa using h), Z9 _ (by simpa using h), Z9 _ (by simpa using h), Z9 _ (by simpa using h)]
theorem Zh {w : World} {b : Nat} {x0 x1 x2 x3 x4 : Value} {t : TypeId} (h : w.heap[b]? = some (.cells #[x0, x1, x2, x3, x4] t (0, 0))) (v0 v1 v2 v3 v4 : Value) : (((((w.setCell ⟨b, 0, none⟩ v0).setCell ⟨b, 1, none⟩ v1).setCell ⟨b, 2, none⟩ v2).setCell ⟨b, 3, none⟩ v3).setCell ⟨b, 4, none⟩ v4).heap[b]? = some (.cells #[v0, v1, v2, v3, v4] t (0, 0)) := by
 have h0 := Qm (j := 0) h v0
 have h1 := Qm (j := 1) h0 v1
 have h2 := Qm (j := 2) h1 v2
 have h3 := Qm (j := 3) h2 v3
 have h4 := Qm (j := 4) h3 v4
 simpa using h4
theorem made_row {W : World} {r lim : Nat} {h a b : Tr} {x y z : List Value} (hh : FV nI W (fun k => k < lim) h x) (ha : FV nI W (fun k => k < lim) a y) (hb : FV nI W (fun k => k < lim) b z) : FVs nI W (fun k => k < lim) [h, a, b] (x ++ (y ++ (z ++ []))) := by
 simp only [FVs]
 exact ⟨_, _, rfl, hh, _, _, rfl, ha, _, _, rfl, hb, rfl⟩
theorem Z64 (s : ByteArray) (p : Option Addr) (c : Nat) (x y z : Int) (hd : ByteArray) (w : World) :
 Calls prog 161 #[.agg #[.string s, .slice p 0 c, .int .i64 x, .int .i64 y, .int .i64 z], .string hd] w fun e w' => e = .returned (.bool false) ∧ Below w.heap.size w w' := by
 go_enter func161, ntmps161
 go_wp2_with fail
 go_ret
 exact ⟨rfl, Z4 _ _⟩
theorem readType_none {s : ByteArray} (hs : s.size ≤ 1048576) (hr : Y0 s.data.toList = none) (W : World) : Calls prog 56 #[.string s] W fun e w' => e = .returned (.tuple #[.agg #[.string ⟨#[]⟩, .slice none 0 0, .int .i64 0, .int .i64 0, .int .i64 0], .bool false]) ∧ Below W.heap.size W w' :=
 (Z3j s hs W).mono fun e w' ⟨h1, h2⟩ => ⟨by rw [hr] at h1; exact h1, h2⟩
theorem readType_some {s : ByteArray} (hs : s.size ≤ 1048576) {t : Tr} (hr : Y0 s.data.toList = some t) (W : World) : Calls prog 56 #[.string s] W fun e w' => (∃ p n c, e = .returned (.tuple #[.agg #[.string (bs (Z0 t)), .slice p n c, .int .i64 t.bytes, .int .i64 t.size, .int .i64 t.depth], .bool true]) ∧ FV nI w' (fun k => W.heap.size ≤ k ∧ k < w'.heap.size) t (nI t (.slice p n c))) ∧ Below W.heap.size W w' :=
 (Z3j s hs W).mono fun e w' ⟨h1, h2⟩ => ⟨by rw [hr] at h1; exact h1, h2⟩
def SdPost (B : Nat) (r : Option (Tr × Tr)) (e : Ending) (w' : World) : Prop :=
 match r with
 | none => e = .returned (.tuple #[.agg #[.string ⟨#[]⟩, .slice none 0 0, .int .i64 0, .int .i64 0, .int .i64 0], .agg #[.string ⟨#[]⟩, .slice none 0 0, .int .i64 0, .int .i64 0, .int .i64 0], .bool false])
 | some (a, b) => ∃ p1 n1 c1 p2 n2 c2, e = .returned (.tuple #[.agg #[.string (bs (Z0 a)), .slice p1 n1 c1, .int .i64 a.bytes, .int .i64 a.size, .int .i64 a.depth], .agg #[.string (bs (Z0 b)), .slice p2 n2 c2, .int .i64 b.bytes, .int .i64 b.size, .int .i64 b.depth], .bool true]) ∧ FV nI w' (fun k => k < B) a (nI a (.slice p1 n1 c1)) ∧ FV nI w' (fun k => k < B) b (nI b (.slice p2 n2 c2))
theorem Z5f {B : Nat} {w w' : World} {b b2 : Nat} (h : Below B w w') (hb : B ≤ b) (hb2 : B ≤ b2) (v0 v1 v2 v3 v4 u0 u1 u2 u3 u4 : Value) : Below B w ((((((((((w'.setCell ⟨b, 0, none⟩ v0).setCell ⟨b, 1, none⟩ v1).setCell ⟨b, 2, none⟩ v2).setCell ⟨b, 3, none⟩ v3).setCell ⟨b, 4, none⟩ v4).setCell ⟨b2, 0, none⟩ u0).setCell ⟨b2, 1, none⟩ u1).setCell ⟨b2, 2, none⟩ u2).setCell ⟨b2, 3, none⟩ u3).setCell ⟨b2, 4, none⟩ u4) :=
 Yn (Yn h hb _ _ _ _ _) hb2 _ _ _ _ _
theorem Z4p (w : World) (a b c : Obj) : (((w.alloc a).alloc b).alloc c).heap[w.heap.size]? = some a ∧ (((w.alloc a).alloc b).alloc c).heap[w.heap.size + 1]? = some b ∧ (((w.alloc a).alloc b).alloc c).heap[w.heap.size + 2]? = some c := by
 refine ⟨Z8 (Z8 (heap_alloc_new _ _)), Z8 (Za _ _ _), ?_⟩
 have := heap_alloc_new ((w.alloc a).alloc b) c
 rwa [show ((w.alloc a).alloc b).heap.size = w.heap.size + 2 by simp] at this
theorem Z6p (c : UInt8) (cs : Array Value) (u : ByteArray) (v1 v2 v3 v4 : Value) (hcs : cs = #[.string u, v1, v2, v3, v4]) (w : World)
 (HI : ∀ W, Below w.heap.size w W → Calls prog 161 #[.agg #[.string u, v1, v2, v3, v4], .string (bs [c])] W fun e w' => e = .returned (.bool false) ∧ Below W.heap.size W w') :
 Calls prog 113 #[.agg cs, .string (bs [c])] w fun e w' => e = .returned (.tuple #[.agg #[.string ⟨#[]⟩, .slice none 0 0, .int .i64 0, .int .i64 0, .int .i64 0], .agg #[.string ⟨#[]⟩, .slice none 0 0, .int .i64 0, .int .i64 0, .int .i64 0], .bool false]) ∧ Below w.heap.size w w' := by
 subst hcs
 have HI := H_ HI
 go_enter func113, ntmps113
 go_wp2_with (go_at_call 161; go_must (refine (HI.out _ (Ku w _ _ _)).mono ?_; rintro e w1 ⟨rfl, hb1⟩; obtain ⟨q0, q1, q2⟩ := Z4p w (.cells #[.string u, v1, v2, v3, v4] 56) (.cells #[.string ⟨#[]⟩, .slice none 0 0, .int .i64 0, .int .i64 0, .int .i64 0] 56) (.cells #[.string ⟨#[]⟩, .slice none 0 0, .int .i64 0, .int .i64 0, .int .i64 0] 56); have y1 := Z1 hb1 (lt_of_block q1) q1; have y2 := Z1 hb1 (lt_of_block q2) q2; obtain ⟨z10, z11, z12, z13, z14⟩ := Zb y1; obtain ⟨f10, f11, f12, f13, f14⟩ := Ze y1; obtain ⟨z20, z21, z22, z23, z24⟩ := Zb y2; obtain ⟨f20, f21, f22, f23, f24⟩ := Ze y2; clear q0 q1 q2))
 have hd : w.heap.size + 2 ≠ w.heap.size + 1 := by omega
 have E1 : ∀ v0 v1 v2 v3 v4, (((((w1.setCell ⟨w.heap.size + 1, 0, none⟩ v0).setCell ⟨w.heap.size + 1, 1, none⟩ v1).setCell ⟨w.heap.size + 1, 2, none⟩ v2).setCell ⟨w.heap.size + 1, 3, none⟩ v3).setCell ⟨w.heap.size + 1, 4, none⟩ v4).heap[w.heap.size + 2]? = _ := fun v0 v1 v2 v3 v4 => (Y4 hd v0 v1 v2 v3 v4).trans y2
 have y1' := (Y4 hd.symm (.string ⟨#[]⟩) (.slice none 0 0) (.int .i64 0) (.int .i64 0) (.int .i64 0)).trans (Zh y1 (.string ⟨#[]⟩) (.slice none 0 0) (.int .i64 0) (.int .i64 0) (.int .i64 0))
 have y2' := Zh (E1 (.string ⟨#[]⟩) (.slice none 0 0) (.int .i64 0) (.int .i64 0) (.int .i64 0)) (.string ⟨#[]⟩) (.slice none 0 0) (.int .i64 0) (.int .i64 0) (.int .i64 0)
 obtain ⟨r10, r11, r12, r13, r14⟩ := Zb y1'
 obtain ⟨r20, r21, r22, r23, r24⟩ := Zb y2'
 refine bodyPost_ret (v := .tuple #[.agg #[.string ⟨#[]⟩, .slice none 0 0, .int .i64 0, .int .i64 0, .int .i64 0], .agg #[.string ⟨#[]⟩, .slice none 0 0, .int .i64 0, .int .i64 0, .int .i64 0], .bool false]) (by simp [results, results113, go_sem, r10, r11, r12, r13, r14, r20, r21, r22, r23, r24]) rfl ⟨rfl, ?_⟩
 exact Z5f ((Ku w _ _ _).trans (hb1.mono (by simp; omega))) (by omega) (by omega) _ _ _ _ _ _ _ _ _ _
theorem sides_yes_c (c : UInt8) (u ua ub : ByteArray) (v2 v3 v4 : Value) (r off cap : Nat) (p1 p2 : Option Addr) (n1 c1 n2 c2 : Nat) (a1 a2 a3 b1 b2 b3 : Int) (w : World) (hr : r < w.heap.size) (hc3 : 3 ≤ cap) (hcap : cap ≤ maxLen)
 (HI : ∀ W, Below w.heap.size w W → Calls prog 161 #[.agg #[.string u, .slice (some ⟨r, off, none⟩) 3 cap, v2, v3, v4], .string (bs [c])] W fun e w' => e = .returned (.bool true) ∧ Below W.heap.size W w')
 (e0 : w.cell? ⟨r, off + 5, none⟩ = some (.string ua)) (e1 : w.cell? ⟨r, off + 5 + 1, none⟩ = some (.slice p1 n1 c1)) (e2 : w.cell? ⟨r, off + 5 + 2, none⟩ = some (.int .i64 a1)) (e3 : w.cell? ⟨r, off + 5 + 3, none⟩ = some (.int .i64 a2)) (e4 : w.cell? ⟨r, off + 5 + 4, none⟩ = some (.int .i64 a3))
 (k0 : w.cell? ⟨r, off + 10, none⟩ = some (.string ub)) (k1 : w.cell? ⟨r, off + 10 + 1, none⟩ = some (.slice p2 n2 c2)) (k2 : w.cell? ⟨r, off + 10 + 2, none⟩ = some (.int .i64 b1)) (k3 : w.cell? ⟨r, off + 10 + 3, none⟩ = some (.int .i64 b2)) (k4 : w.cell? ⟨r, off + 10 + 4, none⟩ = some (.int .i64 b3)) :
 Calls prog 113 #[.agg #[.string u, .slice (some ⟨r, off, none⟩) 3 cap, v2, v3, v4], .string (bs [c])] w fun e w' => e = .returned (.tuple #[.agg #[.string ua, .slice p1 n1 c1, .int .i64 a1, .int .i64 a2, .int .i64 a3], .agg #[.string ub, .slice p2 n2 c2, .int .i64 b1, .int .i64 b2, .int .i64 b3], .bool true]) ∧ Below w.heap.size w w' := by
 have HI := H_ HI
 have hm := Zy hcap
 have HR : Hid (∀ W, Below w.heap.size w W → ∀ j v, w.cell? ⟨r, j, none⟩ = some v → W.cell? ⟨r, j, none⟩ = some v) := H_ (fun W hW j v h => (hW.cell (p := ⟨r, j, none⟩) hr).trans h)
 have E0 := H_ e0
 have E1 := H_ e1
 have E2 := H_ e2
 have E3 := H_ e3
 have E4 := H_ e4
 have K0 := H_ k0
 have K1 := H_ k1
 have K2 := H_ k2
 have K3 := H_ k3
 have K4 := H_ k4
 clear e0 e1 e2 e3 e4 k0 k1 k2 k3 k4
 go_enter func113, ntmps113
 go_wp2_with (go_at_call 161; go_must (refine (HI.out _ (Ku w _ _ _)).mono ?_; rintro e w1 ⟨rfl, hb1⟩))
 obtain ⟨q0, q1, q2⟩ := Z4p w (.cells #[.string u, .slice (some ⟨r, off, none⟩) 3 cap, v2, v3, v4] 56) (.cells #[.string ⟨#[]⟩, .slice none 0 0, .int .i64 0, .int .i64 0, .int .i64 0] 56) (.cells #[.string ⟨#[]⟩, .slice none 0 0, .int .i64 0, .int .i64 0, .int .i64 0] 56)
 have y0 := Z1 hb1 (lt_of_block q0) q0
 have y1 := Z1 hb1 (lt_of_block q1) q1
 have y2 : w1.heap[w.heap.size + 1 + 1]? = _ := Z1 hb1 (lt_of_block q2) q2
 clear q0 q1 q2
 have hbw := H_ ((Ku w (.cells #[.string u, .slice (some ⟨r, off, none⟩) 3 cap, v2, v3, v4] 56) (.cells #[.string ⟨#[]⟩, .slice none 0 0, .int .i64 0, .int .i64 0, .int .i64 0] 56) (.cells #[.string ⟨#[]⟩, .slice none 0 0, .int .i64 0, .int .i64 0, .int .i64 0] 56)).trans (hb1.mono (by simp; omega)))
 have e0 := HR.out w1 hbw.out _ _ E0.out
 have e1 := HR.out w1 hbw.out _ _ E1.out
 have e2 := HR.out w1 hbw.out _ _ E2.out
 have e3 := HR.out w1 hbw.out _ _ E3.out
 have e4 := HR.out w1 hbw.out _ _ E4.out
 have k0 := HR.out w1 hbw.out _ _ K0.out
 have k1 := HR.out w1 hbw.out _ _ K1.out
 have k2 := HR.out w1 hbw.out _ _ K2.out
 have k3 := HR.out w1 hbw.out _ _ K3.out
 have k4 := HR.out w1 hbw.out _ _ K4.out
 have t1 := Z2 (j := 1) y0
 obtain ⟨f10, f11, f12, f13, f14⟩ := Ze y1
 obtain ⟨z10, z11, z12, z13, z14⟩ := Zb y1
 obtain ⟨f20, f21, f22, f23, f24⟩ := Ze y2
 obtain ⟨z20, z21, z22, z23, z24⟩ := Zb y2
 have hB1 : w.heap.size ≤ w.heap.size + 1 := by omega
 have hB2 : w.heap.size ≤ w.heap.size + 1 + 1 := by omega
 have hrb : r ≠ w.heap.size + 1 := by omega
 have hrb2 : r ≠ w.heap.size + 1 + 1 := by omega
 have h12 : w.heap.size + 1 ≠ w.heap.size + 1 + 1 := by omega
 have hrb3 := hrb.symm
 have hrb4 := hrb2.symm
 have O1a := (Y4 h12 (.string ub) (.slice p2 n2 c2) (.int .i64 b1) (.int .i64 b2) (.int .i64 b3)).trans (Zh y1 (.string ua) (.slice p1 n1 c1) (.int .i64 a1) (.int .i64 a2) (.int .i64 a3))
 have O1b := Zh ((Y4 h12.symm (.string ua) (.slice p1 n1 c1) (.int .i64 a1) (.int .i64 a2) (.int .i64 a3)).trans y2) (.string ub) (.slice p2 n2 c2) (.int .i64 b1) (.int .i64 b2) (.int .i64 b3)
 have O2a := Zh ((Y4 h12 (.string ub) (.slice p2 n2 c2) (.int .i64 b1) (.int .i64 b2) (.int .i64 b3)).trans y1) (.string ua) (.slice p1 n1 c1) (.int .i64 a1) (.int .i64 a2) (.int .i64 a3)
 have O2b := (Y4 h12.symm (.string ua) (.slice p1 n1 c1) (.int .i64 a1) (.int .i64 a2) (.int .i64 a3)).trans (Zh y2 (.string ub) (.slice p2 n2 c2) (.int .i64 b1) (.int .i64 b2) (.int .i64 b3))
 clear hb1
 go_region
 all_goals
  go_wp2_with fail
  obtain ⟨r10, r11, r12, r13, r14⟩ := Zb O1a
  obtain ⟨r20, r21, r22, r23, r24⟩ := Zb O1b
  refine bodyPost_ret (v := .tuple #[.agg #[.string ua, .slice p1 n1 c1, .int .i64 a1, .int .i64 a2, .int .i64 a3], .agg #[.string ub, .slice p2 n2 c2, .int .i64 b1, .int .i64 b2, .int .i64 b3], .bool true]) (by simp [results, results113, go_sem, r10, r11, r12, r13, r14, r20, r21, r22, r23, r24]) rfl ⟨rfl, ?_⟩
  exact (Z5f hbw.out hB1 hB2 _ _ _ _ _ _ _ _ _ _).drew
theorem sidesOf_no {c : UInt8} {l : List UInt8} {t : Tr} (h : Y0 l = some t) (hs : Yk c t = none) (hty : Xe t = true) : X5 [c] l = none := by
 match t, hty with
 | .atom a, _ => exact Z6q _ h
 | .list ts, hty =>
   obtain ⟨x, a, b, rfl, -⟩ := Ju hty
   by_cases hx : Z0 x = [c]
   · rw [Vb hx] at hs; cases hs
   · exact sides_no _ h hx
theorem sidesOf_yes {c : UInt8} {l : List UInt8} {t a b : Tr} (h : Y0 l = some t) (hs : Yk c t = some (a, b)) (hty : Xe t = true) : X5 [c] l = some (a.text, b.text) ∧ ∃ x, t = .list [x, a, b] := by
 match t, hty with
 | .atom a, _ => cases hs
 | .list ts, hty =>
   obtain ⟨x, a', b', rfl, -⟩ := Ju hty
   by_cases hx : Z0 x = [c]
   · rw [Vb hx] at hs
     simp only [Option.some.injEq, Prod.mk.injEq] at hs
     obtain ⟨rfl, rfl⟩ := hs
     exact ⟨sides_yes _ h hx, x, rfl⟩
   · rw [Z6r hx] at hs; cases hs
def FrV (w : World) : List (Nm × Tr) → Value → Prop
 | [], v => v = .pointer none
 | (n, t) :: env, v => ∃ b p m c o, v = .pointer (some ⟨b, 0, none⟩) ∧ w.heap[b]? = some (.cells #[.string (bs n), .string (bs (Z0 t)), .slice p m c, .int .i64 t.bytes, .int .i64 t.size, .int .i64 t.depth, o] 149 (0, 0)) ∧ FV nI w (fun k => k < w.heap.size) t (nI t (.slice p m c)) ∧ FrV w env o
theorem FV.on {w w' : World} {t : Tr} {cs : List Value} (h : FV nI w (fun k => k < w.heap.size) t cs) (hb : Below w.heap.size w w') : FV nI w' (fun k => k < w'.heap.size) t cs := (h.below hb (fun _ h => h)).wide (fun k hk => Nat.lt_of_lt_of_le hk hb.size)
theorem FrV.below {w w' : World} (hb : Below w.heap.size w w') : ∀ {env : List (Nm × Tr)} {v : Value}, FrV w env v → FrV w' env v
 | [], v, h => h
 | (n, t) :: env, v, h => by
   obtain ⟨b, p, m, c, o, rfl, h1, h2, h3⟩ := h
   exact ⟨b, p, m, c, o, rfl, Z1 hb (lt_of_block h1) h1, h2.on hb, h3.below hb⟩
theorem FrV.shape {w : World} : ∀ {env : List (Nm × Tr)} {v : Value}, FrV w env v → ∃ p, v = .pointer p
 | [], v, h => ⟨_, h⟩
 | (n, t) :: env, v, h => by obtain ⟨b, p, m, c, o, rfl, _⟩ := h; exact ⟨_, rfl⟩
theorem with_c (v : Value) (hp : ∃ p, v = .pointer p) (s ua : ByteArray) (p1 : Option Addr) (n1 c1 : Nat) (a1 a2 a3 : Int) (w : World) :
 Calls prog 87 #[v, .string s, .agg #[.string ua, .slice p1 n1 c1, .int .i64 a1, .int .i64 a2, .int .i64 a3]] w fun e w' => e = .returned (.pointer (some ⟨w.heap.size + 1, 0, none⟩)) ∧ w' = (w.alloc (.cells #[.string ua, .slice p1 n1 c1, .int .i64 a1, .int .i64 a2, .int .i64 a3] 56)).alloc (.cells #[.string s, .string ua, .slice p1 n1 c1, .int .i64 a1, .int .i64 a2, .int .i64 a3, v] 149) := by
 obtain ⟨p, rfl⟩ := hp
 go_enter func87, ntmps87
 go_wp2_with fail
 go_ret
 exact ⟨rfl, rfl⟩
theorem with_env (env : List (Nm × Tr)) (n : Nm) (t : Tr) (v : Value) (p : Option Addr) (m c : Nat) (w : World) (hv : FrV w env v) (hf : FV nI w (fun k => k < w.heap.size) t (nI t (.slice p m c))) :
 Calls prog 87 #[v, .string (bs n), .agg #[.string (bs (Z0 t)), .slice p m c, .int .i64 t.bytes, .int .i64 t.size, .int .i64 t.depth]] w fun e w' => (∃ q, e = .returned (.pointer q) ∧ FrV w' ((n, t) :: env) (.pointer q)) ∧ Below w.heap.size w w' := by
 refine (with_c v hv.shape (bs n) _ p m c _ _ _ w).mono ?_
 rintro e w' ⟨rfl, rfl⟩
 have hb := Zm w (.cells #[.string (bs (Z0 t)), .slice p m c, .int .i64 t.bytes, .int .i64 t.size, .int .i64 t.depth] 56) (.cells #[.string (bs n), .string (bs (Z0 t)), .slice p m c, .int .i64 t.bytes, .int .i64 t.size, .int .i64 t.depth, v] 149)
 exact ⟨⟨_, rfl, _, p, m, c, v, rfl, Za _ _ _, hf.on hb, hv.below hb⟩, hb⟩
def LoPost (r : Option Tr) (e : Ending) (w' : World) : Prop :=
 match r with
 | none => e = .returned (.tuple #[.agg #[.string ⟨#[]⟩, .slice none 0 0, .int .i64 0, .int .i64 0, .int .i64 0], .bool false])
 | some t => ∃ p m c, e = .returned (.tuple #[.agg #[.string (bs (Z0 t)), .slice p m c, .int .i64 t.bytes, .int .i64 t.size, .int .i64 t.depth], .bool true]) ∧ FV nI w' (fun k => k < w'.heap.size) t (nI t (.slice p m c))
def RePost (r : Option (List (Nm × Tr))) (e : Ending) (w' : World) : Prop :=
 match r with
 | none => e = .returned (.tuple #[.pointer none, .bool false])
 | some env => ∃ q, e = .returned (.tuple #[.pointer q, .bool true]) ∧ FrV w' env (.pointer q)
theorem envOf_bad {ns : List Nm} {ts : List (List UInt8)} {k : Nat} (h1 : k < ns.length) (h2 : k < ts.length) (h : Y0 ts[k] = none ∨ Yi ns[k] = false) : Qf ns ts = none := by
 have : (Qf ns ts).isSome = false := by
  rw [Vn]
  rcases h with h | h
  · have : ts.all (fun t => (Y0 t).isSome) = false := by rw [List.all_eq_false]; exact ⟨ts[k], List.getElem_mem h2, by rw [h]; simp⟩
    rw [this]; simp
  · have : ns.all Yi = false := by rw [List.all_eq_false]; exact ⟨ns[k], List.getElem_mem h1, by rw [h]; simp⟩
    rw [this]; simp
 cases hx : Qf ns ts with
 | none => rfl
 | some e => rw [hx] at this; cases this
theorem envAdd_step {ns : List Nm} {ts : List (List UInt8)} {k : Nat} (hl : ns.length = ts.length) (h1 : k < ns.length) (h2 : k < ts.length) {e : List (Nm × Tr)} {t : Tr} (he : Qg [] (ns.take k) (ts.take k) = some e) (ht : Y0 ts[k] = some t) (hn : Yi ns[k] = true) : Qg [] (ns.take (k + 1)) (ts.take (k + 1)) = some ((ns[k], t) :: e) := by
 rw [List.take_succ_eq_append_getElem h1, List.take_succ_eq_append_getElem h2, Z29 _ _ _ _ _ (by simp; omega), he]
 simp [ht, hn]
theorem readEnv_c (v1 v2 : Value) (ns : List Nm) (ts : List (List UInt8)) (w : World) (h1 : Zl w v1 ns) (h2 : Zl w v2 ts) (hn : ∀ k (h : k < ns.length), ns[k].length ≤ 1048576) (ht : ∀ k (h : k < ts.length), ts[k].length ≤ 1048576) :
 Calls prog 45 #[v1, v2] w fun e w' => RePost (Qf ns ts) e w' ∧ Below w.heap.size w w' := by
 obtain ⟨R, hR⟩ : ∃ R, R = Qf ns ts := ⟨_, rfl⟩
 rw [← hR]
 have HR := H_ hR
 have HN := H_ hn
 have HT := H_ ht
 obtain ⟨p1, c1, rfl, l1, hrow1⟩ := h1
 obtain ⟨p2, c2, rfl, l2, hrow2⟩ := h2
 have HS1 := H_ hrow1
 have HS2 := H_ hrow2
 clear hR hn ht hrow1 hrow2
 by_cases h8 : ns.length ≤ 8
 · have h83 : ¬ (8 : Int) < (ns.length : Int) := by omega
   have h82 : decide ((8 : Int) < (ns.length : Int)) = false := decide_eq_false h83
   by_cases hl : ns.length = ts.length
   · have hl2 : (ns.length : Int) = (ts.length : Int) := by omega
     have HL := H_ hl
     have H8 := H_ h8
     rw [← hl] at l2 ⊢
     have HO := H_ (show Qf ns ts = Qg [] ns ts by rw [Qf, if_pos ⟨h8, hl⟩])
     clear h82 hl2 hl
     go_enter func45, ntmps45
     go_wp2_with fail
     go_loopw [6, 23] (fun v i wr => ∃ (k : Nat) (env : List (Nm × Tr)) (q : Option Addr), k ≤ ns.length ∧ i = .int .i64 k ∧ v = .pointer q ∧ Hid (FrV wr env (.pointer q)) ∧ Hid (Qg [] (ns.take k) (ts.take k) = some env) ∧ Below w.heap.size w wr) (fun _ i _ => ns.length - (intOf i).toNat)
     case atStart => exact ⟨0, [], none, Nat.zero_le _, rfl, rfl, H_ rfl, H_ rfl, Below.refl _ _⟩
     case round =>
      obtain ⟨k, env, q, hk, rfl, rfl, hfr, hA, hb⟩ := hrel
      by_cases hlt : k < ns.length
      · have hlt2 : k < ts.length := by rw [← HL.out]; exact hlt
        obtain ⟨r, off, rfl, h3⟩ := HS1.out (by intro e; rw [e] at hlt; simp at hlt)
        obtain ⟨r2, off2, rfl, h4⟩ := HS2.out (by intro e; rw [e] at hlt2; simp at hlt2)
        have hrl : r < w.heap.size := World.block_lt_of_cell? w ⟨r, off + k, none⟩ (Zl.cell h3 hlt)
        have hrl2 : r2 < w.heap.size := World.block_lt_of_cell? w ⟨r2, off2 + k, none⟩ (Zl.cell h4 hlt2)
        have x1 : wr.cell? ⟨r, off + k, none⟩ = some (.string (bs ns[k])) := (hb.cell (p := ⟨r, off + k, none⟩) hrl).trans (Zl.cell h3 hlt)
        have x2 : wr.cell? ⟨r2, off2 + k, none⟩ = some (.string (bs ts[k])) := (hb.cell (p := ⟨r2, off2 + k, none⟩) hrl2).trans (Zl.cell h4 hlt2)
        have hk0 : (0 : Int) ≤ (k : Int) := by omega
        have hsT : (bs ts[k]).size ≤ 1048576 := by rw [Y3]; exact HT.out k hlt2
        have hdT : (bs ts[k]).data.toList = ts[k] := Ql _
        have CN : Hid (∀ W, Calls prog 79 #[.string (bs ns[k])] W fun e w' => e = .returned (.bool (Yi ns[k])) ∧ w' = W) := H_ (fun W => Z0w _ (HN.out k hlt) W)
        cases hx : Y0 ts[k] with
        | none =>
          have HF := H_ (show R = none by rw [HR.out]; exact envOf_bad hlt hlt2 (.inl hx))
          have C := H_ (readType_none hsT (by rw [hdT]; exact hx))
          generalize bs ts[k] = st at *
          generalize bs ns[k] = sn at *
          clear hx h3 h4 hdT hsT
          go_wp2_with (go_at_call 56; go_must (refine (C.out _).mono ?_; rintro e w1 ⟨rfl, hb1⟩))
          go_ret2
          exact ⟨by rw [HF.out]; rfl, (Xm (Xm (K5 hb) hb1) (Z4 _ _)).1⟩
        | some t =>
          have C := H_ (readType_some hsT (t := t) (by rw [hdT]; exact hx))
          obtain ⟨u, t1, t2, t3, hu, ht1, ht2, ht3, hq⟩ := Zx t
          rw [← hu, ← ht1, ← ht2, ← ht3] at C
          cases hy : Yi ns[k] with
          | false =>
            have HF := H_ (show R = none by rw [HR.out]; exact envOf_bad hlt hlt2 (.inr hy))
            rw [hy] at CN
            generalize bs ts[k] = st at *
            generalize bs ns[k] = sn at *
            clear hx hy h3 h4 hdT hsT hu ht1 ht2 ht3 hq
            go_wp2_with (first | (go_at_call 56; go_must (refine (C.out _).mono ?_; rintro e w1 ⟨⟨p, m, c, rfl, hv⟩, hb1⟩)) | (go_at_call 79; go_must (refine (CN.out _).mono ?_; rintro e w2 ⟨rfl, rfl⟩)))
            go_ret2
            exact ⟨by rw [HF.out]; rfl, (Xm (Xm (K5 hb) hb1) (Z4 _ _)).1⟩
          | true =>
            have HF := H_ (envAdd_step HL.out hlt hlt2 hA.out hx hy)
            rw [hy] at CN
            have CW : Hid (∀ (W : World) p m c, FrV W env (.pointer q) → FV nI W (fun k => k < W.heap.size) t (nI t (.slice p m c)) → Calls prog 87 #[.pointer q, .string (bs ns[k]), .agg #[.string u, .slice p m c, .int .i64 t1, .int .i64 t2, .int .i64 t3]] W fun e w' => (∃ q', e = .returned (.pointer q') ∧ FrV w' ((ns[k], t) :: env) (.pointer q')) ∧ Below W.heap.size W w') := H_ (fun W p m c k1 k2 => by rw [hu, ht1, ht2, ht3]; exact with_env env ns[k] t _ p m c W k1 k2)
            generalize bs ts[k] = st at *
            generalize bs ns[k] = sn at *
            clear hx hy h3 h4 hdT hsT hu ht1 ht2 ht3 hq
            go_wp2_with (first | (go_at_call 56; go_must (refine (C.out _).mono ?_; rintro e w1 ⟨⟨p, m, c, rfl, hv⟩, hb1⟩; have V1 := H_ ((hv.below (Z4 w1 (.cells #[.string u, .slice p m c, .int .i64 t1, .int .i64 t2, .int .i64 t3] 56)) (fun k hk => hk.2)).wide (ok' := fun j => j < (w1.alloc (.cells #[.string u, .slice p m c, .int .i64 t1, .int .i64 t2, .int .i64 t3] 56)).heap.size) (fun j hj => by simp; omega)); have B1 := H_ (Xm (Xm (K5 hb) hb1) (Z4 w1 (.cells #[.string u, .slice p m c, .int .i64 t1, .int .i64 t2, .int .i64 t3] 56))); have E1 := H_ ((hfr.out.below hb1).below (Z4 w1 (.cells #[.string u, .slice p m c, .int .i64 t1, .int .i64 t2, .int .i64 t3] 56))); clear hv hb1)) | (go_at_call 79; go_must (refine (CN.out _).mono ?_; rintro e w2 ⟨rfl, rfl⟩)) | (go_at_call 87; go_must (refine (CW.out _ _ _ _ E1.out V1.out).mono ?_; rintro e w3 ⟨⟨q', rfl, hq'⟩, hb3⟩)))
            go_roundw
            case rel => exact ⟨k + 1, _, q', by omega, by go_num, rfl, H_ hq', HF, (Xm B1.out hb3).1⟩
            case measure => simp [intOf]; omega
      · have hkL : k = ns.length := by omega
        have hA' := hA.out
        rw [List.take_of_length_le (by omega), List.take_of_length_le (by rw [← HL.out]; omega)] at hA'
        have HF := H_ (show R = some env by rw [HR.out, HO.out, hA'])
        clear hA hA'
        subst hkL
        go_wp2_with fail
        go_ret2
        exact ⟨by rw [HF.out]; exact ⟨q, rfl, hfr.out⟩, hb⟩
   · have hl2 : ¬ (ns.length : Int) = (ts.length : Int) := by omega
     have hl3 : ((ns.length : Int) == (ts.length : Int)) = false := by simp; omega
     have HF := H_ (show R = none by rw [HR.out, Qf, if_neg (fun h => hl h.2)])
     clear h82 hl
     go_enter func45, ntmps45
     go_wp2_with fail
     go_ret2
     exact ⟨by rw [HF.out]; rfl, Below.refl _ _⟩
 · have h83 : (8 : Int) < (ns.length : Int) := by omega
   have h82 : decide ((8 : Int) < (ns.length : Int)) = true := decide_eq_true h83
   have HF := H_ (show R = none by rw [HR.out, Qf, if_neg (fun h => h8 h.1)])
   clear h8
   go_enter func45, ntmps45
   go_wp2_with fail
   go_ret2
   exact ⟨by rw [HF.out]; rfl, Below.refl _ _⟩
end Go.Proofs.YtfknoigbkleanaaGreatDoor
