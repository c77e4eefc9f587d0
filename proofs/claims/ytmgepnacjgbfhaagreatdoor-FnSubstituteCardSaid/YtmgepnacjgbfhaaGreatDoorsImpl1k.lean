/- The program: both types of a type with a head. -/
import Derived.Test.YtmgepnacjgbfhaaGreatDoorsImpl1jM
import Derived.Test.YtmgepnacjgbfhaaGreatDoorsPureT
import Derived.Deep.RegionHeld3
import Derived.BigRegion
import Derived.Deep.DrawnRows
import Derived.Deep.DeepCutAuto
namespace Go.Proofs.YtmgepnacjgbfhaaGreatDoor
open Go.RowKit Go.Proofs.Tryz
set_option maxRecDepth 8000
set_option maxHeartbeats 20000000
set_option linter.unusedVariables false
set_option linter.unusedSimpArgs false
theorem KA {wx : World} {S : World → Prop} (K : ∀ W, Below wx.heap.size wx W → S W) {W : World} {o : Obj} (h : Below wx.heap.size wx W) : S (W.alloc o) := K _ (h.alloc h.size o)
theorem KS5 {wx : World} {S : World → Prop} (K : ∀ W, Below wx.heap.size wx W → S W) {W : World} {b : Nat} {v0 v1 v2 v3 v4 : Value} (h : Below wx.heap.size wx W) (hb : wx.heap.size ≤ b) : S (((((W.setCell ⟨b, 0, none⟩ v0).setCell ⟨b, 1, none⟩ v1).setCell ⟨b, 2, none⟩ v2).setCell ⟨b, 3, none⟩ v3).setCell ⟨b, 4, none⟩ v4) := K _ (Ym h hb _ _ _ _ _)
theorem Xy (w : World) (a : Obj) : w.heap.size < (w.alloc a).heap.size := by simp only [Yy]; omega
theorem two_more (w : World) (a b : Obj) : w.heap.size < ((w.alloc a).alloc b).heap.size := by simp only [Yy]; omega
theorem one_two (w : World) (a b : Obj) : w.heap.size + 1 < ((w.alloc a).alloc b).heap.size := by simp only [Yy]; omega
theorem Z3b {w : World} {b : Nat} {cs : Array Value} {t : TypeId} (h : w.heap[b]? = some (.cells cs t (0, 0))) : Yc w b 0 cs.toList := by
 intro j v hj
 rw [Z2 h]; simpa using hj
theorem Z4p {w : World} {r : Nat} {x : Value} {xs : List Value} (h : Yc w r 0 (x :: xs)) : r < w.heap.size := World.block_lt_of_cell? w ⟨r, 0 + 0, none⟩ (h 0 x rfl)
theorem Y2 {w' : World} {b q : Nat} (h : q ≠ b) (v0 v1 v2 v3 v4 : Value) : (((((w'.setCell ⟨b, 0, none⟩ v0).setCell ⟨b, 1, none⟩ v1).setCell ⟨b, 2, none⟩ v2).setCell ⟨b, 3, none⟩ v3).setCell ⟨b, 4, none⟩ v4).heap[q]? = w'.heap[q]? := by
 rw [Za _ (by simpa using h), Za _ (by simpa using h), Za _ (by simpa using h), Za _ (by simpa using h), Za _ (by simpa using h)]
theorem Zg {w : World} {b : Nat} {x0 x1 x2 x3 x4 : Value} {t : TypeId} (h : w.heap[b]? = some (.cells #[x0, x1, x2, x3, x4] t (0, 0))) (v0 v1 v2 v3 v4 : Value) : (((((w.setCell ⟨b, 0, none⟩ v0).setCell ⟨b, 1, none⟩ v1).setCell ⟨b, 2, none⟩ v2).setCell ⟨b, 3, none⟩ v3).setCell ⟨b, 4, none⟩ v4).heap[b]? = some (.cells #[v0, v1, v2, v3, v4] t (0, 0)) := by
 have h0 := Qv (j := 0) h v0
 have h1 := Qv (j := 1) h0 v1
 have h2 := Qv (j := 2) h1 v2
 have h3 := Qv (j := 3) h2 v3
 have h4 := Qv (j := 4) h3 v4
 simpa using h4
theorem made_row {W : World} {r lim : Nat} {h a b : Tr} {x y z : List Value} (hh : FV nI W (fun k => k < lim) h x) (ha : FV nI W (fun k => k < lim) a y) (hb : FV nI W (fun k => k < lim) b z) : FVs nI W (fun k => k < lim) [h, a, b] (x ++ (y ++ (z ++ []))) := by
 simp only [FVs]
 exact ⟨_, _, rfl, hh, _, _, rfl, ha, _, _, rfl, hb, rfl⟩
theorem Z1d (s : ByteArray) (p : Option Addr) (c : Nat) (x y z : Int) (hd : ByteArray) (w : World) :
 Calls prog 102 #[.agg #[.string s, .slice p 0 c, .int .i64 x, .int .i64 y, .int .i64 z], .string hd] w fun e w' => e = .returned (.bool false) ∧ Below w.heap.size w w' := by
 go_enter func102, ntmps102
 go_wp2_with fail
 go_ret
 exact ⟨rfl, Z4 _ _⟩
theorem Z2t {s : ByteArray} (hs : s.size ≤ 1048576) (hr : Y3 s.data.toList = none) (W : World) : Calls prog 27 #[.string s] W fun e w' => e = .returned (.tuple #[.agg #[.string ⟨#[]⟩, .slice none 0 0, .int .i64 0, .int .i64 0, .int .i64 0], .bool false]) ∧ Below W.heap.size W w' :=
 (Z6j s hs W).mono fun e w' ⟨h1, h2⟩ => ⟨by rw [hr] at h1; exact h1, h2⟩
theorem Z2s {s : ByteArray} (hs : s.size ≤ 1048576) {t : Tr} (hr : Y3 s.data.toList = some t) (W : World) : Calls prog 27 #[.string s] W fun e w' => (∃ p n c, e = .returned (.tuple #[.agg #[.string (bs (Z0 t)), .slice p n c, .int .i64 t.bytes, .int .i64 t.size, .int .i64 t.depth], .bool true]) ∧ FV nI w' (fun k => W.heap.size ≤ k ∧ k < w'.heap.size) t (nI t (.slice p n c))) ∧ Below W.heap.size W w' :=
 (Z6j s hs W).mono fun e w' ⟨h1, h2⟩ => ⟨by rw [hr] at h1; exact h1, h2⟩
def SdPost (B : Nat) (r : Option (Tr × Tr)) (e : Ending) (w' : World) : Prop :=
 match r with
 | none => e = .returned (.tuple #[.agg #[.string ⟨#[]⟩, .slice none 0 0, .int .i64 0, .int .i64 0, .int .i64 0], .agg #[.string ⟨#[]⟩, .slice none 0 0, .int .i64 0, .int .i64 0, .int .i64 0], .bool false])
 | some (a, b) => ∃ p1 n1 c1 p2 n2 c2, e = .returned (.tuple #[.agg #[.string (bs (Z0 a)), .slice p1 n1 c1, .int .i64 a.bytes, .int .i64 a.size, .int .i64 a.depth], .agg #[.string (bs (Z0 b)), .slice p2 n2 c2, .int .i64 b.bytes, .int .i64 b.size, .int .i64 b.depth], .bool true]) ∧ FV nI w' (fun k => k < B) a (nI a (.slice p1 n1 c1)) ∧ FV nI w' (fun k => k < B) b (nI b (.slice p2 n2 c2))
theorem Z55 {B : Nat} {w w' : World} {b b2 : Nat} (h : Below B w w') (hb : B ≤ b) (hb2 : B ≤ b2) (v0 v1 v2 v3 v4 u0 u1 u2 u3 u4 : Value) : Below B w ((((((((((w'.setCell ⟨b, 0, none⟩ v0).setCell ⟨b, 1, none⟩ v1).setCell ⟨b, 2, none⟩ v2).setCell ⟨b, 3, none⟩ v3).setCell ⟨b, 4, none⟩ v4).setCell ⟨b2, 0, none⟩ u0).setCell ⟨b2, 1, none⟩ u1).setCell ⟨b2, 2, none⟩ u2).setCell ⟨b2, 3, none⟩ u3).setCell ⟨b2, 4, none⟩ u4) :=
 Ym (Ym h hb _ _ _ _ _) hb2 _ _ _ _ _
theorem Z4e (w : World) (a b c : Obj) : (((w.alloc a).alloc b).alloc c).heap[w.heap.size]? = some a ∧ (((w.alloc a).alloc b).alloc c).heap[w.heap.size + 1]? = some b ∧ (((w.alloc a).alloc b).alloc c).heap[w.heap.size + 2]? = some c := by
 refine ⟨Z5 (Z5 (heap_alloc_new _ _)), Z5 (Z9 _ _ _), ?_⟩
 have := heap_alloc_new ((w.alloc a).alloc b) c
 rwa [show ((w.alloc a).alloc b).heap.size = w.heap.size + 2 by simp] at this
theorem Z0v (c : UInt8) (cs : Array Value) (u : ByteArray) (v1 v2 v3 v4 : Value) (hcs : cs = #[.string u, v1, v2, v3, v4]) (w : World)
 (HI : ∀ W, Below w.heap.size w W → Calls prog 102 #[.agg #[.string u, v1, v2, v3, v4], .string (bs [c])] W fun e w' => e = .returned (.bool false) ∧ Below W.heap.size W w') :
 Calls prog 63 #[.agg cs, .string (bs [c])] w fun e w' => e = .returned (.tuple #[.agg #[.string ⟨#[]⟩, .slice none 0 0, .int .i64 0, .int .i64 0, .int .i64 0], .agg #[.string ⟨#[]⟩, .slice none 0 0, .int .i64 0, .int .i64 0, .int .i64 0], .bool false]) ∧ Below w.heap.size w w' := by
 subst hcs
 have HI := H_ HI
 go_enter func63, ntmps63
 go_wp2_with (go_at_call 102; go_must (refine (HI.out _ (Q6 w _ _ _)).mono ?_; rintro e w1 ⟨rfl, hb1⟩; obtain ⟨q0, q1, q2⟩ := Z4e w (.cells #[.string u, v1, v2, v3, v4] 49) (.cells #[.string ⟨#[]⟩, .slice none 0 0, .int .i64 0, .int .i64 0, .int .i64 0] 49) (.cells #[.string ⟨#[]⟩, .slice none 0 0, .int .i64 0, .int .i64 0, .int .i64 0] 49); have y1 := Z1 hb1 (lt_of_block q1) q1; have y2 := Z1 hb1 (lt_of_block q2) q2; obtain ⟨z10, z11, z12, z13, z14⟩ := Zb y1; obtain ⟨f10, f11, f12, f13, f14⟩ := Zf y1; obtain ⟨z20, z21, z22, z23, z24⟩ := Zb y2; obtain ⟨f20, f21, f22, f23, f24⟩ := Zf y2; clear q0 q1 q2))
 have hd : w.heap.size + 2 ≠ w.heap.size + 1 := by omega
 have E1 : ∀ v0 v1 v2 v3 v4, (((((w1.setCell ⟨w.heap.size + 1, 0, none⟩ v0).setCell ⟨w.heap.size + 1, 1, none⟩ v1).setCell ⟨w.heap.size + 1, 2, none⟩ v2).setCell ⟨w.heap.size + 1, 3, none⟩ v3).setCell ⟨w.heap.size + 1, 4, none⟩ v4).heap[w.heap.size + 2]? = _ := fun v0 v1 v2 v3 v4 => (Y2 hd v0 v1 v2 v3 v4).trans y2
 have y1' := (Y2 hd.symm (.string ⟨#[]⟩) (.slice none 0 0) (.int .i64 0) (.int .i64 0) (.int .i64 0)).trans (Zg y1 (.string ⟨#[]⟩) (.slice none 0 0) (.int .i64 0) (.int .i64 0) (.int .i64 0))
 have y2' := Zg (E1 (.string ⟨#[]⟩) (.slice none 0 0) (.int .i64 0) (.int .i64 0) (.int .i64 0)) (.string ⟨#[]⟩) (.slice none 0 0) (.int .i64 0) (.int .i64 0) (.int .i64 0)
 obtain ⟨r10, r11, r12, r13, r14⟩ := Zb y1'
 obtain ⟨r20, r21, r22, r23, r24⟩ := Zb y2'
 refine bodyPost_ret (v := .tuple #[.agg #[.string ⟨#[]⟩, .slice none 0 0, .int .i64 0, .int .i64 0, .int .i64 0], .agg #[.string ⟨#[]⟩, .slice none 0 0, .int .i64 0, .int .i64 0, .int .i64 0], .bool false]) (by simp [results, results63, go_sem, r10, r11, r12, r13, r14, r20, r21, r22, r23, r24]) rfl ⟨rfl, ?_⟩
 exact Z55 ((Q6 w _ _ _).trans (hb1.mono (by simp; omega))) (by omega) (by omega) _ _ _ _ _ _ _ _ _ _
theorem Z54 (c : UInt8) (u ua ub : ByteArray) (v2 v3 v4 : Value) (r off cap : Nat) (p1 p2 : Option Addr) (n1 c1 n2 c2 : Nat) (a1 a2 a3 b1 b2 b3 : Int) (w : World) (hr : r < w.heap.size) (hc3 : 3 ≤ cap) (hcap : cap ≤ maxLen)
 (HI : ∀ W, Below w.heap.size w W → Calls prog 102 #[.agg #[.string u, .slice (some ⟨r, off, none⟩) 3 cap, v2, v3, v4], .string (bs [c])] W fun e w' => e = .returned (.bool true) ∧ Below W.heap.size W w')
 (e0 : w.cell? ⟨r, off + 5, none⟩ = some (.string ua)) (e1 : w.cell? ⟨r, off + 5 + 1, none⟩ = some (.slice p1 n1 c1)) (e2 : w.cell? ⟨r, off + 5 + 2, none⟩ = some (.int .i64 a1)) (e3 : w.cell? ⟨r, off + 5 + 3, none⟩ = some (.int .i64 a2)) (e4 : w.cell? ⟨r, off + 5 + 4, none⟩ = some (.int .i64 a3))
 (k0 : w.cell? ⟨r, off + 10, none⟩ = some (.string ub)) (k1 : w.cell? ⟨r, off + 10 + 1, none⟩ = some (.slice p2 n2 c2)) (k2 : w.cell? ⟨r, off + 10 + 2, none⟩ = some (.int .i64 b1)) (k3 : w.cell? ⟨r, off + 10 + 3, none⟩ = some (.int .i64 b2)) (k4 : w.cell? ⟨r, off + 10 + 4, none⟩ = some (.int .i64 b3)) :
 Calls prog 63 #[.agg #[.string u, .slice (some ⟨r, off, none⟩) 3 cap, v2, v3, v4], .string (bs [c])] w fun e w' => e = .returned (.tuple #[.agg #[.string ua, .slice p1 n1 c1, .int .i64 a1, .int .i64 a2, .int .i64 a3], .agg #[.string ub, .slice p2 n2 c2, .int .i64 b1, .int .i64 b2, .int .i64 b3], .bool true]) ∧ Below w.heap.size w w' := by
 have HI := H_ HI
 have hm := Zx hcap
 have HR : Hid (∀ W, Below w.heap.size w W → ∀ j v, w.cell? ⟨r, j, none⟩ = some v → W.cell? ⟨r, j, none⟩ = some v) := H_ (fun W hW j v h => (hW.cell (p := ⟨r, j, none⟩) hr).trans h)
 have E0 := H_ e0
 have E1 := H_ e1
 have E2 := H_ e2
 have E3 := H_ e3
 have E4 := H_ e4
 have K0 := H_ k0
 have K1 := H_ k1
 have K2 := H_ k2
 have K3 := H_ k3
 have K4 := H_ k4
 clear e0 e1 e2 e3 e4 k0 k1 k2 k3 k4
 go_enter func63, ntmps63
 go_wp2_with (go_at_call 102; go_must (refine (HI.out _ (Q6 w _ _ _)).mono ?_; rintro e w1 ⟨rfl, hb1⟩))
 obtain ⟨q0, q1, q2⟩ := Z4e w (.cells #[.string u, .slice (some ⟨r, off, none⟩) 3 cap, v2, v3, v4] 49) (.cells #[.string ⟨#[]⟩, .slice none 0 0, .int .i64 0, .int .i64 0, .int .i64 0] 49) (.cells #[.string ⟨#[]⟩, .slice none 0 0, .int .i64 0, .int .i64 0, .int .i64 0] 49)
 have y0 := Z1 hb1 (lt_of_block q0) q0
 have y1 := Z1 hb1 (lt_of_block q1) q1
 have y2 : w1.heap[w.heap.size + 1 + 1]? = _ := Z1 hb1 (lt_of_block q2) q2
 clear q0 q1 q2
 have hbw := H_ ((Q6 w (.cells #[.string u, .slice (some ⟨r, off, none⟩) 3 cap, v2, v3, v4] 49) (.cells #[.string ⟨#[]⟩, .slice none 0 0, .int .i64 0, .int .i64 0, .int .i64 0] 49) (.cells #[.string ⟨#[]⟩, .slice none 0 0, .int .i64 0, .int .i64 0, .int .i64 0] 49)).trans (hb1.mono (by simp; omega)))
 have e0 := HR.out w1 hbw.out _ _ E0.out
 have e1 := HR.out w1 hbw.out _ _ E1.out
 have e2 := HR.out w1 hbw.out _ _ E2.out
 have e3 := HR.out w1 hbw.out _ _ E3.out
 have e4 := HR.out w1 hbw.out _ _ E4.out
 have k0 := HR.out w1 hbw.out _ _ K0.out
 have k1 := HR.out w1 hbw.out _ _ K1.out
 have k2 := HR.out w1 hbw.out _ _ K2.out
 have k3 := HR.out w1 hbw.out _ _ K3.out
 have k4 := HR.out w1 hbw.out _ _ K4.out
 have t1 := Z2 (j := 1) y0
 obtain ⟨f10, f11, f12, f13, f14⟩ := Zf y1
 obtain ⟨z10, z11, z12, z13, z14⟩ := Zb y1
 obtain ⟨f20, f21, f22, f23, f24⟩ := Zf y2
 obtain ⟨z20, z21, z22, z23, z24⟩ := Zb y2
 have hB1 : w.heap.size ≤ w.heap.size + 1 := by omega
 have hB2 : w.heap.size ≤ w.heap.size + 1 + 1 := by omega
 have hrb : r ≠ w.heap.size + 1 := by omega
 have hrb2 : r ≠ w.heap.size + 1 + 1 := by omega
 have h12 : w.heap.size + 1 ≠ w.heap.size + 1 + 1 := by omega
 have hrb3 := hrb.symm
 have hrb4 := hrb2.symm
 have O1a := (Y2 h12 (.string ub) (.slice p2 n2 c2) (.int .i64 b1) (.int .i64 b2) (.int .i64 b3)).trans (Zg y1 (.string ua) (.slice p1 n1 c1) (.int .i64 a1) (.int .i64 a2) (.int .i64 a3))
 have O1b := Zg ((Y2 h12.symm (.string ua) (.slice p1 n1 c1) (.int .i64 a1) (.int .i64 a2) (.int .i64 a3)).trans y2) (.string ub) (.slice p2 n2 c2) (.int .i64 b1) (.int .i64 b2) (.int .i64 b3)
 have O2a := Zg ((Y2 h12 (.string ub) (.slice p2 n2 c2) (.int .i64 b1) (.int .i64 b2) (.int .i64 b3)).trans y1) (.string ua) (.slice p1 n1 c1) (.int .i64 a1) (.int .i64 a2) (.int .i64 a3)
 have O2b := (Y2 h12.symm (.string ua) (.slice p1 n1 c1) (.int .i64 a1) (.int .i64 a2) (.int .i64 a3)).trans (Zg y2 (.string ub) (.slice p2 n2 c2) (.int .i64 b1) (.int .i64 b2) (.int .i64 b3))
 clear hb1
 go_region
 all_goals
  go_wp2_with fail
  obtain ⟨r10, r11, r12, r13, r14⟩ := Zb O1a
  obtain ⟨r20, r21, r22, r23, r24⟩ := Zb O1b
  refine bodyPost_ret (v := .tuple #[.agg #[.string ua, .slice p1 n1 c1, .int .i64 a1, .int .i64 a2, .int .i64 a3], .agg #[.string ub, .slice p2 n2 c2, .int .i64 b1, .int .i64 b2, .int .i64 b3], .bool true]) (by simp [results, results63, go_sem, r10, r11, r12, r13, r14, r20, r21, r22, r23, r24]) rfl ⟨rfl, ?_⟩
  exact (Z55 hbw.out hB1 hB2 _ _ _ _ _ _ _ _ _ _).drew
theorem sides_c (c : UInt8) (t : Tr) (p : Option Addr) (n k : Nat) (w : World) (hty : X5 t = true) (hwf : t.wf) (hv : FV nI w (fun q => q < w.heap.size) t (nI t (.slice p n k))) :
 Calls prog 63 #[.agg #[.string (bs (Z0 t)), .slice p n k, .int .i64 t.bytes, .int .i64 t.size, .int .i64 t.depth], .string (bs [c])] w fun e w' => SdPost w.heap.size (Zy c t) e w' ∧ Below w.heap.size w w' := by
 match t, hty, hwf, hv with
 | .atom a, _, _, hv =>
   simp only [FV] at hv
   have hh := Ji _ _ _ hv
   simp only [Value.slice.injEq] at hh
   obtain ⟨rfl, rfl, rfl⟩ := hh
   rw [Z3r]
   exact Z0v c _ _ _ _ _ _ rfl w (fun W hW => Z1d _ _ _ _ _ _ _ _)
 | .list ts, hty, hwf, hv =>
   obtain ⟨x, a, b, rfl, hx, hta, htb⟩ := Q3 hty
   have HI : ∀ (W : World), Below w.heap.size w W → Calls prog 102 #[.agg #[.string (bs []), .slice p n k, .int .i64 (Tr.list [x, a, b]).bytes, .int .i64 (Tr.list [x, a, b]).size, .int .i64 (Tr.list [x, a, b]).depth], .string (bs [c])] W fun e w' => e = .returned (.bool (Z1w [c] (.list [x, a, b]))) ∧ Below W.heap.size W w' :=
    fun W hW => Z13 (Tr.list [x, a, b]).depth (Z12 _) [c] _ p n k _ W (by omega) hwf (hv.below hW (fun _ h => h)) (fun j hj => Nat.lt_of_lt_of_le hj hW.size)
   have hTW := V8 [c] x a b
   rw [hta, htb] at hTW
   by_cases hxh : Z0 x = [c]
   · rw [Q9 hxh]
     rw [hTW, show (Z0 x == [c] && true && true) = true by simp [hxh]] at HI
     obtain ⟨r, off, cap, xs, hh, h2, h3, h4, h5, h6⟩ := FV.list_cells hv
     have hh' := Ji _ _ _ hh
     simp only [Value.slice.injEq] at hh'
     obtain ⟨rfl, rfl, rfl⟩ := hh'
     obtain ⟨-, ⟨p1, n1, q1, v1, r1⟩, ⟨p2, n2, q2, v2, r2⟩⟩ := FVs.three Xz h6 h5
     exact (Z54 c _ _ _ _ _ _ r off _ p1 p2 n1 q1 n2 q2 _ _ _ _ _ _ w h2 h3 h4 HI (r1 0 _ rfl) (r1 1 _ rfl) (r1 2 _ rfl) (r1 3 _ rfl) (r1 4 _ rfl) (r2 0 _ rfl) (r2 1 _ rfl) (r2 2 _ rfl) (r2 3 _ rfl) (r2 4 _ rfl)).mono fun e w' ⟨k1, k2⟩ => ⟨⟨p1, n1, q1, p2, n2, q2, k1, v1.below k2 (fun _ h => h), v2.below k2 (fun _ h => h)⟩, k2⟩
   · rw [Z0w hxh]
     rw [hTW, show (Z0 x == [c] && true && true) = false by simp [hxh]] at HI
     exact Z0v c _ _ _ _ _ _ rfl w HI
theorem sidesOf_no {c : UInt8} {l : List UInt8} {t : Tr} (h : Y3 l = some t) (hs : Zy c t = none) (hty : X5 t = true) : X2 [c] l = none := by
 match t, hty with
 | .atom a, _ => exact Z6g _ h
 | .list ts, hty =>
   obtain ⟨x, a, b, rfl, -⟩ := Q3 hty
   by_cases hx : Z0 x = [c]
   · rw [Q9 hx] at hs; cases hs
   · exact sides_no _ h hx
theorem sidesOf_yes {c : UInt8} {l : List UInt8} {t a b : Tr} (h : Y3 l = some t) (hs : Zy c t = some (a, b)) (hty : X5 t = true) : X2 [c] l = some (a.text, b.text) ∧ ∃ x, t = .list [x, a, b] := by
 match t, hty with
 | .atom a, _ => cases hs
 | .list ts, hty =>
   obtain ⟨x, a', b', rfl, -⟩ := Q3 hty
   by_cases hx : Z0 x = [c]
   · rw [Q9 hx] at hs
     simp only [Option.some.injEq, Prod.mk.injEq] at hs
     obtain ⟨rfl, rfl⟩ := hs
     exact ⟨sides_yes _ h hx, x, rfl⟩
   · rw [Z0w hx] at hs; cases hs
end Go.Proofs.YtmgepnacjgbfhaaGreatDoor
