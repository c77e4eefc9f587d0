/- The program: both types of a type with a head. -/
import Derived.Test.YtpaaglamcmfdjaaImpl1j
import Derived.Test.YtpaaglamcmfdjaaPureT
import Derived.Deep.RegionHeld3
import Derived.BigRegion
import Derived.Deep.DrawnRows
import Derived.Deep.DeepCutAuto
namespace Go.Proofs.Ytpaaglamcmfdjaa
open Go.RowKit
set_option maxRecDepth 8000
set_option linter.unusedSimpArgs false
set_option linter.unusedVariables false
theorem KA {wx : World} {S : World → Prop} (K : ∀ W, Below wx.heap.size wx W → S W) {W : World} {o : Obj} (h : Below wx.heap.size wx W) : S (W.alloc o) := K _ (h.alloc h.size o)
theorem KS5 {wx : World} {S : World → Prop} (K : ∀ W, Below wx.heap.size wx W → S W) {W : World} {b : Nat} {v0 v1 v2 v3 v4 : Value} (h : Below wx.heap.size wx W) (hb : wx.heap.size ≤ b) : S (((((W.setCell ⟨b, 0, none⟩ v0).setCell ⟨b, 1, none⟩ v1).setCell ⟨b, 2, none⟩ v2).setCell ⟨b, 3, none⟩ v3).setCell ⟨b, 4, none⟩ v4) := K _ (set5 h hb _ _ _ _ _)
theorem one_more (w : World) (a : Obj) : w.heap.size < (w.alloc a).heap.size := by simp only [alloc_size]; omega
theorem two_more (w : World) (a b : Obj) : w.heap.size < ((w.alloc a).alloc b).heap.size := by simp only [alloc_size]; omega
theorem one_two (w : World) (a b : Obj) : w.heap.size + 1 < ((w.alloc a).alloc b).heap.size := by simp only [alloc_size]; omega
theorem row_of {w : World} {b : Nat} {cs : Array Value} {t : TypeId} (h : w.heap[b]? = some (.cells cs t (0, 0))) : hasRow w b 0 cs.toList := by
  intro j v hj
  rw [cell_of h]; simpa using hj
theorem lt_of_row {w : World} {r : Nat} {x : Value} {xs : List Value} (h : hasRow w r 0 (x :: xs)) : r < w.heap.size := World.block_lt_of_cell? w ⟨r, 0 + 0, none⟩ (h 0 x rfl)
theorem set5_other {w' : World} {b q : Nat} (h : q ≠ b) (v0 v1 v2 v3 v4 : Value) : (((((w'.setCell ⟨b, 0, none⟩ v0).setCell ⟨b, 1, none⟩ v1).setCell ⟨b, 2, none⟩ v2).setCell ⟨b, 3, none⟩ v3).setCell ⟨b, 4, none⟩ v4).heap[q]? = w'.heap[q]? := by
  rw [blk_set_other _ (by simpa using h), blk_set_other _ (by simpa using h), blk_set_other _ (by simpa using h), blk_set_other _ (by simpa using h), blk_set_other _ (by simpa using h)]
theorem set5_same {w : World} {b : Nat} {x0 x1 x2 x3 x4 : Value} {t : TypeId} (h : w.heap[b]? = some (.cells #[x0, x1, x2, x3, x4] t (0, 0))) (v0 v1 v2 v3 v4 : Value) : (((((w.setCell ⟨b, 0, none⟩ v0).setCell ⟨b, 1, none⟩ v1).setCell ⟨b, 2, none⟩ v2).setCell ⟨b, 3, none⟩ v3).setCell ⟨b, 4, none⟩ v4).heap[b]? = some (.cells #[v0, v1, v2, v3, v4] t (0, 0)) := by
  have h0 := blk_set (j := 0) h v0
  have h1 := blk_set (j := 1) h0 v1
  have h2 := blk_set (j := 2) h1 v2
  have h3 := blk_set (j := 3) h2 v3
  have h4 := blk_set (j := 4) h3 v4
  simpa using h4
theorem made_row {W : World} {r lim : Nat} {h a b : Tr} {x y z : List Value} (hh : FV nI W (fun k => k < lim) h x) (ha : FV nI W (fun k => k < lim) a y) (hb : FV nI W (fun k => k < lim) b z) : FVs nI W (fun k => k < lim) [h, a, b] (x ++ (y ++ (z ++ []))) := by
  simp only [FVs]
  exact ⟨_, _, rfl, hh, _, _, rfl, ha, _, _, rfl, hb, rfl⟩
theorem made_whole {W : World} {r lim : Nat} {h a b : Tr} {xs : List Value} (hv : FVs nI W (fun k => k < lim) [h, a, b] xs) (hr : hasRow W r 0 xs) (hrl : r < W.heap.size) (hl : lim ≤ W.heap.size) :
    FV nI W (fun k => k < W.heap.size) (.list [h, a, b]) (nI (.list [h, a, b]) (.slice (some ⟨r, 0, none⟩) 3 3)) := by
  simp only [FV]
  exact ⟨r, 0, 3, xs, rfl, hrl, by simp, by decide, hr, FVs.move (fun k hk => by omega) (fun k hk => rfl) _ _ hv⟩
set_option maxHeartbeats 400000 in
theorem isTypeWith_atom (s : ByteArray) (p : Option Addr) (c : Nat) (x y z : Int) (hd : ByteArray) (w : World) :
    Calls Try.prog 46 #[.agg #[.string s, .slice p 0 c, .int .i64 x, .int .i64 y, .int .i64 z], .string hd] w fun e w' => e = .returned (.bool false) ∧ Below w.heap.size w w' := by
  go_enter Try.func46, Try.ntmps46
  go_wp2_with fail
  go_ret
  exact ⟨rfl, below1 _ _⟩
theorem readType_none {s : ByteArray} (hs : s.size ≤ 1048576) (hr : readTy s.data.toList = none) (W : World) : Calls Try.prog 18 #[.string s] W fun e w' => e = .returned (.tuple #[.agg #[.string ⟨#[]⟩, .slice none 0 0, .int .i64 0, .int .i64 0, .int .i64 0], .bool false]) ∧ Below W.heap.size W w' :=
  (readType_c s hs W).mono fun e w' ⟨h1, h2⟩ => ⟨by rw [hr] at h1; exact h1, h2⟩
theorem readType_some {s : ByteArray} (hs : s.size ≤ 1048576) {t : Tr} (hr : readTy s.data.toList = some t) (W : World) : Calls Try.prog 18 #[.string s] W fun e w' => (∃ p n c, e = .returned (.tuple #[.agg #[.string (bs (atomOf t)), .slice p n c, .int .i64 t.bytes, .int .i64 t.size, .int .i64 t.depth], .bool true]) ∧ FV nI w' (fun k => W.heap.size ≤ k ∧ k < w'.heap.size) t (nI t (.slice p n c))) ∧ Below W.heap.size W w' :=
  (readType_c s hs W).mono fun e w' ⟨h1, h2⟩ => ⟨by rw [hr] at h1; exact h1, h2⟩
/-- What 'sides' hands back. -/
def SdPost (B : Nat) (r : Option (Tr × Tr)) (e : Ending) (w' : World) : Prop :=
  match r with
  | none => e = .returned (.tuple #[.agg #[.string ⟨#[]⟩, .slice none 0 0, .int .i64 0, .int .i64 0, .int .i64 0], .agg #[.string ⟨#[]⟩, .slice none 0 0, .int .i64 0, .int .i64 0, .int .i64 0], .bool false])
  | some (a, b) => ∃ p1 n1 c1 p2 n2 c2, e = .returned (.tuple #[.agg #[.string (bs (atomOf a)), .slice p1 n1 c1, .int .i64 a.bytes, .int .i64 a.size, .int .i64 a.depth], .agg #[.string (bs (atomOf b)), .slice p2 n2 c2, .int .i64 b.bytes, .int .i64 b.size, .int .i64 b.depth], .bool true]) ∧ FV nI w' (fun k => k < B) a (nI a (.slice p1 n1 c1)) ∧ FV nI w' (fun k => k < B) b (nI b (.slice p2 n2 c2))
theorem set10_below {B : Nat} {w w' : World} {b b2 : Nat} (h : Below B w w') (hb : B ≤ b) (hb2 : B ≤ b2) (v0 v1 v2 v3 v4 u0 u1 u2 u3 u4 : Value) : Below B w ((((((((((w'.setCell ⟨b, 0, none⟩ v0).setCell ⟨b, 1, none⟩ v1).setCell ⟨b, 2, none⟩ v2).setCell ⟨b, 3, none⟩ v3).setCell ⟨b, 4, none⟩ v4).setCell ⟨b2, 0, none⟩ u0).setCell ⟨b2, 1, none⟩ u1).setCell ⟨b2, 2, none⟩ u2).setCell ⟨b2, 3, none⟩ u3).setCell ⟨b2, 4, none⟩ u4) :=
  set5 (set5 h hb _ _ _ _ _) hb2 _ _ _ _ _
theorem three_blk (w : World) (a b c : Obj) : (((w.alloc a).alloc b).alloc c).heap[w.heap.size]? = some a ∧ (((w.alloc a).alloc b).alloc c).heap[w.heap.size + 1]? = some b ∧ (((w.alloc a).alloc b).alloc c).heap[w.heap.size + 2]? = some c := by
  refine ⟨blk_alloc (blk_alloc (heap_alloc_new _ _)), blk_alloc (heap_alloc_new2 _ _ _), ?_⟩
  have := heap_alloc_new ((w.alloc a).alloc b) c
  rwa [show ((w.alloc a).alloc b).heap.size = w.heap.size + 2 by simp] at this
theorem sidesOf_no {c : UInt8} {l : List UInt8} {t : Tr} (h : readTy l = some t) (hs : sidesTr c t = none) (hty : isTy t = true) : sidesOf [c] l = none := by
  match t, hty with
  | .atom a, _ => exact sides_atom _ h
  | .list ts, hty =>
    obtain ⟨x, a, b, rfl, -⟩ := isTy_list hty
    by_cases hx : atomOf x = [c]
    · rw [sidesTr_yes hx] at hs; cases hs
    · exact sides_no _ h hx
theorem sidesOf_yes {c : UInt8} {l : List UInt8} {t a b : Tr} (h : readTy l = some t) (hs : sidesTr c t = some (a, b)) (hty : isTy t = true) : sidesOf [c] l = some (a.text, b.text) ∧ ∃ x, t = .list [x, a, b] := by
  match t, hty with
  | .atom a, _ => cases hs
  | .list ts, hty =>
    obtain ⟨x, a', b', rfl, -⟩ := isTy_list hty
    by_cases hx : atomOf x = [c]
    · rw [sidesTr_yes hx] at hs
      simp only [Option.some.injEq, Prod.mk.injEq] at hs
      obtain ⟨rfl, rfl⟩ := hs
      exact ⟨sides_yes _ h hx, x, rfl⟩
    · rw [sidesTr_no hx] at hs; cases hs
end Go.Proofs.Ytpaaglamcmfdjaa
