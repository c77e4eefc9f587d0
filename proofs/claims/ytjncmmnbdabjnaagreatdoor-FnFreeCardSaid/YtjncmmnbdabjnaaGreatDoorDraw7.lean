/- The reference's draws: a function that counts down. Rows of texts of the call's own; lists with more texts behind. The reference's draws: expressions. -/
import Derived.Test.YtjncmmnbdabjnaaGreatDoorDraw3
import Derived.Test.YtjncmmnbdabjnaaGreatDoorImpl1jM
import Derived.OwnWalk
import Derived.Deep.RegionHeld3
import Derived.Deep.LoopGhost
namespace Go.Proofs.YtjncmmnbdabjnaaGreatDoor
open Go.RowKit
set_option maxRecDepth 8000
set_option linter.unusedSimpArgs false
set_option linter.unusedVariables false
theorem bsz (a : Array UInt8) : (ByteArray.mk a).size = a.size := rfl
def loopBodies : List (List UInt8) := [[40, 43, 32, 120, 56, 32, 40, 99, 97, 108, 108, 32, 102, 56, 32, 40, 45, 32, 120, 56, 32, 49, 41, 41, 41], [40, 99, 97, 108, 108, 32, 102, 56, 32, 40, 45, 32, 120, 56, 32, 49, 41, 41], [40, 42, 32, 120, 56, 32, 40, 99, 97, 108, 108, 32, 102, 56, 32, 40, 45, 32, 120, 56, 32, 49, 41, 41, 41], [40, 45, 32, 48, 32, 40, 99, 97, 108, 108, 32, 102, 56, 32, 40, 45, 32, 120, 56, 32, 49, 41, 41, 41]]
set_option maxHeartbeats 2000000 in
theorem l91Loop_d {q : Nat} {a : Option Addr} {L c p : Nat} {zs : List Int} {w : World} (h : Rd w q a L c p zs) (hp : p ≤ 900000) :
    Calls Tryz.prog 140 #[.pointer (some ⟨q, 0, none⟩)] w fun e w' => DrPost q a L c p zs 2000 3 w e w' := by
  have C1 := Lib.hid (of_new (l := loopBodies) (N := 30) h (by omega) (by decide) (by decide) (by decide))
  clear h
  go_enter Tryz.func140, Tryz.ntmps140
  go_wp2_with fail
  refine (C1.out).mono ?_
  rintro e w1 ⟨s1, p1, rfl, a1, a2, hR1, ho1⟩
  have C2 := Lib.hid (of_new (l := [[48], [49], [53]]) (N := 1) hR1 (by omega) (by decide) (by decide) (by decide))
  clear hR1
  go_wp2_with fail
  refine (C2.out).mono ?_
  rintro e w2 ⟨s2, p2, rfl, b1, b2, hR2, ho2⟩
  have C3 := Lib.hid (pick_d (n := 7) hR2 (by omega) (by omega))
  clear hR2
  go_wp2_with fail
  refine (C3.out).mono ?_
  rintro e w3 ⟨⟨k, rfl, hk0, hk1⟩, hR3, ho3⟩
  have C4 := Lib.hid (l6Dec_any k (by omega) (by omega))
  go_wp2_with fail
  refine (C4.out _).mono ?_
  rintro e w4 ⟨⟨s4, rfl, hs4⟩, hb4⟩
  have HR4 := Lib.hid (hR3.below hb4)
  have HO4 := Lib.hid (((ho1.trans ho2).trans ho3).next hb4)
  go_wp2_with fail
  go_ret
  exact ⟨_, _, rfl, by simp [bsz]; omega, by omega, HR4.out, HO4.out⟩
end Go.Proofs.YtjncmmnbdabjnaaGreatDoor
namespace Go.Proofs.YtjncmmnbdabjnaaGreatDoor
open Go.RowKit
set_option maxRecDepth 8000
set_option linter.unusedSimpArgs false
set_option linter.unusedVariables false
theorem Tryz.infoStrD : (Tryz.prog.info? 9).map (fun i => (i.zero, i.size, i.bytes)) = some (some (.string ⟨#[]⟩), 1, 16) := by kernel_rfl
theorem own_ltD {w : World} {base : Nat} {e : TypeId} {size : Nat} {v : Value} {n : Nat} {xs : List Value} (h : w.ownsRow base e size v n xs) {k : Nat} (hk : v.ownBlock = some k) : base ≤ k ∧ k < w.heap.size := h.lt k hk
theorem below_grown2D {w wr w2 w3 : World} {row : Option Nat} (h : Below w.heap.size w wr) (h2 : Below wr.heap.size wr w2) (hg : w2.grownBy w3 row) (hr : ∀ k, row = some k → w.heap.size ≤ k) : Below w.heap.size w w3 :=
  have h12 := h.trans (h2.mono h.size)
  ⟨hg.os.trans h12.os, hg.tape.trans h12.tape, hg.output.trans h12.output, Nat.le_trans h12.size hg.size, fun k hk => (hg.block k (Nat.lt_of_lt_of_le hk h12.size) (fun e => by have := hr k e.symm; omega)).trans (h12.block k hk)⟩
theorem owns_strS6D {w : World} {B : Nat} {v : Value} {l : List (List UInt8)} (h : w.ownsRow B 9 1 v l.length (l.map strV)) (hl : l.length ≤ 9223372036854775807) : StrS w v l := by
  rcases h.2 with ⟨rfl, h0⟩ | ⟨g, cap, cur, rfl, hb, hg, h1, h2, h3, h4⟩
  · exact ⟨none, 0, by rw [h0], hl, fun hne => absurd (List.eq_nil_of_length_eq_zero h0) hne⟩
  · exact ⟨_, cap, rfl, hl, fun _ => ⟨g, 0, rfl, owns_row h⟩⟩
theorem strS_keep2D {w w' : World} {v : Value} {l : List Nm} (h : StrS w v l) (hb : Below w.heap.size w w') : StrS w' v l := by
  obtain ⟨p, c, rfl, h1, h2⟩ := h
  refine ⟨p, c, rfl, h1, fun hne => ?_⟩
  obtain ⟨r, off, rfl, h3⟩ := h2 hne
  refine ⟨r, off, rfl, h3.move (hb.block r ?_)⟩
  cases l with
  | nil => exact absurd rfl hne
  | cons x l =>
    have hc := h3 0 (strV x) (by simp)
    by_cases hr : r < w.heap.size
    · exact hr
    · simp [World.cell?, Array.getElem?_eq_none (Nat.le_of_not_lt hr)] at hc
theorem owns_emptyD {W : World} {b base : Nat} (h : W.heap[b]? = some (.cells #[] 9 (0, 0))) (hb : base ≤ b) : W.ownsRow base 9 1 (.slice (some ⟨b, 0, none⟩) 0 0) ([] : List Nm).length (([] : List Nm).map strV) := ⟨rfl, .inr ⟨b, 0, _, rfl, hb, h, Nat.le_refl _, Nat.zero_le _, rfl, rfl⟩⟩
set_option maxHeartbeats 1000000 in
theorem l3With_d (v1 v2 : Value) (l m : List Nm) (w : World) (h1 : StrS w v1 l) (h2 : StrS w v2 m) (hb : l.length + m.length ≤ 1000000) :
    Calls Tryz.prog 71 #[v1, v2] w fun e w' => (∃ v, e = .returned v ∧ StrS w' v (l ++ m) ∧ ∀ k, v.ownBlock = some k → w.heap.size ≤ k ∧ k < w'.heap.size) ∧ Below w.heap.size w w' := by
  obtain ⟨i0, hi0, hz0, hz1, hz2⟩ := info_parts Tryz.infoStrD
  have H1 := Lib.hid h1
  have H2 := Lib.hid h2
  obtain ⟨p1, c1, rfl, -, -⟩ := h1
  obtain ⟨p2, c2, rfl, -, -⟩ := h2
  have HE : Hid ((w.alloc (.cells #[] 9)).ownsRow w.heap.size 9 1 (.slice (some ⟨w.heap.size, 0, none⟩) 0 0) ([] : List Nm).length (([] : List Nm).map strV)) := Lib.hid (owns_emptyD (heap_alloc_new w _) (Nat.le_refl _))
  go_enter Tryz.func71, Tryz.ntmps71
  go_wp2_with (first | (at_builtin; refine wpList_append_str _ rfl _ _ 23 rfl w.heap.size 9 i0 Tryz.underlying23 hi0 hz0 hz1 hz2 _ l rfl ho3 _ m rfl (strS_keep2D H2.out hB3) (by omega) hs3 ?_; intro v4 w4 ho4 hg4 hv4) | (at_builtin; go_must (refine wpList_append_str _ rfl _ _ 23 rfl w.heap.size 9 i0 Tryz.underlying23 hi0 hz0 hz1 hz2 _ [] rfl HE.out _ l rfl (strS_keep2D H1.out (below1 w _)) (by simp; omega) (by simp) ?_; intro v3 w3 ho3 hg3 hv3; have hB3 := below_grown2D (Below.refl _ w) (below1 w _) hg3 (fun k hk => (own_ltD HE.out hk).1); have hs3 := hB3.size; simp only [List.nil_append] at ho3)))
  go_ret
  have hB4 := below_grown2D hB3 (Below.refl _ _) hg4 (fun k hk => (own_ltD ho3 hk).1)
  exact ⟨⟨v4, rfl, owns_strS6D ho4 (by simp; omega), fun k hk => ho4.lt k hk⟩, hB4⟩
end Go.Proofs.YtjncmmnbdabjnaaGreatDoor
namespace Go.Proofs.YtjncmmnbdabjnaaGreatDoor
open Go.RowKit
set_option maxRecDepth 8000
set_option linter.unusedSimpArgs false
set_option linter.unusedVariables false
theorem StrS.onlyD {w w' : World} {b : Nat} {v : Value} {l : List Nm} (h : StrS w v l) (ho : Only b w w') (hne : ∀ q, v.ownBlock = some q → q ≠ b ∧ q < w.heap.size) : StrS w' v l := StrS.move h (fun q hq => ho.block q (hne q hq).2 (hne q hq).1)
/-- A scope: names and their types, in blocks other than the reader's. -/
def ScL (w : World) (q : Nat) (v : Value) (l : List Nm) : Prop := StrS w v l ∧ ∀ k, v.ownBlock = some k → k ≠ q ∧ k < w.heap.size
theorem ScL.only {w w' : World} {q : Nat} {v : Value} {l : List Nm} (h : ScL w q v l) (ho : Only q w w') : ScL w' q v l := ⟨h.1.onlyD ho h.2, fun k hk => ⟨(h.2 k hk).1, Nat.lt_of_lt_of_le (h.2 k hk).2 ho.size⟩⟩
def Sc (w : World) (q : Nat) (v1 v2 : Value) (n : Nat) : Prop := ∃ ns ts, ScL w q v1 ns ∧ ScL w q v2 ts ∧ ns.length = ts.length ∧ ns.length ≤ n ∧ ∀ x ∈ ns, x.length ≤ 10
theorem Sc.only {w w' : World} {q : Nat} {v1 v2 : Value} {n : Nat} (h : Sc w q v1 v2 n) (ho : Only q w w') : Sc w' q v1 v2 n := by
  obtain ⟨ns, ts, h1, h2, h3⟩ := h
  exact ⟨ns, ts, h1.only ho, h2.only ho, h3⟩
theorem Sc.mono {w : World} {q : Nat} {v1 v2 : Value} {n m : Nat} (h : Sc w q v1 v2 n) (hn : n ≤ m) : Sc w q v1 v2 m := by
  obtain ⟨ns, ts, h1, h2, h3, h4, h5⟩ := h
  exact ⟨ns, ts, h1, h2, h3, by omega, h5⟩
theorem new3 (w : World) (a b c : Obj) : (((w.alloc a).alloc b).alloc c).heap[w.heap.size + 1 + 1]? = some c := by
  have := heap_alloc_new ((w.alloc a).alloc b) c
  rwa [show ((w.alloc a).alloc b).heap.size = w.heap.size + 1 + 1 by simp] at this
theorem StrS.shape {w : World} {v : Value} {l : List Nm} (h : StrS w v l) : ∃ p n c, v = .slice p n c := by
  obtain ⟨p, c, h1, -, -⟩ := h
  exact ⟨p, _, c, h1⟩
theorem str_at {w : World} {b : Nat} {l : List Nm} {t : TypeId} (h : w.heap[b]? = some (.cells (l.map strV).toArray t (0, 0))) (hl : l.length ≤ 1000) : StrS w (.slice (some ⟨b, 0, none⟩) l.length l.length) l :=
  ⟨_, _, rfl, by omega, fun _ => ⟨b, 0, rfl, fun j v hj => by rw [Nat.zero_add, cell_of h]; simpa using hj⟩⟩
theorem str_one {w : World} {s : Nm} : StrS (w.alloc (.cells #[.string (bs s)] 9)) (.slice (some ⟨w.heap.size, 0, none⟩) 1 1) [s] := str_new (l := [s]) (by simp)
set_option maxHeartbeats 2000000 in
theorem l91More_d (q : Nat) (v1 v2 : Value) (n : Nat) (name kind : Nm) (w : World) (h : Sc w q v1 v2 n) (hn : n ≤ 1000) (hname : name.length ≤ 10) (hq : q < w.heap.size) :
    Calls Tryz.prog 139 #[.agg #[v1, v2], .string (bs name), .string (bs kind)] w fun e w' => (∃ u1 u2, e = .returned (.agg #[u1, u2]) ∧ Sc w' q u1 u2 (n + 1)) ∧ Below w.heap.size w w' := by
  obtain ⟨ns, ts, h1, h2, h3, h4, h5⟩ := h
  obtain ⟨p1, c1, rfl, -, -⟩ := id h1.1
  obtain ⟨p2, c2, rfl, -, -⟩ := id h2.1
  have CA : Hid (∀ W v, Below w.heap.size w W → StrS W v [name] → Calls Tryz.prog 71 #[.slice p1 ns.length c1, v] W fun e w' => (∃ u, e = .returned u ∧ StrS w' u (ns ++ [name]) ∧ ∀ k, u.ownBlock = some k → W.heap.size ≤ k ∧ k < w'.heap.size) ∧ Below W.heap.size W w') := Lib.hid (fun W v hW hv => l3With_d _ v ns [name] W (h1.1.move (fun k hk => hW.block k (h1.2 k hk).2)) hv (by simp; omega))
  have CB : Hid (∀ W v, Below w.heap.size w W → StrS W v [kind] → Calls Tryz.prog 71 #[.slice p2 ts.length c2, v] W fun e w' => (∃ u, e = .returned u ∧ StrS w' u (ts ++ [kind]) ∧ ∀ k, u.ownBlock = some k → W.heap.size ≤ k ∧ k < w'.heap.size) ∧ Below W.heap.size W w') := Lib.hid (fun W v hW hv => l3With_d _ v ts [kind] W (h2.1.move (fun k hk => hW.block k (h2.2 k hk).2)) hv (by simp; omega))
  have H3 := Lib.hid h3
  have H5 := Lib.hid h5
  obtain ⟨L1, hL1⟩ : ∃ L1, L1 = ns.length := ⟨_, rfl⟩
  rw [← hL1] at CA h4 H3 ⊢
  have HL1 := Lib.hid hL1
  clear hL1
  clear h1 h2 h3 h5
  have HB0 := Lib.hid (below1 w (.cells #[.slice p1 L1 c1, .slice p2 ts.length c2] 118))
  obtain ⟨L2, hL2⟩ : ∃ L2, L2 = ts.length := ⟨_, rfl⟩
  rw [← hL2] at CB HB0 ⊢
  have HL2 := Lib.hid hL2
  clear hL2
  have XA := heap_alloc_new w (.cells #[.slice p1 L1 c1, .slice p2 L2 c2] 118)
  have XR := heap_alloc_new2 w (.cells #[.slice p1 L1 c1, .slice p2 L2 c2] 118) (.cells #[.slice none 0 0, .slice none 0 0] 118)
  go_enter Tryz.func139, Tryz.ntmps139
  go_wp2_with fail
  have hbR : Below (w.alloc (.cells #[.slice p1 L1 c1, .slice p2 L2 c2] 118)).heap.size (w.alloc (.cells #[.slice p1 L1 c1, .slice p2 L2 c2] 118)) ((w.alloc (.cells #[.slice p1 L1 c1, .slice p2 L2 c2] 118)).alloc (.cells #[.slice none 0 0, .slice none 0 0] 118)) := below1 _ _
  generalize hwx : w.alloc (.cells #[.slice p1 L1 c1, .slice p2 L2 c2] 118) = wx at *
  have hsx : Hid (wx.heap.size = w.heap.size + 1) := Lib.hid (by rw [← hwx]; simp)
  have K : Hid (∀ W, Below wx.heap.size wx W → (fun W => Below wx.heap.size wx W ∧ W.cell? ⟨w.heap.size, 0, none⟩ = some (.slice p1 L1 c1) ∧ W.cell? ⟨w.heap.size, 1, none⟩ = some (.slice p2 L2 c2)) W) := Lib.hid (fun W hW => by
    have y := below_blk hW (lt_of_block XA) XA
    exact ⟨hW, cell_of (j := 0) y, cell_of (j := 1) y⟩)
  have S0 := Lib.hid (K.out _ hbR.drew)
  have hlR := lt_of_block XR
  clear hwx XA
  first | (go_region_held3 (fun W => Below wx.heap.size wx W ∧ W.cell? ⟨w.heap.size, 0, none⟩ = some (.slice p1 L1 c1) ∧ W.cell? ⟨w.heap.size, 1, none⟩ = some (.slice p2 L2 c2)) (first | exact S0.out | assumption | exact KASo K.out (And.left (by assumption)) | exact K.out _ ((hS7.1.setCell (show wx.heap.size ≤ w.heap.size + 1 from Nat.le_of_eq hsx.out) _).setCell (show wx.heap.size ≤ w.heap.size + 1 from Nat.le_of_eq hsx.out) _) | fail) (first | (go_at_call 71; have hh := And.left (by assumption : Below wx.heap.size wx _ ∧ _); first | ((with_reducible refine (CA.out _ _ ?_ ?_).mono ?_); (· exact HB0.out.trans (hh.mono HB0.out.size)); (· exact str_at (l := [name]) (by first | assumption | exact heap_alloc_new2 _ _ _ | exact blk_alloc (heap_alloc_new2 _ _ _) | exact new3 _ _ _ _ | exact heap_alloc_new _ _ | exact blk_alloc (heap_alloc_new _ _)) (by simp)); rintro e w6 ⟨⟨u6, rfl, hu6, hk6⟩, hb6⟩; obtain ⟨pu6, nu6, cu6, rfl⟩ := StrS.shape hu6; have hB6 := hh.trans (hb6.mono hh.size); have hS6 := K.out _ hB6; have y6 := (by first | exact below_blk hb6 (lt_of_block XR) XR | exact below_blk hb6 (lt_of_block (blk_alloc XR)) (blk_alloc XR) | exact below_blk hb6 (lt_of_block (blk_alloc (blk_alloc XR))) (blk_alloc (blk_alloc XR)) : w6.heap[w.heap.size + 1]? = some (.cells #[.slice none 0 0, .slice none 0 0] 118 (0, 0))); try (have ysd := below_blk hb6 (lt_of_block (new3 _ _ _ _)) (new3 _ _ _ _)); try (have yse := below_blk hb6 (lt_of_block (blk_alloc (heap_alloc_new2 _ _ _))) (blk_alloc (heap_alloc_new2 _ _ _))); try (have ysa := below_blk hb6 (lt_of_block (blk_alloc (heap_alloc_new _ _))) (blk_alloc (heap_alloc_new _ _))); try (have ysb := below_blk hb6 (lt_of_block (heap_alloc_new2 _ _ _)) (heap_alloc_new2 _ _ _)); try (have ysc := below_blk hb6 (lt_of_block (heap_alloc_new _ _)) (heap_alloc_new _ _))) | ((with_reducible refine (CB.out _ _ ?_ ?_).mono ?_); (· exact HB0.out.trans (hh.mono HB0.out.size)); (· exact str_at (l := [kind]) (by first | assumption | exact heap_alloc_new2 _ _ _ | exact blk_alloc (heap_alloc_new2 _ _ _) | exact new3 _ _ _ _ | exact heap_alloc_new _ _ | exact blk_alloc (heap_alloc_new _ _)) (by simp)); rintro e w7 ⟨⟨u7, rfl, hu7, hk7⟩, hb7⟩; obtain ⟨pu7, nu7, cu7, rfl⟩ := StrS.shape hu7; have hB7 := hh.trans (hb7.mono hh.size); have hS7 := K.out _ hB7; have y7 := (by first | exact below_blk hb7 (lt_of_block y6) y6 | exact below_blk hb7 (lt_of_block (blk_alloc y6)) (blk_alloc y6) : w7.heap[w.heap.size + 1]? = some (.cells #[.slice none 0 0, .slice none 0 0] 118 (0, 0))); have z0 := cell_of (j := 0) y7; have z1 := cell_of (j := 1) y7; have f0 := free_of (j := 0) y7; have f1 := free_of (j := 1) y7; have hu8 : StrS w7 (.slice pu6 nu6 cu6) _ := StrS.move hu6 (fun k hk => by first | exact hb7.block k (hk6 k hk).2 | exact (hb7.block k (by have := (hk6 k hk).2; simp; omega)).trans (heap_alloc_old _ _ (hk6 k hk).2)))) | fail)) | fail
  all_goals
    go_wp2_with fail
    have kk := blk_set (j := 1) (blk_set (j := 0) y7 (.slice pu6 nu6 cu6)) (.slice pu7 nu7 cu7)
    have k0 := cell_of (j := 0) kk
    have k1 := cell_of (j := 1) kk
    have hx := hsx.out
    have s6 := hb6.size
    have s7 := hb7.size
    simp at s6 s7
    refine bodyPost_ret (v := .agg #[.slice pu6 nu6 cu6, .slice pu7 nu7 cu7]) (by simp [results, Tryz.results139, go_sem, k0, k1]) rfl ?_
    refine ⟨⟨_, _, rfl, ns ++ [name], ts ++ [kind], ⟨StrS.move hu8 (fun k hk => ?_), fun k hk => ⟨?_, ?_⟩⟩, ⟨StrS.move hu7 (fun k hk => ?_), fun k hk => ⟨?_, ?_⟩⟩, ?_, ?_, ?_⟩, ?_⟩
    · have := (hk6 k hk).1
      try simp at this
      rw [blk_set_other _ (show k ≠ w.heap.size + 1 by omega), blk_set_other _ (show k ≠ w.heap.size + 1 by omega)]
    · have := (hk6 k hk).1
      try simp at this
      omega
    · have := (hk6 k hk).2
      simp
      omega
    · have := (hk7 k hk).1
      try simp at this
      rw [blk_set_other _ (show k ≠ w.heap.size + 1 by omega), blk_set_other _ (show k ≠ w.heap.size + 1 by omega)]
    · have := (hk7 k hk).1
      try simp at this
      omega
    · have := (hk7 k hk).2
      simp
      omega
    · have e1 := HL1.out
      have e2 := H3.out
      simp; omega
    · have e1 := HL1.out
      simp; omega
    · intro x hx
      rcases List.mem_append.1 hx with h | h
      · exact H5.out x h
      · simp only [List.mem_singleton] at h; subst h; exact hname
    · exact ((HB0.out.trans (hB7.mono HB0.out.size)).setCell (show w.heap.size ≤ w.heap.size + 1 by omega) _).setCell (show w.heap.size ≤ w.heap.size + 1 by omega) _
end Go.Proofs.YtjncmmnbdabjnaaGreatDoor
