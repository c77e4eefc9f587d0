/- The reference's draws: a function that counts down. Rows of texts of the call's own; lists with more texts behind. The reference's draws: expressions. The reference's draws: a small expression of a type. -/
import Derived.Test.YtfknoigbkleanaaGreatDoorqDraw3
import Derived.Test.YtfknoigbkleanaaGreatDoorqImpl1rM
import Derived.OwnWalk
import Derived.Deep.RegionHeld3
import Derived.Deep.LoopGhost
import Derived.Test.YtfknoigbkleanaaGreatDoorqBuildM
namespace Go.Proofs.YtfknoigbkleanaaGreatDoor
open Go.RowKit Go.Proofs.Tryz
set_option maxRecDepth 8000
set_option maxHeartbeats 20000000
set_option linter.unusedVariables false
set_option linter.unusedSimpArgs false
theorem bsz (a : Array UInt8) : (ByteArray.mk a).size = a.size := rfl
def loopBodies : List (List UInt8) := [[40, 43, 32, 120, 56, 32, 40, 99, 97, 108, 108, 32, 102, 56, 32, 40, 45, 32, 120, 56, 32, 49, 41, 41, 41], [40, 99, 97, 108, 108, 32, 102, 56, 32, 40, 45, 32, 120, 56, 32, 49, 41, 41], [40, 42, 32, 120, 56, 32, 40, 99, 97, 108, 108, 32, 102, 56, 32, 40, 45, 32, 120, 56, 32, 49, 41, 41, 41], [40, 45, 32, 48, 32, 40, 99, 97, 108, 108, 32, 102, 56, 32, 40, 45, 32, 120, 56, 32, 49, 41, 41, 41]]
theorem l91Loop_d {q : Nat} {a : Option Addr} {L c p : Nat} {zs : List Int} {w : World} (h : Rd w q a L c p zs) (hp : p ≤ 900000) :
 Calls prog 135 #[.pointer (some ⟨q, 0, none⟩)] w fun e w' => Qn q a L c p zs 2000 3 w e w' := by
 have C1 := H_ (Vj (l := loopBodies) (N := 30) h (by omega) (by decide) (by decide) (by decide))
 clear h
 go_enter func135, ntmps135
 go_wp2_with fail
 refine (C1.out).mono ?_
 rintro e w1 ⟨s1, p1, rfl, a1, a2, hR1, ho1⟩
 have C2 := H_ (Vj (l := [[48], [49], [53]]) (N := 1) hR1 (by omega) (by decide) (by decide) (by decide))
 clear hR1
 go_wp2_with fail
 refine (C2.out).mono ?_
 rintro e w2 ⟨s2, p2, rfl, b1, b2, hR2, ho2⟩
 have C3 := H_ (V5 (n := 7) hR2 (by omega) (by omega))
 clear hR2
 go_wp2_with fail
 refine (C3.out).mono ?_
 rintro e w3 ⟨⟨k, rfl, hk0, hk1⟩, hR3, ho3⟩
 have C4 := H_ (l6Dec_any k (by omega) (by omega))
 go_wp2_with fail
 refine (C4.out _).mono ?_
 rintro e w4 ⟨⟨s4, rfl, hs4⟩, hb4⟩
 have HR4 := H_ (hR3.below hb4)
 have HO4 := H_ (((ho1.trans ho2).trans ho3).next hb4)
 go_wp2_with fail
 go_ret
 exact ⟨_, _, rfl, by simp [bsz]; omega, by omega, HR4.out, HO4.out⟩
theorem Tryz.infoStrD : (prog.info? 9).map (fun i => (i.zero, i.size, i.bytes)) = some (some (.string ⟨#[]⟩), 1, 16) := by kernel_rfl
theorem Z7t {w : World} {base : Nat} {e : TypeId} {size : Nat} {v : Value} {n : Nat} {xs : List Value} (h : w.ownsRow base e size v n xs) {k : Nat} (hk : v.ownBlock = some k) : base ≤ k ∧ k < w.heap.size := h.lt k hk
theorem Z1w {w wr w2 w3 : World} {row : Option Nat} (h : Below w.heap.size w wr) (h2 : Below wr.heap.size wr w2) (hg : w2.grownBy w3 row) (hr : ∀ k, row = some k → w.heap.size ≤ k) : Below w.heap.size w w3 :=
 have h12 := h.trans (h2.mono h.size)
 ⟨hg.os.trans h12.os, hg.tape.trans h12.tape, hg.output.trans h12.output, Nat.le_trans h12.size hg.size, fun k hk => (hg.block k (Nat.lt_of_lt_of_le hk h12.size) (fun e => by have := hr k e.symm; omega)).trans (h12.block k hk)⟩
theorem Z1k {w : World} {B : Nat} {v : Value} {l : List (List UInt8)} (h : w.ownsRow B 9 1 v l.length (l.map Yj)) (hl : l.length ≤ 9223372036854775807) : Zn w v l := by
 rcases h.2 with ⟨rfl, h0⟩ | ⟨g, cap, cur, rfl, hb, hg, h1, h2, h3, h4⟩
 · exact ⟨none, 0, by rw [h0], hl, fun hne => absurd (List.eq_nil_of_length_eq_zero h0) hne⟩
 · exact ⟨_, cap, rfl, hl, fun _ => ⟨g, 0, rfl, Xm h⟩⟩
theorem Jf {w w' : World} {v : Value} {l : List Nm} (h : Zn w v l) (hb : Below w.heap.size w w') : Zn w' v l := by
 obtain ⟨p, c, rfl, h1, h2⟩ := h
 refine ⟨p, c, rfl, h1, fun hne => ?_⟩
 obtain ⟨r, off, rfl, h3⟩ := h2 hne
 refine ⟨r, off, rfl, h3.move (hb.block r ?_)⟩
 cases l with
 | nil => exact absurd rfl hne
 | cons x l =>
   have hc := h3 0 (Yj x) (by simp)
   by_cases hr : r < w.heap.size
   · exact hr
   · simp [World.cell?, Array.getElem?_eq_none (Nat.le_of_not_lt hr)] at hc
theorem Z6z {W : World} {b base : Nat} (h : W.heap[b]? = some (.cells #[] 9 (0, 0))) (hb : base ≤ b) : W.ownsRow base 9 1 (.slice (some ⟨b, 0, none⟩) 0 0) ([] : List Nm).length (([] : List Nm).map Yj) := ⟨rfl, .inr ⟨b, 0, _, rfl, hb, h, Nat.le_refl _, Nat.zero_le _, rfl, rfl⟩⟩
theorem l3With_d (v1 v2 : Value) (l m : List Nm) (w : World) (h1 : Zn w v1 l) (h2 : Zn w v2 m) (hb : l.length + m.length ≤ 1000000) :
 Calls prog 81 #[v1, v2] w fun e w' => (∃ v, e = .returned v ∧ Zn w' v (l ++ m) ∧ ∀ k, v.ownBlock = some k → w.heap.size ≤ k ∧ k < w'.heap.size) ∧ Below w.heap.size w w' := by
 obtain ⟨i0, hi0, hz0, hz1, hz2⟩ := info_parts Tryz.infoStrD
 have H1 := H_ h1
 have H2 := H_ h2
 obtain ⟨p1, c1, rfl, -, -⟩ := h1
 obtain ⟨p2, c2, rfl, -, -⟩ := h2
 have HE : Hid ((w.alloc (.cells #[] 9)).ownsRow w.heap.size 9 1 (.slice (some ⟨w.heap.size, 0, none⟩) 0 0) ([] : List Nm).length (([] : List Nm).map Yj)) := H_ (Z6z (heap_alloc_new w _) (Nat.le_refl _))
 go_enter func81, ntmps81
 go_wp2_with (first | (at_builtin; refine Yg _ rfl _ _ 23 rfl w.heap.size 9 i0 underlying23 hi0 hz0 hz1 hz2 _ l rfl ho3 _ m rfl (Jf H2.out hB3) (by omega) hs3 ?_; intro v4 w4 ho4 hg4 hv4) | (at_builtin; go_must (refine Yg _ rfl _ _ 23 rfl w.heap.size 9 i0 underlying23 hi0 hz0 hz1 hz2 _ [] rfl HE.out _ l rfl (Jf H1.out (Z4 w _)) (by simp; omega) (by simp) ?_; intro v3 w3 ho3 hg3 hv3; have hB3 := Z1w (Below.refl _ w) (Z4 w _) hg3 (fun k hk => (Z7t HE.out hk).1); have hs3 := hB3.size; simp only [List.nil_append] at ho3)))
 go_ret
 have hB4 := Z1w hB3 (Below.refl _ _) hg4 (fun k hk => (Z7t ho3 hk).1)
 exact ⟨⟨v4, rfl, Z1k ho4 (by simp; omega), fun k hk => ho4.lt k hk⟩, hB4⟩
theorem Zn.onlyD {w w' : World} {b : Nat} {v : Value} {l : List Nm} (h : Zn w v l) (ho : Only b w w') (hne : ∀ q, v.ownBlock = some q → q ≠ b ∧ q < w.heap.size) : Zn w' v l := Zn.move h (fun q hq => ho.block q (hne q hq).2 (hne q hq).1)
def ScL (w : World) (q : Nat) (v : Value) (l : List Nm) : Prop := Zn w v l ∧ ∀ k, v.ownBlock = some k → k ≠ q ∧ k < w.heap.size
theorem ScL.only {w w' : World} {q : Nat} {v : Value} {l : List Nm} (h : ScL w q v l) (ho : Only q w w') : ScL w' q v l := ⟨h.1.onlyD ho h.2, fun k hk => ⟨(h.2 k hk).1, Nat.lt_of_lt_of_le (h.2 k hk).2 ho.size⟩⟩
def Sc (w : World) (q : Nat) (v1 v2 : Value) (n : Nat) : Prop := ∃ ns ts, ScL w q v1 ns ∧ ScL w q v2 ts ∧ ns.length = ts.length ∧ ns.length ≤ n ∧ ∀ x ∈ ns, x.length ≤ 10
theorem Sc.only {w w' : World} {q : Nat} {v1 v2 : Value} {n : Nat} (h : Sc w q v1 v2 n) (ho : Only q w w') : Sc w' q v1 v2 n := by
 obtain ⟨ns, ts, h1, h2, h3⟩ := h
 exact ⟨ns, ts, h1.only ho, h2.only ho, h3⟩
theorem Sc.mono {w : World} {q : Nat} {v1 v2 : Value} {n m : Nat} (h : Sc w q v1 v2 n) (hn : n ≤ m) : Sc w q v1 v2 m := by
 obtain ⟨ns, ts, h1, h2, h3, h4, h5⟩ := h
 exact ⟨ns, ts, h1, h2, h3, by omega, h5⟩
theorem new3 (w : World) (a b c : Obj) : (((w.alloc a).alloc b).alloc c).heap[w.heap.size + 1 + 1]? = some c := by
 have := heap_alloc_new ((w.alloc a).alloc b) c
 rwa [show ((w.alloc a).alloc b).heap.size = w.heap.size + 1 + 1 by simp] at this
theorem Zn.shape {w : World} {v : Value} {l : List Nm} (h : Zn w v l) : ∃ p n c, v = .slice p n c := by
 obtain ⟨p, c, h1, -, -⟩ := h
 exact ⟨p, _, c, h1⟩
theorem str_at {w : World} {b : Nat} {l : List Nm} {t : TypeId} (h : w.heap[b]? = some (.cells (l.map Yj).toArray t (0, 0))) (hl : l.length ≤ 1000) : Zn w (.slice (some ⟨b, 0, none⟩) l.length l.length) l :=
 ⟨_, _, rfl, by omega, fun _ => ⟨b, 0, rfl, fun j v hj => by rw [Nat.zero_add, Z3 h]; simpa using hj⟩⟩
theorem Z2a (q : Nat) (v1 v2 : Value) (n : Nat) (name kind : Nm) (w : World) (h : Sc w q v1 v2 n) (hn : n ≤ 1000) (hname : name.length ≤ 10) (hq : q < w.heap.size) :
 Calls prog 134 #[.agg #[v1, v2], .string (bs name), .string (bs kind)] w fun e w' => (∃ u1 u2, e = .returned (.agg #[u1, u2]) ∧ Sc w' q u1 u2 (n + 1)) ∧ Below w.heap.size w w' := by
 obtain ⟨ns, ts, h1, h2, h3, h4, h5⟩ := h
 obtain ⟨p1, c1, rfl, -, -⟩ := id h1.1
 obtain ⟨p2, c2, rfl, -, -⟩ := id h2.1
 have CA : Hid (∀ W v, Below w.heap.size w W → Zn W v [name] → Calls prog 81 #[.slice p1 ns.length c1, v] W fun e w' => (∃ u, e = .returned u ∧ Zn w' u (ns ++ [name]) ∧ ∀ k, u.ownBlock = some k → W.heap.size ≤ k ∧ k < w'.heap.size) ∧ Below W.heap.size W w') := H_ (fun W v hW hv => l3With_d _ v ns [name] W (h1.1.move (fun k hk => hW.block k (h1.2 k hk).2)) hv (by simp; omega))
 have CB : Hid (∀ W v, Below w.heap.size w W → Zn W v [kind] → Calls prog 81 #[.slice p2 ts.length c2, v] W fun e w' => (∃ u, e = .returned u ∧ Zn w' u (ts ++ [kind]) ∧ ∀ k, u.ownBlock = some k → W.heap.size ≤ k ∧ k < w'.heap.size) ∧ Below W.heap.size W w') := H_ (fun W v hW hv => l3With_d _ v ts [kind] W (h2.1.move (fun k hk => hW.block k (h2.2 k hk).2)) hv (by simp; omega))
 have H3 := H_ h3
 have H5 := H_ h5
 obtain ⟨L1, hL1⟩ : ∃ L1, L1 = ns.length := ⟨_, rfl⟩
 rw [← hL1] at CA h4 H3 ⊢
 have HL1 := H_ hL1
 clear hL1
 clear h1 h2 h3 h5
 have HB0 := H_ (Z4 w (.cells #[.slice p1 L1 c1, .slice p2 ts.length c2] 89))
 obtain ⟨L2, hL2⟩ : ∃ L2, L2 = ts.length := ⟨_, rfl⟩
 rw [← hL2] at CB HB0 ⊢
 have HL2 := H_ hL2
 clear hL2
 have XA := heap_alloc_new w (.cells #[.slice p1 L1 c1, .slice p2 L2 c2] 89)
 have XR := Z9 w (.cells #[.slice p1 L1 c1, .slice p2 L2 c2] 89) (.cells #[.slice none 0 0, .slice none 0 0] 89)
 go_enter func134, ntmps134
 go_wp2_with fail
 have hbR : Below (w.alloc (.cells #[.slice p1 L1 c1, .slice p2 L2 c2] 89)).heap.size (w.alloc (.cells #[.slice p1 L1 c1, .slice p2 L2 c2] 89)) ((w.alloc (.cells #[.slice p1 L1 c1, .slice p2 L2 c2] 89)).alloc (.cells #[.slice none 0 0, .slice none 0 0] 89)) := Z4 _ _
 generalize hwx : w.alloc (.cells #[.slice p1 L1 c1, .slice p2 L2 c2] 89) = wx at *
 have hsx : Hid (wx.heap.size = w.heap.size + 1) := H_ (by rw [← hwx]; simp)
 have K : Hid (∀ W, Below wx.heap.size wx W → (fun W => Below wx.heap.size wx W ∧ W.cell? ⟨w.heap.size, 0, none⟩ = some (.slice p1 L1 c1) ∧ W.cell? ⟨w.heap.size, 1, none⟩ = some (.slice p2 L2 c2)) W) := H_ (fun W hW => by
  have y := Z1 hW (lt_of_block XA) XA
  exact ⟨hW, Z3 (j := 0) y, Z3 (j := 1) y⟩)
 have S0 := H_ (K.out _ hbR.drew)
 have hlR := lt_of_block XR
 clear hwx XA
 first | (go_region_held3 (fun W => Below wx.heap.size wx W ∧ W.cell? ⟨w.heap.size, 0, none⟩ = some (.slice p1 L1 c1) ∧ W.cell? ⟨w.heap.size, 1, none⟩ = some (.slice p2 L2 c2)) (first | exact S0.out | assumption | exact KASo K.out (And.left (by assumption)) | exact K.out _ ((hS7.1.setCell (show wx.heap.size ≤ w.heap.size + 1 from Nat.le_of_eq hsx.out) _).setCell (show wx.heap.size ≤ w.heap.size + 1 from Nat.le_of_eq hsx.out) _) | fail) (first | (go_at_call 81; have hh := And.left (by assumption : Below wx.heap.size wx _ ∧ _); first | ((with_reducible refine (CA.out _ _ ?_ ?_).mono ?_); (· exact HB0.out.trans (hh.mono HB0.out.size)); (· exact str_at (l := [name]) (by first | assumption | exact Z9 _ _ _ | exact Z8 (Z9 _ _ _) | exact new3 _ _ _ _ | exact heap_alloc_new _ _ | exact Z8 (heap_alloc_new _ _)) (by simp)); rintro e w6 ⟨⟨u6, rfl, hu6, hk6⟩, hb6⟩; obtain ⟨pu6, nu6, cu6, rfl⟩ := Zn.shape hu6; have hB6 := hh.trans (hb6.mono hh.size); have hS6 := K.out _ hB6; have y6 := (by first | exact Z1 hb6 (lt_of_block XR) XR | exact Z1 hb6 (lt_of_block (Z8 XR)) (Z8 XR) | exact Z1 hb6 (lt_of_block (Z8 (Z8 XR))) (Z8 (Z8 XR)) : w6.heap[w.heap.size + 1]? = some (.cells #[.slice none 0 0, .slice none 0 0] 89 (0, 0))); try (have ysd := Z1 hb6 (lt_of_block (new3 _ _ _ _)) (new3 _ _ _ _)); try (have yse := Z1 hb6 (lt_of_block (Z8 (Z9 _ _ _))) (Z8 (Z9 _ _ _))); try (have ysa := Z1 hb6 (lt_of_block (Z8 (heap_alloc_new _ _))) (Z8 (heap_alloc_new _ _))); try (have ysb := Z1 hb6 (lt_of_block (Z9 _ _ _)) (Z9 _ _ _)); try (have ysc := Z1 hb6 (lt_of_block (heap_alloc_new _ _)) (heap_alloc_new _ _))) | ((with_reducible refine (CB.out _ _ ?_ ?_).mono ?_); (· exact HB0.out.trans (hh.mono HB0.out.size)); (· exact str_at (l := [kind]) (by first | assumption | exact Z9 _ _ _ | exact Z8 (Z9 _ _ _) | exact new3 _ _ _ _ | exact heap_alloc_new _ _ | exact Z8 (heap_alloc_new _ _)) (by simp)); rintro e w7 ⟨⟨u7, rfl, hu7, hk7⟩, hb7⟩; obtain ⟨pu7, nu7, cu7, rfl⟩ := Zn.shape hu7; have hB7 := hh.trans (hb7.mono hh.size); have hS7 := K.out _ hB7; have y7 := (by first | exact Z1 hb7 (lt_of_block y6) y6 | exact Z1 hb7 (lt_of_block (Z8 y6)) (Z8 y6) : w7.heap[w.heap.size + 1]? = some (.cells #[.slice none 0 0, .slice none 0 0] 89 (0, 0))); obtain ⟨z0, z1⟩ := Zm y7; obtain ⟨f0, f1⟩ := Ql y7; have hu8 : Zn w7 (.slice pu6 nu6 cu6) _ := Zn.move hu6 (fun k hk => by first | exact hb7.block k (hk6 k hk).2 | exact (hb7.block k (by have := (hk6 k hk).2; simp; omega)).trans (heap_alloc_old _ _ (hk6 k hk).2)))) | fail)) | fail
 all_goals
  go_wp2_with fail
  have kk := Qy (j := 1) (Qy (j := 0) y7 (.slice pu6 nu6 cu6)) (.slice pu7 nu7 cu7)
  obtain ⟨k0, k1⟩ := Zm kk
  have hx := hsx.out
  have s6 := hb6.size
  have s7 := hb7.size
  simp at s6 s7
  refine bodyPost_ret (v := .agg #[.slice pu6 nu6 cu6, .slice pu7 nu7 cu7]) (by simp [results, results134, go_sem, k0, k1]) rfl ?_
  refine ⟨⟨_, _, rfl, ns ++ [name], ts ++ [kind], ⟨Zn.move hu8 (fun k hk => ?_), fun k hk => ⟨?_, ?_⟩⟩, ⟨Zn.move hu7 (fun k hk => ?_), fun k hk => ⟨?_, ?_⟩⟩, ?_, ?_, ?_⟩, ?_⟩
  · have := (hk6 k hk).1
    try simp at this
    rw [Za _ (show k ≠ w.heap.size + 1 by omega), Za _ (show k ≠ w.heap.size + 1 by omega)]
  · have := (hk6 k hk).1
    try simp at this
    omega
  · have := (hk6 k hk).2
    simp
    omega
  · have := (hk7 k hk).1
    try simp at this
    rw [Za _ (show k ≠ w.heap.size + 1 by omega), Za _ (show k ≠ w.heap.size + 1 by omega)]
  · have := (hk7 k hk).1
    try simp at this
    omega
  · have := (hk7 k hk).2
    simp
    omega
  · have e1 := HL1.out
    have e2 := H3.out
    simp; omega
  · have e1 := HL1.out
    simp; omega
  · intro x hx
    rcases List.mem_append.1 hx with h | h
    · exact H5.out x h
    · simp only [List.mem_singleton] at h; subst h; exact hname
  · exact ((HB0.out.trans (hB7.mono HB0.out.size)).setCell (show w.heap.size ≤ w.heap.size + 1 by omega) _).setCell (show w.heap.size ≤ w.heap.size + 1 by omega) _
def OfC (s : ByteArray) : Prop := ∀ W : World, Calls prog 28 #[.string s] W fun e w' => (∃ (r : ByteArray) (z : Bool), e = .returned (.tuple #[.string r, .bool z]) ∧ r.size ≤ 12000) ∧ Below W.heap.size W w'
structure LfInv (w1 : World) (ns l : List Nm) (k : Nat) (v : Value) (wr : World) : Prop where
 own : wr.ownsRow w1.heap.size 9 1 v l.length (l.map Yj)
 below : Below w1.heap.size w1 wr
 len : l.length ≤ k
 mem : ∀ x ∈ l, x ∈ ns
theorem mem_snoc {ns l : List Nm} {x : Nm} (h : ∀ y ∈ l, y ∈ ns) (hx : x ∈ ns) : ∀ y ∈ l ++ [x], y ∈ ns := by
 intro y hy
 rcases List.mem_append.1 hy with h1 | h1
 · exact h y h1
 · simp only [List.mem_singleton] at h1
   subst h1
   exact hx
def numsL : List Nm := [[48], [49], [50], [51], [55], [45, 49], [52, 48, 48], [45, 57, 57, 57]]
theorem Z6h {q : Nat} {a : Option Addr} {L c p : Nat} {zs : List Int} {w : World} (v1 v2 : Value) (n : Nat) (s : ByteArray) (h : Rd w q a L c p zs) (hs : Sc w q v1 v2 n) (hn : n ≤ 1000) (hp : p ≤ 900000) (ho : OfC s) :
 Calls prog 133 #[.pointer (some ⟨q, 0, none⟩), .agg #[v1, v2], .string s] w fun e w' => Qn q a L c p zs 12000 3 w e w' := by
 obtain ⟨i0, hi0, hz0, hz1, hz2⟩ := info_parts Tryz.infoStrD
 obtain ⟨ns, ts, ⟨hs1, hb1⟩, ⟨hs2, hb2⟩, hl, hln, hmem⟩ := hs
 obtain ⟨p1, n1, c1, rfl⟩ := hs1.shape
 obtain ⟨p2, n2, c2, rfl⟩ := hs2.shape
 have hn1 : n1 = ns.length := by
  obtain ⟨_, _, e, -, -⟩ := hs1
  injection e
 subst hn1
 have hq0 : q < w.heap.size := lt_of_block h.blk
 have HL := H_ hl
 have HM := H_ hmem
 clear hb1 hb2 hl hmem
 go_enter func133, ntmps133
 go_wp2_with fail
 obtain ⟨w1, hw1⟩ : ∃ w1, w1 = w.alloc (.cells #[.slice p1 ns.length c1, .slice p2 n2 c2] 89) := ⟨_, rfl⟩
 have y1 : w1.heap[w.heap.size]? = some (.cells #[.slice p1 ns.length c1, .slice p2 n2 c2] 89 (0, 0)) := by rw [hw1]; exact heap_alloc_new _ _
 have hB1 : Below w.heap.size w w1 := by rw [hw1]; exact Z4 _ _
 have HW : Hid (w.heap.size < w1.heap.size) := H_ (by rw [hw1]; simp)
 have HS1 := H_ (Jf hs1 hB1)
 have HS2 := H_ (Jf hs2 hB1)
 have HR1 := H_ (h.below hB1)
 have HB1 := H_ hB1
 have HE : Hid ((w1.alloc (.cells #[] 9)).ownsRow w1.heap.size 9 1 (.slice (some ⟨w1.heap.size, 0, none⟩) 0 0) ([] : List Nm).length (([] : List Nm).map Yj)) := H_ (Z6z (heap_alloc_new w1 _) (Nat.le_refl _))
 try rw [← hw1]
 have hsz1 : (w.alloc (.cells #[.slice p1 ns.length c1, .slice p2 n2 c2] 89)).heap.size = w1.heap.size := by rw [hw1]
 clear hs1 hs2 h hB1
 go_loopw [7, 8] (fun v i wr => ∃ (k : Nat) (l : List Nm), k ≤ ns.length ∧ i = .int .i64 k ∧ Hid (LfInv w1 ns l k v wr)) (fun _ i _ => ns.length - (intOf i).toNat)
 case atStart => exact ⟨0, [], Nat.zero_le _, rfl, H_ ⟨by subst hw1; simpa using HE.out, by subst hw1; exact Z4 _ _, Nat.le_refl _, fun x hx => by simp at hx⟩⟩
 case round =>
  obtain ⟨k, l, hk, rfl, hI⟩ := hrel
  clear HE hw1 hsz1
  have hB := hI.out.below
  have y2 := Z1 hB (lt_of_block y1) y1
  obtain ⟨z0, z1⟩ := Zm y2
  have HO := H_ hI.out.own
  obtain ⟨p3, c3, rfl⟩ := Zs HO.out
  have hlk := hI.out.len
  have hkI : (0 : Int) ≤ (k : Int) := by omega
  by_cases hlt : k < ns.length
  · have hSr := Jf HS1.out hB
    have hSr2 := Jf HS2.out hB
    have CL : Hid (∀ W, Below wr.heap.size wr W → Calls prog 99 #[.slice p1 ns.length c1, .slice p2 n2 c2, .string (bs ns[k])] W fun e w' => e = .returned (.string (bs (Z0d ns ts ns[k] ns.length))) ∧ w' = W) := H_ (fun W hW => l3Look_c _ _ ns ts ns[k] W (Jf hSr hW) (Jf hSr2 hW) HL.out (by omega))
    obtain ⟨p9, c9, he9, h91, h92⟩ := hSr
    simp only [Value.slice.injEq] at he9
    obtain ⟨rfl, -, rfl⟩ := he9
    obtain ⟨r, off, rfl, h93⟩ := h92 (fun e => by rw [e] at hlt; simp at hlt)
    have c0 : wr.cell? ⟨r, off + k, none⟩ = some (.string (bs ns[k])) := Zn.cell h93 hlt
    have HA : Hid (ns[k] ∈ ns) := H_ (List.getElem_mem hlt)
    have hltI : (k : Int) < (ns.length : Int) := by omega
    have hsz := hB.size
    generalize ns[k] = x at *
    generalize bs (Z0d ns ts x ns.length) = R at *
    clear h91 h92 h93 hSr2
    by_cases he : R.toList = s.toList
    · have he2 : (R.toList == s.toList) = true := by simpa using he
      go_wp2_with fail
      go_region_with (first | (go_at_call 99; ((with_reducible refine (CL.out _ ?_).mono ?_); (· first | exact (Below.refl _ _).drew | exact Below.refl _ _ | assumption); rintro e w3 ⟨rfl, rfl⟩)) | fail)
      all_goals go_wp2_with (first | (at_builtin; go_must (refine Yg _ rfl _ _ 23 rfl w1.heap.size 9 i0 underlying23 hi0 hz0 hz1 hz2 _ l rfl (HO.out.alloc _) _ [x] rfl (str_at (l := [x]) (heap_alloc_new _ _) (by simp)) (by simp; omega) (by simp; omega) ?_; intro v3 w4 ho4 hg4 hv4)))
      all_goals exact ⟨⟨k + 1, l ++ [x], by omega, by go_num, H_ ⟨ho4, Z1w hB (by first | exact ((Below.refl _ _).alloc (Nat.le_refl _) _).drew | exact ((Below.refl _ _).drew).alloc (Nat.le_refl _) _ | exact (Below.refl _ _).alloc (Nat.le_refl _) _) hg4 (fun k hk => (Z7t HO.out hk).1), by simp; omega, mem_snoc hI.out.mem HA.out⟩⟩, by simp [intOf]; omega⟩
    · have he2 : (R.toList == s.toList) = false := by simpa using he
      go_wp2_with fail
      go_region_with (first | (go_at_call 99; ((with_reducible refine (CL.out _ ?_).mono ?_); (· first | exact (Below.refl _ _).drew | exact Below.refl _ _ | assumption); rintro e w3 ⟨rfl, rfl⟩)) | fail)
      all_goals go_wp2_with fail
      all_goals exact ⟨⟨k + 1, l, by omega, by go_num, H_ ⟨HO.out, by first | exact hB.drew | exact hB, by omega, hI.out.mem⟩⟩, by simp [intOf]; omega⟩
  · have : k = ns.length := by omega
    subst this
    have HRr := H_ ((HR1.out).below hB)
    have HOr : Hid (Only q w wr) := H_ ((Only.of HB1.out).trans (Only.of hB))
    have HLn : Hid (∀ x ∈ l, x.length ≤ 10) := H_ (fun x hx => HM.out x (hI.out.mem x hx))
    have hk1 : ¬ ((ns.length : Int) < (ns.length : Int)) := by omega
    by_cases hz : l = []
    · subst hz
      have hl0 : ([] : List Nm).length = 0 := rfl
      rw [hl0] at *
      clear hI HO
      have hRd := HRr.out
      have HOx := H_ (HOr.out)
      by_cases hw : s.toList = [105]
      · have hw2 : (s.toList == [105]) = true := by simpa using hw
        have C1 := H_ (Vj (l := numsL) (N := 4) hRd (by omega) (by decide) (by decide) (by decide))
        go_wp2_with fail
        refine (C1.out).mono ?_
        rintro e w5 ⟨s5, p5, rfl, b1, b2, hR5, ho5⟩
        go_wp2_with fail
        go_ret
        exact ⟨_, p5, rfl, by omega, by omega, hR5, HOx.out.trans ho5⟩
      · have hw2 : (s.toList == [105]) = false := by simpa using hw
        have C1 := H_ (ho wr)
        go_wp2_with fail
        refine (C1.out).mono ?_
        rintro e w5 ⟨⟨r5, z5, rfl, hr5⟩, hb5⟩
        have HR5 := H_ (hRd.below hb5)
        have HO5 := H_ (HOx.out.next hb5)
        cases z5
        · go_wp2_with fail
          go_ret
          exact ⟨_, _, rfl, by rw [bsz]; simp, by omega, HR5.out, HO5.out⟩
        · go_wp2_with fail
          go_ret
          exact ⟨_, _, rfl, by omega, by omega, HR5.out, HO5.out⟩
    · have hpos : 0 < l.length := List.length_pos_iff.2 hz
      have hposI : (0 : Int) < (l.length : Int) := by omega
      have CP := H_ (V5 (n := 4) HRr.out (by omega) (by omega))
      go_wp2_with fail
      refine (CP.out).mono ?_
      rintro e w2 ⟨⟨r, rfl, hr0, hr1⟩, hR2, ho2⟩
      by_cases h0 : r = 0
      · subst h0
        have hRd := hR2
        have HOx := H_ (HOr.out.trans ho2)
        by_cases hw : s.toList = [105]
        · have hw2 : (s.toList == [105]) = true := by simpa using hw
          have C1 := H_ (Vj (l := numsL) (N := 4) hRd (by omega) (by decide) (by decide) (by decide))
          go_wp2_with fail
          refine (C1.out).mono ?_
          rintro e w5 ⟨s5, p5, rfl, b1, b2, hR5, ho5⟩
          go_wp2_with fail
          go_ret
          exact ⟨_, p5, rfl, by omega, by omega, hR5, HOx.out.trans ho5⟩
        · have hw2 : (s.toList == [105]) = false := by simpa using hw
          have C1 := H_ (ho w2)
          go_wp2_with fail
          refine (C1.out).mono ?_
          rintro e w5 ⟨⟨r5, z5, rfl, hr5⟩, hb5⟩
          have HR5 := H_ (hRd.below hb5)
          have HO5 := H_ (HOx.out.next hb5)
          cases z5
          · go_wp2_with fail
            go_ret
            exact ⟨_, _, rfl, by rw [bsz]; simp, by omega, HR5.out, HO5.out⟩
          · go_wp2_with fail
            go_ret
            exact ⟨_, _, rfl, by omega, by omega, HR5.out, HO5.out⟩
      · have hrp : 0 < r := by omega
        have CP2 := H_ (V5 (n := (l.length : Int)) hR2 (by omega) (by omega))
        have hrow := Z1k HO.out (by omega)
        obtain ⟨p9, c9, he9, h91, h92⟩ := hrow
        simp only [Value.slice.injEq] at he9
        obtain ⟨rfl, -, rfl⟩ := he9
        obtain ⟨rr, off, rfl, h93⟩ := h92 hz
        have hrr := Z7t HO.out (k := rr) rfl
        have HX : Hid (∀ j (hj : j < l.length), wr.cell? ⟨rr, off + j, none⟩ = some (.string (bs l[j]))) := H_ (fun j hj => Zn.cell h93 hj)
        have hqr : rr ≠ q := by have := HW.out; omega
        clear h91 h92 h93
        go_wp2_with fail
        refine (CP2.out).mono ?_
        rintro e w3 ⟨⟨k3, rfl, hk30, hk31⟩, hR3, ho3⟩
        obtain ⟨j, rfl⟩ : ∃ j : Nat, k3 = (j : Int) := ⟨k3.toNat, by omega⟩
        have hj : j < l.length := by omega
        have x0 : w3.cell? ⟨rr, off + j, none⟩ = some (.string (bs l[j])) := by rw [(ho2.trans ho3).cell (p := ⟨rr, off + j, none⟩) hrr.2 hqr]; exact HX.out j hj
        have hjI : (j : Int) < (l.length : Int) := by omega
        have hs : (bs l[j]).size ≤ 10 := by rw [Yf]; exact HLn.out _ (List.getElem_mem hj)
        have HR3 := H_ hR3
        have HO3 := H_ ((HOr.out.trans ho2).trans ho3)
        generalize bs l[j] = S at *
        clear HX HLn hI HO
        go_wp2_with fail
        go_ret
        exact ⟨S, _, rfl, by omega, by omega, HR3.out, HO3.out⟩
end Go.Proofs.YtfknoigbkleanaaGreatDoor
