/- The reference's draws: a function that counts down. Rows of texts of the call's own; lists with more texts behind. The reference's draws: expressions. The reference's draws: environments. -/
import Derived.Test.YtmgepnacjgbfhaaGreatDoorsDraw3
import Derived.Test.YtmgepnacjgbfhaaGreatDoorsPureLM
import Derived.OwnWalk
import Derived.Deep.RegionHeld3
import Derived.Deep.LoopGhost
namespace Go.Proofs.YtmgepnacjgbfhaaGreatDoor
open Go.RowKit Go.Proofs.Tryz
set_option maxRecDepth 8000
set_option maxHeartbeats 20000000
set_option linter.unusedVariables false
set_option linter.unusedSimpArgs false
theorem bsz (a : Array UInt8) : (ByteArray.mk a).size = a.size := rfl
def loopBodies : List (List UInt8) := [[40, 43, 32, 120, 56, 32, 40, 99, 97, 108, 108, 32, 102, 56, 32, 40, 45, 32, 120, 56, 32, 49, 41, 41, 41], [40, 99, 97, 108, 108, 32, 102, 56, 32, 40, 45, 32, 120, 56, 32, 49, 41, 41], [40, 42, 32, 120, 56, 32, 40, 99, 97, 108, 108, 32, 102, 56, 32, 40, 45, 32, 120, 56, 32, 49, 41, 41, 41], [40, 45, 32, 48, 32, 40, 99, 97, 108, 108, 32, 102, 56, 32, 40, 45, 32, 120, 56, 32, 49, 41, 41, 41]]
theorem l91Loop_d {q : Nat} {a : Option Addr} {L c p : Nat} {zs : List Int} {w : World} (h : Rd w q a L c p zs) (hp : p ≤ 900000) :
 Calls prog 73 #[.pointer (some ⟨q, 0, none⟩)] w fun e w' => Qt q a L c p zs 2000 3 w e w' := by
 have C1 := H_ (Kp (l := loopBodies) (N := 30) h (by omega) (by decide) (by decide) (by decide))
 clear h
 go_enter func73, ntmps73
 go_wp2_with fail
 refine (C1.out).mono ?_
 rintro e w1 ⟨s1, p1, rfl, a1, a2, hR1, ho1⟩
 have C2 := H_ (Kp (l := [[48], [49], [53]]) (N := 1) hR1 (by omega) (by decide) (by decide) (by decide))
 clear hR1
 go_wp2_with fail
 refine (C2.out).mono ?_
 rintro e w2 ⟨s2, p2, rfl, b1, b2, hR2, ho2⟩
 have C3 := H_ (Jh (n := 7) hR2 (by omega) (by omega))
 clear hR2
 go_wp2_with fail
 refine (C3.out).mono ?_
 rintro e w3 ⟨⟨k, rfl, hk0, hk1⟩, hR3, ho3⟩
 have C4 := H_ (l6Dec_any k (by omega) (by omega))
 go_wp2_with fail
 refine (C4.out _).mono ?_
 rintro e w4 ⟨⟨s4, rfl, hs4⟩, hb4⟩
 have HR4 := H_ (hR3.below hb4)
 have HO4 := H_ (((ho1.trans ho2).trans ho3).next hb4)
 go_wp2_with fail
 go_ret
 exact ⟨_, _, rfl, by simp [bsz]; omega, by omega, HR4.out, HO4.out⟩
theorem Tryz.infoStrD : (prog.info? 9).map (fun i => (i.zero, i.size, i.bytes)) = some (some (.string ⟨#[]⟩), 1, 16) := by kernel_rfl
theorem Z63 {w : World} {base : Nat} {e : TypeId} {size : Nat} {v : Value} {n : Nat} {xs : List Value} (h : w.ownsRow base e size v n xs) {k : Nat} (hk : v.ownBlock = some k) : base ≤ k ∧ k < w.heap.size := h.lt k hk
theorem Z0g {w wr w2 w3 : World} {row : Option Nat} (h : Below w.heap.size w wr) (h2 : Below wr.heap.size wr w2) (hg : w2.grownBy w3 row) (hr : ∀ k, row = some k → w.heap.size ≤ k) : Below w.heap.size w w3 :=
 have h12 := h.trans (h2.mono h.size)
 ⟨hg.os.trans h12.os, hg.tape.trans h12.tape, hg.output.trans h12.output, Nat.le_trans h12.size hg.size, fun k hk => (hg.block k (Nat.lt_of_lt_of_le hk h12.size) (fun e => by have := hr k e.symm; omega)).trans (h12.block k hk)⟩
theorem V5 {w : World} {B : Nat} {v : Value} {l : List (List UInt8)} (h : w.ownsRow B 9 1 v l.length (l.map Ye)) (hl : l.length ≤ 9223372036854775807) : Zo w v l := by
 rcases h.2 with ⟨rfl, h0⟩ | ⟨g, cap, cur, rfl, hb, hg, h1, h2, h3, h4⟩
 · exact ⟨none, 0, by rw [h0], hl, fun hne => absurd (List.eq_nil_of_length_eq_zero h0) hne⟩
 · exact ⟨_, cap, rfl, hl, fun _ => ⟨g, 0, rfl, Yv h⟩⟩
theorem Xv {w w' : World} {v : Value} {l : List Nm} (h : Zo w v l) (hb : Below w.heap.size w w') : Zo w' v l := by
 obtain ⟨p, c, rfl, h1, h2⟩ := h
 refine ⟨p, c, rfl, h1, fun hne => ?_⟩
 obtain ⟨r, off, rfl, h3⟩ := h2 hne
 refine ⟨r, off, rfl, h3.move (hb.block r ?_)⟩
 cases l with
 | nil => exact absurd rfl hne
 | cons x l =>
   have hc := h3 0 (Ye x) (by simp)
   by_cases hr : r < w.heap.size
   · exact hr
   · simp [World.cell?, Array.getElem?_eq_none (Nat.le_of_not_lt hr)] at hc
theorem Z5a {W : World} {b base : Nat} (h : W.heap[b]? = some (.cells #[] 9 (0, 0))) (hb : base ≤ b) : W.ownsRow base 9 1 (.slice (some ⟨b, 0, none⟩) 0 0) ([] : List Nm).length (([] : List Nm).map Ye) := ⟨rfl, .inr ⟨b, 0, _, rfl, hb, h, Nat.le_refl _, Nat.zero_le _, rfl, rfl⟩⟩
theorem Z40 (v1 v2 : Value) (l m : List Nm) (w : World) (h1 : Zo w v1 l) (h2 : Zo w v2 m) (hb : l.length + m.length ≤ 1000000) :
 Calls prog 33 #[v1, v2] w fun e w' => (∃ v, e = .returned v ∧ Zo w' v (l ++ m) ∧ ∀ k, v.ownBlock = some k → w.heap.size ≤ k ∧ k < w'.heap.size) ∧ Below w.heap.size w w' := by
 obtain ⟨i0, hi0, hz0, hz1, hz2⟩ := info_parts Tryz.infoStrD
 have H1 := H_ h1
 have H2 := H_ h2
 obtain ⟨p1, c1, rfl, -, -⟩ := h1
 obtain ⟨p2, c2, rfl, -, -⟩ := h2
 have HE : Hid ((w.alloc (.cells #[] 9)).ownsRow w.heap.size 9 1 (.slice (some ⟨w.heap.size, 0, none⟩) 0 0) ([] : List Nm).length (([] : List Nm).map Ye)) := H_ (Z5a (heap_alloc_new w _) (Nat.le_refl _))
 go_enter func33, ntmps33
 go_wp2_with (first | (at_builtin; refine Y4 _ rfl _ _ 23 rfl w.heap.size 9 i0 underlying23 hi0 hz0 hz1 hz2 _ l rfl ho3 _ m rfl (Xv H2.out hB3) (by omega) hs3 ?_; intro v4 w4 ho4 hg4 hv4) | (at_builtin; go_must (refine Y4 _ rfl _ _ 23 rfl w.heap.size 9 i0 underlying23 hi0 hz0 hz1 hz2 _ [] rfl HE.out _ l rfl (Xv H1.out (Z4 w _)) (by simp; omega) (by simp) ?_; intro v3 w3 ho3 hg3 hv3; have hB3 := Z0g (Below.refl _ w) (Z4 w _) hg3 (fun k hk => (Z63 HE.out hk).1); have hs3 := hB3.size; simp only [List.nil_append] at ho3)))
 go_ret
 have hB4 := Z0g hB3 (Below.refl _ _) hg4 (fun k hk => (Z63 ho3 hk).1)
 exact ⟨⟨v4, rfl, V5 ho4 (by simp; omega), fun k hk => ho4.lt k hk⟩, hB4⟩
theorem Zo.onlyD {w w' : World} {b : Nat} {v : Value} {l : List Nm} (h : Zo w v l) (ho : Only b w w') (hne : ∀ q, v.ownBlock = some q → q ≠ b ∧ q < w.heap.size) : Zo w' v l := Zo.move h (fun q hq => ho.block q (hne q hq).2 (hne q hq).1)
def ScL (w : World) (q : Nat) (v : Value) (l : List Nm) : Prop := Zo w v l ∧ ∀ k, v.ownBlock = some k → k ≠ q ∧ k < w.heap.size
theorem ScL.only {w w' : World} {q : Nat} {v : Value} {l : List Nm} (h : ScL w q v l) (ho : Only q w w') : ScL w' q v l := ⟨h.1.onlyD ho h.2, fun k hk => ⟨(h.2 k hk).1, Nat.lt_of_lt_of_le (h.2 k hk).2 ho.size⟩⟩
def Sc (w : World) (q : Nat) (v1 v2 : Value) (n : Nat) : Prop := ∃ ns ts, ScL w q v1 ns ∧ ScL w q v2 ts ∧ ns.length = ts.length ∧ ns.length ≤ n ∧ ∀ x ∈ ns, x.length ≤ 10
theorem Sc.only {w w' : World} {q : Nat} {v1 v2 : Value} {n : Nat} (h : Sc w q v1 v2 n) (ho : Only q w w') : Sc w' q v1 v2 n := by
 obtain ⟨ns, ts, h1, h2, h3⟩ := h
 exact ⟨ns, ts, h1.only ho, h2.only ho, h3⟩
theorem Sc.mono {w : World} {q : Nat} {v1 v2 : Value} {n m : Nat} (h : Sc w q v1 v2 n) (hn : n ≤ m) : Sc w q v1 v2 m := by
 obtain ⟨ns, ts, h1, h2, h3, h4, h5⟩ := h
 exact ⟨ns, ts, h1, h2, h3, by omega, h5⟩
theorem new3 (w : World) (a b c : Obj) : (((w.alloc a).alloc b).alloc c).heap[w.heap.size + 1 + 1]? = some c := by
 have := heap_alloc_new ((w.alloc a).alloc b) c
 rwa [show ((w.alloc a).alloc b).heap.size = w.heap.size + 1 + 1 by simp] at this
theorem Zo.shape {w : World} {v : Value} {l : List Nm} (h : Zo w v l) : ∃ p n c, v = .slice p n c := by
 obtain ⟨p, c, h1, -, -⟩ := h
 exact ⟨p, _, c, h1⟩
theorem Z1g {w : World} {b : Nat} {l : List Nm} {t : TypeId} (h : w.heap[b]? = some (.cells (l.map Ye).toArray t (0, 0))) (hl : l.length ≤ 1000) : Zo w (.slice (some ⟨b, 0, none⟩) l.length l.length) l :=
 ⟨_, _, rfl, by omega, fun _ => ⟨b, 0, rfl, fun j v hj => by rw [Nat.zero_add, Z2 h]; simpa using hj⟩⟩
theorem Z62 {w : World} {s : Nm} : Zo (w.alloc (.cells #[.string (bs s)] 9)) (.slice (some ⟨w.heap.size, 0, none⟩) 1 1) [s] := str_new (l := [s]) (by simp)
theorem Z0n (q : Nat) (v1 v2 : Value) (n : Nat) (name kind : Nm) (w : World) (h : Sc w q v1 v2 n) (hn : n ≤ 1000) (hname : name.length ≤ 10) (hq : q < w.heap.size) :
 Calls prog 72 #[.agg #[v1, v2], .string (bs name), .string (bs kind)] w fun e w' => (∃ u1 u2, e = .returned (.agg #[u1, u2]) ∧ Sc w' q u1 u2 (n + 1)) ∧ Below w.heap.size w w' := by
 obtain ⟨ns, ts, h1, h2, h3, h4, h5⟩ := h
 obtain ⟨p1, c1, rfl, -, -⟩ := id h1.1
 obtain ⟨p2, c2, rfl, -, -⟩ := id h2.1
 have CA : Hid (∀ W v, Below w.heap.size w W → Zo W v [name] → Calls prog 33 #[.slice p1 ns.length c1, v] W fun e w' => (∃ u, e = .returned u ∧ Zo w' u (ns ++ [name]) ∧ ∀ k, u.ownBlock = some k → W.heap.size ≤ k ∧ k < w'.heap.size) ∧ Below W.heap.size W w') := H_ (fun W v hW hv => Z40 _ v ns [name] W (h1.1.move (fun k hk => hW.block k (h1.2 k hk).2)) hv (by simp; omega))
 have CB : Hid (∀ W v, Below w.heap.size w W → Zo W v [kind] → Calls prog 33 #[.slice p2 ts.length c2, v] W fun e w' => (∃ u, e = .returned u ∧ Zo w' u (ts ++ [kind]) ∧ ∀ k, u.ownBlock = some k → W.heap.size ≤ k ∧ k < w'.heap.size) ∧ Below W.heap.size W w') := H_ (fun W v hW hv => Z40 _ v ts [kind] W (h2.1.move (fun k hk => hW.block k (h2.2 k hk).2)) hv (by simp; omega))
 have H3 := H_ h3
 have H5 := H_ h5
 obtain ⟨L1, hL1⟩ : ∃ L1, L1 = ns.length := ⟨_, rfl⟩
 rw [← hL1] at CA h4 H3 ⊢
 have HL1 := H_ hL1
 clear hL1
 clear h1 h2 h3 h5
 have HB0 := H_ (Z4 w (.cells #[.slice p1 L1 c1, .slice p2 ts.length c2] 72))
 obtain ⟨L2, hL2⟩ : ∃ L2, L2 = ts.length := ⟨_, rfl⟩
 rw [← hL2] at CB HB0 ⊢
 have HL2 := H_ hL2
 clear hL2
 have XA := heap_alloc_new w (.cells #[.slice p1 L1 c1, .slice p2 L2 c2] 72)
 have XR := Z9 w (.cells #[.slice p1 L1 c1, .slice p2 L2 c2] 72) (.cells #[.slice none 0 0, .slice none 0 0] 72)
 go_enter func72, ntmps72
 go_wp2_with fail
 have hbR : Below (w.alloc (.cells #[.slice p1 L1 c1, .slice p2 L2 c2] 72)).heap.size (w.alloc (.cells #[.slice p1 L1 c1, .slice p2 L2 c2] 72)) ((w.alloc (.cells #[.slice p1 L1 c1, .slice p2 L2 c2] 72)).alloc (.cells #[.slice none 0 0, .slice none 0 0] 72)) := Z4 _ _
 generalize hwx : w.alloc (.cells #[.slice p1 L1 c1, .slice p2 L2 c2] 72) = wx at *
 have hsx : Hid (wx.heap.size = w.heap.size + 1) := H_ (by rw [← hwx]; simp)
 have K : Hid (∀ W, Below wx.heap.size wx W → (fun W => Below wx.heap.size wx W ∧ W.cell? ⟨w.heap.size, 0, none⟩ = some (.slice p1 L1 c1) ∧ W.cell? ⟨w.heap.size, 1, none⟩ = some (.slice p2 L2 c2)) W) := H_ (fun W hW => by
  have y := Z1 hW (lt_of_block XA) XA
  exact ⟨hW, Z2 (j := 0) y, Z2 (j := 1) y⟩)
 have S0 := H_ (K.out _ hbR.drew)
 have hlR := lt_of_block XR
 clear hwx XA
 first | (go_region_held3 (fun W => Below wx.heap.size wx W ∧ W.cell? ⟨w.heap.size, 0, none⟩ = some (.slice p1 L1 c1) ∧ W.cell? ⟨w.heap.size, 1, none⟩ = some (.slice p2 L2 c2)) (first | exact S0.out | assumption | exact KASo K.out (And.left (by assumption)) | exact K.out _ ((hS7.1.setCell (show wx.heap.size ≤ w.heap.size + 1 from Nat.le_of_eq hsx.out) _).setCell (show wx.heap.size ≤ w.heap.size + 1 from Nat.le_of_eq hsx.out) _) | fail) (first | (go_at_call 33; have hh := And.left (by assumption : Below wx.heap.size wx _ ∧ _); first | ((with_reducible refine (CA.out _ _ ?_ ?_).mono ?_); (· exact HB0.out.trans (hh.mono HB0.out.size)); (· exact Z1g (l := [name]) (by first | assumption | exact Z9 _ _ _ | exact Z5 (Z9 _ _ _) | exact new3 _ _ _ _ | exact heap_alloc_new _ _ | exact Z5 (heap_alloc_new _ _)) (by simp)); rintro e w6 ⟨⟨u6, rfl, hu6, hk6⟩, hb6⟩; obtain ⟨pu6, nu6, cu6, rfl⟩ := Zo.shape hu6; have hB6 := hh.trans (hb6.mono hh.size); have hS6 := K.out _ hB6; have y6 := (by first | exact Z1 hb6 (lt_of_block XR) XR | exact Z1 hb6 (lt_of_block (Z5 XR)) (Z5 XR) | exact Z1 hb6 (lt_of_block (Z5 (Z5 XR))) (Z5 (Z5 XR)) : w6.heap[w.heap.size + 1]? = some (.cells #[.slice none 0 0, .slice none 0 0] 72 (0, 0))); try (have ysd := Z1 hb6 (lt_of_block (new3 _ _ _ _)) (new3 _ _ _ _)); try (have yse := Z1 hb6 (lt_of_block (Z5 (Z9 _ _ _))) (Z5 (Z9 _ _ _))); try (have ysa := Z1 hb6 (lt_of_block (Z5 (heap_alloc_new _ _))) (Z5 (heap_alloc_new _ _))); try (have ysb := Z1 hb6 (lt_of_block (Z9 _ _ _)) (Z9 _ _ _)); try (have ysc := Z1 hb6 (lt_of_block (heap_alloc_new _ _)) (heap_alloc_new _ _))) | ((with_reducible refine (CB.out _ _ ?_ ?_).mono ?_); (· exact HB0.out.trans (hh.mono HB0.out.size)); (· exact Z1g (l := [kind]) (by first | assumption | exact Z9 _ _ _ | exact Z5 (Z9 _ _ _) | exact new3 _ _ _ _ | exact heap_alloc_new _ _ | exact Z5 (heap_alloc_new _ _)) (by simp)); rintro e w7 ⟨⟨u7, rfl, hu7, hk7⟩, hb7⟩; obtain ⟨pu7, nu7, cu7, rfl⟩ := Zo.shape hu7; have hB7 := hh.trans (hb7.mono hh.size); have hS7 := K.out _ hB7; have y7 := (by first | exact Z1 hb7 (lt_of_block y6) y6 | exact Z1 hb7 (lt_of_block (Z5 y6)) (Z5 y6) : w7.heap[w.heap.size + 1]? = some (.cells #[.slice none 0 0, .slice none 0 0] 72 (0, 0))); obtain ⟨z0, z1⟩ := Zp y7; obtain ⟨f0, f1⟩ := Q5 y7; have hu8 : Zo w7 (.slice pu6 nu6 cu6) _ := Zo.move hu6 (fun k hk => by first | exact hb7.block k (hk6 k hk).2 | exact (hb7.block k (by have := (hk6 k hk).2; simp; omega)).trans (heap_alloc_old _ _ (hk6 k hk).2)))) | fail)) | fail
 all_goals
  go_wp2_with fail
  have kk := Qv (j := 1) (Qv (j := 0) y7 (.slice pu6 nu6 cu6)) (.slice pu7 nu7 cu7)
  obtain ⟨k0, k1⟩ := Zp kk
  have hx := hsx.out
  have s6 := hb6.size
  have s7 := hb7.size
  simp at s6 s7
  refine bodyPost_ret (v := .agg #[.slice pu6 nu6 cu6, .slice pu7 nu7 cu7]) (by simp [results, results72, go_sem, k0, k1]) rfl ?_
  refine ⟨⟨_, _, rfl, ns ++ [name], ts ++ [kind], ⟨Zo.move hu8 (fun k hk => ?_), fun k hk => ⟨?_, ?_⟩⟩, ⟨Zo.move hu7 (fun k hk => ?_), fun k hk => ⟨?_, ?_⟩⟩, ?_, ?_, ?_⟩, ?_⟩
  · have := (hk6 k hk).1
    try simp at this
    rw [Za _ (show k ≠ w.heap.size + 1 by omega), Za _ (show k ≠ w.heap.size + 1 by omega)]
  · have := (hk6 k hk).1
    try simp at this
    omega
  · have := (hk6 k hk).2
    simp
    omega
  · have := (hk7 k hk).1
    try simp at this
    rw [Za _ (show k ≠ w.heap.size + 1 by omega), Za _ (show k ≠ w.heap.size + 1 by omega)]
  · have := (hk7 k hk).1
    try simp at this
    omega
  · have := (hk7 k hk).2
    simp
    omega
  · have e1 := HL1.out
    have e2 := H3.out
    simp; omega
  · have e1 := HL1.out
    simp; omega
  · intro x hx
    rcases List.mem_append.1 hx with h | h
    · exact H5.out x h
    · simp only [List.mem_singleton] at h; subst h; exact hname
  · exact ((HB0.out.trans (hB7.mono HB0.out.size)).setCell (show w.heap.size ≤ w.heap.size + 1 by omega) _).setCell (show w.heap.size ≤ w.heap.size + 1 by omega) _
def Z79 : List Nm := [[97], [98], [120, 48]]
def enTs : List Nm := [[105], [40, 42, 32, 105, 32, 105, 41], [105]]
def EnPost (q : Nat) (a : Option Addr) (L c p : Nat) (zs : List Int) (w : World) (e : Ending) (w' : World) : Prop :=
 ∃ (v1 v2 : Value) (ns ts : List Nm), e = .returned (.tuple #[v1, v2]) ∧ ScL w' q v1 ns ∧ ScL w' q v2 ts ∧ (ns.length ≤ 4 ∧ ts.length ≤ 4 ∧ (∀ x ∈ ns, x.length ≤ 7) ∧ ∀ x ∈ ts, x.length ≤ 7) ∧ Rd w' q a L c (p + 1) zs ∧ Only q w w'
theorem str_tail {w : World} {b : Nat} {x : Nm} {l : List Nm} {t : TypeId} (h : w.heap[b]? = some (.cells ((x :: l).map Ye).toArray t (0, 0))) (hl : l.length ≤ 1000) : Zo w (.slice (some ⟨b, 1, none⟩) l.length l.length) l :=
 ⟨_, _, rfl, by omega, fun _ => ⟨b, 1, rfl, fun j v hj => by rw [Z2 h]; rw [show 1 + j = j + 1 by omega]; simpa using hj⟩⟩
theorem ScL.onlyB {w w' : World} {q : Nat} {v : Value} {l : List Nm} (h : ScL w q v l) (ho : Below w.heap.size w w') : ScL w' q v l := ⟨Xv h.1 ho, fun k hk => ⟨(h.2 k hk).1, Nat.lt_of_lt_of_le (h.2 k hk).2 ho.size⟩⟩
theorem l91Env_d {q : Nat} {a : Option Addr} {L c p : Nat} {zs : List Int} {w : World} (h : Rd w q a L c p zs) (hp : p ≤ 1000000) :
 Calls prog 13 #[.pointer (some ⟨q, 0, none⟩)] w fun e w' => EnPost q a L c p zs w e w' := by
 have hq : q < w.heap.size := lt_of_block h.blk
 have hbA := Zi w (.cells #[.string ⟨#[97]⟩, .string ⟨#[98]⟩, .string ⟨#[120, 48]⟩] 9) (.cells #[.string ⟨#[105]⟩, .string ⟨#[40, 42, 32, 105, 32, 105, 41]⟩, .string ⟨#[105]⟩] 9)
 have CP := H_ (Jh (n := 12) (h.below hbA) hp (by omega))
 have y0 : ((w.alloc (.cells #[.string ⟨#[97]⟩, .string ⟨#[98]⟩, .string ⟨#[120, 48]⟩] 9)).alloc (.cells #[.string ⟨#[105]⟩, .string ⟨#[40, 42, 32, 105, 32, 105, 41]⟩, .string ⟨#[105]⟩] 9)).heap[w.heap.size]? = some (.cells (Z79.map Ye).toArray 9 (0, 0)) := Z5 (heap_alloc_new w _)
 have y1 : ((w.alloc (.cells #[.string ⟨#[97]⟩, .string ⟨#[98]⟩, .string ⟨#[120, 48]⟩] 9)).alloc (.cells #[.string ⟨#[105]⟩, .string ⟨#[40, 42, 32, 105, 32, 105, 41]⟩, .string ⟨#[105]⟩] 9)).heap[w.heap.size + 1]? = some (.cells (enTs.map Ye).toArray 9 (0, 0)) := Z9 w _ _
 have hs0 := lt_of_block y0
 have hs1 := lt_of_block y1
 have HT0 := H_ (str_tail (x := [105]) (l := [[40, 42, 32, 105, 32, 105, 41], [105]]) y1 (by decide))
 have HN0 : Hid (ScL _ q (.slice (some ⟨w.heap.size, 0, none⟩) 3 3) Z79) := H_ ⟨Z1g (l := Z79) y0 (by decide), fun k hk => by simp [Value.ownBlock] at hk; subst hk; exact ⟨by omega, hs0⟩⟩
 have HT1 : Hid (ScL _ q (.slice (some ⟨w.heap.size + 1, 0, none⟩) 3 3) enTs) := H_ ⟨Z1g (l := enTs) y1 (by decide), fun k hk => by simp [Value.ownBlock] at hk; subst hk; exact ⟨by omega, hs1⟩⟩
 have HT2 : Hid (ScL _ q (.slice (some ⟨w.heap.size + 1, 1, none⟩) 2 2) [[40, 42, 32, 105, 32, 105, 41], [105]]) := H_ ⟨HT0.out, fun k hk => by simp [Value.ownBlock] at hk; subst hk; exact ⟨by omega, hs1⟩⟩
 have HOA := H_ (Only.of (b := q) hbA)
 clear h y0 y1 hbA hs0 hs1 HT0
 go_enter func13, ntmps13
 go_wp2_with fail
 refine (CP.out).mono ?_
 rintro e w2 ⟨⟨m, rfl, hm0, hm1⟩, hR2, ho2⟩
 have HN2 := H_ (HN0.out.only ho2)
 have HS2 := H_ (HT1.out.only ho2)
 have HS3 := H_ (HT2.out.only ho2)
 have HO2 := H_ (HOA.out.trans ho2)
 have HR2 := H_ hR2
 clear CP HN0 HT1 HT2 HOA ho2 hR2
 by_cases hm : m = 1 ∨ m = 2
 · have CA : Hid (∀ x : Nm, ∀ W v, Below w2.heap.size w2 W → Zo W v [x] → Calls prog 33 #[.slice (some ⟨w.heap.size, 0, none⟩) 3 3, v] W fun e w' => (∃ u, e = .returned u ∧ Zo w' u (Z79 ++ [x]) ∧ ∀ k, u.ownBlock = some k → W.heap.size ≤ k ∧ k < w'.heap.size) ∧ Below W.heap.size W w') := H_ (fun x W v hW hv => Z40 _ v Z79 [x] W ((HN2.out.onlyB hW).1) hv (by simp [Z79]))
   have CB : Hid (∀ x : Nm, ∀ W v, Below w2.heap.size w2 W → Zo W v [x] → Calls prog 33 #[.slice (some ⟨w.heap.size + 1, 0, none⟩) 3 3, v] W fun e w' => (∃ u, e = .returned u ∧ Zo w' u (enTs ++ [x]) ∧ ∀ k, u.ownBlock = some k → W.heap.size ≤ k ∧ k < w'.heap.size) ∧ Below W.heap.size W w') := H_ (fun x W v hW hv => Z40 _ v enTs [x] W ((HS2.out.onlyB hW).1) hv (by simp [enTs]))
   have hq2 := lt_of_block HR2.out.blk
   have FIN : Hid (∀ (x y : Nm) (u1 u2 : Value) (w6 w7 : World), x.length ≤ 7 → y.length ≤ 7 → Zo w7 u1 (Z79 ++ [x]) → Zo w7 u2 (enTs ++ [y]) → (∀ k, u1.ownBlock = some k → w2.heap.size ≤ k ∧ k < w7.heap.size) → (∀ k, u2.ownBlock = some k → w2.heap.size ≤ k ∧ k < w7.heap.size) → Below w2.heap.size w2 w7 → EnPost q a L c p zs w (.returned (.tuple #[u1, u2])) w7) := H_ (fun x y u1 u2 w6 w7 hx hy h1 h2 k1 k2 hb =>
    ⟨u1, u2, _, _, rfl, ⟨h1, fun k hk => ⟨by have := (k1 k hk).1; omega, (k1 k hk).2⟩⟩, ⟨h2, fun k hk => ⟨by have := (k2 k hk).1; omega, (k2 k hk).2⟩⟩, ⟨by simp [Z79], by simp [enTs], fun z hz => by
      rcases List.mem_append.1 hz with hz | hz
      · exact (by decide : ∀ z ∈ Z79, z.length ≤ 7) z hz
      · rw [List.mem_singleton] at hz; rw [hz]; exact hx, fun z hz => by
      rcases List.mem_append.1 hz with hz | hz
      · exact (by decide : ∀ z ∈ enTs, z.length ≤ 7) z hz
      · rw [List.mem_singleton] at hz; rw [hz]; exact hy⟩, HR2.out.below hb, HO2.out.trans (Only.of hb)⟩)
   rcases hm with rfl | rfl
   · have CA1 := H_ (CA.out [108, 101, 116])
     have CB1 := H_ (CB.out [105])
     clear CA CB HN2 HS2 HS3 HO2 HR2
     go_wp2_with fail
     refine (CA1.out _ _ (Z4 w2 _) (Z62 (s := [108, 101, 116]))).mono ?_
     rintro e w6 ⟨⟨u6, rfl, hu6, hk6⟩, hb6⟩
     obtain ⟨pu6, nu6, cu6, rfl⟩ := Zo.shape hu6
     have hB6 := (Z4 w2 (.cells #[.string (bs [108, 101, 116])] 9)).trans (hb6.mono (Z4 w2 (.cells #[.string (bs [108, 101, 116])] 9)).size)
     go_wp2_with fail
     refine (CB1.out _ _ (hB6.alloc hB6.size _) (Z62 (s := [105]))).mono ?_
     rintro e w7 ⟨⟨u7, rfl, hu7, hk7⟩, hb7⟩
     obtain ⟨pu7, nu7, cu7, rfl⟩ := Zo.shape hu7
     have hB6a := hB6.alloc hB6.size (.cells #[.string (bs [105])] 9)
     have hB7 := hB6a.trans (hb7.mono hB6a.size)
     have hu8 : Zo w7 (.slice pu6 nu6 cu6) (Z79 ++ [[108, 101, 116]]) := Zo.move hu6 (fun k hk => (hb7.block k (by have := (hk6 k hk).2; simp; omega)).trans (heap_alloc_old _ _ (hk6 k hk).2))
     have s6 := hb6.size
     have s7 := hb7.size
     have z6 := hB6.size
     go_wp2_with fail
     go_ret2
     simp at s6 s7
     exact FIN.out [108, 101, 116] [105] _ _ w7 _ (by decide) (by decide) hu8 hu7 (fun k hk => by have h1 := hk6 k hk; simp at h1; omega) (fun k hk => by have h1 := hk7 k hk; simp at h1; omega) hB7
   · have CA1 := H_ (CA.out [97])
     have CB1 := H_ (CB.out [40, 62, 32, 105, 32, 105, 41])
     clear CA CB HN2 HS2 HS3 HO2 HR2
     go_wp2_with fail
     refine (CA1.out _ _ (Z4 w2 _) (Z62 (s := [97]))).mono ?_
     rintro e w6 ⟨⟨u6, rfl, hu6, hk6⟩, hb6⟩
     obtain ⟨pu6, nu6, cu6, rfl⟩ := Zo.shape hu6
     have hB6 := (Z4 w2 (.cells #[.string (bs [97])] 9)).trans (hb6.mono (Z4 w2 (.cells #[.string (bs [97])] 9)).size)
     go_wp2_with fail
     refine (CB1.out _ _ (hB6.alloc hB6.size _) (Z62 (s := [40, 62, 32, 105, 32, 105, 41]))).mono ?_
     rintro e w7 ⟨⟨u7, rfl, hu7, hk7⟩, hb7⟩
     obtain ⟨pu7, nu7, cu7, rfl⟩ := Zo.shape hu7
     have hB6a := hB6.alloc hB6.size (.cells #[.string (bs [40, 62, 32, 105, 32, 105, 41])] 9)
     have hB7 := hB6a.trans (hb7.mono hB6a.size)
     have hu8 : Zo w7 (.slice pu6 nu6 cu6) (Z79 ++ [[97]]) := Zo.move hu6 (fun k hk => (hb7.block k (by have := (hk6 k hk).2; simp; omega)).trans (heap_alloc_old _ _ (hk6 k hk).2))
     have s6 := hb6.size
     have s7 := hb7.size
     have z6 := hB6.size
     go_wp2_with fail
     go_ret2
     simp at s6 s7
     exact FIN.out [97] [40, 62, 32, 105, 32, 105, 41] _ _ w7 _ (by decide) (by decide) hu8 hu7 (fun k hk => by have h1 := hk6 k hk; simp at h1; omega) (fun k hk => by have h1 := hk7 k hk; simp at h1; omega) hB7
 · by_cases hk : m = 0
   · subst hk
     go_wp2_with fail
     go_quiet (fail)
     go_wp2_with fail
     go_ret2
     exact ⟨_, _, _, _, rfl, HN2.out, HS3.out, ⟨by decide, by decide, by decide, by decide⟩, ⟨HR2.out.blk, HR2.out.row, HR2.out.ne, HR2.out.len⟩, by have h := HO2.out; exact ⟨h.os, h.tape, h.output, h.size, h.block⟩⟩
   · have m0 : (m == 0) = false := by simpa using hk
     have m1 : (m == 1) = false := by simp; omega
     have m2 : (m == 2) = false := by simp; omega
     have n1 : ¬ m = 1 := by omega
     have n2 : ¬ m = 2 := by omega
     go_wp2_with fail
     go_ret2
     exact ⟨_, _, _, _, rfl, HN2.out, HS2.out, ⟨by decide, by decide, by decide, by decide⟩, HR2.out, HO2.out⟩
def En (w : World) (v1 v2 : Value) (ns ts : List Nm) (w' : World) : Prop := Zo w' v1 ns ∧ Zo w' v2 ts ∧ (ns.length ≤ 4 ∧ ts.length ≤ 4 ∧ (∀ x ∈ ns, x.length ≤ 7) ∧ ∀ x ∈ ts, x.length ≤ 7) ∧ Below w.heap.size w w'
end Go.Proofs.YtmgepnacjgbfhaaGreatDoor
