/- The reference: decimals. The reference's draws: a function that counts down. Rows of texts of the call's own; lists with more texts behind. The reference's draws: expressions. The program: new names. -/
import Derived.Test.YtfknoigbkleanaaGreatDoorxDraw3
import Derived.Test.YtfknoigbkleanaaGreatDoorxPureT
import Derived.Test.YtfknoigbkleanaaGreatDoorxNumIM
import Derived.Deep.RegionHeld3
import Derived.OwnWalk
import Derived.Deep.LoopGhost
import Derived.Test.YtfknoigbkleanaaGreatDoorxPureXM
import Derived.Test.YtfknoigbkleanaaGreatDoorxImpl2r
import Derived.Test.YtfknoigbkleanaaGreatDoorxI2j
namespace Go.Proofs.YtfknoigbkleanaaGreatDoor
open Go.RowKit Go.Proofs.Tryz
set_option maxRecDepth 8000
set_option maxHeartbeats 20000000
set_option linter.unusedVariables false
set_option linter.unusedSimpArgs false
theorem dig_one (n : Int) (h0 : 0 ≤ n) (h1 : n < 10) : strOfNums [48 + n] = bs [UInt8.ofNat (48 + n.toNat)] := by
 simp only [strOfNums, List.map_cons, List.map_nil, bs]
 rw [show (48 + n).toNat = 48 + n.toNat from by omega]
theorem Z2b (W : World) (b : Nat) (x : Int) (h : W.heap[b]? = some (.cells #[.int .u8 x] 5 (0, 0))) : (convert 22 9 (.slice (some ⟨b, 0, none⟩) 1 1)).run prog W = .ok (.string (strOfNums [x])) W := by
 refine run_convert_bytes_arg (P := prog) W 22 5 underlying22 underlying5 b 0 1 1 [x] rfl (fun i hi => ?_) 9 underlying9
 obtain rfl : i = 0 := by omega
 rw [Z2 h]; simp
theorem Z6a : ∀ (n : Nat), n ≤ 1000000 → (Lib.decDigits n).length ≤ 100 := fun n hn => by
 have h : ∀ (k n : Nat), n < 10 ^ k → (Lib.decDigits n).length ≤ k + 1 := by
  intro k
  induction k with
  | zero => intro n h; rw [Lib.decDigits, dif_pos (by simp at h; omega)]; simp
  | succ k ih =>
    intro n h
    rw [Lib.decDigits]
    split
    · simp
    · have := ih (n / 10) (by rw [Nat.pow_succ] at h; omega)
      simp; omega
 have := h 7 n (by omega)
 omega
theorem l6Dec_c : ∀ (f n : Nat), n < f → n ≤ 1000000 → ∀ w : World, Calls prog 163 #[.int .i64 (n : Int)] w fun e w' => e = .returned (.string (bs (Lib.decDigits n))) ∧ Below w.heap.size w w'
 | 0, n, hf, hn, w => by omega
 | f + 1, n, hf, hn, w => by
   by_cases h : n < 10
   · rw [Lib.decDigits_one h]
     have HD := H_ (show strOfNums [48 + (n : Int)] = bs [UInt8.ofNat (48 + n)] from dig_one n (by omega) (by omega))
     have hconv := Z2b (w.alloc (.cells #[.int .u8 (48 + (n : Int))] 5)) w.heap.size (48 + (n : Int)) (heap_alloc_new w _)
     go_enter func163, ntmps163
     go_wp2_with fail
     go_ret
     exact ⟨by rw [← HD.out]; rfl, Z4 _ _⟩
   · have C := H_ (fun W => l6Dec_c f (n / 10) (by omega) (by omega) W)
     have e1 : ((n / 10 : Nat) : Int) = (n : Int) / 10 := by omega
     rw [e1] at C
     have HD := H_ (show bs (Lib.decDigits n) = bs (Lib.decDigits (n / 10)) ++ strOfNums [48 + (n : Int) % 10] by
      rw [Lib.decDigits, dif_neg h, dig_one _ (by omega) (by omega), Xt, show ((n : Int) % 10).toNat = n % 10 by omega])
     rw [HD.out]
     have hs1 : (strOfNums [48 + (n : Int) % 10]).size = 1 := strOfNums_size _
     have hlen : (bs (Lib.decDigits (n / 10))).size ≤ 100 := by rw [Y3]; exact Z6a _ (by omega)
     obtain ⟨D, hD⟩ : ∃ q, q = bs (Lib.decDigits (n / 10)) := ⟨_, rfl⟩
     rw [← hD] at C hlen ⊢
     obtain ⟨S1, hS1⟩ : ∃ q, q = strOfNums [48 + (n : Int) % 10] := ⟨_, rfl⟩
     have hm : 0 ≤ (n : Int) % 10 ∧ (n : Int) % 10 < 10 := by omega
     have hq : 0 ≤ (n : Int) / 10 ∧ (n : Int) / 10 ≤ 100000 := by omega
     have h10 : ¬ (n : Int) < 10 := by omega
     have w1 : IntKind.i64.wrap ((n : Int) / 10) = (n : Int) / 10 := by rw [IntKind.wrap_i64]; omega
     have w2 : (n : Int).tmod 10 = (n : Int) % 10 := Int.tmod_eq_emod_of_nonneg (by omega)
     have w3 : IntKind.i64.wrap (48 + (n : Int) % 10) = 48 + (n : Int) % 10 := by rw [IntKind.wrap_i64]; omega
     have w4 : IntKind.u8.wrap (48 + (n : Int) % 10) = 48 + (n : Int) % 10 := by rw [IntKind.wrap_u8]; omega
     have hcA : ∀ W : World, (convert 22 9 (.slice (some ⟨W.heap.size, 0, none⟩) 1 1)).run prog (W.alloc (.cells #[.int .u8 (48 + (n : Int) % 10)] 5)) = .ok (.string S1) (W.alloc (.cells #[.int .u8 (48 + (n : Int) % 10)] 5)) := fun W => by rw [hS1]; exact Z2b _ _ _ (heap_alloc_new W _)
     have hcC : (convert 22 9 (.slice (some ⟨w.heap.size, 0, none⟩) 1 1)).run prog (w.alloc (.cells #[.int .u8 (48 + (n : Int) % 10)] 5)).drew = .ok (.string S1) (w.alloc (.cells #[.int .u8 (48 + (n : Int) % 10)] 5)).drew := by rw [hS1]; exact Z2b _ _ _ (heap_alloc_new w _)
     have hcD : (convert 22 9 (.slice (some ⟨w.heap.size, 0, none⟩) 1 1)).run prog (w.drew.alloc (.cells #[.int .u8 (48 + (n : Int) % 10)] 5)) = .ok (.string S1) (w.drew.alloc (.cells #[.int .u8 (48 + (n : Int) % 10)] 5)) := by rw [hS1]; exact Z2b _ _ _ (heap_alloc_new w _)
     have HS1 := H_ hS1
     rw [← hS1] at hs1 ⊢
     clear hS1
     have gq1 : ¬ (9223372036854775807 : Nat) < D.size + S1.size := by omega
     have gq2 : ¬ (9223372036854775807 : Nat) < D.size + 1 := by omega
     clear HD hD
     have K : Hid (∀ W, Below w.heap.size w W → (fun W => Below w.heap.size w W ∧ True) W) := H_ (fun W hW => ⟨hW, trivial⟩)
     have S0 := H_ (K.out _ ((Below.refl _ w).drew))
     go_enter func163, ntmps163
     go_wp2_with fail
     first | (go_region_with (first | (go_at_call 163; (with_reducible refine (C.out _).mono ?_); rintro e w2 ⟨rfl, hb2⟩; first | (have hcB : (convert 22 9 (.slice (some ⟨w.heap.size, 0, none⟩) 1 1)).run prog w2 = .ok (.string S1) w2 := (by rw [HS1.out]; exact Z2b _ _ _ (Z1 hb2 (lt_of_block (heap_alloc_new w _)) (heap_alloc_new w _)))) | (have hcE : ∀ (W : World), (convert 22 9 (.slice (some ⟨W.heap.size, 0, none⟩) 1 1)).run prog (W.alloc (.cells #[.int .u8 (48 + (n : Int) % 10)] 5)) = .ok (.string S1) (W.alloc (.cells #[.int .u8 (48 + (n : Int) % 10)] 5)) := hcA)))) | fail
     all_goals
      go_wp2_with fail
      go_ret
      first
       | exact ⟨rfl, (Z4 w _).trans (hb2.mono (by simp))⟩
       | exact ⟨rfl, Below.trans (Z4 w _).drew (hb2.mono (by simp))⟩
       | exact ⟨rfl, hb2.alloc hb2.size _⟩
       | exact ⟨rfl, (show Below w.heap.size w w2 from ⟨hb2.os, hb2.tape, hb2.output, hb2.size, hb2.block⟩).alloc hb2.size _⟩
       | exact ⟨rfl, ⟨hb2.os, hb2.tape, hb2.output, hb2.size, hb2.block⟩⟩
theorem l6Dec_any (n : Int) (h1 : -1000 ≤ n) (h2 : n ≤ 1000) (w : World) : Calls prog 163 #[.int .i64 n] w fun e w' => (∃ s : ByteArray, e = .returned (.string s) ∧ s.size ≤ 1000) ∧ Below w.heap.size w w' := by
 by_cases hn : 0 ≤ n
 · obtain ⟨m, rfl⟩ : ∃ m : Nat, n = (m : Int) := ⟨n.toNat, by omega⟩
   exact (l6Dec_c (m + 1) m (by omega) (by omega) w).mono fun e w' ⟨h3, h4⟩ => ⟨⟨_, h3, by rw [Y3]; have := Z6a m (by omega); omega⟩, h4⟩
 · obtain ⟨m, hm⟩ : ∃ m : Nat, -n = (m : Int) := ⟨(-n).toNat, by omega⟩
   have C := H_ (fun W => l6Dec_c (m + 1) m (by omega) (by omega) W)
   unfold Hid at C
   rw [← hm] at C
   have C := H_ C
   have hlen : (bs (Lib.decDigits m)).size ≤ 100 := by rw [Y3]; exact Z6a m (by omega)
   have k1 : IntKind.i64.wrap (-n) = -n := by rw [IntKind.wrap_i64]; omega
   have k2 : ¬ n < -9223372036854775807 := by omega
   have k3 : n < 0 := by omega
   clear hm
   generalize bs (Lib.decDigits m) = D at *
   go_enter func163, ntmps163
   go_wp2_with fail
   refine (C.out _).mono ?_
   rintro e w2 ⟨rfl, hb2⟩
   go_wp2_with fail
   go_ret
   exact ⟨⟨_, rfl, by have y : (⟨#[45]⟩ : ByteArray).size = 1 := rfl; simp; omega⟩, hb2⟩
theorem bsz (a : Array UInt8) : (ByteArray.mk a).size = a.size := rfl
def loopBodies : List (List UInt8) := [[40, 43, 32, 120, 56, 32, 40, 99, 97, 108, 108, 32, 102, 56, 32, 40, 45, 32, 120, 56, 32, 49, 41, 41, 41], [40, 99, 97, 108, 108, 32, 102, 56, 32, 40, 45, 32, 120, 56, 32, 49, 41, 41], [40, 42, 32, 120, 56, 32, 40, 99, 97, 108, 108, 32, 102, 56, 32, 40, 45, 32, 120, 56, 32, 49, 41, 41, 41], [40, 45, 32, 48, 32, 40, 99, 97, 108, 108, 32, 102, 56, 32, 40, 45, 32, 120, 56, 32, 49, 41, 41, 41]]
theorem l91Loop_d {q : Nat} {a : Option Addr} {L c p : Nat} {zs : List Int} {w : World} (h : Rd w q a L c p zs) (hp : p ≤ 900000) :
 Calls prog 135 #[.pointer (some ⟨q, 0, none⟩)] w fun e w' => J1 q a L c p zs 2000 3 w e w' := by
 have C1 := H_ (V5 (l := loopBodies) (N := 30) h (by omega) (by decide) (by decide) (by decide))
 clear h
 go_enter func135, ntmps135
 go_wp2_with fail
 refine (C1.out).mono ?_
 rintro e w1 ⟨s1, p1, rfl, a1, a2, hR1, ho1⟩
 have C2 := H_ (V5 (l := [[48], [49], [53]]) (N := 1) hR1 (by omega) (by decide) (by decide) (by decide))
 clear hR1
 go_wp2_with fail
 refine (C2.out).mono ?_
 rintro e w2 ⟨s2, p2, rfl, b1, b2, hR2, ho2⟩
 have C3 := H_ (Jm (n := 7) hR2 (by omega) (by omega))
 clear hR2
 go_wp2_with fail
 refine (C3.out).mono ?_
 rintro e w3 ⟨⟨k, rfl, hk0, hk1⟩, hR3, ho3⟩
 have C4 := H_ (l6Dec_any k (by omega) (by omega))
 go_wp2_with fail
 refine (C4.out _).mono ?_
 rintro e w4 ⟨⟨s4, rfl, hs4⟩, hb4⟩
 have HR4 := H_ (hR3.below hb4)
 have HO4 := H_ (((ho1.trans ho2).trans ho3).next hb4)
 go_wp2_with fail
 go_ret
 exact ⟨_, _, rfl, by simp [bsz]; omega, by omega, HR4.out, HO4.out⟩
theorem Tryz.infoStrD : (prog.info? 9).map (fun i => (i.zero, i.size, i.bytes)) = some (some (.string ⟨#[]⟩), 1, 16) := by kernel_rfl
theorem Kc {w : World} {base : Nat} {e : TypeId} {size : Nat} {v : Value} {n : Nat} {xs : List Value} (h : w.ownsRow base e size v n xs) {k : Nat} (hk : v.ownBlock = some k) : base ≤ k ∧ k < w.heap.size := h.lt k hk
theorem Xh {w wr w2 w3 : World} {row : Option Nat} (h : Below w.heap.size w wr) (h2 : Below wr.heap.size wr w2) (hg : w2.grownBy w3 row) (hr : ∀ k, row = some k → w.heap.size ≤ k) : Below w.heap.size w w3 :=
 have h12 := h.trans (h2.mono h.size)
 ⟨hg.os.trans h12.os, hg.tape.trans h12.tape, hg.output.trans h12.output, Nat.le_trans h12.size hg.size, fun k hk => (hg.block k (Nat.lt_of_lt_of_le hk h12.size) (fun e => by have := hr k e.symm; omega)).trans (h12.block k hk)⟩
theorem Qs {w : World} {B : Nat} {v : Value} {l : List (List UInt8)} (h : w.ownsRow B 9 1 v l.length (l.map Yc)) (hl : l.length ≤ 9223372036854775807) : Zl w v l := by
 rcases h.2 with ⟨rfl, h0⟩ | ⟨g, cap, cur, rfl, hb, hg, h1, h2, h3, h4⟩
 · exact ⟨none, 0, by rw [h0], hl, fun hne => absurd (List.eq_nil_of_length_eq_zero h0) hne⟩
 · exact ⟨_, cap, rfl, hl, fun _ => ⟨g, 0, rfl, Yx h⟩⟩
theorem Yw {w w' : World} {v : Value} {l : List Nm} (h : Zl w v l) (hb : Below w.heap.size w w') : Zl w' v l := by
 obtain ⟨p, c, rfl, h1, h2⟩ := h
 refine ⟨p, c, rfl, h1, fun hne => ?_⟩
 obtain ⟨r, off, rfl, h3⟩ := h2 hne
 refine ⟨r, off, rfl, h3.move (hb.block r ?_)⟩
 cases l with
 | nil => exact absurd rfl hne
 | cons x l =>
   have hc := h3 0 (Yc x) (by simp)
   by_cases hr : r < w.heap.size
   · exact hr
   · simp [World.cell?, Array.getElem?_eq_none (Nat.le_of_not_lt hr)] at hc
theorem Jn {W : World} {b base : Nat} (h : W.heap[b]? = some (.cells #[] 9 (0, 0))) (hb : base ≤ b) : W.ownsRow base 9 1 (.slice (some ⟨b, 0, none⟩) 0 0) ([] : List Nm).length (([] : List Nm).map Yc) := ⟨rfl, .inr ⟨b, 0, _, rfl, hb, h, Nat.le_refl _, Nat.zero_le _, rfl, rfl⟩⟩
theorem Z47 (v1 v2 : Value) (l m : List Nm) (w : World) (h1 : Zl w v1 l) (h2 : Zl w v2 m) (hb : l.length + m.length ≤ 1000000) :
 Calls prog 81 #[v1, v2] w fun e w' => (∃ v, e = .returned v ∧ Zl w' v (l ++ m) ∧ ∀ k, v.ownBlock = some k → w.heap.size ≤ k ∧ k < w'.heap.size) ∧ Below w.heap.size w w' := by
 obtain ⟨i0, hi0, hz0, hz1, hz2⟩ := info_parts Tryz.infoStrD
 have H1 := H_ h1
 have H2 := H_ h2
 obtain ⟨p1, c1, rfl, -, -⟩ := h1
 obtain ⟨p2, c2, rfl, -, -⟩ := h2
 have HE : Hid ((w.alloc (.cells #[] 9)).ownsRow w.heap.size 9 1 (.slice (some ⟨w.heap.size, 0, none⟩) 0 0) ([] : List Nm).length (([] : List Nm).map Yc)) := H_ (Jn (heap_alloc_new w _) (Nat.le_refl _))
 go_enter func81, ntmps81
 go_wp2_with (first | (at_builtin; refine Zk _ rfl _ _ 23 rfl w.heap.size 9 i0 underlying23 hi0 hz0 hz1 hz2 _ l rfl ho3 _ m rfl (Yw H2.out hB3) (by omega) hs3 ?_; intro v4 w4 ho4 hg4 hv4) | (at_builtin; go_must (refine Zk _ rfl _ _ 23 rfl w.heap.size 9 i0 underlying23 hi0 hz0 hz1 hz2 _ [] rfl HE.out _ l rfl (Yw H1.out (Z4 w _)) (by simp; omega) (by simp) ?_; intro v3 w3 ho3 hg3 hv3; have hB3 := Xh (Below.refl _ w) (Z4 w _) hg3 (fun k hk => (Kc HE.out hk).1); have hs3 := hB3.size; simp only [List.nil_append] at ho3)))
 go_ret
 have hB4 := Xh hB3 (Below.refl _ _) hg4 (fun k hk => (Kc ho3 hk).1)
 exact ⟨⟨v4, rfl, Qs ho4 (by simp; omega), fun k hk => ho4.lt k hk⟩, hB4⟩
theorem Zl.onlyD {w w' : World} {b : Nat} {v : Value} {l : List Nm} (h : Zl w v l) (ho : Only b w w') (hne : ∀ q, v.ownBlock = some q → q ≠ b ∧ q < w.heap.size) : Zl w' v l := Zl.move h (fun q hq => ho.block q (hne q hq).2 (hne q hq).1)
def ScL (w : World) (q : Nat) (v : Value) (l : List Nm) : Prop := Zl w v l ∧ ∀ k, v.ownBlock = some k → k ≠ q ∧ k < w.heap.size
theorem ScL.only {w w' : World} {q : Nat} {v : Value} {l : List Nm} (h : ScL w q v l) (ho : Only q w w') : ScL w' q v l := ⟨h.1.onlyD ho h.2, fun k hk => ⟨(h.2 k hk).1, Nat.lt_of_lt_of_le (h.2 k hk).2 ho.size⟩⟩
def Sc (w : World) (q : Nat) (v1 v2 : Value) (n : Nat) : Prop := ∃ ns ts, ScL w q v1 ns ∧ ScL w q v2 ts ∧ ns.length = ts.length ∧ ns.length ≤ n ∧ ∀ x ∈ ns, x.length ≤ 10
theorem Sc.only {w w' : World} {q : Nat} {v1 v2 : Value} {n : Nat} (h : Sc w q v1 v2 n) (ho : Only q w w') : Sc w' q v1 v2 n := by
 obtain ⟨ns, ts, h1, h2, h3⟩ := h
 exact ⟨ns, ts, h1.only ho, h2.only ho, h3⟩
theorem Sc.mono {w : World} {q : Nat} {v1 v2 : Value} {n m : Nat} (h : Sc w q v1 v2 n) (hn : n ≤ m) : Sc w q v1 v2 m := by
 obtain ⟨ns, ts, h1, h2, h3, h4, h5⟩ := h
 exact ⟨ns, ts, h1, h2, h3, by omega, h5⟩
theorem new3 (w : World) (a b c : Obj) : (((w.alloc a).alloc b).alloc c).heap[w.heap.size + 1 + 1]? = some c := by
 have := heap_alloc_new ((w.alloc a).alloc b) c
 rwa [show ((w.alloc a).alloc b).heap.size = w.heap.size + 1 + 1 by simp] at this
theorem Zl.shape {w : World} {v : Value} {l : List Nm} (h : Zl w v l) : ∃ p n c, v = .slice p n c := by
 obtain ⟨p, c, h1, -, -⟩ := h
 exact ⟨p, _, c, h1⟩
theorem Z1n {w : World} {b : Nat} {l : List Nm} {t : TypeId} (h : w.heap[b]? = some (.cells (l.map Yc).toArray t (0, 0))) (hl : l.length ≤ 1000) : Zl w (.slice (some ⟨b, 0, none⟩) l.length l.length) l :=
 ⟨_, _, rfl, by omega, fun _ => ⟨b, 0, rfl, fun j v hj => by rw [Nat.zero_add, Z2 h]; simpa using hj⟩⟩
theorem Z0a {w : World} {s : Nm} : Zl (w.alloc (.cells #[.string (bs s)] 9)) (.slice (some ⟨w.heap.size, 0, none⟩) 1 1) [s] := str_new (l := [s]) (by simp)
theorem Z0s (q : Nat) (v1 v2 : Value) (n : Nat) (name kind : Nm) (w : World) (h : Sc w q v1 v2 n) (hn : n ≤ 1000) (hname : name.length ≤ 10) (hq : q < w.heap.size) :
 Calls prog 134 #[.agg #[v1, v2], .string (bs name), .string (bs kind)] w fun e w' => (∃ u1 u2, e = .returned (.agg #[u1, u2]) ∧ Sc w' q u1 u2 (n + 1)) ∧ Below w.heap.size w w' := by
 obtain ⟨ns, ts, h1, h2, h3, h4, h5⟩ := h
 obtain ⟨p1, c1, rfl, -, -⟩ := id h1.1
 obtain ⟨p2, c2, rfl, -, -⟩ := id h2.1
 have CA : Hid (∀ W v, Below w.heap.size w W → Zl W v [name] → Calls prog 81 #[.slice p1 ns.length c1, v] W fun e w' => (∃ u, e = .returned u ∧ Zl w' u (ns ++ [name]) ∧ ∀ k, u.ownBlock = some k → W.heap.size ≤ k ∧ k < w'.heap.size) ∧ Below W.heap.size W w') := H_ (fun W v hW hv => Z47 _ v ns [name] W (h1.1.move (fun k hk => hW.block k (h1.2 k hk).2)) hv (by simp; omega))
 have CB : Hid (∀ W v, Below w.heap.size w W → Zl W v [kind] → Calls prog 81 #[.slice p2 ts.length c2, v] W fun e w' => (∃ u, e = .returned u ∧ Zl w' u (ts ++ [kind]) ∧ ∀ k, u.ownBlock = some k → W.heap.size ≤ k ∧ k < w'.heap.size) ∧ Below W.heap.size W w') := H_ (fun W v hW hv => Z47 _ v ts [kind] W (h2.1.move (fun k hk => hW.block k (h2.2 k hk).2)) hv (by simp; omega))
 have H3 := H_ h3
 have H5 := H_ h5
 obtain ⟨L1, hL1⟩ : ∃ L1, L1 = ns.length := ⟨_, rfl⟩
 rw [← hL1] at CA h4 H3 ⊢
 have HL1 := H_ hL1
 clear hL1
 clear h1 h2 h3 h5
 have HB0 := H_ (Z4 w (.cells #[.slice p1 L1 c1, .slice p2 ts.length c2] 89))
 obtain ⟨L2, hL2⟩ : ∃ L2, L2 = ts.length := ⟨_, rfl⟩
 rw [← hL2] at CB HB0 ⊢
 have HL2 := H_ hL2
 clear hL2
 have XA := heap_alloc_new w (.cells #[.slice p1 L1 c1, .slice p2 L2 c2] 89)
 have XR := Za w (.cells #[.slice p1 L1 c1, .slice p2 L2 c2] 89) (.cells #[.slice none 0 0, .slice none 0 0] 89)
 go_enter func134, ntmps134
 go_wp2_with fail
 have hbR : Below (w.alloc (.cells #[.slice p1 L1 c1, .slice p2 L2 c2] 89)).heap.size (w.alloc (.cells #[.slice p1 L1 c1, .slice p2 L2 c2] 89)) ((w.alloc (.cells #[.slice p1 L1 c1, .slice p2 L2 c2] 89)).alloc (.cells #[.slice none 0 0, .slice none 0 0] 89)) := Z4 _ _
 generalize hwx : w.alloc (.cells #[.slice p1 L1 c1, .slice p2 L2 c2] 89) = wx at *
 have hsx : Hid (wx.heap.size = w.heap.size + 1) := H_ (by rw [← hwx]; simp)
 have K : Hid (∀ W, Below wx.heap.size wx W → (fun W => Below wx.heap.size wx W ∧ W.cell? ⟨w.heap.size, 0, none⟩ = some (.slice p1 L1 c1) ∧ W.cell? ⟨w.heap.size, 1, none⟩ = some (.slice p2 L2 c2)) W) := H_ (fun W hW => by
  have y := Z1 hW (lt_of_block XA) XA
  exact ⟨hW, Z2 (j := 0) y, Z2 (j := 1) y⟩)
 have S0 := H_ (K.out _ hbR.drew)
 have hlR := lt_of_block XR
 clear hwx XA
 first | (go_region_held3 (fun W => Below wx.heap.size wx W ∧ W.cell? ⟨w.heap.size, 0, none⟩ = some (.slice p1 L1 c1) ∧ W.cell? ⟨w.heap.size, 1, none⟩ = some (.slice p2 L2 c2)) (first | exact S0.out | assumption | exact KASo K.out (And.left (by assumption)) | exact K.out _ ((hS7.1.setCell (show wx.heap.size ≤ w.heap.size + 1 from Nat.le_of_eq hsx.out) _).setCell (show wx.heap.size ≤ w.heap.size + 1 from Nat.le_of_eq hsx.out) _) | fail) (first | (go_at_call 81; have hh := And.left (by assumption : Below wx.heap.size wx _ ∧ _); first | ((with_reducible refine (CA.out _ _ ?_ ?_).mono ?_); (· exact HB0.out.trans (hh.mono HB0.out.size)); (· exact Z1n (l := [name]) (by first | assumption | exact Za _ _ _ | exact Z8 (Za _ _ _) | exact new3 _ _ _ _ | exact heap_alloc_new _ _ | exact Z8 (heap_alloc_new _ _)) (by simp)); rintro e w6 ⟨⟨u6, rfl, hu6, hk6⟩, hb6⟩; obtain ⟨pu6, nu6, cu6, rfl⟩ := Zl.shape hu6; have hB6 := hh.trans (hb6.mono hh.size); have hS6 := K.out _ hB6; have y6 := (by first | exact Z1 hb6 (lt_of_block XR) XR | exact Z1 hb6 (lt_of_block (Z8 XR)) (Z8 XR) | exact Z1 hb6 (lt_of_block (Z8 (Z8 XR))) (Z8 (Z8 XR)) : w6.heap[w.heap.size + 1]? = some (.cells #[.slice none 0 0, .slice none 0 0] 89 (0, 0))); try (have ysd := Z1 hb6 (lt_of_block (new3 _ _ _ _)) (new3 _ _ _ _)); try (have yse := Z1 hb6 (lt_of_block (Z8 (Za _ _ _))) (Z8 (Za _ _ _))); try (have ysa := Z1 hb6 (lt_of_block (Z8 (heap_alloc_new _ _))) (Z8 (heap_alloc_new _ _))); try (have ysb := Z1 hb6 (lt_of_block (Za _ _ _)) (Za _ _ _)); try (have ysc := Z1 hb6 (lt_of_block (heap_alloc_new _ _)) (heap_alloc_new _ _))) | ((with_reducible refine (CB.out _ _ ?_ ?_).mono ?_); (· exact HB0.out.trans (hh.mono HB0.out.size)); (· exact Z1n (l := [kind]) (by first | assumption | exact Za _ _ _ | exact Z8 (Za _ _ _) | exact new3 _ _ _ _ | exact heap_alloc_new _ _ | exact Z8 (heap_alloc_new _ _)) (by simp)); rintro e w7 ⟨⟨u7, rfl, hu7, hk7⟩, hb7⟩; obtain ⟨pu7, nu7, cu7, rfl⟩ := Zl.shape hu7; have hB7 := hh.trans (hb7.mono hh.size); have hS7 := K.out _ hB7; have y7 := (by first | exact Z1 hb7 (lt_of_block y6) y6 | exact Z1 hb7 (lt_of_block (Z8 y6)) (Z8 y6) : w7.heap[w.heap.size + 1]? = some (.cells #[.slice none 0 0, .slice none 0 0] 89 (0, 0))); obtain ⟨z0, z1⟩ := Zq y7; obtain ⟨f0, f1⟩ := Q9 y7; have hu8 : Zl w7 (.slice pu6 nu6 cu6) _ := Zl.move hu6 (fun k hk => by first | exact hb7.block k (hk6 k hk).2 | exact (hb7.block k (by have := (hk6 k hk).2; simp; omega)).trans (heap_alloc_old _ _ (hk6 k hk).2)))) | fail)) | fail
 all_goals
  go_wp2_with fail
  have kk := Qm (j := 1) (Qm (j := 0) y7 (.slice pu6 nu6 cu6)) (.slice pu7 nu7 cu7)
  obtain ⟨k0, k1⟩ := Zq kk
  have hx := hsx.out
  have s6 := hb6.size
  have s7 := hb7.size
  simp at s6 s7
  refine bodyPost_ret (v := .agg #[.slice pu6 nu6 cu6, .slice pu7 nu7 cu7]) (by simp [results, results134, go_sem, k0, k1]) rfl ?_
  refine ⟨⟨_, _, rfl, ns ++ [name], ts ++ [kind], ⟨Zl.move hu8 (fun k hk => ?_), fun k hk => ⟨?_, ?_⟩⟩, ⟨Zl.move hu7 (fun k hk => ?_), fun k hk => ⟨?_, ?_⟩⟩, ?_, ?_, ?_⟩, ?_⟩
  · have := (hk6 k hk).1
    try simp at this
    rw [Z9 _ (show k ≠ w.heap.size + 1 by omega), Z9 _ (show k ≠ w.heap.size + 1 by omega)]
  · have := (hk6 k hk).1
    try simp at this
    omega
  · have := (hk6 k hk).2
    simp
    omega
  · have := (hk7 k hk).1
    try simp at this
    rw [Z9 _ (show k ≠ w.heap.size + 1 by omega), Z9 _ (show k ≠ w.heap.size + 1 by omega)]
  · have := (hk7 k hk).1
    try simp at this
    omega
  · have := (hk7 k hk).2
    simp
    omega
  · have e1 := HL1.out
    have e2 := H3.out
    simp; omega
  · have e1 := HL1.out
    simp; omega
  · intro x hx
    rcases List.mem_append.1 hx with h | h
    · exact H5.out x h
    · simp only [List.mem_singleton] at h; subst h; exact hname
  · exact ((HB0.out.trans (hB7.mono HB0.out.size)).setCell (show w.heap.size ≤ w.heap.size + 1 by omega) _).setCell (show w.heap.size ≤ w.heap.size + 1 by omega) _
def NMr (w : World) (b : Nat) (vf : Value) (k g : Nat) : Prop := w.heap[b]? = some (.cells #[.string ⟨#[120]⟩, vf, .int .i64 k, .int .i64 g] 172 (0, 0))
theorem Zl.onlyI {w w' : World} {b : Nat} {v : Value} {l : List Nm} (h : Zl w v l) (ho : Only b w w') (hne : ∀ q, v.ownBlock = some q → q ≠ b ∧ q < w.heap.size) : Zl w' v l := Zl.move h (fun q hq => ho.block q (hne q hq).2 (hne q hq).1)
def TabB (b : Nat) (w : World) : Prop := ∃ w0, Tab w0 ∧ Below w0.heap.size w0 w ∧ w0.heap.size ≤ b
theorem TabB.only {b : Nat} {w w' : World} (h : TabB b w) (ho : Only b w w') : TabB b w' := by
 obtain ⟨w0, h1, h2, h3⟩ := h
 exact ⟨w0, h1, Only.fresh h2 ho h3 h2.size, h3⟩
theorem TabB.tab {b : Nat} {w : World} (h : TabB b w) : Tab w := by
 obtain ⟨w0, h1, h2, h3⟩ := h
 exact h1.below h2
theorem give_c (b : Nat) (vf : Value) (free : List Nm) (k g : Nat) (w : World) (hr : NMr w b vf k g) (hf : Zl w vf free) (hne : ∀ q, vf.ownBlock = some q → q ≠ b ∧ q < w.heap.size) (hl : free.length ≤ 300) (hk : k ≤ 300) (hg : g ≤ 1000000) (hT : TabB b w) :
 Calls prog 184 #[.pointer (some ⟨b, 0, none⟩)] w fun e w' => e = .returned (.string (bs (Zz (Zp free k)))) ∧ NMr w' b vf (Zp free k + 1) (g + 1) ∧ Only b w w' := by
 have hfl := Jp free k
 obtain ⟨K, hK⟩ : ∃ K, K = Zp free k := ⟨_, rfl⟩
 rw [← hK] at hfl ⊢
 have HK := H_ hK
 obtain ⟨pf, cf, hvf, hlf, hrowf⟩ := id hf
 have HR := H_ hr
 have HF := H_ hf
 have HNE := H_ hne
 have HT := H_ hT
 clear hK hr hf hrowf hne hT
 subst hvf
 go_enter func184, ntmps184
 go_wp2_with fail
 go_loopg [3] (K + 1 - k) (fun q s wr => ∃ j : Nat, q + j = K + 1 ∧ k ≤ j ∧ j ≤ K ∧ Hid (Zp free j = K) ∧ Hid (NMr wr b (.slice pf free.length cf) j g) ∧ Hid (Only b w wr))
 case atStart => exact ⟨k, by omega, Nat.le_refl _, by omega, H_ HK.out.symm, HR, H_ (Only.refl b w)⟩
 case round =>
  obtain ⟨j, hq, hj1, hj2, hfr, hrn, hon⟩ := hrel
  have hblk : wr.heap[b]? = some (.cells #[.string ⟨#[120]⟩, .slice pf free.length cf, .int .i64 j, .int .i64 g] 172 (0, 0)) := hrn.out
  have CD := H_ (fun W (hW : Below wr.heap.size wr W) => itoa_b (j : Int) (by omega) W ((HT.out.only (hon.out.next hW)).tab))
  have hlen : (bs (Lib.itoa (j : Int))).size ≤ 100 := by
   rw [Y3]
   unfold Lib.itoa
   rw [if_neg (by omega)]
   exact Z6a _ (by omega)
  have hxn : Hid (bs (Zz j) = ⟨#[120]⟩ ++ bs (Lib.itoa (j : Int))) := H_ (by
   have e : Zz j = [120] ++ Lib.itoa (j : Int) := rfl
   rw [e, ← Xt]; rfl)
  have hwrap : IntKind.i64.wrap ((j : Int) + 1) = (j : Int) + 1 := by rw [IntKind.wrap_i64]; omega
  have hwrg : IntKind.i64.wrap ((g : Int) + 1) = (g : Int) + 1 := by rw [IntKind.wrap_i64]; omega
  have CH : Hid (∀ W : World, Zl W (.slice pf free.length cf) free → Calls prog 103 #[.slice pf free.length cf, .string (⟨#[120]⟩ ++ bs (Lib.itoa (j : Int)))] W fun e w' => e = .returned (.bool (decide (Zz j ∈ free))) ∧ w' = W) := H_ (fun W hv => by rw [← hxn.out]; exact Z3s _ free (Zz j) W hv)
  have HOA : Hid (∀ W, Below wr.heap.size wr W → (W.setCell ⟨b, 2, none⟩ (.int .i64 ((j : Int) + 1))).cell? ⟨b, 1, none⟩ = some (.slice pf free.length cf) ∧ (W.setCell ⟨b, 2, none⟩ (.int .i64 ((j : Int) + 1))).cell? ⟨b, 3, none⟩ = some (.int .i64 g) ∧ (W.setCell ⟨b, 2, none⟩ (.int .i64 ((j : Int) + 1))).frozen? ⟨b, 3, none⟩ = false ∧ NMr (W.setCell ⟨b, 2, none⟩ (.int .i64 ((j : Int) + 1))) b (.slice pf free.length cf) (j + 1) g ∧ NMr ((W.setCell ⟨b, 2, none⟩ (.int .i64 ((j : Int) + 1))).setCell ⟨b, 3, none⟩ (.int .i64 ((g : Int) + 1))) b (.slice pf free.length cf) (j + 1) (g + 1) ∧ Only b w (W.setCell ⟨b, 2, none⟩ (.int .i64 ((j : Int) + 1))) ∧ Only b w ((W.setCell ⟨b, 2, none⟩ (.int .i64 ((j : Int) + 1))).setCell ⟨b, 3, none⟩ (.int .i64 ((g : Int) + 1))) ∧ Zl (W.setCell ⟨b, 2, none⟩ (.int .i64 ((j : Int) + 1))) (.slice pf free.length cf) free) := H_ (fun W hW => by
   have h1 := Z1 hW (lt_of_block hblk) hblk
   have h2 := Qm (j := 2) h1 (.int .i64 ((j : Int) + 1))
   have h3 := Qm (j := 3) h2 (.int .i64 ((g : Int) + 1))
   have o2 := (hon.out.next hW).set (p := ⟨b, 2, none⟩) rfl (.int .i64 ((j : Int) + 1))
   have o3 := o2.set (p := ⟨b, 3, none⟩) rfl (.int .i64 ((g : Int) + 1))
   exact ⟨Z2 h2, Z2 h2, Xb h2, h2, h3, o2, o3, HF.out.onlyI o2 HNE.out⟩)
  have KC : Hid (∀ W, Below wr.heap.size wr W → W.cell? ⟨b, 0, none⟩ = some (.string ⟨#[120]⟩) ∧ W.cell? ⟨b, 2, none⟩ = some (.int .i64 j) ∧ W.frozen? ⟨b, 2, none⟩ = false) := H_ (fun W hW => by
   have h1 := Z1 hW (lt_of_block hblk) hblk
   exact ⟨Z2 h1, Z2 h1, Xb h1⟩)
  have hx2 : Hid (Zz j ∈ free → Zp free (j + 1) = K ∧ j < K) := H_ (fun hm => by
   have h1 := fresh_step hm
   rw [hfr.out] at h1
   have := (Jp free (j + 1)).1
   exact ⟨h1.symm, by omega⟩)
  have hx3 : Hid (¬ Zz j ∈ free → j = K) := H_ (fun hm => by have h1 := fresh_here hm; rw [hfr.out] at h1; exact h1.symm)
  have S0 := H_ (KC.out _ (Below.refl _ _).drew)
  clear hblk hrn
  by_cases hmem : Zz j ∈ free
  · have hdm : decide (Zz j ∈ free) = true := by simpa using hmem
    rw [hdm] at CH
    obtain ⟨y1, y2⟩ := hx2.out hmem
    have Y1 := H_ y1
    clear hx2 hx3 hmem hdm y1
    clear hxn
    generalize bs (Lib.itoa (j : Int)) = IT at *
    have hov : ¬ (9223372036854775807 : Nat) < 1 + IT.size := by omega
    go_wp2_with fail
    first | (go_region_held3 (fun W => W.cell? ⟨b, 0, none⟩ = some (.string ⟨#[120]⟩) ∧ W.cell? ⟨b, 2, none⟩ = some (.int .i64 j) ∧ W.frozen? ⟨b, 2, none⟩ = false) (first | exact S0.out | assumption | fail) (first | (go_at_call 153; (with_reducible refine (CD.out _ (Below.refl _ _).drew).mono ?_); rintro e w1 ⟨rfl, hb1⟩; have hB1 : Below wr.heap.size wr w1 := ((Below.refl wr.heap.size wr).drew).trans (hb1.mono (Nat.le_refl _)); have hS1 := KC.out _ hB1))) | fail
    all_goals
     obtain ⟨c1, c3, f3, n2, n3, o2, o3, s2⟩ := HOA.out _ hB1
     obtain ⟨e0, e2, ef⟩ := hS1
     go_wp2_with (go_at_call 103; go_must (refine (CH.out _ s2).mono ?_; rintro e w3 ⟨rfl, rfl⟩))
     go_roundg (gk - 1)
     case measure => omega
     case rel => exact ⟨j + 1, by omega, by omega, by omega, Y1, H_ n2, H_ o2⟩
  · have hdm : decide (Zz j ∈ free) = false := by simpa using hmem
    rw [hdm] at CH
    obtain rfl := hx3.out hmem
    have HXN := H_ hxn.out
    clear hx2 hx3 hmem hdm hxn
    generalize bs (Lib.itoa (j : Int)) = IT at *
    have hov : ¬ (9223372036854775807 : Nat) < 1 + IT.size := by omega
    go_wp2_with fail
    first | (go_region_held3 (fun W => W.cell? ⟨b, 0, none⟩ = some (.string ⟨#[120]⟩) ∧ W.cell? ⟨b, 2, none⟩ = some (.int .i64 j) ∧ W.frozen? ⟨b, 2, none⟩ = false) (first | exact S0.out | assumption | fail) (first | (go_at_call 153; (with_reducible refine (CD.out _ (Below.refl _ _).drew).mono ?_); rintro e w1 ⟨rfl, hb1⟩; have hB1 : Below wr.heap.size wr w1 := ((Below.refl wr.heap.size wr).drew).trans (hb1.mono (Nat.le_refl _)); have hS1 := KC.out _ hB1))) | fail
    all_goals
     obtain ⟨c1, c3, f3, n2, n3, o2, o3, s2⟩ := HOA.out _ hB1
     obtain ⟨e0, e2, ef⟩ := hS1
     go_wp2_with (go_at_call 103; go_must (refine (CH.out _ s2).mono ?_; rintro e w3 ⟨rfl, rfl⟩))
     go_ret
     exact ⟨by rw [HXN.out]; rfl, n3, o3⟩
def RnL (w : World) (ok : Nat → Prop) : List (Nm × Nm) → Value → Prop
 | [], v => v = .pointer none
 | (x, y) :: m, v => ∃ r u, v = .pointer (some ⟨r, 0, none⟩) ∧ ok r ∧ w.heap[r]? = some (.cells #[.string (bs x), .string (bs y), u] 195 (0, 0)) ∧ RnL w ok m u
theorem RnL.move {w w' : World} {ok ok' : Nat → Prop} (hk : ∀ k, ok k → ok' k) (hb : ∀ k, ok k → w'.heap[k]? = w.heap[k]?) : ∀ {m : List (Nm × Nm)} {v : Value}, RnL w ok m v → RnL w' ok' m v
 | [], v, h => h
 | (x, y) :: m, v, h => by
   obtain ⟨r, u, rfl, h1, h2, h3⟩ := h
   exact ⟨r, u, rfl, hk r h1, (hb r h1).trans h2, RnL.move hk hb h3⟩
theorem of_c (m : List (Nm × Nm)) (v : Value) (s : Nm) (ok : Nat → Prop) (w : World) (h : RnL w ok m v) :
 Calls prog 183 #[v, .string (bs s)] w fun e w' => e = .returned (.string (bs (Q6 m s))) ∧ w' = w := by
 obtain ⟨P, hP⟩ : ∃ P, P = Q6 m s := ⟨_, rfl⟩
 rw [← hP]
 have hv0 : ∃ p, v = .pointer p := by cases m with
  | nil => exact ⟨none, h⟩
  | cons q m => obtain ⟨x, y⟩ := q; obtain ⟨r, u, rfl, -⟩ := h; exact ⟨_, rfl⟩
 obtain ⟨p, rfl⟩ := hv0
 have HI := H_ (And.intro h hP.symm)
 generalize hM : m.length = M at *
 have hML : Hid (m.length = M) := H_ hM
 clear h hP hM
 go_enter func183, ntmps183
 go_wp2_with fail
 go_loopg [0] (M + 1) (fun q v wr => wr = w ∧ ∃ m' p, v = .pointer p ∧ Hid (q = m'.length + 1) ∧ Hid (RnL w ok m' (.pointer p) ∧ Q6 m' s = P))
 case atStart => exact ⟨rfl, m, p, rfl, H_ (by rw [hML.out]), HI⟩
 case round =>
  obtain ⟨rfl, m', p', rfl, hq, hI⟩ := hrel
  clear HI hML
  cases m' with
  | nil =>
    have hp : p' = none := by have h := hI.out.1; simpa [RnL] using h
    subst hp
    have hz : s = P := hI.out.2
    subst hz
    go_wp2_with fail
    go_ret
    exact ⟨rfl, rfl⟩
  | cons xy m' =>
    obtain ⟨x, y⟩ := xy
    obtain ⟨r, u, hp, h1, h2, h3⟩ := hI.out.1
    simp only [Value.pointer.injEq] at hp
    subst hp
    have hu : ∃ pu, u = .pointer pu := by cases m' with
     | nil => exact ⟨none, h3⟩
     | cons q m2 => obtain ⟨x2, y2⟩ := q; obtain ⟨r2, u2, rfl, -⟩ := h3; exact ⟨_, rfl⟩
    obtain ⟨pu, rfl⟩ := hu
    obtain ⟨c0, c1, c2⟩ := cells3 h2
    have hlk := hI.out.2
    have H3 := H_ h3
    have hqq := hq.out
    simp only [List.length_cons] at hqq
    by_cases hx : x = s
    · have hP2 : y = P := by simpa [Q6, hx] using hlk
      subst hP2
      have hs1 : ((bs x).toList == (bs s).toList) = true := by rw [hx]; simp
      have hs2 : (bs x).toList = (bs s).toList := by rw [hx]
      clear hlk h3 hI
      generalize bs x = X at *
      generalize bs s = S at *
      go_wp2_with fail
      go_ret
      exact ⟨rfl, rfl⟩
    · have hP2 : Hid (Q6 m' s = P) := H_ (by simpa [Q6, hx] using hlk)
      have hs2 : ¬ (bs x).toList = (bs s).toList := by rw [Z5, Z5]; exact hx
      have hs1 : ((bs x).toList == (bs s).toList) = false := by simpa using hs2
      clear hlk h3 hI hx
      generalize bs x = X at *
      generalize bs y = Y at *
      generalize bs s = S at *
      go_wp2_with fail
      go_roundg (gk - 1)
      case measure => omega
      case rel => exact ⟨rfl, m', pu, rfl, H_ (by omega), H_ ⟨H3.out, hP2.out⟩⟩
end Go.Proofs.YtfknoigbkleanaaGreatDoor
