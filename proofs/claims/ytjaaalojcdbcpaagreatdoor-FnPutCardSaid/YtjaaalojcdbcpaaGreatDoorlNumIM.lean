/- The reference: decimals. The reference's draws: a function that counts down. Rows of texts of the call's own; lists with more texts behind. The reference's draws: expressions. The program's numerals. -/
import Derived.Test.YtjaaalojcdbcpaaGreatDoorlDraw3
import Derived.Test.YtjaaalojcdbcpaaGreatDoorlPureT
import Derived.Test.YtjaaalojcdbcpaaGreatDoorlAsrAM
import Derived.Deep.RegionHeld3
import Derived.OwnWalk
import Derived.Deep.LoopGhost
import Derived.Test.YtjaaalojcdbcpaaGreatDoorlSpec2aM
import Derived.Test.YtjaaalojcdbcpaaGreatDoorlShelf
import Derived.Lib.SmallJoins
import Derived.Deep.QuietTactic
import Derived.BigQuiet
set_option maxHeartbeats 20000000
set_option linter.unusedVariables false
set_option linter.unusedSimpArgs false
namespace Go.Proofs.YtjaaalojcdbcpaaGreatDoor
open Go.RowKit Go.Proofs.Tryz
set_option maxRecDepth 8000
theorem dig_one (n : Int) (h0 : 0 ≤ n) (h1 : n < 10) : strOfNums [48 + n] = bs [UInt8.ofNat (48 + n.toNat)] := by
 simp only [strOfNums, List.map_cons, List.map_nil, bs]
 rw [show (48 + n).toNat = 48 + n.toNat from by omega]
theorem Z2r (W : World) (b : Nat) (x : Int) (h : W.heap[b]? = some (.cells #[.int .u8 x] 5 (0, 0))) : (convert 26 9 (.slice (some ⟨b, 0, none⟩) 1 1)).run prog W = .ok (.string (strOfNums [x])) W := by
 refine run_convert_bytes_arg (P := prog) W 26 5 underlying26 underlying5 b 0 1 1 [x] rfl (fun i hi => ?_) 9 underlying9
 obtain rfl : i = 0 := by omega
 rw [Z4 h]; simp
theorem Z50 : ∀ (n : Nat), n ≤ 1000000 → (Lib.decDigits n).length ≤ 100 := fun n hn => by
 have h : ∀ (k n : Nat), n < 10 ^ k → (Lib.decDigits n).length ≤ k + 1 := by
  intro k
  induction k with
  | zero => intro n h; rw [Lib.decDigits, dif_pos (by simp at h; omega)]; simp
  | succ k ih =>
    intro n h
    rw [Lib.decDigits]
    split
    · simp
    · have := ih (n / 10) (by rw [Nat.pow_succ] at h; omega)
      simp; omega
 have := h 7 n (by omega)
 omega
theorem Z6p : ∀ (f n : Nat), n < f → n ≤ 1000000 → ∀ w : World, Calls prog 140 #[.int .i64 (n : Int)] w fun e w' => e = .returned (.string (bs (Lib.decDigits n))) ∧ Below w.heap.size w w'
 | 0, n, hf, hn, w => by omega
 | f + 1, n, hf, hn, w => by
   by_cases h : n < 10
   · rw [Lib.decDigits_one h]
     have HD := H_ (show strOfNums [48 + (n : Int)] = bs [UInt8.ofNat (48 + n)] from dig_one n (by omega) (by omega))
     have hconv := Z2r (w.alloc (.cells #[.int .u8 (48 + (n : Int))] 5)) w.heap.size (48 + (n : Int)) (heap_alloc_new w _)
     go_enter func140, ntmps140
     go_wp2_with fail
     go_ret
     exact ⟨by rw [← HD.out]; rfl, Z5 _ _⟩
   · have C := H_ (fun W => Z6p f (n / 10) (by omega) (by omega) W)
     have e1 : ((n / 10 : Nat) : Int) = (n : Int) / 10 := by omega
     rw [e1] at C
     have HD := H_ (show bs (Lib.decDigits n) = bs (Lib.decDigits (n / 10)) ++ strOfNums [48 + (n : Int) % 10] by
      rw [Lib.decDigits, dif_neg h, dig_one _ (by omega) (by omega), Xl, show ((n : Int) % 10).toNat = n % 10 by omega])
     rw [HD.out]
     have hs1 : (strOfNums [48 + (n : Int) % 10]).size = 1 := strOfNums_size _
     have hlen : (bs (Lib.decDigits (n / 10))).size ≤ 100 := by rw [Y0]; exact Z50 _ (by omega)
     obtain ⟨D, hD⟩ : ∃ q, q = bs (Lib.decDigits (n / 10)) := ⟨_, rfl⟩
     rw [← hD] at C hlen ⊢
     obtain ⟨S1, hS1⟩ : ∃ q, q = strOfNums [48 + (n : Int) % 10] := ⟨_, rfl⟩
     have hm : 0 ≤ (n : Int) % 10 ∧ (n : Int) % 10 < 10 := by omega
     have hq : 0 ≤ (n : Int) / 10 ∧ (n : Int) / 10 ≤ 100000 := by omega
     have h10 : ¬ (n : Int) < 10 := by omega
     have w1 : IntKind.i64.wrap ((n : Int) / 10) = (n : Int) / 10 := by rw [IntKind.wrap_i64]; omega
     have w2 : (n : Int).tmod 10 = (n : Int) % 10 := Int.tmod_eq_emod_of_nonneg (by omega)
     have w3 : IntKind.i64.wrap (48 + (n : Int) % 10) = 48 + (n : Int) % 10 := by rw [IntKind.wrap_i64]; omega
     have w4 : IntKind.u8.wrap (48 + (n : Int) % 10) = 48 + (n : Int) % 10 := by rw [IntKind.wrap_u8]; omega
     have hcA : ∀ W : World, (convert 26 9 (.slice (some ⟨W.heap.size, 0, none⟩) 1 1)).run prog (W.alloc (.cells #[.int .u8 (48 + (n : Int) % 10)] 5)) = .ok (.string S1) (W.alloc (.cells #[.int .u8 (48 + (n : Int) % 10)] 5)) := fun W => by rw [hS1]; exact Z2r _ _ _ (heap_alloc_new W _)
     have hcC : (convert 26 9 (.slice (some ⟨w.heap.size, 0, none⟩) 1 1)).run prog (w.alloc (.cells #[.int .u8 (48 + (n : Int) % 10)] 5)).drew = .ok (.string S1) (w.alloc (.cells #[.int .u8 (48 + (n : Int) % 10)] 5)).drew := by rw [hS1]; exact Z2r _ _ _ (heap_alloc_new w _)
     have hcD : (convert 26 9 (.slice (some ⟨w.heap.size, 0, none⟩) 1 1)).run prog (w.drew.alloc (.cells #[.int .u8 (48 + (n : Int) % 10)] 5)) = .ok (.string S1) (w.drew.alloc (.cells #[.int .u8 (48 + (n : Int) % 10)] 5)) := by rw [hS1]; exact Z2r _ _ _ (heap_alloc_new w _)
     have HS1 := H_ hS1
     rw [← hS1] at hs1 ⊢
     clear hS1
     have gq1 : ¬ (9223372036854775807 : Nat) < D.size + S1.size := by omega
     have gq2 : ¬ (9223372036854775807 : Nat) < D.size + 1 := by omega
     clear HD hD
     have K : Hid (∀ W, Below w.heap.size w W → (fun W => Below w.heap.size w W ∧ True) W) := H_ (fun W hW => ⟨hW, trivial⟩)
     have S0 := H_ (K.out _ ((Below.refl _ w).drew))
     go_enter func140, ntmps140
     go_wp2_with fail
     first | (go_region_with (first | (go_at_call 140; (with_reducible refine (C.out _).mono ?_); rintro e w2 ⟨rfl, hb2⟩; first | (have hcB : (convert 26 9 (.slice (some ⟨w.heap.size, 0, none⟩) 1 1)).run prog w2 = .ok (.string S1) w2 := (by rw [HS1.out]; exact Z2r _ _ _ (Z2 hb2 (lt_of_block (heap_alloc_new w _)) (heap_alloc_new w _)))) | (have hcE : ∀ (W : World), (convert 26 9 (.slice (some ⟨W.heap.size, 0, none⟩) 1 1)).run prog (W.alloc (.cells #[.int .u8 (48 + (n : Int) % 10)] 5)) = .ok (.string S1) (W.alloc (.cells #[.int .u8 (48 + (n : Int) % 10)] 5)) := hcA)))) | fail
     all_goals
      go_wp2_with fail
      go_ret
      first
       | exact ⟨rfl, (Z5 w _).trans (hb2.mono (by simp))⟩
       | exact ⟨rfl, Below.trans (Z5 w _).drew (hb2.mono (by simp))⟩
       | exact ⟨rfl, hb2.alloc hb2.size _⟩
       | exact ⟨rfl, (show Below w.heap.size w w2 from ⟨hb2.os, hb2.tape, hb2.output, hb2.size, hb2.block⟩).alloc hb2.size _⟩
       | exact ⟨rfl, ⟨hb2.os, hb2.tape, hb2.output, hb2.size, hb2.block⟩⟩
theorem l6Dec_any (n : Int) (h1 : -1000 ≤ n) (h2 : n ≤ 1000) (w : World) : Calls prog 140 #[.int .i64 n] w fun e w' => (∃ s : ByteArray, e = .returned (.string s) ∧ s.size ≤ 1000) ∧ Below w.heap.size w w' := by
 by_cases hn : 0 ≤ n
 · obtain ⟨m, rfl⟩ : ∃ m : Nat, n = (m : Int) := ⟨n.toNat, by omega⟩
   exact (Z6p (m + 1) m (by omega) (by omega) w).mono fun e w' ⟨h3, h4⟩ => ⟨⟨_, h3, by rw [Y0]; have := Z50 m (by omega); omega⟩, h4⟩
 · obtain ⟨m, hm⟩ : ∃ m : Nat, -n = (m : Int) := ⟨(-n).toNat, by omega⟩
   have C := H_ (fun W => Z6p (m + 1) m (by omega) (by omega) W)
   unfold Hid at C
   rw [← hm] at C
   have C := H_ C
   have hlen : (bs (Lib.decDigits m)).size ≤ 100 := by rw [Y0]; exact Z50 m (by omega)
   have k1 : IntKind.i64.wrap (-n) = -n := by rw [IntKind.wrap_i64]; omega
   have k2 : ¬ n < -9223372036854775807 := by omega
   have k3 : n < 0 := by omega
   clear hm
   generalize bs (Lib.decDigits m) = D at *
   go_enter func140, ntmps140
   go_wp2_with fail
   refine (C.out _).mono ?_
   rintro e w2 ⟨rfl, hb2⟩
   go_wp2_with fail
   go_ret
   exact ⟨⟨_, rfl, by have y : (⟨#[45]⟩ : ByteArray).size = 1 := rfl; simp; omega⟩, hb2⟩
theorem bsz (a : Array UInt8) : (ByteArray.mk a).size = a.size := rfl
def loopBodies : List (List UInt8) := [[40, 43, 32, 120, 56, 32, 40, 99, 97, 108, 108, 32, 102, 56, 32, 40, 45, 32, 120, 56, 32, 49, 41, 41, 41], [40, 99, 97, 108, 108, 32, 102, 56, 32, 40, 45, 32, 120, 56, 32, 49, 41, 41], [40, 42, 32, 120, 56, 32, 40, 99, 97, 108, 108, 32, 102, 56, 32, 40, 45, 32, 120, 56, 32, 49, 41, 41, 41], [40, 45, 32, 48, 32, 40, 99, 97, 108, 108, 32, 102, 56, 32, 40, 45, 32, 120, 56, 32, 49, 41, 41, 41]]
theorem l91Loop_d {q : Nat} {a : Option Addr} {L c p : Nat} {zs : List Int} {w : World} (h : Rd w q a L c p zs) (hp : p ≤ 900000) :
 Calls prog 91 #[.pointer (some ⟨q, 0, none⟩)] w fun e w' => Ql q a L c p zs 2000 3 w e w' := by
 have C1 := H_ (Kp (l := loopBodies) (N := 30) h (by omega) (by decide) (by decide) (by decide))
 clear h
 go_enter func91, ntmps91
 go_wp2_with fail
 refine (C1.out).mono ?_
 rintro e w1 ⟨s1, p1, rfl, a1, a2, hR1, ho1⟩
 have C2 := H_ (Kp (l := [[48], [49], [53]]) (N := 1) hR1 (by omega) (by decide) (by decide) (by decide))
 clear hR1
 go_wp2_with fail
 refine (C2.out).mono ?_
 rintro e w2 ⟨s2, p2, rfl, b1, b2, hR2, ho2⟩
 have C3 := H_ (K6 (n := 7) hR2 (by omega) (by omega))
 clear hR2
 go_wp2_with fail
 refine (C3.out).mono ?_
 rintro e w3 ⟨⟨k, rfl, hk0, hk1⟩, hR3, ho3⟩
 have C4 := H_ (l6Dec_any k (by omega) (by omega))
 go_wp2_with fail
 refine (C4.out _).mono ?_
 rintro e w4 ⟨⟨s4, rfl, hs4⟩, hb4⟩
 have HR4 := H_ (hR3.below hb4)
 have HO4 := H_ (((ho1.trans ho2).trans ho3).next hb4)
 go_wp2_with fail
 go_ret
 exact ⟨_, _, rfl, by simp [bsz]; omega, by omega, HR4.out, HO4.out⟩
theorem Tryz.infoStrD : (prog.info? 9).map (fun i => (i.zero, i.size, i.bytes)) = some (some (.string ⟨#[]⟩), 1, 16) := by kernel_rfl
theorem Z6m {w : World} {base : Nat} {e : TypeId} {size : Nat} {v : Value} {n : Nat} {xs : List Value} (h : w.ownsRow base e size v n xs) {k : Nat} (hk : v.ownBlock = some k) : base ≤ k ∧ k < w.heap.size := h.lt k hk
theorem Z12 {w wr w2 w3 : World} {row : Option Nat} (h : Below w.heap.size w wr) (h2 : Below wr.heap.size wr w2) (hg : w2.grownBy w3 row) (hr : ∀ k, row = some k → w.heap.size ≤ k) : Below w.heap.size w w3 :=
 have h12 := h.trans (h2.mono h.size)
 ⟨hg.os.trans h12.os, hg.tape.trans h12.tape, hg.output.trans h12.output, Nat.le_trans h12.size hg.size, fun k hk => (hg.block k (Nat.lt_of_lt_of_le hk h12.size) (fun e => by have := hr k e.symm; omega)).trans (h12.block k hk)⟩
theorem Z0t {w : World} {B : Nat} {v : Value} {l : List (List UInt8)} (h : w.ownsRow B 9 1 v l.length (l.map Y3)) (hl : l.length ≤ 9223372036854775807) : Zw w v l := by
 rcases h.2 with ⟨rfl, h0⟩ | ⟨g, cap, cur, rfl, hb, hg, h1, h2, h3, h4⟩
 · exact ⟨none, 0, by rw [h0], hl, fun hne => absurd (List.eq_nil_of_length_eq_zero h0) hne⟩
 · exact ⟨_, cap, rfl, hl, fun _ => ⟨g, 0, rfl, X4 h⟩⟩
theorem J7 {w w' : World} {v : Value} {l : List Nm} (h : Zw w v l) (hb : Below w.heap.size w w') : Zw w' v l := by
 obtain ⟨p, c, rfl, h1, h2⟩ := h
 refine ⟨p, c, rfl, h1, fun hne => ?_⟩
 obtain ⟨r, off, rfl, h3⟩ := h2 hne
 refine ⟨r, off, rfl, h3.move (hb.block r ?_)⟩
 cases l with
 | nil => exact absurd rfl hne
 | cons x l =>
   have hc := h3 0 (Y3 x) (by simp)
   by_cases hr : r < w.heap.size
   · exact hr
   · simp [World.cell?, Array.getElem?_eq_none (Nat.le_of_not_lt hr)] at hc
theorem Z5x {W : World} {b base : Nat} (h : W.heap[b]? = some (.cells #[] 9 (0, 0))) (hb : base ≤ b) : W.ownsRow base 9 1 (.slice (some ⟨b, 0, none⟩) 0 0) ([] : List Nm).length (([] : List Nm).map Y3) := ⟨rfl, .inr ⟨b, 0, _, rfl, hb, h, Nat.le_refl _, Nat.zero_le _, rfl, rfl⟩⟩
theorem l3With_d (v1 v2 : Value) (l m : List Nm) (w : World) (h1 : Zw w v1 l) (h2 : Zw w v2 m) (hb : l.length + m.length ≤ 1000000) :
 Calls prog 139 #[v1, v2] w fun e w' => (∃ v, e = .returned v ∧ Zw w' v (l ++ m) ∧ ∀ k, v.ownBlock = some k → w.heap.size ≤ k ∧ k < w'.heap.size) ∧ Below w.heap.size w w' := by
 obtain ⟨i0, hi0, hz0, hz1, hz2⟩ := info_parts Tryz.infoStrD
 have H1 := H_ h1
 have H2 := H_ h2
 obtain ⟨p1, c1, rfl, -, -⟩ := h1
 obtain ⟨p2, c2, rfl, -, -⟩ := h2
 have HE : Hid ((w.alloc (.cells #[] 9)).ownsRow w.heap.size 9 1 (.slice (some ⟨w.heap.size, 0, none⟩) 0 0) ([] : List Nm).length (([] : List Nm).map Y3)) := H_ (Z5x (heap_alloc_new w _) (Nat.le_refl _))
 go_enter func139, ntmps139
 go_wp2_with (first | (at_builtin; refine Y9 _ rfl _ _ 28 rfl w.heap.size 9 i0 underlying28 hi0 hz0 hz1 hz2 _ l rfl ho3 _ m rfl (J7 H2.out hB3) (by omega) hs3 ?_; intro v4 w4 ho4 hg4 hv4) | (at_builtin; go_must (refine Y9 _ rfl _ _ 28 rfl w.heap.size 9 i0 underlying28 hi0 hz0 hz1 hz2 _ [] rfl HE.out _ l rfl (J7 H1.out (Z5 w _)) (by simp; omega) (by simp) ?_; intro v3 w3 ho3 hg3 hv3; have hB3 := Z12 (Below.refl _ w) (Z5 w _) hg3 (fun k hk => (Z6m HE.out hk).1); have hs3 := hB3.size; simp only [List.nil_append] at ho3)))
 go_ret
 have hB4 := Z12 hB3 (Below.refl _ _) hg4 (fun k hk => (Z6m ho3 hk).1)
 exact ⟨⟨v4, rfl, Z0t ho4 (by simp; omega), fun k hk => ho4.lt k hk⟩, hB4⟩
theorem Zw.onlyD {w w' : World} {b : Nat} {v : Value} {l : List Nm} (h : Zw w v l) (ho : Only b w w') (hne : ∀ q, v.ownBlock = some q → q ≠ b ∧ q < w.heap.size) : Zw w' v l := Zw.move h (fun q hq => ho.block q (hne q hq).2 (hne q hq).1)
def ScL (w : World) (q : Nat) (v : Value) (l : List Nm) : Prop := Zw w v l ∧ ∀ k, v.ownBlock = some k → k ≠ q ∧ k < w.heap.size
theorem ScL.only {w w' : World} {q : Nat} {v : Value} {l : List Nm} (h : ScL w q v l) (ho : Only q w w') : ScL w' q v l := ⟨h.1.onlyD ho h.2, fun k hk => ⟨(h.2 k hk).1, Nat.lt_of_lt_of_le (h.2 k hk).2 ho.size⟩⟩
def Sc (w : World) (q : Nat) (v1 v2 : Value) (n : Nat) : Prop := ∃ ns ts, ScL w q v1 ns ∧ ScL w q v2 ts ∧ ns.length = ts.length ∧ ns.length ≤ n ∧ ∀ x ∈ ns, x.length ≤ 10
theorem Sc.only {w w' : World} {q : Nat} {v1 v2 : Value} {n : Nat} (h : Sc w q v1 v2 n) (ho : Only q w w') : Sc w' q v1 v2 n := by
 obtain ⟨ns, ts, h1, h2, h3⟩ := h
 exact ⟨ns, ts, h1.only ho, h2.only ho, h3⟩
theorem Sc.mono {w : World} {q : Nat} {v1 v2 : Value} {n m : Nat} (h : Sc w q v1 v2 n) (hn : n ≤ m) : Sc w q v1 v2 m := by
 obtain ⟨ns, ts, h1, h2, h3, h4, h5⟩ := h
 exact ⟨ns, ts, h1, h2, h3, by omega, h5⟩
theorem new3 (w : World) (a b c : Obj) : (((w.alloc a).alloc b).alloc c).heap[w.heap.size + 1 + 1]? = some c := by
 have := heap_alloc_new ((w.alloc a).alloc b) c
 rwa [show ((w.alloc a).alloc b).heap.size = w.heap.size + 1 + 1 by simp] at this
theorem Zw.shape {w : World} {v : Value} {l : List Nm} (h : Zw w v l) : ∃ p n c, v = .slice p n c := by
 obtain ⟨p, c, h1, -, -⟩ := h
 exact ⟨p, _, c, h1⟩
theorem Z55 {w : World} {b : Nat} {l : List Nm} {t : TypeId} (h : w.heap[b]? = some (.cells (l.map Y3).toArray t (0, 0))) (hl : l.length ≤ 1000) : Zw w (.slice (some ⟨b, 0, none⟩) l.length l.length) l :=
 ⟨_, _, rfl, by omega, fun _ => ⟨b, 0, rfl, fun j v hj => by rw [Nat.zero_add, Z4 h]; simpa using hj⟩⟩
theorem Z19 (q : Nat) (v1 v2 : Value) (n : Nat) (name kind : Nm) (w : World) (h : Sc w q v1 v2 n) (hn : n ≤ 1000) (hname : name.length ≤ 10) (hq : q < w.heap.size) :
 Calls prog 90 #[.agg #[v1, v2], .string (bs name), .string (bs kind)] w fun e w' => (∃ u1 u2, e = .returned (.agg #[u1, u2]) ∧ Sc w' q u1 u2 (n + 1)) ∧ Below w.heap.size w w' := by
 obtain ⟨ns, ts, h1, h2, h3, h4, h5⟩ := h
 obtain ⟨p1, c1, rfl, -, -⟩ := id h1.1
 obtain ⟨p2, c2, rfl, -, -⟩ := id h2.1
 have CA : Hid (∀ W v, Below w.heap.size w W → Zw W v [name] → Calls prog 139 #[.slice p1 ns.length c1, v] W fun e w' => (∃ u, e = .returned u ∧ Zw w' u (ns ++ [name]) ∧ ∀ k, u.ownBlock = some k → W.heap.size ≤ k ∧ k < w'.heap.size) ∧ Below W.heap.size W w') := H_ (fun W v hW hv => l3With_d _ v ns [name] W (h1.1.move (fun k hk => hW.block k (h1.2 k hk).2)) hv (by simp; omega))
 have CB : Hid (∀ W v, Below w.heap.size w W → Zw W v [kind] → Calls prog 139 #[.slice p2 ts.length c2, v] W fun e w' => (∃ u, e = .returned u ∧ Zw w' u (ts ++ [kind]) ∧ ∀ k, u.ownBlock = some k → W.heap.size ≤ k ∧ k < w'.heap.size) ∧ Below W.heap.size W w') := H_ (fun W v hW hv => l3With_d _ v ts [kind] W (h2.1.move (fun k hk => hW.block k (h2.2 k hk).2)) hv (by simp; omega))
 have H3 := H_ h3
 have H5 := H_ h5
 obtain ⟨L1, hL1⟩ : ∃ L1, L1 = ns.length := ⟨_, rfl⟩
 rw [← hL1] at CA h4 H3 ⊢
 have HL1 := H_ hL1
 clear hL1
 clear h1 h2 h3 h5
 have HB0 := H_ (Z5 w (.cells #[.slice p1 L1 c1, .slice p2 ts.length c2] 78))
 obtain ⟨L2, hL2⟩ : ∃ L2, L2 = ts.length := ⟨_, rfl⟩
 rw [← hL2] at CB HB0 ⊢
 have HL2 := H_ hL2
 clear hL2
 have XA := heap_alloc_new w (.cells #[.slice p1 L1 c1, .slice p2 L2 c2] 78)
 have XR := Za w (.cells #[.slice p1 L1 c1, .slice p2 L2 c2] 78) (.cells #[.slice none 0 0, .slice none 0 0] 78)
 go_enter func90, ntmps90
 go_wp2_with fail
 have hbR : Below (w.alloc (.cells #[.slice p1 L1 c1, .slice p2 L2 c2] 78)).heap.size (w.alloc (.cells #[.slice p1 L1 c1, .slice p2 L2 c2] 78)) ((w.alloc (.cells #[.slice p1 L1 c1, .slice p2 L2 c2] 78)).alloc (.cells #[.slice none 0 0, .slice none 0 0] 78)) := Z5 _ _
 generalize hwx : w.alloc (.cells #[.slice p1 L1 c1, .slice p2 L2 c2] 78) = wx at *
 have hsx : Hid (wx.heap.size = w.heap.size + 1) := H_ (by rw [← hwx]; simp)
 have K : Hid (∀ W, Below wx.heap.size wx W → (fun W => Below wx.heap.size wx W ∧ W.cell? ⟨w.heap.size, 0, none⟩ = some (.slice p1 L1 c1) ∧ W.cell? ⟨w.heap.size, 1, none⟩ = some (.slice p2 L2 c2)) W) := H_ (fun W hW => by
  have y := Z2 hW (lt_of_block XA) XA
  exact ⟨hW, Z4 (j := 0) y, Z4 (j := 1) y⟩)
 have S0 := H_ (K.out _ hbR.drew)
 have hlR := lt_of_block XR
 clear hwx XA
 first | (go_region_held3 (fun W => Below wx.heap.size wx W ∧ W.cell? ⟨w.heap.size, 0, none⟩ = some (.slice p1 L1 c1) ∧ W.cell? ⟨w.heap.size, 1, none⟩ = some (.slice p2 L2 c2)) (first | exact S0.out | assumption | exact KASo K.out (And.left (by assumption)) | exact K.out _ ((hS7.1.setCell (show wx.heap.size ≤ w.heap.size + 1 from Nat.le_of_eq hsx.out) _).setCell (show wx.heap.size ≤ w.heap.size + 1 from Nat.le_of_eq hsx.out) _) | fail) (first | (go_at_call 139; have hh := And.left (by assumption : Below wx.heap.size wx _ ∧ _); first | ((with_reducible refine (CA.out _ _ ?_ ?_).mono ?_); (· exact HB0.out.trans (hh.mono HB0.out.size)); (· exact Z55 (l := [name]) (by first | assumption | exact Za _ _ _ | exact Z8 (Za _ _ _) | exact new3 _ _ _ _ | exact heap_alloc_new _ _ | exact Z8 (heap_alloc_new _ _)) (by simp)); rintro e w6 ⟨⟨u6, rfl, hu6, hk6⟩, hb6⟩; obtain ⟨pu6, nu6, cu6, rfl⟩ := Zw.shape hu6; have hB6 := hh.trans (hb6.mono hh.size); have hS6 := K.out _ hB6; have y6 := (by first | exact Z2 hb6 (lt_of_block XR) XR | exact Z2 hb6 (lt_of_block (Z8 XR)) (Z8 XR) | exact Z2 hb6 (lt_of_block (Z8 (Z8 XR))) (Z8 (Z8 XR)) : w6.heap[w.heap.size + 1]? = some (.cells #[.slice none 0 0, .slice none 0 0] 78 (0, 0))); try (have ysd := Z2 hb6 (lt_of_block (new3 _ _ _ _)) (new3 _ _ _ _)); try (have yse := Z2 hb6 (lt_of_block (Z8 (Za _ _ _))) (Z8 (Za _ _ _))); try (have ysa := Z2 hb6 (lt_of_block (Z8 (heap_alloc_new _ _))) (Z8 (heap_alloc_new _ _))); try (have ysb := Z2 hb6 (lt_of_block (Za _ _ _)) (Za _ _ _)); try (have ysc := Z2 hb6 (lt_of_block (heap_alloc_new _ _)) (heap_alloc_new _ _))) | ((with_reducible refine (CB.out _ _ ?_ ?_).mono ?_); (· exact HB0.out.trans (hh.mono HB0.out.size)); (· exact Z55 (l := [kind]) (by first | assumption | exact Za _ _ _ | exact Z8 (Za _ _ _) | exact new3 _ _ _ _ | exact heap_alloc_new _ _ | exact Z8 (heap_alloc_new _ _)) (by simp)); rintro e w7 ⟨⟨u7, rfl, hu7, hk7⟩, hb7⟩; obtain ⟨pu7, nu7, cu7, rfl⟩ := Zw.shape hu7; have hB7 := hh.trans (hb7.mono hh.size); have hS7 := K.out _ hB7; have y7 := (by first | exact Z2 hb7 (lt_of_block y6) y6 | exact Z2 hb7 (lt_of_block (Z8 y6)) (Z8 y6) : w7.heap[w.heap.size + 1]? = some (.cells #[.slice none 0 0, .slice none 0 0] 78 (0, 0))); obtain ⟨z0, z1⟩ := Zh y7; obtain ⟨f0, f1⟩ := Xb y7; have hu8 : Zw w7 (.slice pu6 nu6 cu6) _ := Zw.move hu6 (fun k hk => by first | exact hb7.block k (hk6 k hk).2 | exact (hb7.block k (by have := (hk6 k hk).2; simp; omega)).trans (heap_alloc_old _ _ (hk6 k hk).2)))) | fail)) | fail
 all_goals
  go_wp2_with fail
  have kk := Yu (j := 1) (Yu (j := 0) y7 (.slice pu6 nu6 cu6)) (.slice pu7 nu7 cu7)
  obtain ⟨k0, k1⟩ := Zh kk
  have hx := hsx.out
  have s6 := hb6.size
  have s7 := hb7.size
  simp at s6 s7
  refine bodyPost_ret (v := .agg #[.slice pu6 nu6 cu6, .slice pu7 nu7 cu7]) (by simp [results, results90, go_sem, k0, k1]) rfl ?_
  refine ⟨⟨_, _, rfl, ns ++ [name], ts ++ [kind], ⟨Zw.move hu8 (fun k hk => ?_), fun k hk => ⟨?_, ?_⟩⟩, ⟨Zw.move hu7 (fun k hk => ?_), fun k hk => ⟨?_, ?_⟩⟩, ?_, ?_, ?_⟩, ?_⟩
  · have := (hk6 k hk).1
    try simp at this
    rw [Z3 _ (show k ≠ w.heap.size + 1 by omega), Z3 _ (show k ≠ w.heap.size + 1 by omega)]
  · have := (hk6 k hk).1
    try simp at this
    omega
  · have := (hk6 k hk).2
    simp
    omega
  · have := (hk7 k hk).1
    try simp at this
    rw [Z3 _ (show k ≠ w.heap.size + 1 by omega), Z3 _ (show k ≠ w.heap.size + 1 by omega)]
  · have := (hk7 k hk).1
    try simp at this
    omega
  · have := (hk7 k hk).2
    simp
    omega
  · have e1 := HL1.out
    have e2 := H3.out
    simp; omega
  · have e1 := HL1.out
    simp; omega
  · intro x hx
    rcases List.mem_append.1 hx with h | h
    · exact H5.out x h
    · simp only [List.mem_singleton] at h; subst h; exact hname
  · exact ((HB0.out.trans (hB7.mono HB0.out.size)).setCell (show w.heap.size ≤ w.heap.size + 1 by omega) _).setCell (show w.heap.size ≤ w.heap.size + 1 by omega) _
theorem Z7t (s : ByteArray) (hs : s.size ≤ 1048576) (w : World) : Calls prog 93 #[.string s] w fun e w' => e = .returned (.bool (Lib.decFrom 0 s.data.toList).isSome) ∧ w' = w := by
 obtain ⟨R, hR⟩ : ∃ R, R = (Lib.decFrom 0 s.data.toList).isSome := ⟨_, rfl⟩
 rw [← hR]
 have HR := H_ hR
 clear hR
 go_enter func93, ntmps93
 go_wp2_with fail
 go_loop [6] (fun i => ∃ k : Nat, k ≤ s.size ∧ i = .int .i64 k ∧ Hid (∃ m, Lib.decFrom 0 (s.data.toList.take k) = some m)) (fun i => s.size - (intOf i).toNat)
 case atStart => exact ⟨0, Nat.zero_le _, rfl, H_ ⟨0, rfl⟩⟩
 case round =>
  obtain ⟨k, hk, rfl, hm⟩ := hrel
  by_cases hlt : k < s.size
  · have hbk : s.data.toList[k]? = some s[k] := by rw [List.getElem?_eq_getElem (by simpa using hlt)]; rfl
    have hk0 : (0 : Int) ≤ (k : Int) := by omega
    obtain ⟨b, hb⟩ : ∃ b, b = s[k] := ⟨_, rfl⟩
    by_cases hdg : 48 ≤ b.toNat ∧ b.toNat ≤ 57
    · have hdv : Lib.digitVal s[k] = some (b.toNat - 48) := by rw [← hb]; simp [Lib.digitVal, hdg]
      have HS : Hid (∃ m, Lib.decFrom 0 (s.data.toList.take (k + 1)) = some m) := H_ (by obtain ⟨m, h⟩ := hm.out; exact ⟨_, Lib.decFrom_take _ k 0 m _ _ h hbk hdv⟩)
      have hd1 : ¬ ((b.toNat : Int) < 48) := by omega
      have hd2 : ¬ ((57 : Int) < b.toNat) := by omega
      have hb8 : s[k] = b := hb.symm
      clear hb hbk hdv
      go_wp2_with fail
      exact ⟨⟨k + 1, by omega, by go_num, HS⟩, by simp [intOf]; omega⟩
    · have hdv : Lib.digitVal s[k] = none := by rw [← hb]; simp only [Lib.digitVal]; rw [if_neg hdg]
      have HNN := H_ (J9 s.data.toList 0 k _ hbk hdv)
      have hb8 : s[k] = b := hb.symm
      clear hb hbk hdv
      by_cases hd1 : ((b.toNat : Int) < 48)
      · go_wp2_with fail
        go_ret
        exact ⟨Zf (by rw [HR.out, HNN.out]; rfl), rfl⟩
      · have hd2 : (57 : Int) < b.toNat := by omega
        go_wp2_with fail
        go_ret
        exact ⟨Zf (by rw [HR.out, HNN.out]; rfl), rfl⟩
  · have : k = s.size := by omega
    subst this
    have hm' := hm.out
    rw [← Q2, List.take_length] at hm'
    have HM := H_ hm'
    clear hm'
    go_wp2_with fail
    go_ret
    exact ⟨Zf (by obtain ⟨m, h⟩ := HM.out; rw [HR.out, h]; rfl), rfl⟩
theorem trim_c (l : List UInt8) (w : World) : Calls prog 164 #[.string (bs l), .string ⟨#[45]⟩] w fun e w' => e = .returned (.string (bs (Zg l))) ∧ w' = w :=
 (Tryz.strings_TrimPrefix (bs l) ⟨#[45]⟩ w).mono fun e w' ⟨h1, h2⟩ => ⟨by rw [h1, ← trim_minus]; rfl, h2⟩
theorem below_bytes (w : World) (e : TypeId) (s : ByteArray) : Below w.heap.size w (Lib.bytesWorld w e s) := Go.Joins.below_bytesWorld _ _ _ _ (Nat.le_refl _)
theorem Z3h (l : List UInt8) (hl : l.length ≤ 1048576) (w : World) : Calls prog 151 #[.string (bs l)] w fun e w' => Z6t (Q3 l) e ∧ Below w.heap.size w w' := by
 obtain ⟨R, hR⟩ : ∃ R, R = Q3 l := ⟨_, rfl⟩
 rw [← hR]
 have HR := H_ hR
 clear hR
 by_cases h0 : l = [48]
 · subst h0
   have HN := H_ Z7e
   rw [show bs [48] = ⟨#[48]⟩ from rfl]
   go_enter func151, ntmps151
   go_wp2_with fail
   go_ret2
   exact ⟨by rw [HR.out, HN.out]; rfl, Below.refl _ _⟩
 have hz1 : ((bs l).toList == [48]) = false := by rw [Z9]; simpa using h0
 have hz2 : ¬ (bs l).toList = [48] := by rw [Z9]; exact h0
 have HT := H_ (trim_c l)
 have hdl := Z4y l
 obtain ⟨D, hD⟩ : ∃ D, D = bs (Zg l) := ⟨_, rfl⟩
 have hDs : D.size = (Zg l).length := by rw [hD, Y0]
 have hDl : D.data.toList = Zg l := by rw [hD, K4]
 rw [← hD] at HT
 have HDl := H_ hDl
 have ID := H_ (Z7t D (by omega))
 by_cases hin : 1 ≤ D.size ∧ D.size ≤ 3
 · have hD0 : 0 < D.size := by omega
   have hD0' : (0 : Int) < (D.size : Int) := by omega
   have hn1 : ¬ ((D.size : Int) < 1) := by omega
   have hn3 : ¬ ((3 : Int) < (D.size : Int)) := by omega
   by_cases h48 : D[0] = 48
   · have hh : ((D[0].toNat : Int) == 48) = true := by rw [h48]; rfl
     have HN := H_ (Vz h0 (fun q => q.2.2 (by rw [← hDl, List.head?_eq_getElem?, List.getElem?_eq_getElem (by rw [hDl]; omega)]; exact congrArg some h48)))
     clear h48 hDs hDl hD hdl
     go_enter func151, ntmps151
     go_wp2_with (go_at_call 164; go_must (refine (HT.out _).mono ?_; rintro e w1 ⟨rfl, rfl⟩))
     go_ret2
     exact ⟨by rw [HR.out, HN.out]; rfl, Below.refl _ _⟩
   · have hh : ((D[0].toNat : Int) == 48) = false := by simp only [beq_eq_false_iff_ne, ne_eq]; intro q; exact h48 (UInt8.toNat_inj.1 (by have : (48 : UInt8).toNat = 48 := rfl; omega))
     have HN := H_ (Z33 h0 ⟨by omega, by omega, fun q => h48 (by rw [← hDl, List.head?_eq_getElem?, List.getElem?_eq_getElem (by rw [hDl]; omega)] at q; exact Option.some.inj q)⟩)
     cases hdc : Lib.decFrom 0 (Zg l) with
     | none =>
       unfold Hid at ID HN
       rw [hDl, hdc] at ID
       rw [hdc] at HN
       have ID := H_ ID
       have HN := H_ HN
       clear h48 hDs hDl hD hdl hdc
       go_enter func151, ntmps151
       go_wp2_with (first | (go_at_call 164; go_must (refine (HT.out _).mono ?_; rintro e w1 ⟨rfl, rfl⟩)) | (go_at_call 93; go_must (refine (ID.out _).mono ?_; rintro e w2 ⟨rfl, rfl⟩)))
       go_ret2
       exact ⟨by rw [HR.out, HN.out]; rfl, Below.refl _ _⟩
     | some m =>
       have AT := H_ (fun W => Tryz.strconv_Atoi (bs l) (Vb l * (m : Int)) (by rw [Y0]; omega) (atoi_num h0 (by intro q; have q' : Zg l = [] := q; have : D.size = 0 := (by rw [hDs, q']; rfl); omega) hdc) W)
       unfold Hid at ID HN
       rw [hDl, hdc] at ID
       rw [hdc] at HN
       have ID := H_ ID
       have HN := H_ HN
       obtain ⟨v, hv⟩ : ∃ v, v = Vb l * (m : Int) := ⟨_, rfl⟩
       rw [← hv] at AT
       have HV := H_ hv
       clear h48 hDs hDl hD hdl hdc hv
       go_enter func151, ntmps151
       go_wp2_with (first | (go_at_call 164; go_must (refine (HT.out _).mono ?_; rintro e w1 ⟨rfl, rfl⟩)) | (go_at_call 93; go_must (refine (ID.out _).mono ?_; rintro e w2 ⟨rfl, rfl⟩)) | (go_at_call 165; go_must (refine (AT.out _).mono ?_; rintro e w3 ⟨rfl, tt, rfl⟩)))
       go_quiet (fail)
       go_wp2_with fail
       go_ret2
       exact ⟨by rw [HR.out, HN.out, HV.out]; rfl, (below_bytes _ _ _).trans ⟨rfl, rfl, rfl, Nat.le_refl _, fun _ _ => rfl⟩⟩
 · have hn : (D.size : Int) < 1 ∨ (3 : Int) < (D.size : Int) := by omega
   have HN := H_ (Vz h0 (fun q => hin ⟨by omega, by omega⟩))
   clear hDs hDl hD hdl
   rcases hn with hn | hn
   · go_enter func151, ntmps151
     go_wp2_with (go_at_call 164; go_must (refine (HT.out _).mono ?_; rintro e w1 ⟨rfl, rfl⟩))
     go_ret2
     exact ⟨by rw [HR.out, HN.out]; rfl, Below.refl _ _⟩
   · have hn1 : ¬ ((D.size : Int) < 1) := by omega
     go_enter func151, ntmps151
     go_wp2_with (go_at_call 164; go_must (refine (HT.out _).mono ?_; rintro e w1 ⟨rfl, rfl⟩))
     go_ret2
     exact ⟨by rw [HR.out, HN.out]; rfl, Below.refl _ _⟩
end Go.Proofs.YtjaaalojcdbcpaaGreatDoor
