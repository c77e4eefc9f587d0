/- Worlds in which one block alone may have changed. The reference's draws: opening a code, picking a number. The reference's draws: texts of a list, atoms, types, forms. -/
import Derived.Test.YtjaaalojcdbcpaaGreatDoorlB1
import Derived.BigQuiet
import Derived.Test.YtjaaalojcdbcpaaGreatDoorlAsrAM
set_option maxHeartbeats 20000000
set_option linter.unusedVariables false
set_option linter.unusedSimpArgs false
namespace Go.Proofs.YtjaaalojcdbcpaaGreatDoor
open Go.RowKit Go.Proofs.Tryz
set_option maxRecDepth 8000
structure Only (b : Nat) (w w' : World) : Prop where
 os : w'.os = w.os
 tape : w'.tape = w.tape
 output : w'.output = w.output
 size : w.heap.size ≤ w'.heap.size
 block : ∀ k, k < w.heap.size → k ≠ b → w'.heap[k]? = w.heap[k]?
theorem Only.refl (b : Nat) (w : World) : Only b w w := ⟨rfl, rfl, rfl, Nat.le_refl _, fun _ _ _ => rfl⟩
theorem Only.trans {b : Nat} {x y z : World} (h : Only b x y) (k : Only b y z) : Only b x z :=
 ⟨k.os.trans h.os, k.tape.trans h.tape, k.output.trans h.output, Nat.le_trans h.size k.size, fun i hi hb => (k.block i (Nat.lt_of_lt_of_le hi h.size) hb).trans (h.block i hi hb)⟩
theorem Only.of {b : Nat} {w w' : World} (h : Below w.heap.size w w') : Only b w w' := ⟨h.os, h.tape, h.output, h.size, fun k hk _ => h.block k hk⟩
theorem Only.drew {b : Nat} {x w : World} (h : Only b x w) : Only b x w.drew := ⟨h.os, h.tape, h.output, h.size, h.block⟩
theorem Only.alloc {b : Nat} {x w : World} (h : Only b x w) (o : Obj) : Only b x (w.alloc o) := h.trans (Only.of (Z5 w o))
theorem Only.set {b : Nat} {x w : World} (h : Only b x w) {p : Addr} (hp : p.block = b) (u : Value) : Only b x (w.setCell p u) :=
 ⟨h.os, h.tape, h.output, by simpa [World.setCell] using h.size, fun k hk hb => by rw [Z3 _ (by omega)]; exact h.block k hk hb⟩
theorem Only.setNew {b : Nat} {x w : World} (h : Only b x w) {p : Addr} (hp : x.heap.size ≤ p.block) (u : Value) : Only b x (w.setCell p u) :=
 ⟨h.os, h.tape, h.output, by simpa [World.setCell] using h.size, fun k hk hb => by rw [Z3 _ (by omega)]; exact h.block k hk hb⟩
theorem Only.next {b : Nat} {x y z : World} (h : Only b x y) (k : Below y.heap.size y z) : Only b x z := h.trans (Only.of k)
theorem Only.below {b B : Nat} {w w' : World} (h : Only b w w') (hb : B ≤ b) (hB : B ≤ w.heap.size) : Below B w w' := ⟨h.os, h.tape, h.output, h.size, fun k hk => h.block k (by omega) (by omega)⟩
theorem Only.fresh {b B : Nat} {w w' w0 : World} (h0 : Below B w0 w) (h : Only b w w') (hb : B ≤ b) (hB : B ≤ w.heap.size) : Below B w0 w' := h0.trans (h.below hb hB)
theorem Only.blk {b k : Nat} {w w' : World} {o : Obj} (h : Only b w w') (hk : w.heap[k]? = some o) (hne : k ≠ b) : w'.heap[k]? = some o := by rw [h.block k (lt_of_block hk) hne]; exact hk
theorem Only.cell {b : Nat} {w w' : World} (h : Only b w w') {p : Addr} (hp : p.block < w.heap.size) (hne : p.block ≠ b) : w'.cell? p = w.cell? p := World.cell?_of_block (w := w) (h.block p.block hp hne)
theorem Only.grown {b : Nat} {x w w' : World} {row : Option Nat} (h : Only b x w) (hg : w.grownBy w' row) (hr : ∀ k, row = some k → x.heap.size ≤ k) : Only b x w' :=
 ⟨hg.os.trans h.os, hg.tape.trans h.tape, hg.output.trans h.output, Nat.le_trans h.size hg.size, fun k hk hb => (hg.block k (Nat.lt_of_lt_of_le hk h.size) (fun e => by have := hr k e.symm; omega)).trans (h.block k hk hb)⟩
theorem FV.only {nd : Tr → Value → List Value} {b : Nat} {w w' : World} {ok : Nat → Prop} {t : Tr} {cs : List Value} (h : FV nd w ok t cs) (ho : Only b w w') (hok : ∀ k, ok k → k < w.heap.size ∧ k ≠ b) : FV nd w' ok t cs :=
 FV.move (fun _ h => h) (fun k hk => ho.block k (hok k hk).1 (hok k hk).2) _ _ h
theorem FVs.only {nd : Tr → Value → List Value} {b : Nat} {w w' : World} {ok : Nat → Prop} {ts : List Tr} {xs : List Value} (h : FVs nd w ok ts xs) (ho : Only b w w') (hok : ∀ k, ok k → k < w.heap.size ∧ k ≠ b) : FVs nd w' ok ts xs :=
 FVs.move (fun _ h => h) (fun k hk => ho.block k (hok k hk).1 (hok k hk).2) _ _ h
theorem KASo {wx : World} {S : World → Prop} (K : ∀ W, Below wx.heap.size wx W → S W) {W : World} {o : Obj} (h : Below wx.heap.size wx W) : S (W.alloc o) := K _ (h.alloc h.size o)
def Z24 (w : World) (a : Option Addr) (L c : Nat) (zs : List Int) : Prop :=
 L = 0 ∨ ∃ b off, a = some ⟨b, off, none⟩ ∧ b < w.heap.size ∧ L ≤ zs.length ∧ L ≤ c ∧ c ≤ maxLen ∧ (∀ i, i < L → w.cell? ⟨b, off + i, none⟩ = some (.int .u8 (zs.getD i 0))) ∧ ∀ i, 0 ≤ zs.getD i 0 ∧ zs.getD i 0 ≤ 255
theorem Z24.below {w w' : World} {a : Option Addr} {L c : Nat} {zs : List Int} (h : Z24 w a L c zs) (hb : Below w.heap.size w w') : Z24 w' a L c zs := by
 rcases h with h | ⟨b, off, rfl, h1, h2, h3, h4, h5, h6⟩
 · exact .inl h
 · exact .inr ⟨b, off, rfl, Nat.lt_of_lt_of_le h1 hb.size, h2, h3, h4, fun i hi => (hb.cell (p := ⟨b, off + i, none⟩) h1).trans (h5 i hi), h6⟩
theorem Z24.only {w w' : World} {q : Nat} {a : Option Addr} {L c : Nat} {zs : List Int} (h : Z24 w a L c zs) (hb : Only q w w') (hq0 : L = 0 ∨ ∀ x, a = some x → x.block ≠ q) : Z24 w' a L c zs := by
 rcases hq0 with hq0 | hq
 · exact .inl hq0
 rcases h with h | ⟨b, off, rfl, h1, h2, h3, h4, h5, h6⟩
 · exact .inl h
 · exact .inr ⟨b, off, rfl, Nat.lt_of_lt_of_le h1 hb.size, h2, h3, h4, fun i hi => (hb.cell (p := ⟨b, off + i, none⟩) h1 (hq ⟨b, off, none⟩ rfl)).trans (h5 i hi), h6⟩
theorem Z24.bound {w : World} {a : Option Addr} {L c : Nat} {zs : List Int} (h : Z24 w a L c zs) : L ≤ 9223372036854775807 := by
 rcases h with h | ⟨b, off, rfl, h1, h2, h3, h4, h5, h6⟩
 · omega
 · have := Yl h4; omega
def RdD (w : World) (q : Nat) (a : Option Addr) (L c p : Nat) : Prop := w.heap[q]? = some (.cells #[.slice a L c, .int .i64 p] 98 (0, 0))
structure Rd (w : World) (q : Nat) (a : Option Addr) (L c p : Nat) (zs : List Int) : Prop where
 blk : RdD w q a L c p
 row : Z24 w a L c zs
 ne : L = 0 ∨ ∀ x, a = some x → x.block ≠ q
 len : L ≤ 2000
theorem Rd.below {w w' : World} {q : Nat} {a : Option Addr} {L c p : Nat} {zs : List Int} (h : Rd w q a L c p zs) (hb : Below w.heap.size w w') : Rd w' q a L c p zs :=
 ⟨Z2 hb (lt_of_block h.blk) h.blk, h.row.below hb, h.ne, h.len⟩
theorem xor_i64 (a b : Nat) (ha : a < 2 ^ 62) (hb : b < 2 ^ 62) : bits .xor .i64 (a : Int) (b : Int) = ((a ^^^ b : Nat) : Int) := by
 have hx : a ^^^ b < 2 ^ 62 := Nat.xor_lt_two_pow ha hb
 have h1 : (BitVec.ofInt 64 (a : Int)).toNat = a := by
  rw [BitVec.ofInt_natCast, BitVec.toNat_ofNat]; exact Nat.mod_eq_of_lt (by omega)
 have h2 : (BitVec.ofInt 64 (b : Int)).toNat = b := by
  rw [BitVec.ofInt_natCast, BitVec.toNat_ofNat]; exact Nat.mod_eq_of_lt (by omega)
 show IntKind.i64.wrap ((BitVec.ofInt 64 (a : Int) ^^^ BitVec.ofInt 64 (b : Int)).toNat : Int) = _
 rw [BitVec.toNat_xor, h1, h2, IntKind.wrap_i64]
 omega
def PickPost (q : Nat) (a : Option Addr) (L c p : Nat) (n : Int) (w : World) (e : Ending) (w' : World) : Prop := (∃ r : Int, e = .returned (.int .i64 r) ∧ 0 ≤ r ∧ (r < n ∨ r = 0)) ∧ RdD w' q a L c (p + 1) ∧ Only q w w'
theorem rd_set {w : World} {q : Nat} {a : Option Addr} {L c p : Nat} (h : RdD w q a L c p) : RdD (w.setCell ⟨q, 1, none⟩ (.int .i64 ((p : Int) + 1))) q a L c (p + 1) := by
 have := Yu (j := 1) h (.int .i64 ((p : Int) + 1))
 exact this
theorem pick_c (q : Nat) (a : Option Addr) (L c p : Nat) (zs : List Int) (n : Int) (w : World) (h : Rd w q a L c p zs) (hp : p ≤ 1000000) (hn : n ≤ 1000000) :
 Calls prog 41 #[.pointer (some ⟨q, 0, none⟩), .int .i64 n] w fun e w' => PickPost q a L c p n w e w' := by
 have hblk : w.heap[q]? = some (.cells #[.slice a L c, .int .i64 p] 98 (0, 0)) := h.blk
 obtain ⟨r0, r1⟩ := Zh hblk
 have f1 := Yf (j := 1) hblk
 have hL := h.len
 have HS := H_ (rd_set h.blk)
 have w1 : IntKind.i64.wrap ((p : Int) + 1) = (p : Int) + 1 := by rw [IntKind.wrap_i64]; omega
 have w2 : IntKind.i64.wrap ((p : Int) + 1 - 1) = (p : Int) := by rw [IntKind.wrap_i64]; omega
 have HO := H_ ((Only.refl q w).set (p := ⟨q, 1, none⟩) rfl (.int .i64 ((p : Int) + 1)))
 by_cases h1 : n < 1
 · go_enter func41, ntmps41
   go_wp2_with fail
   go_ret
   exact ⟨⟨0, rfl, by omega, by omega⟩, HS.out, HO.out⟩
 · have hd : decide (n < 1) = false := decide_eq_false h1
   rcases h.row with rfl | ⟨b, off, rfl, hb, hz, hLc, hcm, hcell, hrange⟩
   · go_enter func41, ntmps41
     go_wp2_with fail
     go_ret
     exact ⟨⟨0, rfl, by omega, by omega⟩, HS.out, HO.out⟩
   · by_cases h0 : L = 0
     · subst h0
       go_enter func41, ntmps41
       go_wp2_with fail
       go_ret
       exact ⟨⟨0, rfl, by omega, by omega⟩, HS.out, HO.out⟩
     · have hbq := h.ne.resolve_left h0 _ rfl
       have hL0 : ¬ (L : Int) = 0 := by omega
       have hL1 : ((L : Int) == 0) = false := by simp; omega
       by_cases hlt : p < L
       · have hltI : (p : Int) < (L : Int) := by omega
         have x0 : (w.setCell ⟨q, 1, none⟩ (.int .i64 ((p : Int) + 1))).cell? ⟨b, off + p, none⟩ = some (.int .u8 (zs.getD p 0)) := by
          rw [HO.out.cell (p := ⟨b, off + p, none⟩) hb hbq]; exact hcell p hlt
         have hu := hrange p
         have hp0 : (0 : Int) ≤ (p : Int) := by omega
         obtain ⟨u, hu9⟩ : ∃ u, u = zs.getD p 0 := ⟨_, rfl⟩
         rw [← hu9] at x0 hu
         have w3 : IntKind.i64.wrap u = u := by rw [IntKind.wrap_i64]; omega
         have hrem : u.tmod n = u % n := Int.tmod_eq_emod_of_nonneg hu.1
         have hr0 : 0 ≤ u % n := Int.emod_nonneg _ (by omega)
         have hr1 : u % n < n := Int.emod_lt_of_pos _ (by omega)
         have w4 : IntKind.i64.wrap (u % n) = u % n := by rw [IntKind.wrap_i64]; omega
         have hnz : ¬ n = 0 := by omega
         clear hcell hrange h hz hu9
         go_enter func41, ntmps41
         go_wp2_with fail
         go_ret
         exact ⟨⟨u % n, Z30 (by first | rfl | simp), hr0, .inl hr1⟩, HS.out, HO.out⟩
       · have hltI : ¬ (p : Int) < (L : Int) := by omega
         obtain ⟨j1, hj1⟩ : ∃ j, j = p % L := ⟨_, rfl⟩
         obtain ⟨j2, hj2⟩ : ∃ j, j = (p * 7 + 3) % L := ⟨_, rfl⟩
         obtain ⟨d, hd9⟩ : ∃ d, d = p / L := ⟨_, rfl⟩
         have l1 : j1 < L := by rw [hj1]; exact Nat.mod_lt _ (by omega)
         have l2 : j2 < L := by rw [hj2]; exact Nat.mod_lt _ (by omega)
         have l3 : d ≤ 1000000 := by rw [hd9]; exact Nat.le_trans (Nat.div_le_self _ _) hp
         have E1 : (p : Int).tmod (L : Int) = (j1 : Int) := by rw [hj1, Int.tmod_eq_emod_of_nonneg (by omega)]; simp
         have E2 : ((p : Int) * 7 + 3).tmod (L : Int) = (j2 : Int) := by rw [hj2, Int.tmod_eq_emod_of_nonneg (by omega)]; simp
         have E3 : (p : Int).tdiv (L : Int) = (d : Int) := by rw [hd9, Int.tdiv_eq_ediv_of_nonneg (by omega)]; simp
         have x1 : (w.setCell ⟨q, 1, none⟩ (.int .i64 ((p : Int) + 1))).cell? ⟨b, off + j1, none⟩ = some (.int .u8 (zs.getD j1 0)) := by
          rw [HO.out.cell (p := ⟨b, off + j1, none⟩) hb hbq]; exact hcell j1 l1
         have x2 : (w.setCell ⟨q, 1, none⟩ (.int .i64 ((p : Int) + 1))).cell? ⟨b, off + j2, none⟩ = some (.int .u8 (zs.getD j2 0)) := by
          rw [HO.out.cell (p := ⟨b, off + j2, none⟩) hb hbq]; exact hcell j2 l2
         have hu1 := hrange j1
         have hu2 := hrange j2
         obtain ⟨u1, hv1⟩ : ∃ u, u = zs.getD j1 0 := ⟨_, rfl⟩
         obtain ⟨u2, hv2⟩ : ∃ u, u = zs.getD j2 0 := ⟨_, rfl⟩
         rw [← hv1] at x1 hu1
         rw [← hv2] at x2 hu2
         have a1 : IntKind.i64.wrap u1 = u1 := by rw [IntKind.wrap_i64]; omega
         have a2 : IntKind.i64.wrap u2 = u2 := by rw [IntKind.wrap_i64]; omega
         have a3 : IntKind.i64.wrap (u1 * 131) = u1 * 131 := by rw [IntKind.wrap_i64]; omega
         have a4 : IntKind.i64.wrap (u2 * 1117) = u2 * 1117 := by rw [IntKind.wrap_i64]; omega
         have a5 : IntKind.i64.wrap ((p : Int) * 7) = (p : Int) * 7 := by rw [IntKind.wrap_i64]; omega
         have a6 : IntKind.i64.wrap ((p : Int) * 7 + 3) = (p : Int) * 7 + 3 := by rw [IntKind.wrap_i64]; omega
         have a7 : IntKind.i64.wrap (u1 * 131 + u2 * 1117) = u1 * 131 + u2 * 1117 := by rw [IntKind.wrap_i64]; omega
         have a8 : IntKind.i64.wrap ((p : Int) * 29) = (p : Int) * 29 := by rw [IntKind.wrap_i64]; omega
         have a9 : IntKind.i64.wrap (u1 * 131 + u2 * 1117 + (p : Int) * 29) = u1 * 131 + u2 * 1117 + (p : Int) * 29 := by rw [IntKind.wrap_i64]; omega
         have b1 : IntKind.i64.wrap ((d : Int) * 53) = (d : Int) * 53 := by rw [IntKind.wrap_i64]; omega
         have b2 : IntKind.i64.wrap (u1 * 131 + u2 * 1117 + (p : Int) * 29 + (d : Int) * 53) = u1 * 131 + u2 * 1117 + (p : Int) * 29 + (d : Int) * 53 := by rw [IntKind.wrap_i64]; omega
         have b3 : IntKind.i64.wrap (j1 : Int) = (j1 : Int) := by rw [IntKind.wrap_i64]; omega
         have b4 : IntKind.i64.wrap (j2 : Int) = (j2 : Int) := by rw [IntKind.wrap_i64]; omega
         have b5 : IntKind.i64.wrap (d : Int) = (d : Int) := by rw [IntKind.wrap_i64]; omega
         have i1 : (0 : Int) ≤ (j1 : Int) := by omega
         have i2 : (0 : Int) ≤ (j2 : Int) := by omega
         have i3 : (j1 : Int) < (L : Int) := by omega
         have i4 : (j2 : Int) < (L : Int) := by omega
         obtain ⟨X, hX⟩ : ∃ X : Nat, u1 * 131 + u2 * 1117 + (p : Int) * 29 + (d : Int) * 53 = (X : Int) := ⟨(u1 * 131 + u2 * 1117 + (p : Int) * 29 + (d : Int) * 53).toNat, by omega⟩
         have hX2 : X ≤ 1000000000 := by omega
         have HX := H_ hX
         have hxr := xor_i64 X (X / 64) (by omega) (by omega)
         have hq1 : ((X / 64 : Nat) : Int) = (X : Int) / 64 := by simp
         obtain ⟨Y, hY⟩ : ∃ Y, Y = X ^^^ X / 64 := ⟨_, rfl⟩
         rw [← hY, hq1] at hxr
         clear hq1
         have hY2 : Y < 2 ^ 30 := by rw [hY]; exact Nat.xor_lt_two_pow (by omega) (by omega)
         have hrem : (Y : Int).tmod n = (Y : Int) % n := Int.tmod_eq_emod_of_nonneg (by omega)
         have hr0 : 0 ≤ (Y : Int) % n := Int.emod_nonneg _ (by omega)
         have hr1 : (Y : Int) % n < n := Int.emod_lt_of_pos _ (by omega)
         have w4 : IntKind.i64.wrap ((Y : Int) % n) = (Y : Int) % n := by rw [IntKind.wrap_i64]; omega
         have hnz : ¬ n = 0 := by omega
         clear hX hcell hrange h hz hv1 hv2 hj1 hj2 hd9 hY hu1 hu2
         go_enter func41, ntmps41
         go_wp2_with fail
         go_quiet (fail)
         rw [HX.out]
         go_wp2_with fail
         go_ret
         exact ⟨⟨(Y : Int) % n, Z30 (by first | rfl | rw [hxr, hrem]), hr0, .inl hr1⟩, HS.out, HO.out.next ⟨rfl, rfl, rfl, Nat.le_refl _, fun _ _ => rfl⟩⟩
theorem l6Open_c (a : Option Addr) (L c : Nat) (zs : List Int) (w : World) (hr : Z24 w a L c zs) :
 Calls prog 37 #[.slice a L c] w fun e w' => e = .returned (.pointer (some ⟨w.heap.size, 0, none⟩)) ∧ (∃ L' c', Rd w' w.heap.size a L' c' 0 zs) ∧ Below w.heap.size w w' := by
 have hr2 := hr
 rcases hr with rfl | ⟨b, off, rfl, hb, hz, hLc, hcm, hcell, hrange⟩
 · go_enter func37, ntmps37
   go_wp2_with fail
   go_ret
   exact ⟨rfl, ⟨0, _, heap_alloc_new _ _, .inl rfl, .inl rfl, by omega⟩, Z5 _ _⟩
 · have hm := Yl hcm
   by_cases h2 : (L : Int) > 2000
   · have hk : (2000 : Int) ≤ (c : Int) := by omega
     go_enter func37, ntmps37
     go_wp2_with fail
     go_ret
     exact ⟨rfl, ⟨2000, _, heap_alloc_new _ _, Z24.below (.inr ⟨b, off, rfl, hb, by omega, by omega, hcm, fun i hi => hcell i (by omega), hrange⟩) (Z5 _ _), .inr (fun x hx => by cases hx; exact Nat.ne_of_lt hb), by omega⟩, Z5 _ _⟩
   · have h3 : decide ((L : Int) > 2000) = false := decide_eq_false h2
     go_enter func37, ntmps37
     go_wp2_with fail
     go_ret
     exact ⟨rfl, ⟨L, _, heap_alloc_new _ _, hr2.below (Z5 _ _), .inr (fun x hx => by cases hx; exact Nat.ne_of_lt hb), by omega⟩, Z5 _ _⟩
theorem Z6s {W : World} {a : Option Addr} {L c : Nat} {zs : List Int} (h : (a = none ∧ L = 0) ∨ ∃ x, a = some x ∧ L ≤ c ∧ c ≤ maxLen ∧ zs.length = c ∧ (∀ i, i < zs.length → W.cell? (x.add i) = some (.int .u8 (zs.getD i 0))) ∧ ∀ n ∈ zs, (Lit.int .u8 n).wf = true) : Z24 W a L c zs := by
 rcases h with ⟨rfl, rfl⟩ | ⟨x, rfl, h1, h2, h3, h4, h5⟩
 · exact .inl rfl
 · by_cases h0 : L = 0
   · exact .inl h0
   · obtain ⟨b, off, spot⟩ := x
     have hc := h4 0 (by omega)
     have hspot : spot = none := by simpa [Addr.add] using World.cell?_spot hc
     subst hspot
     refine .inr ⟨b, off, rfl, ?_, by omega, h1, h2, fun i hi => by
      have e : (⟨b, off, none⟩ : Addr).add i = ⟨b, off + i, none⟩ := by unfold Addr.add; split <;> simp_all
      rw [← e]; exact h4 i (by omega), fun i => ?_⟩
     · have := World.block_lt_of_cell? _ _ hc
       simpa [Addr.add] using this
     · by_cases hi : i < zs.length
       · have h6 := h5 (zs.getD i 0) (by rw [List.getD_eq_getElem?_getD, List.getElem?_eq_getElem hi]; exact List.getElem_mem hi)
         simp only [Lit.wf, Bool.and_eq_true, decide_eq_true_eq] at h6
         have e1 : IntKind.u8.min = 0 := by decide
         have e2 : IntKind.u8.max = 255 := by decide
         omega
       · rw [List.getD_eq_getElem?_getD, List.getElem?_eq_none (by omega)]
         simp
def Ql (q : Nat) (a : Option Addr) (L c p : Nat) (zs : List Int) (N M : Nat) (w : World) (e : Ending) (w' : World) : Prop :=
 ∃ (s : ByteArray) (p' : Nat), e = .returned (.string s) ∧ s.size ≤ N ∧ p' ≤ p + M ∧ Rd w' q a L c p' zs ∧ Only q w w'
theorem K6 {q : Nat} {a : Option Addr} {L c p : Nat} {zs : List Int} {n : Int} {w : World} (h : Rd w q a L c p zs) (hp : p ≤ 1000000) (hn : n ≤ 1000000) :
 Calls prog 41 #[.pointer (some ⟨q, 0, none⟩), .int .i64 n] w fun e w' => (∃ r : Int, e = .returned (.int .i64 r) ∧ 0 ≤ r ∧ (r < n ∨ r = 0)) ∧ Rd w' q a L c (p + 1) zs ∧ Only q w w' :=
 (pick_c q a L c p zs n w h hp hn).mono fun e w' ⟨h1, h2, h3⟩ => ⟨h1, ⟨h2, h.row.only h3 h.ne, h.ne, h.len⟩, h3⟩
theorem of_d {q : Nat} {a : Option Addr} {L c p : Nat} {zs : List Int} {v : Value} {l : List (List UInt8)} {N : Nat} {w : World} (h : Rd w q a L c p zs) (hp : p ≤ 1000000) (hv : Zw w v l) (hl : l ≠ []) (hln : l.length ≤ 1000) (hN : ∀ x ∈ l, x.length ≤ N) (hne : ∀ k, v.ownBlock = some k → k ≠ q) :
 Calls prog 47 #[.pointer (some ⟨q, 0, none⟩), v] w fun e w' => Ql q a L c p zs N 1 w e w' := by
 obtain ⟨p1, c1, rfl, l1, hrow⟩ := hv
 obtain ⟨r, off, rfl, h3⟩ := hrow hl
 have hrq : r ≠ q := hne r rfl
 have hpos : 0 < l.length := List.length_pos_iff.2 hl
 have CP := H_ (K6 (n := (l.length : Int)) h hp (by omega))
 have HX : Hid (∀ j (hj : j < l.length), w.cell? ⟨r, off + j, none⟩ = some (.string (bs l[j]))) := H_ (fun j hj => Zw.cell h3 hj)
 have HN := H_ hN
 clear h hrow h3 hN
 go_enter func47, ntmps47
 go_wp2_with fail
 refine (CP.out).mono ?_
 rintro e w2 ⟨⟨k, rfl, hk0, hk1⟩, hR2, ho2⟩
 obtain ⟨j, rfl⟩ : ∃ j : Nat, k = (j : Int) := ⟨k.toNat, by omega⟩
 have hj : j < l.length := by omega
 have hrl : r < w.heap.size := World.block_lt_of_cell? _ _ (HX.out 0 hpos)
 have x0 : w2.cell? ⟨r, off + j, none⟩ = some (.string (bs l[j])) := by rw [ho2.cell (p := ⟨r, off + j, none⟩) hrl hrq]; exact HX.out j hj
 have hjI : (j : Int) < (l.length : Int) := by omega
 have hs : (bs l[j]).size ≤ N := by rw [Y0]; exact HN.out _ (List.getElem_mem hj)
 generalize bs l[j] = S at *
 clear HX HN
 go_wp2_with fail
 go_ret
 exact ⟨S, p + 1, rfl, hs, Nat.le_refl _, hR2, ho2⟩
theorem str_new {w : World} {l : List (List UInt8)} (hl : l.length ≤ 1000) : Zw (w.alloc (.cells (l.map Y3).toArray 9)) (.slice (some ⟨w.heap.size, 0, none⟩) l.length l.length) l :=
 ⟨_, _, rfl, by omega, fun _ => ⟨w.heap.size, 0, rfl, fun j v hj => by rw [Nat.zero_add, Z4 (heap_alloc_new w _)]; simpa using hj⟩⟩
theorem Kp {q : Nat} {a : Option Addr} {L c p : Nat} {zs : List Int} {l : List (List UInt8)} {N : Nat} {w : World} (h : Rd w q a L c p zs) (hp : p ≤ 1000000) (hl : l ≠ []) (hln : l.length ≤ 1000) (hN : ∀ x ∈ l, x.length ≤ N) :
 Calls prog 47 #[.pointer (some ⟨q, 0, none⟩), .slice (some ⟨w.heap.size, 0, none⟩) l.length l.length] (w.alloc (.cells (l.map Y3).toArray 9)) fun e w' => Ql q a L c p zs N 1 w e w' :=
 (of_d (h.below (Z5 w _)) hp (str_new hln) hl hln hN (fun k hk => by simp [Value.ownBlock] at hk; have := lt_of_block h.blk; omega)).mono fun e w' ⟨s, p', h1, h2, h3, h4, h5⟩ => ⟨s, p', h1, h2, h3, h4, (Only.of (Z5 w _)).trans h5⟩
def atomsL : List (List UInt8) := [[97], [98], [120, 48], [102, 49], [105], [108, 101, 116], [49, 50], [45, 51], [43], [48], [62], [118]]
theorem Ql.more {q : Nat} {a : Option Addr} {L c p : Nat} {zs : List Int} {N M N' M' : Nat} {w w' : World} {e : Ending} (h : Ql q a L c p zs N M w e w') (hN : N ≤ N') (hM : M ≤ M') : Ql q a L c p zs N' M' w e w' := by
 obtain ⟨s, p', h1, h2, h3, h4, h5⟩ := h
 exact ⟨s, p', h1, by omega, by omega, h4, h5⟩
theorem pow_pos4 (d : Nat) : 1 ≤ 4 ^ d := Nat.pos_of_ne_zero (by simp)
theorem sz40 : (⟨#[40]⟩ : ByteArray).size = 1 := rfl
theorem sz41 : (⟨#[41]⟩ : ByteArray).size = 1 := rfl
theorem sz32 : (⟨#[32]⟩ : ByteArray).size = 1 := rfl
theorem Z09 {q : Nat} {a : Option Addr} {L c : Nat} {zs : List Int} : ∀ (d p : Nat) (w : World), Rd w q a L c p zs → d ≤ 6 → p + 10 * 4 ^ d ≤ 1000000 →
 Calls prog 89 #[.pointer (some ⟨q, 0, none⟩), .int .i64 (d : Nat)] w fun e w' => Ql q a L c p zs (10 * 4 ^ d) (10 * 4 ^ d) w e w'
 | 0, p, w, h, hd, hp => by
   go_enter func89, ntmps89
   go_wp2_with fail
   go_ret
   exact ⟨_, p, rfl, by decide, by omega, h, Only.refl _ _⟩
 | d + 1, p, w, h, hd, hp => by
   have h4 := pow_pos4 d
   have hpw : 4 ^ (d + 1) = 4 * 4 ^ d := by rw [Nat.pow_succ]; omega
   rw [hpw] at hp ⊢
   obtain ⟨X, hX⟩ : ∃ X, X = 4 ^ d := ⟨_, rfl⟩
   have CP := H_ (K6 (n := 2) h (by omega) (by omega))
   have IH := H_ (fun p w (h : Rd w q a L c p zs) hp => Z09 d p w h (by omega) hp)
   unfold Hid at IH
   rw [← hX] at IH hp h4 ⊢
   have IH := H_ IH
   clear hX hpw h
   rw [show ((d + 1 : Nat) : Int) = (d : Int) + 1 from by simp]
   have k0 : (((d : Int) + 1) == 0) = false := by simp; omega
   have k1 : IntKind.i64.wrap ((d : Int) + 1 - 1) = (d : Int) := by rw [IntKind.wrap_i64]; omega
   have k2 : ¬ (d : Int) + 1 = 0 := by omega
   go_enter func89, ntmps89
   go_wp2_with fail
   refine (CP.out).mono ?_
   rintro e w2 ⟨⟨k, rfl, hk0, hk1⟩, hR2, ho2⟩
   by_cases hk : k = 0
   · subst hk
     go_wp2_with fail
     go_ret
     exact ⟨_, p + 1, rfl, by show 1 ≤ _; omega, by omega, hR2, ho2⟩
   · have hk9 : (k == 0) = false := by simpa using hk
     have C1 := H_ (Kp (l := [[62], [42]]) (N := 1) hR2 (by omega) (by decide) (by decide) (by decide))
     go_wp2_with fail
     refine (C1.out).mono ?_
     rintro e w3 ⟨s1, p3, rfl, g1, g2, hR3, ho3⟩
     go_wp2_with fail
     refine (IH.out p3 _ hR3 (by omega)).mono ?_
     rintro e w4 ⟨s2, p4, rfl, g3, g4, hR4, ho4⟩
     go_wp2_with fail
     refine (IH.out p4 _ hR4 (by omega)).mono ?_
     rintro e w5 ⟨s3, p5, rfl, g5, g6, hR5, ho5⟩
     go_wp2_with fail
     go_ret
     exact ⟨_, p5, rfl, by have y1 := sz40; have y2 := sz41; have y3 := sz32; simp; omega, by omega, hR5, ((ho2.trans ho3).trans ho4).trans ho5⟩
end Go.Proofs.YtjaaalojcdbcpaaGreatDoor
