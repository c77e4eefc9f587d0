/- The reference's draws: environments. The reference's draws: an environment and an expression. Type switches of the program: what an assertion answers. Type switches on expressions: what each asks of each. -/
import Derived.Test.YtfknoigbkleanaaGreatDoorxIp1M
import Derived.Test.YtfknoigbkleanaaGreatDoorxDrawC
import Derived.Test.YtfknoigbkleanaaGreatDoorxB1
import Derived.Test.YtfknoigbkleanaaGreatDoorxI2j
namespace Go.Proofs.YtfknoigbkleanaaGreatDoor
open Go.RowKit Go.Proofs.Tryz
set_option maxRecDepth 8000
set_option maxHeartbeats 20000000
set_option linter.unusedVariables false
set_option linter.unusedSimpArgs false
def Z7i : List Nm := [[97], [98], [120, 48]]
def enTs : List Nm := [[105], [40, 42, 32, 105, 32, 105, 41], [105]]
def EnPost (q : Nat) (a : Option Addr) (L c p : Nat) (zs : List Int) (w : World) (e : Ending) (w' : World) : Prop :=
 ∃ (v1 v2 : Value) (ns ts : List Nm), e = .returned (.tuple #[v1, v2]) ∧ ScL w' q v1 ns ∧ ScL w' q v2 ts ∧ (ns.length ≤ 4 ∧ ts.length ≤ 4 ∧ (∀ x ∈ ns, x.length ≤ 7) ∧ ∀ x ∈ ts, x.length ≤ 7) ∧ Rd w' q a L c (p + 1) zs ∧ Only q w w'
theorem str_tail {w : World} {b : Nat} {x : Nm} {l : List Nm} {t : TypeId} (h : w.heap[b]? = some (.cells ((x :: l).map Yc).toArray t (0, 0))) (hl : l.length ≤ 1000) : Zl w (.slice (some ⟨b, 1, none⟩) l.length l.length) l :=
 ⟨_, _, rfl, by omega, fun _ => ⟨b, 1, rfl, fun j v hj => by rw [Z2 h]; rw [show 1 + j = j + 1 by omega]; simpa using hj⟩⟩
theorem ScL.onlyB {w w' : World} {q : Nat} {v : Value} {l : List Nm} (h : ScL w q v l) (ho : Below w.heap.size w w') : ScL w' q v l := ⟨Yw h.1 ho, fun k hk => ⟨(h.2 k hk).1, Nat.lt_of_lt_of_le (h.2 k hk).2 ho.size⟩⟩
theorem l91Env_d {q : Nat} {a : Option Addr} {L c p : Nat} {zs : List Int} {w : World} (h : Rd w q a L c p zs) (hp : p ≤ 1000000) :
 Calls prog 41 #[.pointer (some ⟨q, 0, none⟩)] w fun e w' => EnPost q a L c p zs w e w' := by
 have hq : q < w.heap.size := lt_of_block h.blk
 have hbA := Zm w (.cells #[.string ⟨#[97]⟩, .string ⟨#[98]⟩, .string ⟨#[120, 48]⟩] 9) (.cells #[.string ⟨#[105]⟩, .string ⟨#[40, 42, 32, 105, 32, 105, 41]⟩, .string ⟨#[105]⟩] 9)
 have CP := H_ (Jm (n := 12) (h.below hbA) hp (by omega))
 have y0 : ((w.alloc (.cells #[.string ⟨#[97]⟩, .string ⟨#[98]⟩, .string ⟨#[120, 48]⟩] 9)).alloc (.cells #[.string ⟨#[105]⟩, .string ⟨#[40, 42, 32, 105, 32, 105, 41]⟩, .string ⟨#[105]⟩] 9)).heap[w.heap.size]? = some (.cells (Z7i.map Yc).toArray 9 (0, 0)) := Z8 (heap_alloc_new w _)
 have y1 : ((w.alloc (.cells #[.string ⟨#[97]⟩, .string ⟨#[98]⟩, .string ⟨#[120, 48]⟩] 9)).alloc (.cells #[.string ⟨#[105]⟩, .string ⟨#[40, 42, 32, 105, 32, 105, 41]⟩, .string ⟨#[105]⟩] 9)).heap[w.heap.size + 1]? = some (.cells (enTs.map Yc).toArray 9 (0, 0)) := Za w _ _
 have hs0 := lt_of_block y0
 have hs1 := lt_of_block y1
 have HT0 := H_ (str_tail (x := [105]) (l := [[40, 42, 32, 105, 32, 105, 41], [105]]) y1 (by decide))
 have HN0 : Hid (ScL _ q (.slice (some ⟨w.heap.size, 0, none⟩) 3 3) Z7i) := H_ ⟨Z1n (l := Z7i) y0 (by decide), fun k hk => by simp [Value.ownBlock] at hk; subst hk; exact ⟨by omega, hs0⟩⟩
 have HT1 : Hid (ScL _ q (.slice (some ⟨w.heap.size + 1, 0, none⟩) 3 3) enTs) := H_ ⟨Z1n (l := enTs) y1 (by decide), fun k hk => by simp [Value.ownBlock] at hk; subst hk; exact ⟨by omega, hs1⟩⟩
 have HT2 : Hid (ScL _ q (.slice (some ⟨w.heap.size + 1, 1, none⟩) 2 2) [[40, 42, 32, 105, 32, 105, 41], [105]]) := H_ ⟨HT0.out, fun k hk => by simp [Value.ownBlock] at hk; subst hk; exact ⟨by omega, hs1⟩⟩
 have HOA := H_ (Only.of (b := q) hbA)
 clear h y0 y1 hbA hs0 hs1 HT0
 go_enter func41, ntmps41
 go_wp2_with fail
 refine (CP.out).mono ?_
 rintro e w2 ⟨⟨m, rfl, hm0, hm1⟩, hR2, ho2⟩
 have HN2 := H_ (HN0.out.only ho2)
 have HS2 := H_ (HT1.out.only ho2)
 have HS3 := H_ (HT2.out.only ho2)
 have HO2 := H_ (HOA.out.trans ho2)
 have HR2 := H_ hR2
 clear CP HN0 HT1 HT2 HOA ho2 hR2
 by_cases hm : m = 1 ∨ m = 2
 · have CA : Hid (∀ x : Nm, ∀ W v, Below w2.heap.size w2 W → Zl W v [x] → Calls prog 81 #[.slice (some ⟨w.heap.size, 0, none⟩) 3 3, v] W fun e w' => (∃ u, e = .returned u ∧ Zl w' u (Z7i ++ [x]) ∧ ∀ k, u.ownBlock = some k → W.heap.size ≤ k ∧ k < w'.heap.size) ∧ Below W.heap.size W w') := H_ (fun x W v hW hv => Z47 _ v Z7i [x] W ((HN2.out.onlyB hW).1) hv (by simp [Z7i]))
   have CB : Hid (∀ x : Nm, ∀ W v, Below w2.heap.size w2 W → Zl W v [x] → Calls prog 81 #[.slice (some ⟨w.heap.size + 1, 0, none⟩) 3 3, v] W fun e w' => (∃ u, e = .returned u ∧ Zl w' u (enTs ++ [x]) ∧ ∀ k, u.ownBlock = some k → W.heap.size ≤ k ∧ k < w'.heap.size) ∧ Below W.heap.size W w') := H_ (fun x W v hW hv => Z47 _ v enTs [x] W ((HS2.out.onlyB hW).1) hv (by simp [enTs]))
   have hq2 := lt_of_block HR2.out.blk
   have FIN : Hid (∀ (x y : Nm) (u1 u2 : Value) (w6 w7 : World), x.length ≤ 7 → y.length ≤ 7 → Zl w7 u1 (Z7i ++ [x]) → Zl w7 u2 (enTs ++ [y]) → (∀ k, u1.ownBlock = some k → w2.heap.size ≤ k ∧ k < w7.heap.size) → (∀ k, u2.ownBlock = some k → w2.heap.size ≤ k ∧ k < w7.heap.size) → Below w2.heap.size w2 w7 → EnPost q a L c p zs w (.returned (.tuple #[u1, u2])) w7) := H_ (fun x y u1 u2 w6 w7 hx hy h1 h2 k1 k2 hb =>
    ⟨u1, u2, _, _, rfl, ⟨h1, fun k hk => ⟨by have := (k1 k hk).1; omega, (k1 k hk).2⟩⟩, ⟨h2, fun k hk => ⟨by have := (k2 k hk).1; omega, (k2 k hk).2⟩⟩, ⟨by simp [Z7i], by simp [enTs], fun z hz => by
      rcases List.mem_append.1 hz with hz | hz
      · exact (by decide : ∀ z ∈ Z7i, z.length ≤ 7) z hz
      · rw [List.mem_singleton] at hz; rw [hz]; exact hx, fun z hz => by
      rcases List.mem_append.1 hz with hz | hz
      · exact (by decide : ∀ z ∈ enTs, z.length ≤ 7) z hz
      · rw [List.mem_singleton] at hz; rw [hz]; exact hy⟩, HR2.out.below hb, HO2.out.trans (Only.of hb)⟩)
   rcases hm with rfl | rfl
   · have CA1 := H_ (CA.out [108, 101, 116])
     have CB1 := H_ (CB.out [105])
     clear CA CB HN2 HS2 HS3 HO2 HR2
     go_wp2_with fail
     refine (CA1.out _ _ (Z4 w2 _) (Z0a (s := [108, 101, 116]))).mono ?_
     rintro e w6 ⟨⟨u6, rfl, hu6, hk6⟩, hb6⟩
     obtain ⟨pu6, nu6, cu6, rfl⟩ := Zl.shape hu6
     have hB6 := (Z4 w2 (.cells #[.string (bs [108, 101, 116])] 9)).trans (hb6.mono (Z4 w2 (.cells #[.string (bs [108, 101, 116])] 9)).size)
     go_wp2_with fail
     refine (CB1.out _ _ (hB6.alloc hB6.size _) (Z0a (s := [105]))).mono ?_
     rintro e w7 ⟨⟨u7, rfl, hu7, hk7⟩, hb7⟩
     obtain ⟨pu7, nu7, cu7, rfl⟩ := Zl.shape hu7
     have hB6a := hB6.alloc hB6.size (.cells #[.string (bs [105])] 9)
     have hB7 := hB6a.trans (hb7.mono hB6a.size)
     have hu8 : Zl w7 (.slice pu6 nu6 cu6) (Z7i ++ [[108, 101, 116]]) := Zl.move hu6 (fun k hk => (hb7.block k (by have := (hk6 k hk).2; simp; omega)).trans (heap_alloc_old _ _ (hk6 k hk).2))
     have s6 := hb6.size
     have s7 := hb7.size
     have z6 := hB6.size
     go_wp2_with fail
     go_ret2
     simp at s6 s7
     exact FIN.out [108, 101, 116] [105] _ _ w7 _ (by decide) (by decide) hu8 hu7 (fun k hk => by have h1 := hk6 k hk; simp at h1; omega) (fun k hk => by have h1 := hk7 k hk; simp at h1; omega) hB7
   · have CA1 := H_ (CA.out [97])
     have CB1 := H_ (CB.out [40, 62, 32, 105, 32, 105, 41])
     clear CA CB HN2 HS2 HS3 HO2 HR2
     go_wp2_with fail
     refine (CA1.out _ _ (Z4 w2 _) (Z0a (s := [97]))).mono ?_
     rintro e w6 ⟨⟨u6, rfl, hu6, hk6⟩, hb6⟩
     obtain ⟨pu6, nu6, cu6, rfl⟩ := Zl.shape hu6
     have hB6 := (Z4 w2 (.cells #[.string (bs [97])] 9)).trans (hb6.mono (Z4 w2 (.cells #[.string (bs [97])] 9)).size)
     go_wp2_with fail
     refine (CB1.out _ _ (hB6.alloc hB6.size _) (Z0a (s := [40, 62, 32, 105, 32, 105, 41]))).mono ?_
     rintro e w7 ⟨⟨u7, rfl, hu7, hk7⟩, hb7⟩
     obtain ⟨pu7, nu7, cu7, rfl⟩ := Zl.shape hu7
     have hB6a := hB6.alloc hB6.size (.cells #[.string (bs [40, 62, 32, 105, 32, 105, 41])] 9)
     have hB7 := hB6a.trans (hb7.mono hB6a.size)
     have hu8 : Zl w7 (.slice pu6 nu6 cu6) (Z7i ++ [[97]]) := Zl.move hu6 (fun k hk => (hb7.block k (by have := (hk6 k hk).2; simp; omega)).trans (heap_alloc_old _ _ (hk6 k hk).2))
     have s6 := hb6.size
     have s7 := hb7.size
     have z6 := hB6.size
     go_wp2_with fail
     go_ret2
     simp at s6 s7
     exact FIN.out [97] [40, 62, 32, 105, 32, 105, 41] _ _ w7 _ (by decide) (by decide) hu8 hu7 (fun k hk => by have h1 := hk6 k hk; simp at h1; omega) (fun k hk => by have h1 := hk7 k hk; simp at h1; omega) hB7
 · by_cases hk : m = 0
   · subst hk
     go_wp2_with fail
     go_quiet (fail)
     go_wp2_with fail
     go_ret2
     exact ⟨_, _, _, _, rfl, HN2.out, HS3.out, ⟨by decide, by decide, by decide, by decide⟩, ⟨HR2.out.blk, HR2.out.row, HR2.out.ne, HR2.out.len⟩, by have h := HO2.out; exact ⟨h.os, h.tape, h.output, h.size, h.block⟩⟩
   · have m0 : (m == 0) = false := by simpa using hk
     have m1 : (m == 1) = false := by simp; omega
     have m2 : (m == 2) = false := by simp; omega
     have n1 : ¬ m = 1 := by omega
     have n2 : ¬ m = 2 := by omega
     go_wp2_with fail
     go_ret2
     exact ⟨_, _, _, _, rfl, HN2.out, HS2.out, ⟨by decide, by decide, by decide, by decide⟩, HR2.out, HO2.out⟩
def En (w : World) (v1 v2 : Value) (ns ts : List Nm) (w' : World) : Prop := Zl w' v1 ns ∧ Zl w' v2 ts ∧ (ns.length ≤ 4 ∧ ts.length ≤ 4 ∧ (∀ x ∈ ns, x.length ≤ 7) ∧ ∀ x ∈ ts, x.length ≤ 7) ∧ Below w.heap.size w w'
theorem Z7j (a : Option Addr) (L c : Nat) (zs : List Int) (w : World) (hr : Z2u w a L c zs) : Calls prog 10 #[.slice a L c] w fun e w' => ∃ v1 v2 ns ts s, e = .returned (.tuple #[v1, v2, .string s]) ∧ En w v1 v2 ns ts w' ∧ s.size ≤ 1000010 := by
 have CO := H_ (l6Open_c a L c zs w hr)
 clear hr
 go_enter func10, ntmps10
 go_wp2_with fail
 refine (CO.out).mono ?_
 rintro e w1 ⟨rfl, ⟨L', c', hR1⟩, hb1⟩
 have HB1 := H_ hb1
 have C := H_ (l91Env_d hR1 (by omega))
 clear hb1 hR1
 go_wp2_with fail
 refine (C.out).mono ?_
 rintro e w2 ⟨v1, v2, ns, ts, rfl, h1, h2, h3, h4, h5⟩
 have CP := H_ (Jm (n := 4) h4 (by omega) (by omega))
 have H1 := H_ h1
 have H2 := H_ h2
 have H3 := H_ h3
 have H5 := H_ h5
 clear C h1 h2 h3 h4 h5
 go_wp2_with fail
 refine (CP.out).mono ?_
 rintro e w3 ⟨⟨k, rfl, hk0, hk1⟩, hR3, ho3⟩
 have HO3 := H_ ho3
 clear CP ho3
 by_cases h0 : k = 0
 · subst h0
   have CD := H_ (l91Odd_d hR3 (by omega))
   clear hR3
   go_wp2_with fail
   refine (CD.out).mono ?_
   rintro e w4 ⟨s, p4, rfl, g1, g2, hR4, ho4⟩
   have HF : Hid (En w v1 v2 ns ts w4) := H_ ⟨((H1.out.only HO3.out).only ho4).1, ((H2.out.only HO3.out).only ho4).1, H3.out, Only.fresh HB1.out ((H5.out.trans HO3.out).trans ho4) (Nat.le_refl _) HB1.out.size⟩
   clear ho4 hR4
   go_wp2_with fail
   go_ret3
   exact ⟨_, _, _, _, _, rfl, HF.out, g1⟩
 · have e0 : (k == 0) = false := by simpa using h0
   have CD := H_ (l91Open_d hR3 (by omega))
   clear hR3
   go_wp2_with fail
   refine (CD.out).mono ?_
   rintro e w4 ⟨s, p4, rfl, g1, g2, hR4, ho4⟩
   have HF : Hid (En w v1 v2 ns ts w4) := H_ ⟨((H1.out.only HO3.out).only ho4).1, ((H2.out.only HO3.out).only ho4).1, H3.out, Only.fresh HB1.out ((H5.out.trans HO3.out).trans ho4) (Nat.le_refl _) HB1.out.size⟩
   clear ho4 hR4
   go_wp2_with fail
   go_ret3
   exact ⟨_, _, _, _, _, rfl, HF.out, by omega⟩
@[go_sem] theorem as_number_add (v : Value) (w : World) : (Instr.typeAssert (.iface 130 v) 51 155 true).run prog w = .ok (.tuple #[.agg #[.nilIface, .nilIface], .bool false]) w := by kernel_rfl
@[go_sem] theorem as_number_sub (v : Value) (w : World) : (Instr.typeAssert (.iface 130 v) 51 156 true).run prog w = .ok (.tuple #[.agg #[.nilIface, .nilIface], .bool false]) w := by kernel_rfl
@[go_sem] theorem as_number_mul (v : Value) (w : World) : (Instr.typeAssert (.iface 130 v) 51 157 true).run prog w = .ok (.tuple #[.agg #[.nilIface, .nilIface], .bool false]) w := by kernel_rfl
@[go_sem] theorem as_number_if (v : Value) (w : World) : (Instr.typeAssert (.iface 130 v) 51 159 true).run prog w = .ok (.tuple #[.agg #[.nilIface, .nilIface, .nilIface], .bool false]) w := by kernel_rfl
@[go_sem] theorem as_number_call (v : Value) (w : World) : (Instr.typeAssert (.iface 130 v) 51 160 true).run prog w = .ok (.tuple #[.agg #[.nilIface, .nilIface], .bool false]) w := by kernel_rfl
@[go_sem] theorem as_number_pair (v : Value) (w : World) : (Instr.typeAssert (.iface 130 v) 51 128 true).run prog w = .ok (.tuple #[.agg #[.nilIface, .nilIface], .bool false]) w := by kernel_rfl
@[go_sem] theorem as_number_fst (v : Value) (w : World) : (Instr.typeAssert (.iface 130 v) 51 164 true).run prog w = .ok (.tuple #[.agg #[.nilIface], .bool false]) w := by kernel_rfl
@[go_sem] theorem as_number_snd (v : Value) (w : World) : (Instr.typeAssert (.iface 130 v) 51 165 true).run prog w = .ok (.tuple #[.agg #[.nilIface], .bool false]) w := by kernel_rfl
@[go_sem] theorem as_add_add (v : Value) (w : World) : (Instr.typeAssert (.iface 155 v) 51 155 true).run prog w = .ok (.tuple #[v, .bool true]) w := by kernel_rfl
@[go_sem] theorem as_add_sub (v : Value) (w : World) : (Instr.typeAssert (.iface 155 v) 51 156 true).run prog w = .ok (.tuple #[.agg #[.nilIface, .nilIface], .bool false]) w := by kernel_rfl
@[go_sem] theorem as_add_mul (v : Value) (w : World) : (Instr.typeAssert (.iface 155 v) 51 157 true).run prog w = .ok (.tuple #[.agg #[.nilIface, .nilIface], .bool false]) w := by kernel_rfl
@[go_sem] theorem as_add_if (v : Value) (w : World) : (Instr.typeAssert (.iface 155 v) 51 159 true).run prog w = .ok (.tuple #[.agg #[.nilIface, .nilIface, .nilIface], .bool false]) w := by kernel_rfl
@[go_sem] theorem as_add_call (v : Value) (w : World) : (Instr.typeAssert (.iface 155 v) 51 160 true).run prog w = .ok (.tuple #[.agg #[.nilIface, .nilIface], .bool false]) w := by kernel_rfl
@[go_sem] theorem as_add_pair (v : Value) (w : World) : (Instr.typeAssert (.iface 155 v) 51 128 true).run prog w = .ok (.tuple #[.agg #[.nilIface, .nilIface], .bool false]) w := by kernel_rfl
@[go_sem] theorem as_add_fst (v : Value) (w : World) : (Instr.typeAssert (.iface 155 v) 51 164 true).run prog w = .ok (.tuple #[.agg #[.nilIface], .bool false]) w := by kernel_rfl
@[go_sem] theorem as_add_snd (v : Value) (w : World) : (Instr.typeAssert (.iface 155 v) 51 165 true).run prog w = .ok (.tuple #[.agg #[.nilIface], .bool false]) w := by kernel_rfl
@[go_sem] theorem as_sub_add (v : Value) (w : World) : (Instr.typeAssert (.iface 156 v) 51 155 true).run prog w = .ok (.tuple #[.agg #[.nilIface, .nilIface], .bool false]) w := by kernel_rfl
@[go_sem] theorem as_sub_sub (v : Value) (w : World) : (Instr.typeAssert (.iface 156 v) 51 156 true).run prog w = .ok (.tuple #[v, .bool true]) w := by kernel_rfl
@[go_sem] theorem as_sub_mul (v : Value) (w : World) : (Instr.typeAssert (.iface 156 v) 51 157 true).run prog w = .ok (.tuple #[.agg #[.nilIface, .nilIface], .bool false]) w := by kernel_rfl
@[go_sem] theorem as_sub_if (v : Value) (w : World) : (Instr.typeAssert (.iface 156 v) 51 159 true).run prog w = .ok (.tuple #[.agg #[.nilIface, .nilIface, .nilIface], .bool false]) w := by kernel_rfl
@[go_sem] theorem as_sub_call (v : Value) (w : World) : (Instr.typeAssert (.iface 156 v) 51 160 true).run prog w = .ok (.tuple #[.agg #[.nilIface, .nilIface], .bool false]) w := by kernel_rfl
@[go_sem] theorem as_sub_pair (v : Value) (w : World) : (Instr.typeAssert (.iface 156 v) 51 128 true).run prog w = .ok (.tuple #[.agg #[.nilIface, .nilIface], .bool false]) w := by kernel_rfl
@[go_sem] theorem as_sub_fst (v : Value) (w : World) : (Instr.typeAssert (.iface 156 v) 51 164 true).run prog w = .ok (.tuple #[.agg #[.nilIface], .bool false]) w := by kernel_rfl
@[go_sem] theorem as_sub_snd (v : Value) (w : World) : (Instr.typeAssert (.iface 156 v) 51 165 true).run prog w = .ok (.tuple #[.agg #[.nilIface], .bool false]) w := by kernel_rfl
@[go_sem] theorem as_mul_add (v : Value) (w : World) : (Instr.typeAssert (.iface 157 v) 51 155 true).run prog w = .ok (.tuple #[.agg #[.nilIface, .nilIface], .bool false]) w := by kernel_rfl
@[go_sem] theorem as_mul_sub (v : Value) (w : World) : (Instr.typeAssert (.iface 157 v) 51 156 true).run prog w = .ok (.tuple #[.agg #[.nilIface, .nilIface], .bool false]) w := by kernel_rfl
@[go_sem] theorem as_mul_mul (v : Value) (w : World) : (Instr.typeAssert (.iface 157 v) 51 157 true).run prog w = .ok (.tuple #[v, .bool true]) w := by kernel_rfl
@[go_sem] theorem as_mul_if (v : Value) (w : World) : (Instr.typeAssert (.iface 157 v) 51 159 true).run prog w = .ok (.tuple #[.agg #[.nilIface, .nilIface, .nilIface], .bool false]) w := by kernel_rfl
@[go_sem] theorem as_mul_call (v : Value) (w : World) : (Instr.typeAssert (.iface 157 v) 51 160 true).run prog w = .ok (.tuple #[.agg #[.nilIface, .nilIface], .bool false]) w := by kernel_rfl
@[go_sem] theorem as_mul_pair (v : Value) (w : World) : (Instr.typeAssert (.iface 157 v) 51 128 true).run prog w = .ok (.tuple #[.agg #[.nilIface, .nilIface], .bool false]) w := by kernel_rfl
@[go_sem] theorem as_mul_fst (v : Value) (w : World) : (Instr.typeAssert (.iface 157 v) 51 164 true).run prog w = .ok (.tuple #[.agg #[.nilIface], .bool false]) w := by kernel_rfl
@[go_sem] theorem as_mul_snd (v : Value) (w : World) : (Instr.typeAssert (.iface 157 v) 51 165 true).run prog w = .ok (.tuple #[.agg #[.nilIface], .bool false]) w := by kernel_rfl
@[go_sem] theorem as_if_add (v : Value) (w : World) : (Instr.typeAssert (.iface 159 v) 51 155 true).run prog w = .ok (.tuple #[.agg #[.nilIface, .nilIface], .bool false]) w := by kernel_rfl
@[go_sem] theorem as_if_sub (v : Value) (w : World) : (Instr.typeAssert (.iface 159 v) 51 156 true).run prog w = .ok (.tuple #[.agg #[.nilIface, .nilIface], .bool false]) w := by kernel_rfl
@[go_sem] theorem as_if_mul (v : Value) (w : World) : (Instr.typeAssert (.iface 159 v) 51 157 true).run prog w = .ok (.tuple #[.agg #[.nilIface, .nilIface], .bool false]) w := by kernel_rfl
@[go_sem] theorem as_if_if (v : Value) (w : World) : (Instr.typeAssert (.iface 159 v) 51 159 true).run prog w = .ok (.tuple #[v, .bool true]) w := by kernel_rfl
@[go_sem] theorem as_if_call (v : Value) (w : World) : (Instr.typeAssert (.iface 159 v) 51 160 true).run prog w = .ok (.tuple #[.agg #[.nilIface, .nilIface], .bool false]) w := by kernel_rfl
@[go_sem] theorem as_if_pair (v : Value) (w : World) : (Instr.typeAssert (.iface 159 v) 51 128 true).run prog w = .ok (.tuple #[.agg #[.nilIface, .nilIface], .bool false]) w := by kernel_rfl
@[go_sem] theorem as_if_fst (v : Value) (w : World) : (Instr.typeAssert (.iface 159 v) 51 164 true).run prog w = .ok (.tuple #[.agg #[.nilIface], .bool false]) w := by kernel_rfl
@[go_sem] theorem as_if_snd (v : Value) (w : World) : (Instr.typeAssert (.iface 159 v) 51 165 true).run prog w = .ok (.tuple #[.agg #[.nilIface], .bool false]) w := by kernel_rfl
@[go_sem] theorem as_call_add (v : Value) (w : World) : (Instr.typeAssert (.iface 160 v) 51 155 true).run prog w = .ok (.tuple #[.agg #[.nilIface, .nilIface], .bool false]) w := by kernel_rfl
@[go_sem] theorem as_call_sub (v : Value) (w : World) : (Instr.typeAssert (.iface 160 v) 51 156 true).run prog w = .ok (.tuple #[.agg #[.nilIface, .nilIface], .bool false]) w := by kernel_rfl
@[go_sem] theorem as_call_mul (v : Value) (w : World) : (Instr.typeAssert (.iface 160 v) 51 157 true).run prog w = .ok (.tuple #[.agg #[.nilIface, .nilIface], .bool false]) w := by kernel_rfl
@[go_sem] theorem as_call_if (v : Value) (w : World) : (Instr.typeAssert (.iface 160 v) 51 159 true).run prog w = .ok (.tuple #[.agg #[.nilIface, .nilIface, .nilIface], .bool false]) w := by kernel_rfl
@[go_sem] theorem as_call_call (v : Value) (w : World) : (Instr.typeAssert (.iface 160 v) 51 160 true).run prog w = .ok (.tuple #[v, .bool true]) w := by kernel_rfl
@[go_sem] theorem as_call_pair (v : Value) (w : World) : (Instr.typeAssert (.iface 160 v) 51 128 true).run prog w = .ok (.tuple #[.agg #[.nilIface, .nilIface], .bool false]) w := by kernel_rfl
@[go_sem] theorem as_call_fst (v : Value) (w : World) : (Instr.typeAssert (.iface 160 v) 51 164 true).run prog w = .ok (.tuple #[.agg #[.nilIface], .bool false]) w := by kernel_rfl
@[go_sem] theorem as_call_snd (v : Value) (w : World) : (Instr.typeAssert (.iface 160 v) 51 165 true).run prog w = .ok (.tuple #[.agg #[.nilIface], .bool false]) w := by kernel_rfl
@[go_sem] theorem as_pair_add (v : Value) (w : World) : (Instr.typeAssert (.iface 128 v) 51 155 true).run prog w = .ok (.tuple #[.agg #[.nilIface, .nilIface], .bool false]) w := by kernel_rfl
@[go_sem] theorem as_pair_sub (v : Value) (w : World) : (Instr.typeAssert (.iface 128 v) 51 156 true).run prog w = .ok (.tuple #[.agg #[.nilIface, .nilIface], .bool false]) w := by kernel_rfl
@[go_sem] theorem as_pair_mul (v : Value) (w : World) : (Instr.typeAssert (.iface 128 v) 51 157 true).run prog w = .ok (.tuple #[.agg #[.nilIface, .nilIface], .bool false]) w := by kernel_rfl
@[go_sem] theorem as_pair_if (v : Value) (w : World) : (Instr.typeAssert (.iface 128 v) 51 159 true).run prog w = .ok (.tuple #[.agg #[.nilIface, .nilIface, .nilIface], .bool false]) w := by kernel_rfl
@[go_sem] theorem as_pair_call (v : Value) (w : World) : (Instr.typeAssert (.iface 128 v) 51 160 true).run prog w = .ok (.tuple #[.agg #[.nilIface, .nilIface], .bool false]) w := by kernel_rfl
@[go_sem] theorem as_pair_pair (v : Value) (w : World) : (Instr.typeAssert (.iface 128 v) 51 128 true).run prog w = .ok (.tuple #[v, .bool true]) w := by kernel_rfl
@[go_sem] theorem as_pair_fst (v : Value) (w : World) : (Instr.typeAssert (.iface 128 v) 51 164 true).run prog w = .ok (.tuple #[.agg #[.nilIface], .bool false]) w := by kernel_rfl
@[go_sem] theorem as_pair_snd (v : Value) (w : World) : (Instr.typeAssert (.iface 128 v) 51 165 true).run prog w = .ok (.tuple #[.agg #[.nilIface], .bool false]) w := by kernel_rfl
@[go_sem] theorem as_fst_add (v : Value) (w : World) : (Instr.typeAssert (.iface 164 v) 51 155 true).run prog w = .ok (.tuple #[.agg #[.nilIface, .nilIface], .bool false]) w := by kernel_rfl
@[go_sem] theorem as_fst_sub (v : Value) (w : World) : (Instr.typeAssert (.iface 164 v) 51 156 true).run prog w = .ok (.tuple #[.agg #[.nilIface, .nilIface], .bool false]) w := by kernel_rfl
@[go_sem] theorem as_fst_mul (v : Value) (w : World) : (Instr.typeAssert (.iface 164 v) 51 157 true).run prog w = .ok (.tuple #[.agg #[.nilIface, .nilIface], .bool false]) w := by kernel_rfl
@[go_sem] theorem as_fst_if (v : Value) (w : World) : (Instr.typeAssert (.iface 164 v) 51 159 true).run prog w = .ok (.tuple #[.agg #[.nilIface, .nilIface, .nilIface], .bool false]) w := by kernel_rfl
@[go_sem] theorem as_fst_call (v : Value) (w : World) : (Instr.typeAssert (.iface 164 v) 51 160 true).run prog w = .ok (.tuple #[.agg #[.nilIface, .nilIface], .bool false]) w := by kernel_rfl
@[go_sem] theorem as_fst_pair (v : Value) (w : World) : (Instr.typeAssert (.iface 164 v) 51 128 true).run prog w = .ok (.tuple #[.agg #[.nilIface, .nilIface], .bool false]) w := by kernel_rfl
@[go_sem] theorem as_fst_fst (v : Value) (w : World) : (Instr.typeAssert (.iface 164 v) 51 164 true).run prog w = .ok (.tuple #[v, .bool true]) w := by kernel_rfl
@[go_sem] theorem as_fst_snd (v : Value) (w : World) : (Instr.typeAssert (.iface 164 v) 51 165 true).run prog w = .ok (.tuple #[.agg #[.nilIface], .bool false]) w := by kernel_rfl
@[go_sem] theorem as_snd_add (v : Value) (w : World) : (Instr.typeAssert (.iface 165 v) 51 155 true).run prog w = .ok (.tuple #[.agg #[.nilIface, .nilIface], .bool false]) w := by kernel_rfl
@[go_sem] theorem as_snd_sub (v : Value) (w : World) : (Instr.typeAssert (.iface 165 v) 51 156 true).run prog w = .ok (.tuple #[.agg #[.nilIface, .nilIface], .bool false]) w := by kernel_rfl
@[go_sem] theorem as_snd_mul (v : Value) (w : World) : (Instr.typeAssert (.iface 165 v) 51 157 true).run prog w = .ok (.tuple #[.agg #[.nilIface, .nilIface], .bool false]) w := by kernel_rfl
@[go_sem] theorem as_snd_if (v : Value) (w : World) : (Instr.typeAssert (.iface 165 v) 51 159 true).run prog w = .ok (.tuple #[.agg #[.nilIface, .nilIface, .nilIface], .bool false]) w := by kernel_rfl
@[go_sem] theorem as_snd_call (v : Value) (w : World) : (Instr.typeAssert (.iface 165 v) 51 160 true).run prog w = .ok (.tuple #[.agg #[.nilIface, .nilIface], .bool false]) w := by kernel_rfl
@[go_sem] theorem as_snd_pair (v : Value) (w : World) : (Instr.typeAssert (.iface 165 v) 51 128 true).run prog w = .ok (.tuple #[.agg #[.nilIface, .nilIface], .bool false]) w := by kernel_rfl
@[go_sem] theorem as_snd_fst (v : Value) (w : World) : (Instr.typeAssert (.iface 165 v) 51 164 true).run prog w = .ok (.tuple #[.agg #[.nilIface], .bool false]) w := by kernel_rfl
@[go_sem] theorem as_snd_snd (v : Value) (w : World) : (Instr.typeAssert (.iface 165 v) 51 165 true).run prog w = .ok (.tuple #[v, .bool true]) w := by kernel_rfl
@[go_sem] theorem as_name_add (v : Value) (w : World) : (Instr.typeAssert (.iface 99 v) 51 155 true).run prog w = .ok (.tuple #[.agg #[.nilIface, .nilIface], .bool false]) w := by kernel_rfl
@[go_sem] theorem as_name_sub (v : Value) (w : World) : (Instr.typeAssert (.iface 99 v) 51 156 true).run prog w = .ok (.tuple #[.agg #[.nilIface, .nilIface], .bool false]) w := by kernel_rfl
@[go_sem] theorem as_name_mul (v : Value) (w : World) : (Instr.typeAssert (.iface 99 v) 51 157 true).run prog w = .ok (.tuple #[.agg #[.nilIface, .nilIface], .bool false]) w := by kernel_rfl
@[go_sem] theorem as_name_if (v : Value) (w : World) : (Instr.typeAssert (.iface 99 v) 51 159 true).run prog w = .ok (.tuple #[.agg #[.nilIface, .nilIface, .nilIface], .bool false]) w := by kernel_rfl
@[go_sem] theorem as_name_call (v : Value) (w : World) : (Instr.typeAssert (.iface 99 v) 51 160 true).run prog w = .ok (.tuple #[.agg #[.nilIface, .nilIface], .bool false]) w := by kernel_rfl
@[go_sem] theorem as_name_pair (v : Value) (w : World) : (Instr.typeAssert (.iface 99 v) 51 128 true).run prog w = .ok (.tuple #[.agg #[.nilIface, .nilIface], .bool false]) w := by kernel_rfl
@[go_sem] theorem as_name_fst (v : Value) (w : World) : (Instr.typeAssert (.iface 99 v) 51 164 true).run prog w = .ok (.tuple #[.agg #[.nilIface], .bool false]) w := by kernel_rfl
@[go_sem] theorem as_name_snd (v : Value) (w : World) : (Instr.typeAssert (.iface 99 v) 51 165 true).run prog w = .ok (.tuple #[.agg #[.nilIface], .bool false]) w := by kernel_rfl
@[go_sem] theorem as_let_add (v : Value) (w : World) : (Instr.typeAssert (.iface 94 v) 51 155 true).run prog w = .ok (.tuple #[.agg #[.nilIface, .nilIface], .bool false]) w := by kernel_rfl
@[go_sem] theorem as_let_sub (v : Value) (w : World) : (Instr.typeAssert (.iface 94 v) 51 156 true).run prog w = .ok (.tuple #[.agg #[.nilIface, .nilIface], .bool false]) w := by kernel_rfl
@[go_sem] theorem as_let_mul (v : Value) (w : World) : (Instr.typeAssert (.iface 94 v) 51 157 true).run prog w = .ok (.tuple #[.agg #[.nilIface, .nilIface], .bool false]) w := by kernel_rfl
@[go_sem] theorem as_let_if (v : Value) (w : World) : (Instr.typeAssert (.iface 94 v) 51 159 true).run prog w = .ok (.tuple #[.agg #[.nilIface, .nilIface, .nilIface], .bool false]) w := by kernel_rfl
@[go_sem] theorem as_let_call (v : Value) (w : World) : (Instr.typeAssert (.iface 94 v) 51 160 true).run prog w = .ok (.tuple #[.agg #[.nilIface, .nilIface], .bool false]) w := by kernel_rfl
@[go_sem] theorem as_let_pair (v : Value) (w : World) : (Instr.typeAssert (.iface 94 v) 51 128 true).run prog w = .ok (.tuple #[.agg #[.nilIface, .nilIface], .bool false]) w := by kernel_rfl
@[go_sem] theorem as_let_fst (v : Value) (w : World) : (Instr.typeAssert (.iface 94 v) 51 164 true).run prog w = .ok (.tuple #[.agg #[.nilIface], .bool false]) w := by kernel_rfl
@[go_sem] theorem as_let_snd (v : Value) (w : World) : (Instr.typeAssert (.iface 94 v) 51 165 true).run prog w = .ok (.tuple #[.agg #[.nilIface], .bool false]) w := by kernel_rfl
@[go_sem] theorem as_fun_add (v : Value) (w : World) : (Instr.typeAssert (.iface 96 v) 51 155 true).run prog w = .ok (.tuple #[.agg #[.nilIface, .nilIface], .bool false]) w := by kernel_rfl
@[go_sem] theorem as_fun_sub (v : Value) (w : World) : (Instr.typeAssert (.iface 96 v) 51 156 true).run prog w = .ok (.tuple #[.agg #[.nilIface, .nilIface], .bool false]) w := by kernel_rfl
@[go_sem] theorem as_fun_mul (v : Value) (w : World) : (Instr.typeAssert (.iface 96 v) 51 157 true).run prog w = .ok (.tuple #[.agg #[.nilIface, .nilIface], .bool false]) w := by kernel_rfl
@[go_sem] theorem as_fun_if (v : Value) (w : World) : (Instr.typeAssert (.iface 96 v) 51 159 true).run prog w = .ok (.tuple #[.agg #[.nilIface, .nilIface, .nilIface], .bool false]) w := by kernel_rfl
@[go_sem] theorem as_fun_call (v : Value) (w : World) : (Instr.typeAssert (.iface 96 v) 51 160 true).run prog w = .ok (.tuple #[.agg #[.nilIface, .nilIface], .bool false]) w := by kernel_rfl
@[go_sem] theorem as_fun_pair (v : Value) (w : World) : (Instr.typeAssert (.iface 96 v) 51 128 true).run prog w = .ok (.tuple #[.agg #[.nilIface, .nilIface], .bool false]) w := by kernel_rfl
@[go_sem] theorem as_fun_fst (v : Value) (w : World) : (Instr.typeAssert (.iface 96 v) 51 164 true).run prog w = .ok (.tuple #[.agg #[.nilIface], .bool false]) w := by kernel_rfl
@[go_sem] theorem as_fun_snd (v : Value) (w : World) : (Instr.typeAssert (.iface 96 v) 51 165 true).run prog w = .ok (.tuple #[.agg #[.nilIface], .bool false]) w := by kernel_rfl
end Go.Proofs.YtfknoigbkleanaaGreatDoor
