/- The reference's draws: environments. -/
import Derived.Test.YtjncmmnbdabjnaaGreatDoorDraw7
namespace Go.Proofs.YtjncmmnbdabjnaaGreatDoor
open Go.RowKit
set_option maxRecDepth 8000
set_option linter.unusedSimpArgs false
set_option linter.unusedVariables false
def enNs : List Nm := [[97], [98], [120, 48]]
def enTs : List Nm := [[105], [40, 42, 32, 105, 32, 105, 41], [105]]
/-- An environment that was drawn: two short lists of short texts, in blocks other than the reader's. -/
def EnPost (q : Nat) (a : Option Addr) (L c p : Nat) (zs : List Int) (w : World) (e : Ending) (w' : World) : Prop :=
  ∃ (v1 v2 : Value) (ns ts : List Nm), e = .returned (.tuple #[v1, v2]) ∧ ScL w' q v1 ns ∧ ScL w' q v2 ts ∧ (ns.length ≤ 4 ∧ ts.length ≤ 4 ∧ (∀ x ∈ ns, x.length ≤ 7) ∧ ∀ x ∈ ts, x.length ≤ 7) ∧ Rd w' q a L c (p + 1) zs ∧ Only q w w'
theorem str_tail {w : World} {b : Nat} {x : Nm} {l : List Nm} {t : TypeId} (h : w.heap[b]? = some (.cells ((x :: l).map strV).toArray t (0, 0))) (hl : l.length ≤ 1000) : StrS w (.slice (some ⟨b, 1, none⟩) l.length l.length) l :=
  ⟨_, _, rfl, by omega, fun _ => ⟨b, 1, rfl, fun j v hj => by rw [cell_of h]; rw [show 1 + j = j + 1 by omega]; simpa using hj⟩⟩
theorem ScL.onlyB {w w' : World} {q : Nat} {v : Value} {l : List Nm} (h : ScL w q v l) (ho : Below w.heap.size w w') : ScL w' q v l := ⟨strS_keep2D h.1 ho, fun k hk => ⟨(h.2 k hk).1, Nat.lt_of_lt_of_le (h.2 k hk).2 ho.size⟩⟩
set_option maxHeartbeats 4000000 in
theorem l91Env_d {q : Nat} {a : Option Addr} {L c p : Nat} {zs : List Int} {w : World} (h : Rd w q a L c p zs) (hp : p ≤ 1000000) :
    Calls Tryz.prog 39 #[.pointer (some ⟨q, 0, none⟩)] w fun e w' => EnPost q a L c p zs w e w' := by
  have hq : q < w.heap.size := lt_of_block h.blk
  have hbA := below2 w (.cells #[.string ⟨#[97]⟩, .string ⟨#[98]⟩, .string ⟨#[120, 48]⟩] 9) (.cells #[.string ⟨#[105]⟩, .string ⟨#[40, 42, 32, 105, 32, 105, 41]⟩, .string ⟨#[105]⟩] 9)
  have CP := Lib.hid (pick_d (n := 12) (h.below hbA) hp (by omega))
  have y0 : ((w.alloc (.cells #[.string ⟨#[97]⟩, .string ⟨#[98]⟩, .string ⟨#[120, 48]⟩] 9)).alloc (.cells #[.string ⟨#[105]⟩, .string ⟨#[40, 42, 32, 105, 32, 105, 41]⟩, .string ⟨#[105]⟩] 9)).heap[w.heap.size]? = some (.cells (enNs.map strV).toArray 9 (0, 0)) := blk_alloc (heap_alloc_new w _)
  have y1 : ((w.alloc (.cells #[.string ⟨#[97]⟩, .string ⟨#[98]⟩, .string ⟨#[120, 48]⟩] 9)).alloc (.cells #[.string ⟨#[105]⟩, .string ⟨#[40, 42, 32, 105, 32, 105, 41]⟩, .string ⟨#[105]⟩] 9)).heap[w.heap.size + 1]? = some (.cells (enTs.map strV).toArray 9 (0, 0)) := heap_alloc_new2 w _ _
  have hs0 := lt_of_block y0
  have hs1 := lt_of_block y1
  have HT0 := Lib.hid (str_tail (x := [105]) (l := [[40, 42, 32, 105, 32, 105, 41], [105]]) y1 (by decide))
  have HN0 : Hid (ScL _ q (.slice (some ⟨w.heap.size, 0, none⟩) 3 3) enNs) := Lib.hid ⟨str_at (l := enNs) y0 (by decide), fun k hk => by simp [Value.ownBlock] at hk; subst hk; exact ⟨by omega, hs0⟩⟩
  have HT1 : Hid (ScL _ q (.slice (some ⟨w.heap.size + 1, 0, none⟩) 3 3) enTs) := Lib.hid ⟨str_at (l := enTs) y1 (by decide), fun k hk => by simp [Value.ownBlock] at hk; subst hk; exact ⟨by omega, hs1⟩⟩
  have HT2 : Hid (ScL _ q (.slice (some ⟨w.heap.size + 1, 1, none⟩) 2 2) [[40, 42, 32, 105, 32, 105, 41], [105]]) := Lib.hid ⟨HT0.out, fun k hk => by simp [Value.ownBlock] at hk; subst hk; exact ⟨by omega, hs1⟩⟩
  have HOA := Lib.hid (Only.of (b := q) hbA)
  clear h y0 y1 hbA hs0 hs1 HT0
  go_enter Tryz.func39, Tryz.ntmps39
  go_wp2_with fail
  refine (CP.out).mono ?_
  rintro e w2 ⟨⟨m, rfl, hm0, hm1⟩, hR2, ho2⟩
  have HN2 := Lib.hid (HN0.out.only ho2)
  have HS2 := Lib.hid (HT1.out.only ho2)
  have HS3 := Lib.hid (HT2.out.only ho2)
  have HO2 := Lib.hid (HOA.out.trans ho2)
  have HR2 := Lib.hid hR2
  clear CP HN0 HT1 HT2 HOA ho2 hR2
  by_cases hm : m = 1 ∨ m = 2
  · have CA : Hid (∀ x : Nm, ∀ W v, Below w2.heap.size w2 W → StrS W v [x] → Calls Tryz.prog 71 #[.slice (some ⟨w.heap.size, 0, none⟩) 3 3, v] W fun e w' => (∃ u, e = .returned u ∧ StrS w' u (enNs ++ [x]) ∧ ∀ k, u.ownBlock = some k → W.heap.size ≤ k ∧ k < w'.heap.size) ∧ Below W.heap.size W w') := Lib.hid (fun x W v hW hv => l3With_d _ v enNs [x] W ((HN2.out.onlyB hW).1) hv (by simp [enNs]))
    have CB : Hid (∀ x : Nm, ∀ W v, Below w2.heap.size w2 W → StrS W v [x] → Calls Tryz.prog 71 #[.slice (some ⟨w.heap.size + 1, 0, none⟩) 3 3, v] W fun e w' => (∃ u, e = .returned u ∧ StrS w' u (enTs ++ [x]) ∧ ∀ k, u.ownBlock = some k → W.heap.size ≤ k ∧ k < w'.heap.size) ∧ Below W.heap.size W w') := Lib.hid (fun x W v hW hv => l3With_d _ v enTs [x] W ((HS2.out.onlyB hW).1) hv (by simp [enTs]))
    have hq2 := lt_of_block HR2.out.blk
    have FIN : Hid (∀ (x y : Nm) (u1 u2 : Value) (w6 w7 : World), x.length ≤ 7 → y.length ≤ 7 → StrS w7 u1 (enNs ++ [x]) → StrS w7 u2 (enTs ++ [y]) → (∀ k, u1.ownBlock = some k → w2.heap.size ≤ k ∧ k < w7.heap.size) → (∀ k, u2.ownBlock = some k → w2.heap.size ≤ k ∧ k < w7.heap.size) → Below w2.heap.size w2 w7 → EnPost q a L c p zs w (.returned (.tuple #[u1, u2])) w7) := Lib.hid (fun x y u1 u2 w6 w7 hx hy h1 h2 k1 k2 hb =>
      ⟨u1, u2, _, _, rfl, ⟨h1, fun k hk => ⟨by have := (k1 k hk).1; omega, (k1 k hk).2⟩⟩, ⟨h2, fun k hk => ⟨by have := (k2 k hk).1; omega, (k2 k hk).2⟩⟩, ⟨by simp [enNs], by simp [enTs], fun z hz => by
        rcases List.mem_append.1 hz with hz | hz
        · exact (by decide : ∀ z ∈ enNs, z.length ≤ 7) z hz
        · rw [List.mem_singleton] at hz; rw [hz]; exact hx, fun z hz => by
        rcases List.mem_append.1 hz with hz | hz
        · exact (by decide : ∀ z ∈ enTs, z.length ≤ 7) z hz
        · rw [List.mem_singleton] at hz; rw [hz]; exact hy⟩, HR2.out.below hb, HO2.out.trans (Only.of hb)⟩)
    rcases hm with rfl | rfl
    · have CA1 := Lib.hid (CA.out [108, 101, 116])
      have CB1 := Lib.hid (CB.out [105])
      clear CA CB HN2 HS2 HS3 HO2 HR2
      go_wp2_with fail
      refine (CA1.out _ _ (below1 w2 _) (str_one (s := [108, 101, 116]))).mono ?_
      rintro e w6 ⟨⟨u6, rfl, hu6, hk6⟩, hb6⟩
      obtain ⟨pu6, nu6, cu6, rfl⟩ := StrS.shape hu6
      have hB6 := (below1 w2 (.cells #[.string (bs [108, 101, 116])] 9)).trans (hb6.mono (below1 w2 (.cells #[.string (bs [108, 101, 116])] 9)).size)
      go_wp2_with fail
      refine (CB1.out _ _ (hB6.alloc hB6.size _) (str_one (s := [105]))).mono ?_
      rintro e w7 ⟨⟨u7, rfl, hu7, hk7⟩, hb7⟩
      obtain ⟨pu7, nu7, cu7, rfl⟩ := StrS.shape hu7
      have hB6a := hB6.alloc hB6.size (.cells #[.string (bs [105])] 9)
      have hB7 := hB6a.trans (hb7.mono hB6a.size)
      have hu8 : StrS w7 (.slice pu6 nu6 cu6) (enNs ++ [[108, 101, 116]]) := StrS.move hu6 (fun k hk => (hb7.block k (by have := (hk6 k hk).2; simp; omega)).trans (heap_alloc_old _ _ (hk6 k hk).2))
      have s6 := hb6.size
      have s7 := hb7.size
      have z6 := hB6.size
      go_wp2_with fail
      go_ret2
      simp at s6 s7
      exact FIN.out [108, 101, 116] [105] _ _ w7 _ (by decide) (by decide) hu8 hu7 (fun k hk => by have h1 := hk6 k hk; simp at h1; omega) (fun k hk => by have h1 := hk7 k hk; simp at h1; omega) hB7
    · have CA1 := Lib.hid (CA.out [97])
      have CB1 := Lib.hid (CB.out [40, 62, 32, 105, 32, 105, 41])
      clear CA CB HN2 HS2 HS3 HO2 HR2
      go_wp2_with fail
      refine (CA1.out _ _ (below1 w2 _) (str_one (s := [97]))).mono ?_
      rintro e w6 ⟨⟨u6, rfl, hu6, hk6⟩, hb6⟩
      obtain ⟨pu6, nu6, cu6, rfl⟩ := StrS.shape hu6
      have hB6 := (below1 w2 (.cells #[.string (bs [97])] 9)).trans (hb6.mono (below1 w2 (.cells #[.string (bs [97])] 9)).size)
      go_wp2_with fail
      refine (CB1.out _ _ (hB6.alloc hB6.size _) (str_one (s := [40, 62, 32, 105, 32, 105, 41]))).mono ?_
      rintro e w7 ⟨⟨u7, rfl, hu7, hk7⟩, hb7⟩
      obtain ⟨pu7, nu7, cu7, rfl⟩ := StrS.shape hu7
      have hB6a := hB6.alloc hB6.size (.cells #[.string (bs [40, 62, 32, 105, 32, 105, 41])] 9)
      have hB7 := hB6a.trans (hb7.mono hB6a.size)
      have hu8 : StrS w7 (.slice pu6 nu6 cu6) (enNs ++ [[97]]) := StrS.move hu6 (fun k hk => (hb7.block k (by have := (hk6 k hk).2; simp; omega)).trans (heap_alloc_old _ _ (hk6 k hk).2))
      have s6 := hb6.size
      have s7 := hb7.size
      have z6 := hB6.size
      go_wp2_with fail
      go_ret2
      simp at s6 s7
      exact FIN.out [97] [40, 62, 32, 105, 32, 105, 41] _ _ w7 _ (by decide) (by decide) hu8 hu7 (fun k hk => by have h1 := hk6 k hk; simp at h1; omega) (fun k hk => by have h1 := hk7 k hk; simp at h1; omega) hB7
  · by_cases hk : m = 0
    · subst hk
      go_wp2_with fail
      go_quiet (fail)
      go_wp2_with fail
      go_ret2
      exact ⟨_, _, _, _, rfl, HN2.out, HS3.out, ⟨by decide, by decide, by decide, by decide⟩, ⟨HR2.out.blk, HR2.out.row, HR2.out.ne, HR2.out.len⟩, by have h := HO2.out; exact ⟨h.os, h.tape, h.output, h.size, h.block⟩⟩
    · have m0 : (m == 0) = false := by simpa using hk
      have m1 : (m == 1) = false := by simp; omega
      have m2 : (m == 2) = false := by simp; omega
      have n1 : ¬ m = 1 := by omega
      have n2 : ¬ m = 2 := by omega
      go_wp2_with fail
      go_ret2
      exact ⟨_, _, _, _, rfl, HN2.out, HS2.out, ⟨by decide, by decide, by decide, by decide⟩, HR2.out, HO2.out⟩
/-- What the laws of environments draw. -/
def En (w : World) (v1 v2 : Value) (ns ts : List Nm) (w' : World) : Prop := StrS w' v1 ns ∧ StrS w' v2 ts ∧ (ns.length ≤ 4 ∧ ts.length ≤ 4 ∧ (∀ x ∈ ns, x.length ≤ 7) ∧ ∀ x ∈ ts, x.length ≤ 7) ∧ Below w.heap.size w w'
theorem drawEnvLook_c (a : Option Addr) (L c : Nat) (zs : List Int) (w : World) (hr : BRow w a L c zs) : Calls Tryz.prog 9 #[.slice a L c] w fun e w' => ∃ v1 v2 ns ts s, e = .returned (.tuple #[v1, v2, .string s]) ∧ En w v1 v2 ns ts w' ∧ s.size ≤ 7 := by
  have CO := Lib.hid (l6Open_c a L c zs w hr)
  clear hr
  go_enter Tryz.func9, Tryz.ntmps9
  go_wp2_with fail
  refine (CO.out).mono ?_
  rintro e w1 ⟨rfl, ⟨L', c', hR1⟩, hb1⟩
  have HB1 := Lib.hid hb1
  have C := Lib.hid (l91Env_d hR1 (by omega))
  clear hb1 hR1
  go_wp2_with fail
  refine (C.out).mono ?_
  rintro e w2 ⟨v1, v2, ns, ts, rfl, h1, h2, h3, h4, h5⟩
  have CF := Lib.hid (of_new (l := [[97], [98], [120, 48], [99]]) (N := 7) h4 (by omega) (by decide) (by decide) (by decide))
  have H1 := Lib.hid h1
  have H2 := Lib.hid h2
  have H3 := Lib.hid h3
  have H5 := Lib.hid h5
  clear C h1 h2 h3 h4 h5
  go_wp2_with fail
  refine (CF.out).mono ?_
  rintro e w3 ⟨s, p3, rfl, g1, g2, hR3, ho3⟩
  have HF : Hid (En w v1 v2 ns ts w3) := Lib.hid ⟨(H1.out.only ho3).1, (H2.out.only ho3).1, H3.out, Only.fresh HB1.out (H5.out.trans ho3) (Nat.le_refl _) HB1.out.size⟩
  clear ho3 hR3
  go_wp2_with fail
  go_ret3
  exact ⟨_, _, _, _, _, rfl, HF.out, g1⟩
end Go.Proofs.YtjncmmnbdabjnaaGreatDoor
