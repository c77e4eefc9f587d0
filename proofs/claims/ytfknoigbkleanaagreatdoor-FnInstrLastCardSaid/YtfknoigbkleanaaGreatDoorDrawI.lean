/- Draws of instructions. -/
import Derived.Test.YtfknoigbkleanaaGreatDoorDraw3
import Derived.Test.YtfknoigbkleanaaGreatDoorDec
namespace Go.Proofs.YtfknoigbkleanaaGreatDoor
open Go.RowKit
set_option maxRecDepth 8000
set_option linter.unusedSimpArgs false
set_option linter.unusedVariables false
theorem szI_0 : (⟨#[40, 99, 111, 110, 115, 116, 32]⟩ : ByteArray).size = 7 := rfl
theorem szI_1 : (⟨#[32]⟩ : ByteArray).size = 1 := rfl
theorem szI_2 : (⟨#[41]⟩ : ByteArray).size = 1 := rfl
theorem szI_3 : (⟨#[40, 109, 111, 118, 32]⟩ : ByteArray).size = 5 := rfl
theorem szI_4 : (⟨#[40]⟩ : ByteArray).size = 1 := rfl
theorem szI_5 : (⟨#[40, 110, 101, 119, 32]⟩ : ByteArray).size = 5 := rfl
theorem szI_6 : (⟨#[40, 103, 101, 116, 32]⟩ : ByteArray).size = 5 := rfl
theorem szI_7 : (⟨#[40, 108, 97, 98, 32]⟩ : ByteArray).size = 5 := rfl
theorem szI_8 : (⟨#[40, 112, 97, 99, 107, 32]⟩ : ByteArray).size = 6 := rfl
theorem szI_9 : (⟨#[40, 111, 112, 101, 110, 32]⟩ : ByteArray).size = 6 := rfl
theorem szI_10 : (⟨#[40, 122, 101, 114, 111, 32]⟩ : ByteArray).size = 6 := rfl
theorem szI_11 : (⟨#[40, 106, 117, 109, 112, 32]⟩ : ByteArray).size = 6 := rfl
theorem szI_12 : (⟨#[40, 104, 97, 108, 116, 32]⟩ : ByteArray).size = 6 := rfl
set_option maxHeartbeats 1000000 in
theorem l92Reg_d {q : Nat} {a : Option Addr} {L c p : Nat} {zs : List Int} {w : World} (h : Rd w q a L c p zs) (hp : p ≤ 900000) :
    Calls Tryz.prog 116 #[.pointer (some ⟨q, 0, none⟩)] w fun e w' => DrPost q a L c p zs 100 1 w e w' := by
  have CP := Lib.hid (pick_d (n := 6) h (by omega) (by omega))
  have CD := Lib.hid (fun n (hn : n ≤ 1000000) W => l6Dec_c (n + 1) n (by omega) hn W)
  clear h
  go_enter Tryz.func116, Tryz.ntmps116
  go_wp2_with fail
  refine (CP.out).mono ?_
  rintro e w2 ⟨⟨k, rfl, hk0, hk1⟩, hR2, ho2⟩
  obtain ⟨n, rfl⟩ : ∃ n : Nat, k = n := ⟨k.toNat, by omega⟩
  have hn : n ≤ 6 := by omega
  go_wp2_with fail
  refine (CD.out n (by omega) _).mono ?_
  rintro e w3 ⟨rfl, hb3⟩
  go_wp2_with fail
  go_ret
  exact ⟨_, p + 1, rfl, by rw [bs_size]; exact dec_len n (by omega), by omega, hR2.below hb3, ho2.next hb3⟩
set_option maxHeartbeats 8000000 in
theorem l92Instr_d {q : Nat} {a : Option Addr} {L c p : Nat} {zs : List Int} {w : World} (h : Rd w q a L c p zs) (hp : p ≤ 800000) :
    Calls Tryz.prog 70 #[.pointer (some ⟨q, 0, none⟩)] w fun e w' => DrPost q a L c p zs 400 10 w e w' := by
  have CR := Lib.hid (fun p w (h : Rd w q a L c p zs) (hp : p ≤ 900000) => l92Reg_d (p := p) (w := w) h hp)
  have CP := Lib.hid (fun p w (h : Rd w q a L c p zs) (hp : p ≤ 1000000) => pick_d (n := 14) (p := p) (w := w) h hp (by omega))
  have HR := Lib.hid h
  clear h
  go_enter Tryz.func70, Tryz.ntmps70
  go_wp2_with fail
  refine (CR.out p _ HR.out (by omega)).mono ?_
  rintro e w1 ⟨sa, p1, rfl, ha, hp1, hR1, ho1⟩
  go_wp2_with fail
  refine (CR.out p1 _ hR1 (by omega)).mono ?_
  rintro e w2 ⟨sb, p2, rfl, hb, hp2, hR2, ho2⟩
  go_wp2_with fail
  refine (CR.out p2 _ hR2 (by omega)).mono ?_
  rintro e w3 ⟨sc, p3, rfl, hc, hp3, hR3, ho3⟩
  go_wp2_with fail
  refine (CP.out p3 _ hR3 (by omega)).mono ?_
  rintro e w4 ⟨⟨k, rfl, hk0, hk1⟩, hR4, ho4⟩
  have HO := Lib.hid (((ho1.trans ho2).trans ho3).trans ho4)
  rcases (show k = 0 ∨ k = 1 ∨ k = 2 ∨ k = 3 ∨ k = 4 ∨ k = 5 ∨ k = 6 ∨ k = 7 ∨ k = 8 ∨ k = 9 ∨ k = 10 ∨ k = 11 ∨ k = 12 ∨ k = 13 by omega) with rfl | rfl | rfl | rfl | rfl | rfl | rfl | rfl | rfl | rfl | rfl | rfl | rfl | rfl
  · have C1 := Lib.hid (of_new (l := [[48], [49], [45, 55], [57, 57, 57]]) (N := 3) hR4 (by omega) (by decide) (by decide) (by decide))
    go_wp2_with fail
    refine (C1.out).mono ?_
    rintro e w5 ⟨s5, p5, rfl, g1, g2, hR5, ho5⟩
    go_wp2_with fail
    go_ret
    exact ⟨_, p5, rfl, by have y0 := szI_0; have y1 := szI_1; have y2 := szI_2; simp; omega, by omega, hR5, HO.out.trans ho5⟩
  · have C1 := Lib.hid (of_new (l := [[48], [49], [45, 55], [57, 57, 57]]) (N := 3) hR4 (by omega) (by decide) (by decide) (by decide))
    go_wp2_with fail
    refine (C1.out).mono ?_
    rintro e w5 ⟨s5, p5, rfl, g1, g2, hR5, ho5⟩
    go_wp2_with fail
    go_ret
    exact ⟨_, p5, rfl, by have y0 := szI_0; have y1 := szI_1; have y2 := szI_2; simp; omega, by omega, hR5, HO.out.trans ho5⟩
  · go_wp2_with fail
    go_ret
    exact ⟨_, p3 + 1, rfl, by have y0 := szI_3; have y1 := szI_1; have y2 := szI_2; simp; omega, by omega, hR4, HO.out⟩
  · have C1 := Lib.hid (of_new (l := [[97, 100, 100], [115, 117, 98], [109, 117, 108]]) (N := 3) hR4 (by omega) (by decide) (by decide) (by decide))
    go_wp2_with fail
    refine (C1.out).mono ?_
    rintro e w5 ⟨s5, p5, rfl, g1, g2, hR5, ho5⟩
    go_wp2_with fail
    go_ret
    exact ⟨_, p5, rfl, by have y0 := szI_4; have y1 := szI_1; have y2 := szI_2; simp; omega, by omega, hR5, HO.out.trans ho5⟩
  · go_wp2_with fail
    go_ret
    exact ⟨_, p3 + 1, rfl, by have y0 := szI_5; have y1 := szI_1; have y2 := szI_2; simp; omega, by omega, hR4, HO.out⟩
  · go_wp2_with fail
    go_ret
    exact ⟨_, p3 + 1, rfl, by have y0 := szI_5; have y1 := szI_2; simp; omega, by omega, hR4, HO.out⟩
  · have C1 := Lib.hid (of_new (l := [[48], [49], [50]]) (N := 1) hR4 (by omega) (by decide) (by decide) (by decide))
    go_wp2_with fail
    refine (C1.out).mono ?_
    rintro e w5 ⟨s5, p5, rfl, g1, g2, hR5, ho5⟩
    go_wp2_with fail
    go_ret
    exact ⟨_, p5, rfl, by have y0 := szI_6; have y1 := szI_1; have y2 := szI_2; simp; omega, by omega, hR5, HO.out.trans ho5⟩
  · have C1 := Lib.hid (of_new (l := [[109, 97, 105, 110], [98, 48], [98, 49], [101, 110, 100]]) (N := 4) hR4 (by omega) (by decide) (by decide) (by decide))
    go_wp2_with fail
    refine (C1.out).mono ?_
    rintro e w5 ⟨s5, p5, rfl, g1, g2, hR5, ho5⟩
    go_wp2_with fail
    go_ret
    exact ⟨_, p5, rfl, by have y0 := szI_7; have y1 := szI_1; have y2 := szI_2; simp; omega, by omega, hR5, HO.out.trans ho5⟩
  · have C1 := Lib.hid (of_new (l := [[40, 101, 32, 118, 41, 32, 105], [40, 101, 32, 40, 116, 32, 118, 32, 118, 41, 41, 32, 105], [40, 101, 32, 40, 116, 32, 40, 99, 32, 118, 32, 105, 41, 32, 118, 41, 41, 32, 40, 116, 41], [40, 101, 32, 118, 41, 32, 40, 116, 32, 105, 32, 105, 41]]) (N := 21) hR4 (by omega) (by decide) (by decide) (by decide))
    go_wp2_with fail
    refine (C1.out).mono ?_
    rintro e w5 ⟨s5, p5, rfl, g1, g2, hR5, ho5⟩
    go_wp2_with fail
    go_ret
    exact ⟨_, p5, rfl, by have y0 := szI_8; have y1 := szI_1; have y2 := szI_2; simp; omega, by omega, hR5, HO.out.trans ho5⟩
  · go_wp2_with fail
    go_ret
    exact ⟨_, p3 + 1, rfl, by have y0 := szI_9; have y1 := szI_1; have y2 := szI_2; simp; omega, by omega, hR4, HO.out⟩
  · have C1 := Lib.hid (of_new (l := [[98, 48], [98, 49], [109, 97, 105, 110]]) (N := 4) hR4 (by omega) (by decide) (by decide) (by decide))
    go_wp2_with fail
    refine (C1.out).mono ?_
    rintro e w5 ⟨s5, p5, rfl, g1, g2, hR5, ho5⟩
    go_wp2_with fail
    go_ret
    exact ⟨_, p5, rfl, by have y0 := szI_10; have y1 := szI_1; have y2 := szI_2; simp; omega, by omega, hR5, HO.out.trans ho5⟩
  · have hA : ((⟨#[40, 106, 117, 109, 112, 32]⟩ ++ sa ++ ⟨#[41]⟩) : ByteArray).size ≤ 200 := by have y0 := szI_11; have y1 := szI_12; have y2 := szI_2; simp; omega
    have hB : ((⟨#[40, 104, 97, 108, 116, 32]⟩ ++ sa ++ ⟨#[41]⟩) : ByteArray).size ≤ 200 := by have y0 := szI_11; have y1 := szI_12; have y2 := szI_2; simp; omega
    obtain ⟨JA, hJA⟩ : ∃ l : List UInt8, ((ByteArray.mk #[40, 106, 117, 109, 112, 32]) ++ sa ++ (ByteArray.mk #[41])) = bs l := ⟨_, bs_ext rfl⟩
    obtain ⟨JB, hJB⟩ : ∃ l : List UInt8, ((ByteArray.mk #[40, 104, 97, 108, 116, 32]) ++ sa ++ (ByteArray.mk #[41])) = bs l := ⟨_, bs_ext rfl⟩
    rw [hJA, bs_size] at hA
    rw [hJB, bs_size] at hB
    have C1 : Hid (Calls Tryz.prog 85 #[.pointer (some ⟨q, 0, none⟩), .slice (some ⟨w4.heap.size, 0, none⟩) 2 2] (w4.alloc (.cells #[.string (bs JA), .string (bs JB)] 9)) fun e w' => DrPost q a L c (p3 + 1) zs 200 1 w4 e w') := by
      exact Lib.hid (of_new (l := [JA, JB]) (N := 200) hR4 (by omega) (by simp) (by simp) (fun x hx => by
        rcases List.mem_cons.1 hx with rfl | hx
        · exact hA
        · rcases List.mem_cons.1 hx with rfl | hx
          · exact hB
          · cases hx))
    go_wp2_with fail
    refine (C1.out).mono ?_
    rintro e w5 ⟨s5, p5, rfl, g1, g2, hR5, ho5⟩
    go_wp2_with fail
    go_ret
    exact ⟨_, p5, rfl, by omega, by omega, hR5, HO.out.trans ho5⟩
  · have C1 := Lib.hid (of_new (l := [[40, 104, 97, 108, 116, 32, 52, 48, 41], [40, 99, 111, 110, 115, 116, 32, 49, 32, 120, 41], [40, 109, 111, 118, 32, 49, 41], [40, 110, 101, 119, 41], [40, 112, 97, 99, 107, 32, 49, 32, 50, 32, 105, 32, 105, 41], [], [40, 103, 101, 116, 32, 49, 32, 50, 32, 45, 49, 41], [40, 122, 101, 114, 111, 32, 49, 32, 50, 41], [40, 108, 97, 98, 32, 48, 32, 109, 97, 105, 110, 41], [40, 104, 97, 108, 116, 32, 48, 41]]) (N := 14) hR4 (by omega) (by decide) (by decide) (by decide))
    go_wp2_with fail
    refine (C1.out).mono ?_
    rintro e w5 ⟨s5, p5, rfl, g1, g2, hR5, ho5⟩
    go_wp2_with fail
    go_ret
    exact ⟨_, p5, rfl, by omega, by omega, hR5, HO.out.trans ho5⟩
  · have C1 := Lib.hid (of_new (l := [[40, 104, 97, 108, 116, 32, 52, 48, 41], [40, 99, 111, 110, 115, 116, 32, 49, 32, 120, 41], [40, 109, 111, 118, 32, 49, 41], [40, 110, 101, 119, 41], [40, 112, 97, 99, 107, 32, 49, 32, 50, 32, 105, 32, 105, 41], [], [40, 103, 101, 116, 32, 49, 32, 50, 32, 45, 49, 41], [40, 122, 101, 114, 111, 32, 49, 32, 50, 41], [40, 108, 97, 98, 32, 48, 32, 109, 97, 105, 110, 41], [40, 104, 97, 108, 116, 32, 48, 41]]) (N := 14) hR4 (by omega) (by decide) (by decide) (by decide))
    go_wp2_with fail
    refine (C1.out).mono ?_
    rintro e w5 ⟨s5, p5, rfl, g1, g2, hR5, ho5⟩
    go_wp2_with fail
    go_ret
    exact ⟨_, p5, rfl, by omega, by omega, hR5, HO.out.trans ho5⟩
theorem drawInstrValid_c (a : Option Addr) (L c : Nat) (zs : List Int) (w : World) (hr : BRow w a L c zs) : Calls Tryz.prog 30 #[.slice a L c] w fun e w' => (∃ s : ByteArray, e = .returned (.string s) ∧ s.size ≤ 400) ∧ Below w.heap.size w w' := by
  have CO := Lib.hid (l6Open_c a L c zs w hr)
  clear hr
  go_enter Tryz.func30, Tryz.ntmps30
  go_wp2_with fail
  refine (CO.out).mono ?_
  rintro e w1 ⟨rfl, ⟨L', c', hR1⟩, hb1⟩
  have HB1 := Lib.hid hb1
  have C := Lib.hid (l92Instr_d hR1 (by omega))
  clear hb1 hR1
  go_wp2_with fail
  refine (C.out).mono ?_
  rintro e w2 ⟨s, p', rfl, h2, h3, h4, h5⟩
  have HF := Lib.hid (Only.fresh HB1.out h5 (Nat.le_refl _) HB1.out.size)
  go_wp2_with fail
  go_ret
  exact ⟨⟨s, rfl, h2⟩, HF.out⟩
theorem drawInstrLast_c (a : Option Addr) (L c : Nat) (zs : List Int) (w : World) (hr : BRow w a L c zs) : Calls Tryz.prog 36 #[.slice a L c] w fun e w' => (∃ s : ByteArray, e = .returned (.string s) ∧ s.size ≤ 400) ∧ Below w.heap.size w w' := by
  have CO := Lib.hid (l6Open_c a L c zs w hr)
  clear hr
  go_enter Tryz.func36, Tryz.ntmps36
  go_wp2_with fail
  refine (CO.out).mono ?_
  rintro e w1 ⟨rfl, ⟨L', c', hR1⟩, hb1⟩
  have HB1 := Lib.hid hb1
  have C := Lib.hid (l92Instr_d hR1 (by omega))
  clear hb1 hR1
  go_wp2_with fail
  refine (C.out).mono ?_
  rintro e w2 ⟨s, p', rfl, h2, h3, h4, h5⟩
  have HF := Lib.hid (Only.fresh HB1.out h5 (Nat.le_refl _) HB1.out.size)
  go_wp2_with fail
  go_ret
  exact ⟨⟨s, rfl, h2⟩, HF.out⟩
end Go.Proofs.YtfknoigbkleanaaGreatDoor
