/- The reference model: both types of a type with a head. The reference model: both types of a type with a head. The reference model makes types. The laws on TypeFun and TypePair: their walks. TypeMake of the program. TypeMake, for either mark. -/
import Derived.Test.YtfknoigbkleanaaGreatDoorxS1z
import Derived.Deep.RegionHeld3
import Derived.Test.YtfknoigbkleanaaGreatDoorxB1
import Derived.Test.YtfknoigbkleanaaGreatDoorxImpl3bM
import Derived.Test.YtfknoigbkleanaaGreatDoorxImpl1l
namespace Go.Proofs.YtfknoigbkleanaaGreatDoor
open Go.RowKit Go.Proofs.Tryz
set_option maxRecDepth 8000
set_option maxHeartbeats 20000000
set_option linter.unusedVariables false
set_option linter.unusedSimpArgs false
theorem fin_belowS {w w1 W : World} {p : Prop} (h : Below w.heap.size w w1) (k : Below w1.heap.size w1 W ∧ p) : Below w.heap.size w W := h.trans (k.1.mono h.size)
theorem l1Two_c (s : ByteArray) (hs : s.size ≤ 1048576) (hd : List UInt8) (w : World) :
 Calls prog 180 #[.string s, .string (bs hd)] w fun e w' => TwoPost (X5 hd s.data.toList) e ∧ Below w.heap.size w w' := by
 cases hp : Zt s.data.toList with
 | none =>
   have C := H_ (Vm hs hp)
   have HR := H_ (Z6o hd (Z0b hp))
   clear hp
   go_enter func180, ntmps180
   go_wp2_with (go_at_call 65; go_must (refine (C.out _).mono ?_; rintro e w1 ⟨⟨a, p, n, c, rfl, hn⟩, hb1⟩))
   go_ret3
   exact ⟨by rw [HR.out]; rfl, hb1.alloc hb1.size _⟩
 | some t =>
   have C := H_ (Qt hs hp)
   have hg := Yp hp
   have hR0 := Kk hp
   clear hp
   have T : Hid (∀ (W : World) (p : Option Addr) (n c : Nat) (ok : Nat → Prop), FV nS W ok t (nS t (.slice p n c)) → (∀ k, ok k → k < W.heap.size) → Calls prog 66 #[.agg #[.string (bs (Z0 t)), .slice p n c]] W fun e w' => e = .returned (.bool (Xe t && decide (t.size ≤ 16))) ∧ Below W.heap.size W w') :=
    H_ (fun W p n c ok h1 h2 => Z0u t p n c ok W hg.1 (by omega) h1 h2)
   cases hty : (Xe t && decide (t.size ≤ 16)) with
   | false =>
     rw [hty] at T hR0
     have HR := H_ (Z6o hd hR0)
     go_enter func180, ntmps180
     go_wp2_with (first | (go_at_call 65; go_must (refine (C.out _).mono ?_; rintro e w1 ⟨⟨p, n, c, rfl, hv⟩, hb1⟩)) | (go_at_call 66; go_must (refine (T.out _ p n c (fun k => w.heap.size ≤ k ∧ k < w1.heap.size) (hv.below (Z4 _ _) (fun k hk => hk.2)) (fun k hk => by simp; omega)).mono ?_; rintro e w2 ⟨rfl, hb2⟩)))
     go_ret3
     exact ⟨by rw [HR.out]; rfl, (hb1.alloc hb1.size _).trans (hb2.mono (by have := hb1.size; simp; omega))⟩
   | true =>
     rw [hty] at T hR0
     have hR1 : Y0 s.data.toList = some t := by rw [hR0]; rfl
     have hty1 : Xe t = true := by simp only [Bool.and_eq_true] at hty; exact hty.1
     clear hR0 hty
     match t, hty1 with
     | .atom a, hty1 =>
       have HR := H_ (Z6q hd hR1)
       have ha := Vk hg.1.1
       simp only [Z0] at C T
       go_enter func180, ntmps180
       go_wp2_with (first | (go_at_call 65; go_must (refine (C.out _).mono ?_; rintro e w1 ⟨⟨p, n, c, rfl, hv⟩, hb1⟩)) | (go_at_call 66; go_must (refine (T.out _ p n c (fun k => w.heap.size ≤ k ∧ k < w1.heap.size) (hv.below (Z4 _ _) (fun k hk => hk.2)) (fun k hk => by simp; omega)).mono ?_; rintro e w2 ⟨rfl, hb2⟩; have x0 := Z1 hb2 (by simp) (heap_alloc_new _ _); obtain ⟨t2, t3⟩ := Zq x0)))
       go_ret3
       exact ⟨by rw [HR.out]; rfl, (hb1.alloc hb1.size _).trans (hb2.mono (by have := hb1.size; simp; omega))⟩
     | .list ts, hty1 =>
       obtain ⟨x, a, b, rfl, hx, hta, htb⟩ := Ju hty1
       have ha := Kd
       simp only [Z0] at C T
       have hwa : a.wf := hg.1.2.2.1
       have hwb : b.wf := hg.1.2.2.2.1
       have hdd := Z1f x a b
       have hbb := bytes3 x a b
       have LA : Hid (∀ (W : World) (p : Option Addr) (n c : Nat) (ok : Nat → Prop), FV nS W ok a (nS a (.slice p n c)) → (∀ k, ok k → k < W.heap.size) → Calls prog 77 #[.agg #[.string (bs (Z0 a)), .slice p n c]] W fun e w' => e = .returned (.string (bs a.text)) ∧ Below W.heap.size W w') :=
        H_ (fun W p n c ok h1 h2 => Z00 (a.depth + 1) a _ ok W (by omega) hwa (by omega) h1 h2)
       have LB : Hid (∀ (W : World) (p : Option Addr) (n c : Nat) (ok : Nat → Prop), FV nS W ok b (nS b (.slice p n c)) → (∀ k, ok k → k < W.heap.size) → Calls prog 77 #[.agg #[.string (bs (Z0 b)), .slice p n c]] W fun e w' => e = .returned (.string (bs b.text)) ∧ Below W.heap.size W w') :=
        H_ (fun W p n c ok h1 h2 => Z00 (b.depth + 1) b _ ok W (by omega) hwb (by omega) h1 h2)
       cases hxh : (Z0 x == hd) with
       | false =>
         have hx2 : ((bs (Z0 x)).toList == (bs hd).toList) = false := by rw [Z5, Z5]; exact hxh
         have HR := H_ (sides_no hd hR1 (by simpa using hxh))
         clear hxh hx
         go_enter func180, ntmps180
         go_wp2_with (first | (go_at_call 65; go_must (refine (C.out _).mono ?_; rintro e w1 ⟨⟨p, n, c, rfl, hv⟩, hb1⟩)) | (go_at_call 66; go_must (have hv' := hv.below (Z4 w1 (.cells #[.string (bs []), .slice p n c] 62)) (fun k hk => hk.2); refine (T.out _ p n c (fun k => w.heap.size ≤ k ∧ k < w1.heap.size) hv' (fun k hk => by simp; omega)).mono ?_; rintro e w2 ⟨rfl, hb2⟩; have hv2 := hv'.below hb2 (fun k hk => by simp; omega); have x0 := Z1 hb2 (by simp) (heap_alloc_new w1 (.cells #[.string (bs []), .slice p n c] 62)); obtain ⟨r, off, cap, xs, hh, h2, h3, h4, h5, h6⟩ := FV.list_cells hv2; have hh' := nS_inj _ _ _ hh; simp only [Value.slice.injEq] at hh'; obtain ⟨rfl, rfl, rfl⟩ := hh'; clear hh hv hv' hv2; obtain ⟨⟨p0, n0, q0, v0, r0⟩, ⟨p1, n1, q1, v1, r1⟩, ⟨p2, n2, q2, v2, r2⟩⟩ := FVs.three Qz h6 h5; have hr2 : r < w2.heap.size := (by have := hb2.size; simp at this; omega); have t1 : w2.cell? ⟨r, off, none⟩ = some (.string (bs (Z0 x))) := r0 0 _ rfl; obtain ⟨t2, t3⟩ := Zq x0; have v0 := FV.wide v0 (fun k hk => (by have := hb2.size; simp at this; omega : k < w2.heap.size)); have v1 := FV.wide v1 (fun k hk => (by have := hb2.size; simp at this; omega : k < w2.heap.size)); have v2 := FV.wide v2 (fun k hk => (by have := hb2.size; simp at this; omega : k < w2.heap.size)); have h3' := Zy h4)))
         go_ret3
         exact ⟨by rw [HR.out]; rfl, (hb1.alloc hb1.size _).trans (hb2.mono (by have := hb1.size; simp; omega))⟩
       | true =>
         have hx2 : ((bs (Z0 x)).toList == (bs hd).toList) = true := by rw [Z5, Z5]; exact hxh
         have HR := H_ (sides_yes hd hR1 (by simpa using hxh))
         clear hxh hx
         go_enter func180, ntmps180
         go_wp2_with (first | (go_at_call 65; go_must (refine (C.out _).mono ?_; rintro e w1 ⟨⟨p, n, c, rfl, hv⟩, hb1⟩)) | (go_at_call 66; go_must (have hv' := hv.below (Z4 w1 (.cells #[.string (bs []), .slice p n c] 62)) (fun k hk => hk.2); refine (T.out _ p n c (fun k => w.heap.size ≤ k ∧ k < w1.heap.size) hv' (fun k hk => by simp; omega)).mono ?_; rintro e w2 ⟨rfl, hb2⟩; have hv2 := hv'.below hb2 (fun k hk => by simp; omega); have x0 := Z1 hb2 (by simp) (heap_alloc_new w1 (.cells #[.string (bs []), .slice p n c] 62)); obtain ⟨r, off, cap, xs, hh, h2, h3, h4, h5, h6⟩ := FV.list_cells hv2; have hh' := nS_inj _ _ _ hh; simp only [Value.slice.injEq] at hh'; obtain ⟨rfl, rfl, rfl⟩ := hh'; clear hh hv hv' hv2; obtain ⟨⟨p0, n0, q0, v0, r0⟩, ⟨p1, n1, q1, v1, r1⟩, ⟨p2, n2, q2, v2, r2⟩⟩ := FVs.three Qz h6 h5; have hr2 : r < w2.heap.size := (by have := hb2.size; simp at this; omega); have t1 : w2.cell? ⟨r, off, none⟩ = some (.string (bs (Z0 x))) := r0 0 _ rfl; obtain ⟨t2, t3⟩ := Zq x0; have v0 := FV.wide v0 (fun k hk => (by have := hb2.size; simp at this; omega : k < w2.heap.size)); have v1 := FV.wide v1 (fun k hk => (by have := hb2.size; simp at this; omega : k < w2.heap.size)); have v2 := FV.wide v2 (fun k hk => (by have := hb2.size; simp at this; omega : k < w2.heap.size)); have h3' := Zy h4)))
         have HW2 : Hid (Below w.heap.size w w2) := H_ ((hb1.alloc hb1.size _).trans (hb2.mono (by have := hb1.size; simp; omega)))
         have hW2 := HW2.out.size
         have y1 := Z2 (j := 1) x0
         have K : Hid (∀ W, Below w2.heap.size w2 W → (fun W => Below w2.heap.size w2 W ∧ W.cell? ⟨w1.heap.size, 1, none⟩ = some (.slice (some ⟨r, off, none⟩) 3 c) ∧ (W.cell? ⟨r, off + 2, none⟩ = some (.string (bs (Z0 a))) ∧ W.cell? ⟨r, off + 2 + 1, none⟩ = some (.slice p1 n1 q1)) ∧ (W.cell? ⟨r, off + 4, none⟩ = some (.string (bs (Z0 b))) ∧ W.cell? ⟨r, off + 4 + 1, none⟩ = some (.slice p2 n2 q2))) W) :=
          H_ (fun W hW => ⟨hW, (hW.cell (p := ⟨w1.heap.size, 1, none⟩) (lt_of_block x0)).trans y1,
           ⟨(hW.cell (p := ⟨r, off + 2, none⟩) hr2).trans (r1 0 _ rfl), (hW.cell (p := ⟨r, off + 2 + 1, none⟩) hr2).trans (r1 1 _ rfl)⟩, (hW.cell (p := ⟨r, off + 4, none⟩) hr2).trans (r2 0 _ rfl), (hW.cell (p := ⟨r, off + 4 + 1, none⟩) hr2).trans (r2 1 _ rfl)⟩)
         have S0 := H_ (K.out _ ((Below.refl _ _).drew))
         have VA := H_ v1
         have VB := H_ v2
         clear y1 v0 v1 v2 r0 r1 r2 hb1 hb2 x0
         go_region_held3 (fun W => Below w2.heap.size w2 W ∧ W.cell? ⟨w1.heap.size, 1, none⟩ = some (.slice (some ⟨r, off, none⟩) 3 c) ∧ (W.cell? ⟨r, off + 2, none⟩ = some (.string (bs (Z0 a))) ∧ W.cell? ⟨r, off + 2 + 1, none⟩ = some (.slice p1 n1 q1)) ∧ (W.cell? ⟨r, off + 4, none⟩ = some (.string (bs (Z0 b))) ∧ W.cell? ⟨r, off + 4 + 1, none⟩ = some (.slice p2 n2 q2)))
          (first | exact S0.out | assumption)
          (first | (go_at_call 77; have hh := And.left (by assumption : Below w2.heap.size w2 _ ∧ _); first | ((with_reducible refine (LA.out _ p1 n1 q1 (fun k => k < w2.heap.size) (VA.out.below hh (fun k hk => hk)) (fun k hk => Nat.lt_of_lt_of_le hk hh.size)).mono ?_); rintro e w' ⟨rfl, hb9⟩; have hS2 := K.out _ (hh.trans (hb9.mono hh.size))) | ((with_reducible refine (LB.out _ p2 n2 q2 (fun k => k < w2.heap.size) (VB.out.below hh (fun k hk => hk)) (fun k hk => Nat.lt_of_lt_of_le hk hh.size)).mono ?_); rintro e w' ⟨rfl, hb9⟩; have hS2 := K.out _ (hh.trans (hb9.mono hh.size)))))
         all_goals
          go_wp2_with fail
          go_ret3
          exact ⟨by rw [HR.out]; rfl, fin_belowS HW2.out (by assumption)⟩
theorem Vz (c : UInt8) (a b : ByteArray) : ((⟨#[40]⟩ ++ ⟨#[c]⟩ ++ ⟨#[32]⟩ ++ a ++ ⟨#[32]⟩ ++ b ++ ⟨#[41]⟩ : ByteArray)).data.toList = 40 :: c :: 32 :: (a.data.toList ++ 32 :: (b.data.toList ++ [41])) := by simp
theorem Z43 (c : UInt8) (a b : ByteArray) : ((⟨#[40]⟩ ++ ⟨#[c]⟩ ++ ⟨#[32]⟩ ++ a ++ ⟨#[32]⟩ ++ b ++ ⟨#[41]⟩ : ByteArray)).size = a.size + b.size + 5 := by
 rw [← Yu, Vz, ← Yu a, ← Yu b]
 simp only [List.length_cons, List.length_append, List.length_nil]; omega
theorem Z4r (a b : ByteArray) (ha : a.size ≤ 1048576) (hb : b.size ≤ 1048576) (w : World) :
 Calls prog 100 #[.bool true, .string a, .string b] w fun e w' => Z06 (Z0r 62 a.data.toList b.data.toList) e ∧ Below w.heap.size w w' := by
 cases h1 : Y0 a.data.toList with
 | none =>
   have C1 : Hid (∀ W, Calls prog 98 #[.string a] W fun e w' => e = .returned (.bool false) ∧ Below W.heap.size W w') := H_ (fun W => by have := Ym a ha W; rw [h1] at this; exact this)
   have HR := H_ (Z73 (c := 62) b.data.toList h1)
   clear h1
   go_enter func100, ntmps100
   go_wp2_with (go_at_call 98; go_must (refine (C1.out _).mono ?_; rintro e w1 ⟨rfl, hb1⟩))
   go_ret2
   exact ⟨by rw [HR.out]; rfl, hb1⟩
 | some ta =>
   have C1 : Hid (∀ W, Calls prog 98 #[.string a] W fun e w' => e = .returned (.bool true) ∧ Below W.heap.size W w') := H_ (fun W => by have := Ym a ha W; rw [h1] at this; exact this)
   cases h2 : Y0 b.data.toList with
   | none =>
     have C2 : Hid (∀ W, Calls prog 98 #[.string b] W fun e w' => e = .returned (.bool false) ∧ Below W.heap.size W w') := H_ (fun W => by have := Ym b hb W; rw [h2] at this; exact this)
     have HR := H_ (Z5i (c := 62) a.data.toList h2)
     clear h1 h2
     by_cases hab : a = b
     · subst hab
       go_enter func100, ntmps100
       go_wp2_with (go_at_call 98; go_must (refine (C2.out _).mono ?_; rintro e w1 ⟨rfl, hb1⟩))
       go_ret2
       exact ⟨by rw [HR.out]; rfl, hb1⟩
     · go_enter func100, ntmps100
       go_wp2_with (go_at_call 98; first | ((with_reducible refine (C1.out _).mono ?_); rintro e w1 ⟨rfl, hb1⟩) | ((with_reducible refine (C2.out _).mono ?_); rintro e w2 ⟨rfl, hb2⟩))
       go_ret2
       exact ⟨by rw [HR.out]; rfl, hb1.trans (hb2.mono hb1.size)⟩
   | some tb =>
     have C2 : Hid (∀ W, Calls prog 98 #[.string b] W fun e w' => e = .returned (.bool true) ∧ Below W.heap.size W w') := H_ (fun W => by have := Ym b hb W; rw [h2] at this; exact this)
     have hR0 := Z15 (c := 62) h1 h2
     have hT := Z5h (c := 62) (by decide) h1 h2
     have hga := Qy h1
     have hgb := Qy h2
     have hla : a.size ≤ 12000 := by rw [← Yu, hga.2.2.2.1, Zv _ hga.1]; exact hga.2.1
     have hlb : b.size ≤ 12000 := by rw [← Yu, hgb.2.2.2.1, Zv _ hgb.1]; exact hgb.2.1
     have hE0 := Z4y 62 ta tb
     rw [← hga.2.2.2.1, ← hgb.2.2.2.1, ← Vz] at hE0
     have hE : bs (Tr.list [.atom [62], ta, tb]).text = ⟨#[40]⟩ ++ ⟨#[62]⟩ ++ ⟨#[32]⟩ ++ a ++ ⟨#[32]⟩ ++ b ++ ⟨#[41]⟩ := (Z57 hE0.symm).symm
     clear hE0
     clear hga hgb
     by_cases h16 : 1 + ta.size + tb.size ≤ 16
     · rw [if_pos h16] at hR0 hT
       have C3 : Hid (∀ W, Calls prog 98 #[.string (⟨#[40]⟩ ++ ⟨#[62]⟩ ++ ⟨#[32]⟩ ++ a ++ ⟨#[32]⟩ ++ b ++ ⟨#[41]⟩)] W fun e w' => e = .returned (.bool true) ∧ Below W.heap.size W w') :=
        H_ (fun W => by have := Ym _ (by rw [Z43]; omega : ((⟨#[40]⟩ ++ ⟨#[62]⟩ ++ ⟨#[32]⟩ ++ a ++ ⟨#[32]⟩ ++ b ++ ⟨#[41]⟩ : ByteArray)).size ≤ 1048576) W; rw [Vz, hT] at this; exact this)
       have HR := H_ hR0
       have HE := H_ hE
       clear hR0 hT hE h1 h2
       go_enter func100, ntmps100
       go_wp2_with (go_at_call 98; first | ((with_reducible refine (C1.out _).mono ?_); rintro e w1 ⟨rfl, hb1⟩; have hk := hb1) | ((with_reducible refine (C2.out _).mono ?_); rintro e w2 ⟨rfl, hb2⟩; have hk2 := hk.trans (hb2.mono hk.size)) | ((with_reducible refine (C3.out _).mono ?_); rintro e w3 ⟨rfl, hb3⟩))
       go_ret2
       exact ⟨by rw [HR.out]; exact Z35 HE.out, hk2.trans (hb3.mono hk2.size)⟩
     · rw [if_neg h16] at hR0 hT
       have C3 : Hid (∀ W, Calls prog 98 #[.string (⟨#[40]⟩ ++ ⟨#[62]⟩ ++ ⟨#[32]⟩ ++ a ++ ⟨#[32]⟩ ++ b ++ ⟨#[41]⟩)] W fun e w' => e = .returned (.bool false) ∧ Below W.heap.size W w') :=
        H_ (fun W => by have := Ym _ (by rw [Z43]; omega : ((⟨#[40]⟩ ++ ⟨#[62]⟩ ++ ⟨#[32]⟩ ++ a ++ ⟨#[32]⟩ ++ b ++ ⟨#[41]⟩ : ByteArray)).size ≤ 1048576) W; rw [Vz, hT] at this; exact this)
       have HR := H_ hR0
       clear hR0 hT hE h1 h2
       go_enter func100, ntmps100
       go_wp2_with (go_at_call 98; first | ((with_reducible refine (C1.out _).mono ?_); rintro e w1 ⟨rfl, hb1⟩; have hk := hb1) | ((with_reducible refine (C2.out _).mono ?_); rintro e w2 ⟨rfl, hb2⟩; have hk2 := hk.trans (hb2.mono hk.size)) | ((with_reducible refine (C3.out _).mono ?_); rintro e w3 ⟨rfl, hb3⟩))
       go_ret2
       exact ⟨by rw [HR.out]; rfl, hk2.trans (hb3.mono hk2.size)⟩
theorem Z3y (a b : ByteArray) (ha : a.size ≤ 1048576) (hb : b.size ≤ 1048576) (w : World) :
 Calls prog 100 #[.bool false, .string a, .string b] w fun e w' => Z06 (Z0r 42 a.data.toList b.data.toList) e ∧ Below w.heap.size w w' := by
 cases h1 : Y0 a.data.toList with
 | none =>
   have C1 : Hid (∀ W, Calls prog 98 #[.string a] W fun e w' => e = .returned (.bool false) ∧ Below W.heap.size W w') := H_ (fun W => by have := Ym a ha W; rw [h1] at this; exact this)
   have HR := H_ (Z73 (c := 42) b.data.toList h1)
   clear h1
   go_enter func100, ntmps100
   go_wp2_with (go_at_call 98; go_must (refine (C1.out _).mono ?_; rintro e w1 ⟨rfl, hb1⟩))
   go_ret2
   exact ⟨by rw [HR.out]; rfl, hb1⟩
 | some ta =>
   have C1 : Hid (∀ W, Calls prog 98 #[.string a] W fun e w' => e = .returned (.bool true) ∧ Below W.heap.size W w') := H_ (fun W => by have := Ym a ha W; rw [h1] at this; exact this)
   cases h2 : Y0 b.data.toList with
   | none =>
     have C2 : Hid (∀ W, Calls prog 98 #[.string b] W fun e w' => e = .returned (.bool false) ∧ Below W.heap.size W w') := H_ (fun W => by have := Ym b hb W; rw [h2] at this; exact this)
     have HR := H_ (Z5i (c := 42) a.data.toList h2)
     clear h1 h2
     by_cases hab : a = b
     · subst hab
       go_enter func100, ntmps100
       go_wp2_with (go_at_call 98; go_must (refine (C2.out _).mono ?_; rintro e w1 ⟨rfl, hb1⟩))
       go_ret2
       exact ⟨by rw [HR.out]; rfl, hb1⟩
     · go_enter func100, ntmps100
       go_wp2_with (go_at_call 98; first | ((with_reducible refine (C1.out _).mono ?_); rintro e w1 ⟨rfl, hb1⟩) | ((with_reducible refine (C2.out _).mono ?_); rintro e w2 ⟨rfl, hb2⟩))
       go_ret2
       exact ⟨by rw [HR.out]; rfl, hb1.trans (hb2.mono hb1.size)⟩
   | some tb =>
     have C2 : Hid (∀ W, Calls prog 98 #[.string b] W fun e w' => e = .returned (.bool true) ∧ Below W.heap.size W w') := H_ (fun W => by have := Ym b hb W; rw [h2] at this; exact this)
     have hR0 := Z15 (c := 42) h1 h2
     have hT := Z5h (c := 42) (by decide) h1 h2
     have hga := Qy h1
     have hgb := Qy h2
     have hla : a.size ≤ 12000 := by rw [← Yu, hga.2.2.2.1, Zv _ hga.1]; exact hga.2.1
     have hlb : b.size ≤ 12000 := by rw [← Yu, hgb.2.2.2.1, Zv _ hgb.1]; exact hgb.2.1
     have hE0 := Z4y 42 ta tb
     rw [← hga.2.2.2.1, ← hgb.2.2.2.1, ← Vz] at hE0
     have hE : bs (Tr.list [.atom [42], ta, tb]).text = ⟨#[40]⟩ ++ ⟨#[42]⟩ ++ ⟨#[32]⟩ ++ a ++ ⟨#[32]⟩ ++ b ++ ⟨#[41]⟩ := (Z57 hE0.symm).symm
     clear hE0
     clear hga hgb
     by_cases h16 : 1 + ta.size + tb.size ≤ 16
     · rw [if_pos h16] at hR0 hT
       have C3 : Hid (∀ W, Calls prog 98 #[.string (⟨#[40]⟩ ++ ⟨#[42]⟩ ++ ⟨#[32]⟩ ++ a ++ ⟨#[32]⟩ ++ b ++ ⟨#[41]⟩)] W fun e w' => e = .returned (.bool true) ∧ Below W.heap.size W w') :=
        H_ (fun W => by have := Ym _ (by rw [Z43]; omega : ((⟨#[40]⟩ ++ ⟨#[42]⟩ ++ ⟨#[32]⟩ ++ a ++ ⟨#[32]⟩ ++ b ++ ⟨#[41]⟩ : ByteArray)).size ≤ 1048576) W; rw [Vz, hT] at this; exact this)
       have HR := H_ hR0
       have HE := H_ hE
       clear hR0 hT hE h1 h2
       go_enter func100, ntmps100
       go_wp2_with (go_at_call 98; first | ((with_reducible refine (C1.out _).mono ?_); rintro e w1 ⟨rfl, hb1⟩; have hk := hb1) | ((with_reducible refine (C2.out _).mono ?_); rintro e w2 ⟨rfl, hb2⟩; have hk2 := hk.trans (hb2.mono hk.size)) | ((with_reducible refine (C3.out _).mono ?_); rintro e w3 ⟨rfl, hb3⟩))
       go_ret2
       exact ⟨by rw [HR.out]; exact Z35 HE.out, hk2.trans (hb3.mono hk2.size)⟩
     · rw [if_neg h16] at hR0 hT
       have C3 : Hid (∀ W, Calls prog 98 #[.string (⟨#[40]⟩ ++ ⟨#[42]⟩ ++ ⟨#[32]⟩ ++ a ++ ⟨#[32]⟩ ++ b ++ ⟨#[41]⟩)] W fun e w' => e = .returned (.bool false) ∧ Below W.heap.size W w') :=
        H_ (fun W => by have := Ym _ (by rw [Z43]; omega : ((⟨#[40]⟩ ++ ⟨#[42]⟩ ++ ⟨#[32]⟩ ++ a ++ ⟨#[32]⟩ ++ b ++ ⟨#[41]⟩ : ByteArray)).size ≤ 1048576) W; rw [Vz, hT] at this; exact this)
       have HR := H_ hR0
       clear hR0 hT hE h1 h2
       go_enter func100, ntmps100
       go_wp2_with (go_at_call 98; first | ((with_reducible refine (C1.out _).mono ?_); rintro e w1 ⟨rfl, hb1⟩; have hk := hb1) | ((with_reducible refine (C2.out _).mono ?_); rintro e w2 ⟨rfl, hb2⟩; have hk2 := hk.trans (hb2.mono hk.size)) | ((with_reducible refine (C3.out _).mono ?_); rintro e w3 ⟨rfl, hb3⟩))
       go_ret2
       exact ⟨by rw [HR.out]; rfl, hk2.trans (hb3.mono hk2.size)⟩
theorem Z2w {r : Option (List UInt8 × List UInt8)} {e : Ending} (h : TwoPost r e) : e = .returned (.tuple #[.string (bs ((r.map (·.1)).getD [])), .string (bs ((r.map (·.2)).getD [])), .bool r.isSome]) := by
 match r, h with
 | none, h => exact h
 | some (a, b), h => exact h
theorem specTypeFun_c (s : ByteArray) (hs : s.size ≤ 1048576) (w : World) :
 Calls prog 148 #[.string s] w fun e w' => e = .returned (.tuple #[.string (bs (((X5 [62] s.data.toList).map (·.1)).getD [])), .string (bs (((X5 [62] s.data.toList).map (·.2)).getD [])), .bool (X5 [62] s.data.toList).isSome]) ∧ Below w.heap.size w w' := by
 obtain ⟨x, hx⟩ : ∃ x, x = bs (((X5 [62] s.data.toList).map (·.1)).getD []) := ⟨_, rfl⟩
 obtain ⟨y, hy⟩ : ∃ y, y = bs (((X5 [62] s.data.toList).map (·.2)).getD []) := ⟨_, rfl⟩
 obtain ⟨z, hz⟩ : ∃ z, z = (X5 [62] s.data.toList).isSome := ⟨_, rfl⟩
 have C : Hid (∀ W, Calls prog 180 #[.string s, .string ⟨#[62]⟩] W fun e w' => e = .returned (.tuple #[.string x, .string y, .bool z]) ∧ Below W.heap.size W w') := H_ (fun W => (l1Two_c s hs [62] W).mono fun e w' ⟨h1, h2⟩ => ⟨by rw [hx, hy, hz]; exact Z2w h1, h2⟩)
 rw [← hx, ← hy, ← hz]
 clear hx hy hz
 go_enter func148, ntmps148
 go_wp2_with (go_at_call 180; go_must (refine (C.out _).mono ?_; rintro e w1 ⟨rfl, hb1⟩))
 go_ret3
 exact ⟨rfl, hb1⟩
theorem Z6l (s : ByteArray) (hs : s.size ≤ 1048576) (w : World) :
 Calls prog 149 #[.string s] w fun e w' => e = .returned (.tuple #[.string (bs (((X5 [42] s.data.toList).map (·.1)).getD [])), .string (bs (((X5 [42] s.data.toList).map (·.2)).getD [])), .bool (X5 [42] s.data.toList).isSome]) ∧ Below w.heap.size w w' := by
 obtain ⟨x, hx⟩ : ∃ x, x = bs (((X5 [42] s.data.toList).map (·.1)).getD []) := ⟨_, rfl⟩
 obtain ⟨y, hy⟩ : ∃ y, y = bs (((X5 [42] s.data.toList).map (·.2)).getD []) := ⟨_, rfl⟩
 obtain ⟨z, hz⟩ : ∃ z, z = (X5 [42] s.data.toList).isSome := ⟨_, rfl⟩
 have C : Hid (∀ W, Calls prog 180 #[.string s, .string ⟨#[42]⟩] W fun e w' => e = .returned (.tuple #[.string x, .string y, .bool z]) ∧ Below W.heap.size W w') := H_ (fun W => (l1Two_c s hs [42] W).mono fun e w' ⟨h1, h2⟩ => ⟨by rw [hx, hy, hz]; exact Z2w h1, h2⟩)
 rw [← hx, ← hy, ← hz]
 clear hx hy hz
 go_enter func149, ntmps149
 go_wp2_with (go_at_call 180; go_must (refine (C.out _).mono ?_; rintro e w1 ⟨rfl, hb1⟩))
 go_ret3
 exact ⟨rfl, hb1⟩
theorem Z1o (f : Bool) (a b : ByteArray) (ha : a.size ≤ 1048576) (hb : b.size ≤ 1048576) (w : World) :
 Calls prog 100 #[.bool f, .string a, .string b] w fun e w' => Z06 (Z0r (if f = true then 62 else 42) a.data.toList b.data.toList) e ∧ Below w.heap.size w w' := by
 cases f
 · exact Z3y a b ha hb w
 · exact Z4r a b ha hb w
end Go.Proofs.YtfknoigbkleanaaGreatDoor
