/- The reference model: both types of a type with a head. The reference model makes types. The laws on TypeFun and TypePair: their walks. TypeMake of the program. TypeMake, for either mark. -/
import Derived.Test.YtmgepnacjgbfhaaGreatDoorsS1z
import Derived.Deep.RegionHeld3
import Derived.Test.YtmgepnacjgbfhaaGreatDoorsB1
import Derived.Test.YtmgepnacjgbfhaaGreatDoorsImpl1k
import Derived.Test.YtmgepnacjgbfhaaGreatDoorsImpl1l
import Derived.Test.YtmgepnacjgbfhaaGreatDoorsImpl2dM
namespace Go.Proofs.YtmgepnacjgbfhaaGreatDoor
open Go.RowKit Go.Proofs.Tryz
set_option maxRecDepth 8000
set_option maxHeartbeats 20000000
set_option linter.unusedVariables false
set_option linter.unusedSimpArgs false
theorem Vv (c : UInt8) (a b : ByteArray) : ((⟨#[40]⟩ ++ ⟨#[c]⟩ ++ ⟨#[32]⟩ ++ a ++ ⟨#[32]⟩ ++ b ++ ⟨#[41]⟩ : ByteArray)).data.toList = 40 :: c :: 32 :: (a.data.toList ++ 32 :: (b.data.toList ++ [41])) := by simp
theorem Z3w (c : UInt8) (a b : ByteArray) : ((⟨#[40]⟩ ++ ⟨#[c]⟩ ++ ⟨#[32]⟩ ++ a ++ ⟨#[32]⟩ ++ b ++ ⟨#[41]⟩ : ByteArray)).size = a.size + b.size + 5 := by
 rw [← Yr, Vv, ← Yr a, ← Yr b]
 simp only [List.length_cons, List.length_append, List.length_nil]; omega
theorem Z4h (a b : ByteArray) (ha : a.size ≤ 1048576) (hb : b.size ≤ 1048576) (w : World) :
 Calls prog 55 #[.bool true, .string a, .string b] w fun e w' => Z03 (Z0m 62 a.data.toList b.data.toList) e ∧ Below w.heap.size w w' := by
 cases h1 : Y3 a.data.toList with
 | none =>
   have C1 : Hid (∀ W, Calls prog 52 #[.string a] W fun e w' => e = .returned (.bool false) ∧ Below W.heap.size W w') := H_ (fun W => by have := Yk a ha W; rw [h1] at this; exact this)
   have HR := H_ (Z6u (c := 62) b.data.toList h1)
   clear h1
   go_enter func55, ntmps55
   go_wp2_with (go_at_call 52; go_must (refine (C1.out _).mono ?_; rintro e w1 ⟨rfl, hb1⟩))
   go_ret2
   exact ⟨by rw [HR.out]; rfl, hb1⟩
 | some ta =>
   have C1 : Hid (∀ W, Calls prog 52 #[.string a] W fun e w' => e = .returned (.bool true) ∧ Below W.heap.size W w') := H_ (fun W => by have := Yk a ha W; rw [h1] at this; exact this)
   cases h2 : Y3 b.data.toList with
   | none =>
     have C2 : Hid (∀ W, Calls prog 52 #[.string b] W fun e w' => e = .returned (.bool false) ∧ Below W.heap.size W w') := H_ (fun W => by have := Yk b hb W; rw [h2] at this; exact this)
     have HR := H_ (Z5b (c := 62) a.data.toList h2)
     clear h1 h2
     by_cases hab : a = b
     · subst hab
       go_enter func55, ntmps55
       go_wp2_with (go_at_call 52; go_must (refine (C2.out _).mono ?_; rintro e w1 ⟨rfl, hb1⟩))
       go_ret2
       exact ⟨by rw [HR.out]; rfl, hb1⟩
     · go_enter func55, ntmps55
       go_wp2_with (go_at_call 52; first | ((with_reducible refine (C1.out _).mono ?_); rintro e w1 ⟨rfl, hb1⟩) | ((with_reducible refine (C2.out _).mono ?_); rintro e w2 ⟨rfl, hb2⟩))
       go_ret2
       exact ⟨by rw [HR.out]; rfl, hb1.trans (hb2.mono hb1.size)⟩
   | some tb =>
     have C2 : Hid (∀ W, Calls prog 52 #[.string b] W fun e w' => e = .returned (.bool true) ∧ Below W.heap.size W w') := H_ (fun W => by have := Yk b hb W; rw [h2] at this; exact this)
     have hR0 := Z0y (c := 62) h1 h2
     have hT := Z57 (c := 62) (by decide) h1 h2
     have hga := Qn h1
     have hgb := Qn h2
     have hla : a.size ≤ 12000 := by rw [← Yr, hga.2.2.2.1, Zr _ hga.1]; exact hga.2.1
     have hlb : b.size ≤ 12000 := by rw [← Yr, hgb.2.2.2.1, Zr _ hgb.1]; exact hgb.2.1
     have hE0 := Z4o 62 ta tb
     rw [← hga.2.2.2.1, ← hgb.2.2.2.1, ← Vv] at hE0
     have hE : bs (Tr.list [.atom [62], ta, tb]).text = ⟨#[40]⟩ ++ ⟨#[62]⟩ ++ ⟨#[32]⟩ ++ a ++ ⟨#[32]⟩ ++ b ++ ⟨#[41]⟩ := (Z26 hE0.symm).symm
     clear hE0
     clear hga hgb
     by_cases h16 : 1 + ta.size + tb.size ≤ 16
     · rw [if_pos h16] at hR0 hT
       have C3 : Hid (∀ W, Calls prog 52 #[.string (⟨#[40]⟩ ++ ⟨#[62]⟩ ++ ⟨#[32]⟩ ++ a ++ ⟨#[32]⟩ ++ b ++ ⟨#[41]⟩)] W fun e w' => e = .returned (.bool true) ∧ Below W.heap.size W w') :=
        H_ (fun W => by have := Yk _ (by rw [Z3w]; omega : ((⟨#[40]⟩ ++ ⟨#[62]⟩ ++ ⟨#[32]⟩ ++ a ++ ⟨#[32]⟩ ++ b ++ ⟨#[41]⟩ : ByteArray)).size ≤ 1048576) W; rw [Vv, hT] at this; exact this)
       have HR := H_ hR0
       have HE := H_ hE
       clear hR0 hT hE h1 h2
       go_enter func55, ntmps55
       go_wp2_with (go_at_call 52; first | ((with_reducible refine (C1.out _).mono ?_); rintro e w1 ⟨rfl, hb1⟩; have hk := hb1) | ((with_reducible refine (C2.out _).mono ?_); rintro e w2 ⟨rfl, hb2⟩; have hk2 := hk.trans (hb2.mono hk.size)) | ((with_reducible refine (C3.out _).mono ?_); rintro e w3 ⟨rfl, hb3⟩))
       go_ret2
       exact ⟨by rw [HR.out]; exact Z2z HE.out, hk2.trans (hb3.mono hk2.size)⟩
     · rw [if_neg h16] at hR0 hT
       have C3 : Hid (∀ W, Calls prog 52 #[.string (⟨#[40]⟩ ++ ⟨#[62]⟩ ++ ⟨#[32]⟩ ++ a ++ ⟨#[32]⟩ ++ b ++ ⟨#[41]⟩)] W fun e w' => e = .returned (.bool false) ∧ Below W.heap.size W w') :=
        H_ (fun W => by have := Yk _ (by rw [Z3w]; omega : ((⟨#[40]⟩ ++ ⟨#[62]⟩ ++ ⟨#[32]⟩ ++ a ++ ⟨#[32]⟩ ++ b ++ ⟨#[41]⟩ : ByteArray)).size ≤ 1048576) W; rw [Vv, hT] at this; exact this)
       have HR := H_ hR0
       clear hR0 hT hE h1 h2
       go_enter func55, ntmps55
       go_wp2_with (go_at_call 52; first | ((with_reducible refine (C1.out _).mono ?_); rintro e w1 ⟨rfl, hb1⟩; have hk := hb1) | ((with_reducible refine (C2.out _).mono ?_); rintro e w2 ⟨rfl, hb2⟩; have hk2 := hk.trans (hb2.mono hk.size)) | ((with_reducible refine (C3.out _).mono ?_); rintro e w3 ⟨rfl, hb3⟩))
       go_ret2
       exact ⟨by rw [HR.out]; rfl, hk2.trans (hb3.mono hk2.size)⟩
theorem Z3o (a b : ByteArray) (ha : a.size ≤ 1048576) (hb : b.size ≤ 1048576) (w : World) :
 Calls prog 55 #[.bool false, .string a, .string b] w fun e w' => Z03 (Z0m 42 a.data.toList b.data.toList) e ∧ Below w.heap.size w w' := by
 cases h1 : Y3 a.data.toList with
 | none =>
   have C1 : Hid (∀ W, Calls prog 52 #[.string a] W fun e w' => e = .returned (.bool false) ∧ Below W.heap.size W w') := H_ (fun W => by have := Yk a ha W; rw [h1] at this; exact this)
   have HR := H_ (Z6u (c := 42) b.data.toList h1)
   clear h1
   go_enter func55, ntmps55
   go_wp2_with (go_at_call 52; go_must (refine (C1.out _).mono ?_; rintro e w1 ⟨rfl, hb1⟩))
   go_ret2
   exact ⟨by rw [HR.out]; rfl, hb1⟩
 | some ta =>
   have C1 : Hid (∀ W, Calls prog 52 #[.string a] W fun e w' => e = .returned (.bool true) ∧ Below W.heap.size W w') := H_ (fun W => by have := Yk a ha W; rw [h1] at this; exact this)
   cases h2 : Y3 b.data.toList with
   | none =>
     have C2 : Hid (∀ W, Calls prog 52 #[.string b] W fun e w' => e = .returned (.bool false) ∧ Below W.heap.size W w') := H_ (fun W => by have := Yk b hb W; rw [h2] at this; exact this)
     have HR := H_ (Z5b (c := 42) a.data.toList h2)
     clear h1 h2
     by_cases hab : a = b
     · subst hab
       go_enter func55, ntmps55
       go_wp2_with (go_at_call 52; go_must (refine (C2.out _).mono ?_; rintro e w1 ⟨rfl, hb1⟩))
       go_ret2
       exact ⟨by rw [HR.out]; rfl, hb1⟩
     · go_enter func55, ntmps55
       go_wp2_with (go_at_call 52; first | ((with_reducible refine (C1.out _).mono ?_); rintro e w1 ⟨rfl, hb1⟩) | ((with_reducible refine (C2.out _).mono ?_); rintro e w2 ⟨rfl, hb2⟩))
       go_ret2
       exact ⟨by rw [HR.out]; rfl, hb1.trans (hb2.mono hb1.size)⟩
   | some tb =>
     have C2 : Hid (∀ W, Calls prog 52 #[.string b] W fun e w' => e = .returned (.bool true) ∧ Below W.heap.size W w') := H_ (fun W => by have := Yk b hb W; rw [h2] at this; exact this)
     have hR0 := Z0y (c := 42) h1 h2
     have hT := Z57 (c := 42) (by decide) h1 h2
     have hga := Qn h1
     have hgb := Qn h2
     have hla : a.size ≤ 12000 := by rw [← Yr, hga.2.2.2.1, Zr _ hga.1]; exact hga.2.1
     have hlb : b.size ≤ 12000 := by rw [← Yr, hgb.2.2.2.1, Zr _ hgb.1]; exact hgb.2.1
     have hE0 := Z4o 42 ta tb
     rw [← hga.2.2.2.1, ← hgb.2.2.2.1, ← Vv] at hE0
     have hE : bs (Tr.list [.atom [42], ta, tb]).text = ⟨#[40]⟩ ++ ⟨#[42]⟩ ++ ⟨#[32]⟩ ++ a ++ ⟨#[32]⟩ ++ b ++ ⟨#[41]⟩ := (Z26 hE0.symm).symm
     clear hE0
     clear hga hgb
     by_cases h16 : 1 + ta.size + tb.size ≤ 16
     · rw [if_pos h16] at hR0 hT
       have C3 : Hid (∀ W, Calls prog 52 #[.string (⟨#[40]⟩ ++ ⟨#[42]⟩ ++ ⟨#[32]⟩ ++ a ++ ⟨#[32]⟩ ++ b ++ ⟨#[41]⟩)] W fun e w' => e = .returned (.bool true) ∧ Below W.heap.size W w') :=
        H_ (fun W => by have := Yk _ (by rw [Z3w]; omega : ((⟨#[40]⟩ ++ ⟨#[42]⟩ ++ ⟨#[32]⟩ ++ a ++ ⟨#[32]⟩ ++ b ++ ⟨#[41]⟩ : ByteArray)).size ≤ 1048576) W; rw [Vv, hT] at this; exact this)
       have HR := H_ hR0
       have HE := H_ hE
       clear hR0 hT hE h1 h2
       go_enter func55, ntmps55
       go_wp2_with (go_at_call 52; first | ((with_reducible refine (C1.out _).mono ?_); rintro e w1 ⟨rfl, hb1⟩; have hk := hb1) | ((with_reducible refine (C2.out _).mono ?_); rintro e w2 ⟨rfl, hb2⟩; have hk2 := hk.trans (hb2.mono hk.size)) | ((with_reducible refine (C3.out _).mono ?_); rintro e w3 ⟨rfl, hb3⟩))
       go_ret2
       exact ⟨by rw [HR.out]; exact Z2z HE.out, hk2.trans (hb3.mono hk2.size)⟩
     · rw [if_neg h16] at hR0 hT
       have C3 : Hid (∀ W, Calls prog 52 #[.string (⟨#[40]⟩ ++ ⟨#[42]⟩ ++ ⟨#[32]⟩ ++ a ++ ⟨#[32]⟩ ++ b ++ ⟨#[41]⟩)] W fun e w' => e = .returned (.bool false) ∧ Below W.heap.size W w') :=
        H_ (fun W => by have := Yk _ (by rw [Z3w]; omega : ((⟨#[40]⟩ ++ ⟨#[42]⟩ ++ ⟨#[32]⟩ ++ a ++ ⟨#[32]⟩ ++ b ++ ⟨#[41]⟩ : ByteArray)).size ≤ 1048576) W; rw [Vv, hT] at this; exact this)
       have HR := H_ hR0
       clear hR0 hT hE h1 h2
       go_enter func55, ntmps55
       go_wp2_with (go_at_call 52; first | ((with_reducible refine (C1.out _).mono ?_); rintro e w1 ⟨rfl, hb1⟩; have hk := hb1) | ((with_reducible refine (C2.out _).mono ?_); rintro e w2 ⟨rfl, hb2⟩; have hk2 := hk.trans (hb2.mono hk.size)) | ((with_reducible refine (C3.out _).mono ?_); rintro e w3 ⟨rfl, hb3⟩))
       go_ret2
       exact ⟨by rw [HR.out]; rfl, hk2.trans (hb3.mono hk2.size)⟩
theorem Z2p {r : Option (List UInt8 × List UInt8)} {e : Ending} (h : TwoPost r e) : e = .returned (.tuple #[.string (bs ((r.map (·.1)).getD [])), .string (bs ((r.map (·.2)).getD [])), .bool r.isSome]) := by
 match r, h with
 | none, h => exact h
 | some (a, b), h => exact h
theorem specTypeFun_c (s : ByteArray) (hs : s.size ≤ 1048576) (w : World) :
 Calls prog 94 #[.string s] w fun e w' => e = .returned (.tuple #[.string (bs (((X2 [62] s.data.toList).map (·.1)).getD [])), .string (bs (((X2 [62] s.data.toList).map (·.2)).getD [])), .bool (X2 [62] s.data.toList).isSome]) ∧ Below w.heap.size w w' := by
 obtain ⟨x, hx⟩ : ∃ x, x = bs (((X2 [62] s.data.toList).map (·.1)).getD []) := ⟨_, rfl⟩
 obtain ⟨y, hy⟩ : ∃ y, y = bs (((X2 [62] s.data.toList).map (·.2)).getD []) := ⟨_, rfl⟩
 obtain ⟨z, hz⟩ : ∃ z, z = (X2 [62] s.data.toList).isSome := ⟨_, rfl⟩
 have C : Hid (∀ W, Calls prog 116 #[.string s, .string ⟨#[62]⟩] W fun e w' => e = .returned (.tuple #[.string x, .string y, .bool z]) ∧ Below W.heap.size W w') := H_ (fun W => (l1Two_c s hs [62] W).mono fun e w' ⟨h1, h2⟩ => ⟨by rw [hx, hy, hz]; exact Z2p h1, h2⟩)
 rw [← hx, ← hy, ← hz]
 clear hx hy hz
 go_enter func94, ntmps94
 go_wp2_with (go_at_call 116; go_must (refine (C.out _).mono ?_; rintro e w1 ⟨rfl, hb1⟩))
 go_ret3
 exact ⟨rfl, hb1⟩
theorem Z6c (s : ByteArray) (hs : s.size ≤ 1048576) (w : World) :
 Calls prog 95 #[.string s] w fun e w' => e = .returned (.tuple #[.string (bs (((X2 [42] s.data.toList).map (·.1)).getD [])), .string (bs (((X2 [42] s.data.toList).map (·.2)).getD [])), .bool (X2 [42] s.data.toList).isSome]) ∧ Below w.heap.size w w' := by
 obtain ⟨x, hx⟩ : ∃ x, x = bs (((X2 [42] s.data.toList).map (·.1)).getD []) := ⟨_, rfl⟩
 obtain ⟨y, hy⟩ : ∃ y, y = bs (((X2 [42] s.data.toList).map (·.2)).getD []) := ⟨_, rfl⟩
 obtain ⟨z, hz⟩ : ∃ z, z = (X2 [42] s.data.toList).isSome := ⟨_, rfl⟩
 have C : Hid (∀ W, Calls prog 116 #[.string s, .string ⟨#[42]⟩] W fun e w' => e = .returned (.tuple #[.string x, .string y, .bool z]) ∧ Below W.heap.size W w') := H_ (fun W => (l1Two_c s hs [42] W).mono fun e w' ⟨h1, h2⟩ => ⟨by rw [hx, hy, hz]; exact Z2p h1, h2⟩)
 rw [← hx, ← hy, ← hz]
 clear hx hy hz
 go_enter func95, ntmps95
 go_wp2_with (go_at_call 116; go_must (refine (C.out _).mono ?_; rintro e w1 ⟨rfl, hb1⟩))
 go_ret3
 exact ⟨rfl, hb1⟩
theorem Z1h (f : Bool) (a b : ByteArray) (ha : a.size ≤ 1048576) (hb : b.size ≤ 1048576) (w : World) :
 Calls prog 55 #[.bool f, .string a, .string b] w fun e w' => Z03 (Z0m (if f = true then 62 else 42) a.data.toList b.data.toList) e ∧ Below w.heap.size w w' := by
 cases f
 · exact Z3o a b ha hb w
 · exact Z4h a b ha hb w
end Go.Proofs.YtmgepnacjgbfhaaGreatDoor
