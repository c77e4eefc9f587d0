/- The reference model makes types. -/
import Derived.Test.YtgliggljegghhaaS1z
import Derived.Test.YtgliggljegghhaaB1
namespace Go.Proofs.Ytgliggljegghhaa
open Go.RowKit
set_option linter.unusedSimpArgs false
set_option linter.unusedVariables false
theorem out_data (c : UInt8) (a b : ByteArray) : ((⟨#[40]⟩ ++ ⟨#[c]⟩ ++ ⟨#[32]⟩ ++ a ++ ⟨#[32]⟩ ++ b ++ ⟨#[41]⟩ : ByteArray)).data.toList = 40 :: c :: 32 :: (a.data.toList ++ 32 :: (b.data.toList ++ [41])) := by simp
theorem out_size (c : UInt8) (a b : ByteArray) : ((⟨#[40]⟩ ++ ⟨#[c]⟩ ++ ⟨#[32]⟩ ++ a ++ ⟨#[32]⟩ ++ b ++ ⟨#[41]⟩ : ByteArray)).size = a.size + b.size + 5 := by
  rw [← size_data, out_data, ← size_data a, ← size_data b]
  simp only [List.length_cons, List.length_append, List.length_nil]; omega
set_option maxHeartbeats 1000000 in
theorem specTypeMake_fun (a b : ByteArray) (ha : a.size ≤ 1048576) (hb : b.size ≤ 1048576) (w : World) :
    Calls Try.prog 12 #[.bool true, .string a, .string b] w fun e w' => MakePost (makeT 62 a.data.toList b.data.toList) e ∧ Below w.heap.size w w' := by
  cases h1 : readTy a.data.toList with
  | none =>
    have C1 : Hid (∀ W, Calls Try.prog 23 #[.string a] W fun e w' => e = .returned (.bool false) ∧ Below W.heap.size W w') := Lib.hid (fun W => by have := specTypeValid_c a ha W; rw [h1] at this; exact this)
    have HR := Lib.hid (makeT_left (c := 62) b.data.toList h1)
    clear h1
    go_enter Try.func12, Try.ntmps12
    go_wp2_with (go_at_call 23; go_must (refine (C1.out _).mono ?_; rintro e w1 ⟨rfl, hb1⟩))
    go_ret2
    exact ⟨by rw [HR.out]; rfl, hb1⟩
  | some ta =>
    have C1 : Hid (∀ W, Calls Try.prog 23 #[.string a] W fun e w' => e = .returned (.bool true) ∧ Below W.heap.size W w') := Lib.hid (fun W => by have := specTypeValid_c a ha W; rw [h1] at this; exact this)
    cases h2 : readTy b.data.toList with
    | none =>
      have C2 : Hid (∀ W, Calls Try.prog 23 #[.string b] W fun e w' => e = .returned (.bool false) ∧ Below W.heap.size W w') := Lib.hid (fun W => by have := specTypeValid_c b hb W; rw [h2] at this; exact this)
      have HR := Lib.hid (makeT_right (c := 62) a.data.toList h2)
      clear h1 h2
      by_cases hab : a = b
      · subst hab
        go_enter Try.func12, Try.ntmps12
        go_wp2_with (go_at_call 23; go_must (refine (C2.out _).mono ?_; rintro e w1 ⟨rfl, hb1⟩))
        go_ret2
        exact ⟨by rw [HR.out]; rfl, hb1⟩
      · go_enter Try.func12, Try.ntmps12
        go_wp2_with (go_at_call 23; first | ((with_reducible refine (C1.out _).mono ?_); rintro e w1 ⟨rfl, hb1⟩) | ((with_reducible refine (C2.out _).mono ?_); rintro e w2 ⟨rfl, hb2⟩))
        go_ret2
        exact ⟨by rw [HR.out]; rfl, hb1.trans (hb2.mono hb1.size)⟩
    | some tb =>
      have C2 : Hid (∀ W, Calls Try.prog 23 #[.string b] W fun e w' => e = .returned (.bool true) ∧ Below W.heap.size W w') := Lib.hid (fun W => by have := specTypeValid_c b hb W; rw [h2] at this; exact this)
      have hR0 := makeT_some (c := 62) h1 h2
      have hT := readTy_made (c := 62) (by decide) h1 h2
      have hga := readTy_got h1
      have hgb := readTy_got h2
      have hla : a.size ≤ 12000 := by rw [← size_data, hga.2.2.2.1, text_length _ hga.1]; exact hga.2.1
      have hlb : b.size ≤ 12000 := by rw [← size_data, hgb.2.2.2.1, text_length _ hgb.1]; exact hgb.2.1
      have hE0 := made_text 62 ta tb
      rw [← hga.2.2.2.1, ← hgb.2.2.2.1, ← out_data] at hE0
      have hE : bs (Tr.list [.atom [62], ta, tb]).text = ⟨#[40]⟩ ++ ⟨#[62]⟩ ++ ⟨#[32]⟩ ++ a ++ ⟨#[32]⟩ ++ b ++ ⟨#[41]⟩ := (bs_ext hE0.symm).symm
      clear hE0
      clear hga hgb
      by_cases h16 : 1 + ta.size + tb.size ≤ 16
      · rw [if_pos h16] at hR0 hT
        have C3 : Hid (∀ W, Calls Try.prog 23 #[.string (⟨#[40]⟩ ++ ⟨#[62]⟩ ++ ⟨#[32]⟩ ++ a ++ ⟨#[32]⟩ ++ b ++ ⟨#[41]⟩)] W fun e w' => e = .returned (.bool true) ∧ Below W.heap.size W w') :=
          Lib.hid (fun W => by have := specTypeValid_c _ (by rw [out_size]; omega : ((⟨#[40]⟩ ++ ⟨#[62]⟩ ++ ⟨#[32]⟩ ++ a ++ ⟨#[32]⟩ ++ b ++ ⟨#[41]⟩ : ByteArray)).size ≤ 1048576) W; rw [out_data, hT] at this; exact this)
        have HR := Lib.hid hR0
        have HE := Lib.hid hE
        clear hR0 hT hE h1 h2
        go_enter Try.func12, Try.ntmps12
        go_wp2_with (go_at_call 23; first | ((with_reducible refine (C1.out _).mono ?_); rintro e w1 ⟨rfl, hb1⟩; have hk := hb1) | ((with_reducible refine (C2.out _).mono ?_); rintro e w2 ⟨rfl, hb2⟩; have hk2 := hk.trans (hb2.mono hk.size)) | ((with_reducible refine (C3.out _).mono ?_); rintro e w3 ⟨rfl, hb3⟩))
        go_ret2
        exact ⟨by rw [HR.out]; exact makePost_some HE.out, hk2.trans (hb3.mono hk2.size)⟩
      · rw [if_neg h16] at hR0 hT
        have C3 : Hid (∀ W, Calls Try.prog 23 #[.string (⟨#[40]⟩ ++ ⟨#[62]⟩ ++ ⟨#[32]⟩ ++ a ++ ⟨#[32]⟩ ++ b ++ ⟨#[41]⟩)] W fun e w' => e = .returned (.bool false) ∧ Below W.heap.size W w') :=
          Lib.hid (fun W => by have := specTypeValid_c _ (by rw [out_size]; omega : ((⟨#[40]⟩ ++ ⟨#[62]⟩ ++ ⟨#[32]⟩ ++ a ++ ⟨#[32]⟩ ++ b ++ ⟨#[41]⟩ : ByteArray)).size ≤ 1048576) W; rw [out_data, hT] at this; exact this)
        have HR := Lib.hid hR0
        clear hR0 hT hE h1 h2
        go_enter Try.func12, Try.ntmps12
        go_wp2_with (go_at_call 23; first | ((with_reducible refine (C1.out _).mono ?_); rintro e w1 ⟨rfl, hb1⟩; have hk := hb1) | ((with_reducible refine (C2.out _).mono ?_); rintro e w2 ⟨rfl, hb2⟩; have hk2 := hk.trans (hb2.mono hk.size)) | ((with_reducible refine (C3.out _).mono ?_); rintro e w3 ⟨rfl, hb3⟩))
        go_ret2
        exact ⟨by rw [HR.out]; rfl, hk2.trans (hb3.mono hk2.size)⟩

set_option maxHeartbeats 1000000 in
theorem specTypeMake_pair (a b : ByteArray) (ha : a.size ≤ 1048576) (hb : b.size ≤ 1048576) (w : World) :
    Calls Try.prog 12 #[.bool false, .string a, .string b] w fun e w' => MakePost (makeT 42 a.data.toList b.data.toList) e ∧ Below w.heap.size w w' := by
  cases h1 : readTy a.data.toList with
  | none =>
    have C1 : Hid (∀ W, Calls Try.prog 23 #[.string a] W fun e w' => e = .returned (.bool false) ∧ Below W.heap.size W w') := Lib.hid (fun W => by have := specTypeValid_c a ha W; rw [h1] at this; exact this)
    have HR := Lib.hid (makeT_left (c := 42) b.data.toList h1)
    clear h1
    go_enter Try.func12, Try.ntmps12
    go_wp2_with (go_at_call 23; go_must (refine (C1.out _).mono ?_; rintro e w1 ⟨rfl, hb1⟩))
    go_ret2
    exact ⟨by rw [HR.out]; rfl, hb1⟩
  | some ta =>
    have C1 : Hid (∀ W, Calls Try.prog 23 #[.string a] W fun e w' => e = .returned (.bool true) ∧ Below W.heap.size W w') := Lib.hid (fun W => by have := specTypeValid_c a ha W; rw [h1] at this; exact this)
    cases h2 : readTy b.data.toList with
    | none =>
      have C2 : Hid (∀ W, Calls Try.prog 23 #[.string b] W fun e w' => e = .returned (.bool false) ∧ Below W.heap.size W w') := Lib.hid (fun W => by have := specTypeValid_c b hb W; rw [h2] at this; exact this)
      have HR := Lib.hid (makeT_right (c := 42) a.data.toList h2)
      clear h1 h2
      by_cases hab : a = b
      · subst hab
        go_enter Try.func12, Try.ntmps12
        go_wp2_with (go_at_call 23; go_must (refine (C2.out _).mono ?_; rintro e w1 ⟨rfl, hb1⟩))
        go_ret2
        exact ⟨by rw [HR.out]; rfl, hb1⟩
      · go_enter Try.func12, Try.ntmps12
        go_wp2_with (go_at_call 23; first | ((with_reducible refine (C1.out _).mono ?_); rintro e w1 ⟨rfl, hb1⟩) | ((with_reducible refine (C2.out _).mono ?_); rintro e w2 ⟨rfl, hb2⟩))
        go_ret2
        exact ⟨by rw [HR.out]; rfl, hb1.trans (hb2.mono hb1.size)⟩
    | some tb =>
      have C2 : Hid (∀ W, Calls Try.prog 23 #[.string b] W fun e w' => e = .returned (.bool true) ∧ Below W.heap.size W w') := Lib.hid (fun W => by have := specTypeValid_c b hb W; rw [h2] at this; exact this)
      have hR0 := makeT_some (c := 42) h1 h2
      have hT := readTy_made (c := 42) (by decide) h1 h2
      have hga := readTy_got h1
      have hgb := readTy_got h2
      have hla : a.size ≤ 12000 := by rw [← size_data, hga.2.2.2.1, text_length _ hga.1]; exact hga.2.1
      have hlb : b.size ≤ 12000 := by rw [← size_data, hgb.2.2.2.1, text_length _ hgb.1]; exact hgb.2.1
      have hE0 := made_text 42 ta tb
      rw [← hga.2.2.2.1, ← hgb.2.2.2.1, ← out_data] at hE0
      have hE : bs (Tr.list [.atom [42], ta, tb]).text = ⟨#[40]⟩ ++ ⟨#[42]⟩ ++ ⟨#[32]⟩ ++ a ++ ⟨#[32]⟩ ++ b ++ ⟨#[41]⟩ := (bs_ext hE0.symm).symm
      clear hE0
      clear hga hgb
      by_cases h16 : 1 + ta.size + tb.size ≤ 16
      · rw [if_pos h16] at hR0 hT
        have C3 : Hid (∀ W, Calls Try.prog 23 #[.string (⟨#[40]⟩ ++ ⟨#[42]⟩ ++ ⟨#[32]⟩ ++ a ++ ⟨#[32]⟩ ++ b ++ ⟨#[41]⟩)] W fun e w' => e = .returned (.bool true) ∧ Below W.heap.size W w') :=
          Lib.hid (fun W => by have := specTypeValid_c _ (by rw [out_size]; omega : ((⟨#[40]⟩ ++ ⟨#[42]⟩ ++ ⟨#[32]⟩ ++ a ++ ⟨#[32]⟩ ++ b ++ ⟨#[41]⟩ : ByteArray)).size ≤ 1048576) W; rw [out_data, hT] at this; exact this)
        have HR := Lib.hid hR0
        have HE := Lib.hid hE
        clear hR0 hT hE h1 h2
        go_enter Try.func12, Try.ntmps12
        go_wp2_with (go_at_call 23; first | ((with_reducible refine (C1.out _).mono ?_); rintro e w1 ⟨rfl, hb1⟩; have hk := hb1) | ((with_reducible refine (C2.out _).mono ?_); rintro e w2 ⟨rfl, hb2⟩; have hk2 := hk.trans (hb2.mono hk.size)) | ((with_reducible refine (C3.out _).mono ?_); rintro e w3 ⟨rfl, hb3⟩))
        go_ret2
        exact ⟨by rw [HR.out]; exact makePost_some HE.out, hk2.trans (hb3.mono hk2.size)⟩
      · rw [if_neg h16] at hR0 hT
        have C3 : Hid (∀ W, Calls Try.prog 23 #[.string (⟨#[40]⟩ ++ ⟨#[42]⟩ ++ ⟨#[32]⟩ ++ a ++ ⟨#[32]⟩ ++ b ++ ⟨#[41]⟩)] W fun e w' => e = .returned (.bool false) ∧ Below W.heap.size W w') :=
          Lib.hid (fun W => by have := specTypeValid_c _ (by rw [out_size]; omega : ((⟨#[40]⟩ ++ ⟨#[42]⟩ ++ ⟨#[32]⟩ ++ a ++ ⟨#[32]⟩ ++ b ++ ⟨#[41]⟩ : ByteArray)).size ≤ 1048576) W; rw [out_data, hT] at this; exact this)
        have HR := Lib.hid hR0
        clear hR0 hT hE h1 h2
        go_enter Try.func12, Try.ntmps12
        go_wp2_with (go_at_call 23; first | ((with_reducible refine (C1.out _).mono ?_); rintro e w1 ⟨rfl, hb1⟩; have hk := hb1) | ((with_reducible refine (C2.out _).mono ?_); rintro e w2 ⟨rfl, hb2⟩; have hk2 := hk.trans (hb2.mono hk.size)) | ((with_reducible refine (C3.out _).mono ?_); rintro e w3 ⟨rfl, hb3⟩))
        go_ret2
        exact ⟨by rw [HR.out]; rfl, hk2.trans (hb3.mono hk2.size)⟩
end Go.Proofs.Ytgliggljegghhaa
