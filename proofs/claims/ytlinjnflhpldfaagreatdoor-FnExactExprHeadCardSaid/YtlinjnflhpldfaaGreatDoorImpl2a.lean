/- The program's names and atoms. -/
import Derived.Test.YtlinjnflhpldfaaGreatDoorNumI
import Derived.Test.YtlinjnflhpldfaaGreatDoorSpec2a
namespace Go.Proofs.YtlinjnflhpldfaaGreatDoor
open Go.RowKit
set_option maxRecDepth 8000
set_option linter.unusedSimpArgs false
set_option linter.unusedVariables false
theorem drop1_bytes (s : ByteArray) : (s.extract 1 s.size).data.toList = s.data.toList.drop 1 := by
  rw [extract_bs, bs_data]
  rw [List.take_of_length_le (by simp)]
set_option maxHeartbeats 1000000 in
theorem isName_c (s : ByteArray) (hs : s.size ≤ 1048576) (w : World) : Calls Tryz.prog 46 #[.string s] w fun e w' => e = .returned (.bool (isNm s.data.toList)) ∧ w' = w := by
  obtain ⟨R, hR⟩ : ∃ R, R = isNm s.data.toList := ⟨_, rfl⟩
  rw [← hR]
  have HR := Lib.hid hR
  clear hR
  by_cases hin : 1 ≤ s.size ∧ s.size ≤ 4
  · have h0 : 0 < s.size := by omega
    have h4 : (s.size : Int) ≤ 4 := by omega
    have h0' : (1 : Int) ≤ (s.size : Int) := by omega
    have hf := first_of s h0
    obtain ⟨b, hb⟩ : ∃ b, b = s[0] := ⟨_, rfl⟩
    rw [← hb] at hf
    have hb8 : s[0] = b := hb.symm
    by_cases hlet : 97 ≤ b.toNat ∧ b.toNat ≤ 122
    · have HN := Lib.hid (isNm_rest hf (by simpa using hin.2) hlet)
      have hd1 : (97 : Int) ≤ (b.toNat : Int) := by omega
      have hd2 : (b.toNat : Int) ≤ 122 := by omega
      obtain ⟨D, hD⟩ : ∃ D, D = s.extract 1 s.size := ⟨_, rfl⟩
      have hDl : D.data.toList = s.data.toList.drop 1 := by rw [hD, drop1_bytes]
      have C : Hid (∀ W, Calls Tryz.prog 66 #[.string (s.extract 1 s.size)] W fun e w' => e = .returned (.bool (Lib.decFrom 0 (s.data.toList.drop 1)).isSome) ∧ w' = W) :=
        Lib.hid (fun W => by rw [← hD, ← hDl]; exact isDigits_c D (by rw [hD]; simp; omega) W)
      clear hin hf hb hlet hD hDl
      go_enter Tryz.func46, Tryz.ntmps46
      go_wp2_with (go_at_call 66; go_must (refine (C.out _).mono ?_; rintro e w1 ⟨rfl, rfl⟩))
      go_ret
      exact ⟨ret_bool (by rw [HR.out, HN.out, List.drop_one]), rfl⟩
    · have HN := Lib.hid (isNm_first hf hlet)
      clear hin hf hb
      by_cases hd1 : (97 : Int) ≤ (b.toNat : Int)
      · have hd2 : ¬ (b.toNat : Int) ≤ 122 := by omega
        go_enter Tryz.func46, Tryz.ntmps46
        go_wp2_with fail
        go_ret
        exact ⟨ret_bool (by rw [HR.out, HN.out]), rfl⟩
      · go_enter Tryz.func46, Tryz.ntmps46
        go_wp2_with fail
        go_ret
        exact ⟨ret_bool (by rw [HR.out, HN.out]), rfl⟩
  · have HN := Lib.hid (isNm_len (l := s.data.toList) (by simpa using hin))
    by_cases h1 : (1 : Int) ≤ (s.size : Int)
    · have h4 : ¬ (s.size : Int) ≤ 4 := by omega
      clear hin
      go_enter Tryz.func46, Tryz.ntmps46
      go_wp2_with fail
      go_ret
      exact ⟨ret_bool (by rw [HR.out, HN.out]), rfl⟩
    · clear hin
      go_enter Tryz.func46, Tryz.ntmps46
      go_wp2_with fail
      go_ret
      exact ⟨ret_bool (by rw [HR.out, HN.out]), rfl⟩
theorem isName_bs (l : List UInt8) (hl : l.length ≤ 1048576) (w : World) : Calls Tryz.prog 46 #[.string (bs l)] w fun e w' => e = .returned (.bool (isNm l)) ∧ w' = w := by
  have := isName_c (bs l) (by rw [bs_size]; exact hl) w
  rw [bs_data] at this
  exact this
end Go.Proofs.YtlinjnflhpldfaaGreatDoor
