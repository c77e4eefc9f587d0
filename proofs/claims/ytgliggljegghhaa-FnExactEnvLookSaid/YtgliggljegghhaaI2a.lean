/- The program's names and atoms. Expressions as the program's values. The program's expressions with a head: their making. The program reads 'let'. -/
import Derived.Test.YtgliggljegghhaaNumI
import Derived.Test.YtgliggljegghhaaSpec2a
import Derived.Test.YtgliggljegghhaaB3
import Derived.Test.YtgliggljegghhaaI1y
namespace Go.Proofs.Ytgliggljegghhaa
open Go.RowKit
set_option linter.unusedSimpArgs false
set_option linter.unusedVariables false
theorem drop1_bytes (s : ByteArray) : (s.extract 1 s.size).data.toList = s.data.toList.drop 1 := by
  rw [extract_bs, bs_data]
  rw [List.take_of_length_le (by simp)]
set_option maxHeartbeats 1000000 in
theorem isName_c (s : ByteArray) (hs : s.size ≤ 1048576) (w : World) : Calls Try.prog 43 #[.string s] w fun e w' => e = .returned (.bool (isNm s.data.toList)) ∧ w' = w := by
  obtain ⟨R, hR⟩ : ∃ R, R = isNm s.data.toList := ⟨_, rfl⟩
  rw [← hR]
  have HR := Lib.hid hR
  clear hR
  by_cases hin : 1 ≤ s.size ∧ s.size ≤ 4
  · have h0 : 0 < s.size := by omega
    have h4 : (s.size : Int) ≤ 4 := by omega
    have h0' : (1 : Int) ≤ (s.size : Int) := by omega
    have hf := first_of s h0
    obtain ⟨b, hb⟩ : ∃ b, b = s[0] := ⟨_, rfl⟩
    rw [← hb] at hf
    have hb8 : s[0] = b := hb.symm
    by_cases hlet : 97 ≤ b.toNat ∧ b.toNat ≤ 122
    · have HN := Lib.hid (isNm_rest hf (by simpa using hin.2) hlet)
      have hd1 : (97 : Int) ≤ (b.toNat : Int) := by omega
      have hd2 : (b.toNat : Int) ≤ 122 := by omega
      obtain ⟨D, hD⟩ : ∃ D, D = s.extract 1 s.size := ⟨_, rfl⟩
      have hDl : D.data.toList = s.data.toList.drop 1 := by rw [hD, drop1_bytes]
      have C : Hid (∀ W, Calls Try.prog 56 #[.string (s.extract 1 s.size)] W fun e w' => e = .returned (.bool (Lib.decFrom 0 (s.data.toList.drop 1)).isSome) ∧ w' = W) :=
        Lib.hid (fun W => by rw [← hD, ← hDl]; exact isDigits_c D (by rw [hD]; simp; omega) W)
      clear hin hf hb hlet hD hDl
      go_enter Try.func43, Try.ntmps43
      go_wp2_with (go_at_call 56; go_must (refine (C.out _).mono ?_; rintro e w1 ⟨rfl, rfl⟩))
      go_ret
      exact ⟨ret_bool (by rw [HR.out, HN.out, List.drop_one]), rfl⟩
    · have HN := Lib.hid (isNm_first hf hlet)
      clear hin hf hb
      by_cases hd1 : (97 : Int) ≤ (b.toNat : Int)
      · have hd2 : ¬ (b.toNat : Int) ≤ 122 := by omega
        go_enter Try.func43, Try.ntmps43
        go_wp2_with fail
        go_ret
        exact ⟨ret_bool (by rw [HR.out, HN.out]), rfl⟩
      · go_enter Try.func43, Try.ntmps43
        go_wp2_with fail
        go_ret
        exact ⟨ret_bool (by rw [HR.out, HN.out]), rfl⟩
  · have HN := Lib.hid (isNm_len (l := s.data.toList) (by simpa using hin))
    by_cases h1 : (1 : Int) ≤ (s.size : Int)
    · have h4 : ¬ (s.size : Int) ≤ 4 := by omega
      clear hin
      go_enter Try.func43, Try.ntmps43
      go_wp2_with fail
      go_ret
      exact ⟨ret_bool (by rw [HR.out, HN.out]), rfl⟩
    · clear hin
      go_enter Try.func43, Try.ntmps43
      go_wp2_with fail
      go_ret
      exact ⟨ret_bool (by rw [HR.out, HN.out]), rfl⟩
theorem isName_bs (l : List UInt8) (hl : l.length ≤ 1048576) (w : World) : Calls Try.prog 43 #[.string (bs l)] w fun e w' => e = .returned (.bool (isNm l)) ∧ w' = w := by
  have := isName_c (bs l) (by rw [bs_size]; exact hl) w
  rw [bs_data] at this
  exact this
end Go.Proofs.Ytgliggljegghhaa
namespace Go.Proofs.Ytgliggljegghhaa
open Go.RowKit
set_option linter.unusedSimpArgs false
set_option linter.unusedVariables false
end Go.Proofs.Ytgliggljegghhaa
namespace Go.Proofs.Ytgliggljegghhaa
open Go.RowKit
set_option linter.unusedSimpArgs false
set_option linter.unusedVariables false
end Go.Proofs.Ytgliggljegghhaa
namespace Go.Proofs.Ytgliggljegghhaa
open Go.RowKit
set_option linter.unusedSimpArgs false
set_option linter.unusedVariables false
theorem size_ofI {ok : Nat → Prop} {w w' : World} {B : Nat} (hok : ∀ k, ok k → k < w.heap.size) (h : Below B w w') : ∀ k, ok k → k < w'.heap.size := fun k hk => Nat.lt_of_lt_of_le (hok k hk) h.size
theorem atomOf_lenI : ∀ t : Tr, (atomOf t).length ≤ t.bytes
  | .atom a => Nat.le_refl _
  | .list ts => Nat.zero_le _
end Go.Proofs.Ytgliggljegghhaa
