/- The program's numerals. -/
import Derived.Test.YtpaaglamcmfdjaaNumS
import Derived.Test.YtpaaglamcmfdjaaShelf
import Derived.Lib.SmallJoins
import Derived.Deep.QuietTactic
import Derived.BigQuiet
namespace Go.Proofs.Ytpaaglamcmfdjaa
open Go.RowKit
set_option maxRecDepth 8000
set_option linter.unusedSimpArgs false
set_option linter.unusedVariables false
set_option maxHeartbeats 1000000 in
theorem isDigits_c (s : ByteArray) (hs : s.size ≤ 1048576) (w : World) : Calls Try.prog 29 #[.string s] w fun e w' => e = .returned (.bool (Lib.decFrom 0 s.data.toList).isSome) ∧ w' = w := by
  obtain ⟨R, hR⟩ : ∃ R, R = (Lib.decFrom 0 s.data.toList).isSome := ⟨_, rfl⟩
  rw [← hR]
  have HR := Lib.hid hR
  clear hR
  go_enter Try.func29, Try.ntmps29
  go_wp2_with fail
  go_loop [6] (fun i => ∃ k : Nat, k ≤ s.size ∧ i = .int .i64 k ∧ Hid (∃ m, Lib.decFrom 0 (s.data.toList.take k) = some m)) (fun i => s.size - (intOf i).toNat)
  case atStart => exact ⟨0, Nat.zero_le _, rfl, Lib.hid ⟨0, rfl⟩⟩
  case round =>
    obtain ⟨k, hk, rfl, hm⟩ := hrel
    by_cases hlt : k < s.size
    · have hbk : s.data.toList[k]? = some s[k] := by rw [List.getElem?_eq_getElem (by simpa using hlt)]; rfl
      have hk0 : (0 : Int) ≤ (k : Int) := by omega
      obtain ⟨b, hb⟩ : ∃ b, b = s[k] := ⟨_, rfl⟩
      by_cases hdg : 48 ≤ b.toNat ∧ b.toNat ≤ 57
      · have hdv : Lib.digitVal s[k] = some (b.toNat - 48) := by rw [← hb]; simp [Lib.digitVal, hdg]
        have HS : Hid (∃ m, Lib.decFrom 0 (s.data.toList.take (k + 1)) = some m) := Lib.hid (by obtain ⟨m, h⟩ := hm.out; exact ⟨_, Lib.decFrom_take _ k 0 m _ _ h hbk hdv⟩)
        have hd1 : ¬ ((b.toNat : Int) < 48) := by omega
        have hd2 : ¬ ((57 : Int) < b.toNat) := by omega
        have hb8 : s[k] = b := hb.symm
        clear hb hbk hdv
        go_wp2_with fail
        exact ⟨⟨k + 1, by omega, by go_num, HS⟩, by simp [intOf]; omega⟩
      · have hdv : Lib.digitVal s[k] = none := by rw [← hb]; simp only [Lib.digitVal]; rw [if_neg hdg]
        have HNN := Lib.hid (decFrom_bad s.data.toList 0 k _ hbk hdv)
        have hb8 : s[k] = b := hb.symm
        clear hb hbk hdv
        by_cases hd1 : ((b.toNat : Int) < 48)
        · go_wp2_with fail
          go_ret
          exact ⟨ret_bool (by rw [HR.out, HNN.out]; rfl), rfl⟩
        · have hd2 : (57 : Int) < b.toNat := by omega
          go_wp2_with fail
          go_ret
          exact ⟨ret_bool (by rw [HR.out, HNN.out]; rfl), rfl⟩
    · have : k = s.size := by omega
      subst this
      have hm' := hm.out
      rw [← size_data, List.take_length] at hm'
      have HM := Lib.hid hm'
      clear hm'
      go_wp2_with fail
      go_ret
      exact ⟨ret_bool (by obtain ⟨m, h⟩ := HM.out; rw [HR.out, h]; rfl), rfl⟩
theorem below_bytes (w : World) (e : TypeId) (s : ByteArray) : Below w.heap.size w (Lib.bytesWorld w e s) := Go.Joins.below_bytesWorld _ _ _ _ (Nat.le_refl _)
theorem numPost_shape (r : Option Int) : ∃ x z, ∀ e, NumPost r e → e = .returned (.tuple #[.int .i64 x, .bool z]) := ⟨_, _, fun e h => h⟩
end Go.Proofs.Ytpaaglamcmfdjaa
