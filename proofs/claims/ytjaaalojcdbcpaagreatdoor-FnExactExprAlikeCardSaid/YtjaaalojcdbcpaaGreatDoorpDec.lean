/- The reference: decimals. -/
import Derived.Test.YtjaaalojcdbcpaaGreatDoorpDraw3M
import Derived.Test.YtjaaalojcdbcpaaGreatDoorpPureT
import Derived.Deep.RegionHeld3
set_option maxHeartbeats 20000000
set_option linter.unusedVariables false
set_option linter.unusedSimpArgs false
namespace Go.Proofs.YtjaaalojcdbcpaaGreatDoor
open Go.RowKit Go.Proofs.Tryz
set_option maxRecDepth 8000
theorem dig_one (n : Int) (h0 : 0 ≤ n) (h1 : n < 10) : strOfNums [48 + n] = bs [UInt8.ofNat (48 + n.toNat)] := by
 simp only [strOfNums, List.map_cons, List.map_nil, bs]
 rw [show (48 + n).toNat = 48 + n.toNat from by omega]
theorem Vg (W : World) (b : Nat) (x : Int) (h : W.heap[b]? = some (.cells #[.int .u8 x] 5 (0, 0))) : (convert 26 9 (.slice (some ⟨b, 0, none⟩) 1 1)).run prog W = .ok (.string (strOfNums [x])) W := by
 refine run_convert_bytes_arg (P := prog) W 26 5 underlying26 underlying5 b 0 1 1 [x] rfl (fun i hi => ?_) 9 underlying9
 obtain rfl : i = 0 := by omega
 rw [Z8 h]; simp
theorem dec_len : ∀ (n : Nat), n ≤ 1000000 → (Lib.decDigits n).length ≤ 100 := fun n hn => by
 have h : ∀ (k n : Nat), n < 10 ^ k → (Lib.decDigits n).length ≤ k + 1 := by
  intro k
  induction k with
  | zero => intro n h; rw [Lib.decDigits, dif_pos (by simp at h; omega)]; simp
  | succ k ih =>
    intro n h
    rw [Lib.decDigits]
    split
    · simp
    · have := ih (n / 10) (by rw [Nat.pow_succ] at h; omega)
      simp; omega
 have := h 7 n (by omega)
 omega
theorem l6Dec_c : ∀ (f n : Nat), n < f → n ≤ 1000000 → ∀ w : World, Calls prog 140 #[.int .i64 (n : Int)] w fun e w' => e = .returned (.string (bs (Lib.decDigits n))) ∧ Below w.heap.size w w'
 | 0, n, hf, hn, w => by omega
 | f + 1, n, hf, hn, w => by
   by_cases h : n < 10
   · rw [Lib.decDigits_one h]
     have HD := H_ (show strOfNums [48 + (n : Int)] = bs [UInt8.ofNat (48 + n)] from dig_one n (by omega) (by omega))
     have hconv := Vg (w.alloc (.cells #[.int .u8 (48 + (n : Int))] 5)) w.heap.size (48 + (n : Int)) (heap_alloc_new w _)
     go_enter func140, ntmps140
     go_wp2_with fail
     go_ret
     exact ⟨by rw [← HD.out]; rfl, Z5 _ _⟩
   · have C := H_ (fun W => l6Dec_c f (n / 10) (by omega) (by omega) W)
     have e1 : ((n / 10 : Nat) : Int) = (n : Int) / 10 := by omega
     rw [e1] at C
     have HD := H_ (show bs (Lib.decDigits n) = bs (Lib.decDigits (n / 10)) ++ strOfNums [48 + (n : Int) % 10] by
      rw [Lib.decDigits, dif_neg h, dig_one _ (by omega) (by omega), Ja, show ((n : Int) % 10).toNat = n % 10 by omega])
     rw [HD.out]
     have hs1 : (strOfNums [48 + (n : Int) % 10]).size = 1 := strOfNums_size _
     have hlen : (bs (Lib.decDigits (n / 10))).size ≤ 100 := by rw [Xj]; exact dec_len _ (by omega)
     obtain ⟨D, hD⟩ : ∃ q, q = bs (Lib.decDigits (n / 10)) := ⟨_, rfl⟩
     rw [← hD] at C hlen ⊢
     obtain ⟨S1, hS1⟩ : ∃ q, q = strOfNums [48 + (n : Int) % 10] := ⟨_, rfl⟩
     have hm : 0 ≤ (n : Int) % 10 ∧ (n : Int) % 10 < 10 := by omega
     have hq : 0 ≤ (n : Int) / 10 ∧ (n : Int) / 10 ≤ 100000 := by omega
     have h10 : ¬ (n : Int) < 10 := by omega
     have w1 : IntKind.i64.wrap ((n : Int) / 10) = (n : Int) / 10 := by rw [IntKind.wrap_i64]; omega
     have w2 : (n : Int).tmod 10 = (n : Int) % 10 := Int.tmod_eq_emod_of_nonneg (by omega)
     have w3 : IntKind.i64.wrap (48 + (n : Int) % 10) = 48 + (n : Int) % 10 := by rw [IntKind.wrap_i64]; omega
     have w4 : IntKind.u8.wrap (48 + (n : Int) % 10) = 48 + (n : Int) % 10 := by rw [IntKind.wrap_u8]; omega
     have hcA : ∀ W : World, (convert 26 9 (.slice (some ⟨W.heap.size, 0, none⟩) 1 1)).run prog (W.alloc (.cells #[.int .u8 (48 + (n : Int) % 10)] 5)) = .ok (.string S1) (W.alloc (.cells #[.int .u8 (48 + (n : Int) % 10)] 5)) := fun W => by rw [hS1]; exact Vg _ _ _ (heap_alloc_new W _)
     have hcC : (convert 26 9 (.slice (some ⟨w.heap.size, 0, none⟩) 1 1)).run prog (w.alloc (.cells #[.int .u8 (48 + (n : Int) % 10)] 5)).drew = .ok (.string S1) (w.alloc (.cells #[.int .u8 (48 + (n : Int) % 10)] 5)).drew := by rw [hS1]; exact Vg _ _ _ (heap_alloc_new w _)
     have hcD : (convert 26 9 (.slice (some ⟨w.heap.size, 0, none⟩) 1 1)).run prog (w.drew.alloc (.cells #[.int .u8 (48 + (n : Int) % 10)] 5)) = .ok (.string S1) (w.drew.alloc (.cells #[.int .u8 (48 + (n : Int) % 10)] 5)) := by rw [hS1]; exact Vg _ _ _ (heap_alloc_new w _)
     have HS1 := H_ hS1
     rw [← hS1] at hs1 ⊢
     clear hS1
     have gq1 : ¬ (9223372036854775807 : Nat) < D.size + S1.size := by omega
     have gq2 : ¬ (9223372036854775807 : Nat) < D.size + 1 := by omega
     clear HD hD
     have K : Hid (∀ W, Below w.heap.size w W → (fun W => Below w.heap.size w W ∧ True) W) := H_ (fun W hW => ⟨hW, trivial⟩)
     have S0 := H_ (K.out _ ((Below.refl _ w).drew))
     go_enter func140, ntmps140
     go_wp2_with fail
     first | (go_region_with (first | (go_at_call 140; (with_reducible refine (C.out _).mono ?_); rintro e w2 ⟨rfl, hb2⟩; first | (have hcB : (convert 26 9 (.slice (some ⟨w.heap.size, 0, none⟩) 1 1)).run prog w2 = .ok (.string S1) w2 := (by rw [HS1.out]; exact Vg _ _ _ (Z3 hb2 (lt_of_block (heap_alloc_new w _)) (heap_alloc_new w _)))) | (have hcE : ∀ (W : World), (convert 26 9 (.slice (some ⟨W.heap.size, 0, none⟩) 1 1)).run prog (W.alloc (.cells #[.int .u8 (48 + (n : Int) % 10)] 5)) = .ok (.string S1) (W.alloc (.cells #[.int .u8 (48 + (n : Int) % 10)] 5)) := hcA)))) | fail
     all_goals
      go_wp2_with fail
      go_ret
      first
       | exact ⟨rfl, (Z5 w _).trans (hb2.mono (by simp))⟩
       | exact ⟨rfl, Below.trans (Z5 w _).drew (hb2.mono (by simp))⟩
       | exact ⟨rfl, hb2.alloc hb2.size _⟩
       | exact ⟨rfl, (show Below w.heap.size w w2 from ⟨hb2.os, hb2.tape, hb2.output, hb2.size, hb2.block⟩).alloc hb2.size _⟩
       | exact ⟨rfl, ⟨hb2.os, hb2.tape, hb2.output, hb2.size, hb2.block⟩⟩
end Go.Proofs.YtjaaalojcdbcpaaGreatDoor
