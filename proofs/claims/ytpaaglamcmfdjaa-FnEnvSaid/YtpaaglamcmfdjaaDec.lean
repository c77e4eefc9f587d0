/- The reference: decimals. -/
import Derived.Test.YtpaaglamcmfdjaaDraw3
import Derived.Test.YtpaaglamcmfdjaaPureT
import Derived.Test.YtpaaglamcmfdjaaB2
import Derived.Deep.RegionHeld3
namespace Go.Proofs.Ytpaaglamcmfdjaa
open Go.RowKit
set_option maxRecDepth 8000
set_option linter.unusedSimpArgs false
set_option linter.unusedVariables false
theorem dig_one (n : Int) (h0 : 0 ≤ n) (h1 : n < 10) : strOfNums [48 + n] = bs [UInt8.ofNat (48 + n.toNat)] := by
  simp only [strOfNums, List.map_cons, List.map_nil, bs]
  rw [show (48 + n).toNat = 48 + n.toNat from by omega]
theorem conv_blk (W : World) (b : Nat) (x : Int) (h : W.heap[b]? = some (.cells #[.int .u8 x] 5 (0, 0))) : (convert 22 9 (.slice (some ⟨b, 0, none⟩) 1 1)).run Try.prog W = .ok (.string (strOfNums [x])) W := by
  refine run_convert_bytes_arg (P := Try.prog) W 22 5 Try.underlying22 Try.underlying5 b 0 1 1 [x] rfl (fun i hi => ?_) 9 Try.underlying9
  obtain rfl : i = 0 := by omega
  rw [cell_of h]; simp
theorem dec_len : ∀ (n : Nat), n ≤ 1000000 → (Lib.decDigits n).length ≤ 100 := fun n hn => by
  have h : ∀ (k n : Nat), n < 10 ^ k → (Lib.decDigits n).length ≤ k + 1 := by
    intro k
    induction k with
    | zero => intro n h; rw [Lib.decDigits, dif_pos (by simp at h; omega)]; simp
    | succ k ih =>
      intro n h
      rw [Lib.decDigits]
      split
      · simp
      · have := ih (n / 10) (by rw [Nat.pow_succ] at h; omega)
        simp; omega
  have := h 7 n (by omega)
  omega
end Go.Proofs.Ytpaaglamcmfdjaa
