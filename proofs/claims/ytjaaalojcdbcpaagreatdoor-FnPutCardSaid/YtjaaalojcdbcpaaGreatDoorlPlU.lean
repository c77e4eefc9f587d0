/- The law FnPut: its mathematics. -/
import Derived.Test.YtjaaalojcdbcpaaGreatDoorlIp6M
import Derived.Test.YtjaaalojcdbcpaaGreatDoorlSpec2hM
import Derived.Test.YtjaaalojcdbcpaaGreatDoorlS2f
set_option maxHeartbeats 20000000
set_option linter.unusedVariables false
set_option linter.unusedSimpArgs false
namespace Go.Proofs.YtjaaalojcdbcpaaGreatDoor
open Go.RowKit Go.Proofs.Tryz
set_option maxRecDepth 8000
theorem limT_some {T : Tr} {l : List UInt8} (h : Z10 T = some l) : T.size ≤ 120 ∧ T.bytes ≤ 12000 ∧ T.depth ≤ 60 ∧ l = T.text := by
 unfold Z10 at h
 split at h
 · rename_i q; exact ⟨q.1, q.2.1, q.2.2, (Option.some.inj h).symm⟩
 · cases h
theorem put_law {l n y Y : List UInt8} (h : Kx l n y = some Y) : ∃ (P Y2 : List UInt8) (N A B Z : Nat), P.length ≤ 12000 ∧ Y.length ≤ 12000 ∧ Y2.length ≤ 12000 ∧ cntE l n = N ∧ Z6g l = some P ∧ Kx P n y = some Y2 ∧ Xf l = A ∧ Xf y = B ∧ cntE Y n = 0 ∧ Xf Y = Z ∧ (Z : Int) = A + N * (B - 1) ∧ N ≤ 120 ∧ A ≤ 120 ∧ B ≤ 120 ∧ Z ≤ 120 ∧ Z87 Y2 Y = true := by
 unfold Kx at h
 cases hx : Zp l with
 | none => simp [hx] at h
 | some x =>
   simp only [hx] at h
   split at h
   · rename_i hn
     cases hb : Qr y with
     | none => simp [hb] at h
     | some b =>
       simp only [hb] at h
       obtain ⟨hb1, hb2⟩ := Z3y hb
       obtain ⟨t1, t2, t3, rfl⟩ := limT_some h
       obtain ⟨a1, -, a3, -, a5, -, a7⟩ := Jv hx
       obtain ⟨b1, -, b3, -, -, -, b7⟩ := Jv hb1
       have gp : good (Zs n b x) := Qm b7 x a7
       have hY := Z3z t1 t3 gp
       obtain ⟨y1, -, -, -, -, -, -⟩ := Jv hY
       obtain ⟨p1, p2⟩ := Z7b hx
       obtain ⟨c1, -, -, -, -, -, c7⟩ := Jv p1
       have gq : good (Zs n b (plX x)) := Qm b7 (plX x) c7
       obtain ⟨z1, z2⟩ := putX_size (name := n) hb2 x
       have hbq := Xy _ gq
       have hbp := Xy _ gp
       have hlim : Z10 (Z0 (Zs n b (plX x))) = some (Z0 (Zs n b (plX x))).text := by unfold Z10; rw [if_pos ⟨by omega, by omega, by omega⟩]
       have hY2 := Z3z (x := Zs n b (plX x)) (by omega) (by omega) gq
       have hsz := Jh n b x
       have hc : (Ze x).count n ≤ 120 := by
        have h1 := List.count_le_length (a := n) (l := Ze x)
        have h2 := Xd x
        have h3 := Xj x
        omega
       refine ⟨(Z0 (plX x)).text, (Z0 (Zs n b (plX x))).text, (Ze x).count n, (Z0 x).size, (Z0 b).size, (Z0 (Zs n b x)).size, p2, ?_, ?_, Z5i hx hn, Z17 hx, ?_, ?_, ?_, ?_, ?_, ?_, hc, a3, b3, t1, alTx_of hY2 hY (plX_put hb2 x)⟩
       · rw [Y4 _ (Jz _ gp)]; omega
       · rw [Y4 _ (Jz _ gq)]; omega
       · unfold Kx; rw [p1]; simp only [hn, if_true, hb]; exact hlim
       · unfold Xf; rw [a1]
       · unfold Xf; rw [b1]
       · rw [Z5i hY hn, K8 hb2]; rfl
       · unfold Xf; rw [y1]
       · have hpos : 1 ≤ (Z0 b).size := by
          have h1 := Xj b
          cases b <;> simp [Z0, Tr.size, Yd] <;> omega
         have e : ((Ze x).count n : Int) * ((Z0 b).size - 1 : Int) = ((Ze x).count n * (Z0 b).size : Nat) - ((Ze x).count n : Nat) := by
          rw [Int.mul_sub, Int.mul_one]; push_cast; rfl
         rw [e]
         omega
   · cases h
end Go.Proofs.YtjaaalojcdbcpaaGreatDoor
