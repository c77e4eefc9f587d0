/- The law FnHead: its walk. Heads tell how many parts there are. -/
import Derived.Test.YtjaaalojcdbcpaaGreatDoorlDrawC
import Derived.Test.YtjaaalojcdbcpaaGreatDoorlIp1M
import Derived.Test.YtjaaalojcdbcpaaGreatDoorlS2dM
import Derived.Test.YtjaaalojcdbcpaaGreatDoorlNumIM
import Derived.OwnWalk
set_option maxHeartbeats 20000000
set_option linter.unusedVariables false
set_option linter.unusedSimpArgs false
namespace Go.Proofs.YtjaaalojcdbcpaaGreatDoor
open Go.RowKit Go.Proofs.Tryz
set_option maxRecDepth 8000
theorem sameTF_c (va vb : Value) (la lb : List (List UInt8)) (w : World) (ha : Zw w va la) (hb : Zw w vb lb) :
 Calls prog 15 #[va, vb] w fun e w' => e = .returned (.bool (decide (la = lb))) ∧ ∃ n, w' = w.drewN n := by
 obtain ⟨pa, ca, rfl, ha1, ha2⟩ := ha
 obtain ⟨pb, cb, rfl, hb1, hb2⟩ := hb
 by_cases hlen : la.length = lb.length
 · by_cases hz : la = []
   · subst hz
     have hlb : lb = [] := List.eq_nil_of_length_eq_zero (by simpa using hlen.symm)
     subst hlb
     clear ha2 hb2 hlen
     go_enter func15, ntmps15
     go_wp2_with fail
     refine wp_loop_rounds 1 ?_
     rw [rounds_succ]
     go_wp2_with fail
     go_ret
     exact ⟨Zf (by simp), 0, rfl⟩
   · have hzb : lb ≠ [] := by intro e; subst e; exact hz (List.eq_nil_of_length_eq_zero (by simpa using hlen))
     obtain ⟨ra, oa, rfl, ha3⟩ := ha2 hz
     obtain ⟨rb, ob, rfl, hb3⟩ := hb2 hzb
     have he : ((la.length : Int) == (lb.length : Int)) = true := by simp; omega
     have HL := H_ hlen
     have hle : la.length ≤ lb.length ∧ lb.length ≤ la.length := by omega
     clear hlen ha2 hb2
     go_enter func15, ntmps15
     go_wp2_with fail
     go_loopw [5] (fun v wr => ∃ k : Nat, k ≤ la.length ∧ v = .int .i64 k ∧ Hid (la.take k = lb.take k) ∧ ∃ n, Hid (wr = w.drewN n)) (fun v _ => la.length - (intOf v).toNat)
     case atStart => exact ⟨0, Nat.zero_le _, rfl, H_ rfl, 0, H_ rfl⟩
     case round =>
      obtain ⟨k, hk, rfl, ht, n, hw⟩ := hrel
      by_cases hlt : k < la.length
      · have hltb : k < lb.length := by omega
        have c1 : wr.cell? ⟨ra, oa + k, none⟩ = some (.string (bs la[k])) := by rw [hw.out]; exact Zw.cell ha3 hlt
        have c2 : wr.cell? ⟨rb, ob + k, none⟩ = some (.string (bs lb[k])) := by rw [hw.out]; exact Zw.cell hb3 hltb
        have b1 : (0 : Int) ≤ k := by omega
        cases hx : (la[k] == lb[k]) with
        | true =>
          have hx2 : ((bs la[k]).toList == (bs lb[k]).toList) = true := by rw [Z9, Z9]; exact hx
          have HX := H_ hx
          clear hx
          go_wp2_with fail
          go_quiet (fail)
          go_wp2_with fail
          go_roundw
          case rel => exact ⟨k + 1, by omega, by go_num, H_ (by rw [List.take_succ_eq_append_getElem hlt, List.take_succ_eq_append_getElem hltb, ht.out, show la[k] = lb[k] from by simpa using HX.out]), n + nq, H_ (by rw [hw.out, Z64])⟩
          case measure => simp [intOf]; omega
        | false =>
          have hx2 : ((bs la[k]).toList == (bs lb[k]).toList) = false := by rw [Z9, Z9]; exact hx
          have HX := H_ hx
          clear hx
          go_wp2_with fail
          go_quiet (fail)
          go_wp2_with fail
          go_ret
          exact ⟨Zf (by simp only [Bool.false_eq, decide_eq_false_iff_not]; intro e; subst e; have := HX.out; simp at this), n + nq, by rw [hw.out, Z64]⟩
      · have : k = la.length := by omega
        subst this
        go_wp2_with fail
        go_ret
        exact ⟨Zf (by simp only [Bool.true_eq, decide_eq_true_eq]; have := ht.out; rw [List.take_length, HL.out, List.take_length] at this; exact this), n, hw.out⟩
 · have he : ((la.length : Int) == (lb.length : Int)) = false := by simp; omega
   have HN := H_ (show la ≠ lb from fun e => hlen (by rw [e]))
   clear hlen ha2 hb2
   go_enter func15, ntmps15
   go_wp2_with fail
   go_ret
   exact ⟨Zf (by simp [HN.out]), 0, rfl⟩
end Go.Proofs.YtjaaalojcdbcpaaGreatDoor
