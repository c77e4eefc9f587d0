/- The reference's look-up in an environment. -/
import Derived.Test.YtgljnmbbmjmkjaaGreatDoorPureT
import Derived.Test.YtgljnmbbmjmkjaaGreatDoorSpec2a
import Derived.Test.YtgljnmbbmjmkjaaGreatDoorS1z
import Derived.Test.YtgljnmbbmjmkjaaGreatDoorStrs2
namespace Go.Proofs.YtgljnmbbmjmkjaaGreatDoor
open Go.RowKit
set_option maxRecDepth 8000
set_option linter.unusedSimpArgs false
set_option linter.unusedVariables false
set_option maxHeartbeats 2000000 in
theorem l3Look_c (v1 v2 : Value) (ns : List Nm) (ts : List (List UInt8)) (s : Nm) (w : World) (h1 : StrS w v1 ns) (h2 : StrS w v2 ts) (hl : ns.length = ts.length) (hsz : ns.length ≤ 1000000) :
    Calls Tryz.prog 107 #[v1, v2, .string (bs s)] w fun e w' => e = .returned (.string (bs (lookK ns ts s ns.length))) ∧ w' = w := by
  obtain ⟨R, hR⟩ : ∃ R, R = bs (lookK ns ts s ns.length) := ⟨_, rfl⟩
  rw [← hR]
  have HR := Lib.hid hR
  obtain ⟨p1, c1, rfl, l1, hrow1⟩ := h1
  obtain ⟨p2, c2, rfl, l2, hrow2⟩ := h2
  have HS1 := Lib.hid hrow1
  have HS2 := Lib.hid hrow2
  have HL := Lib.hid hl
  clear hR hrow1 hrow2 hl
  go_enter Tryz.func107, Tryz.ntmps107
  go_wp2_with fail
  go_loop [7] (fun i => ∃ (k : Nat) (n : Int), k ≤ ns.length ∧ i = .int .i64 n ∧ n + 1 = k ∧ Hid (lookK ns ts s ns.length = lookK ns ts s k)) (fun i => ((intOf i) + 1).toNat)
  case atStart => exact ⟨ns.length, _, Nat.le_refl _, rfl, by omega, Lib.hid rfl⟩
  case round =>
    obtain ⟨k, n, hk, rfl, hn, hA⟩ := hrel
    cases k with
    | zero =>
      obtain rfl : n = -1 := by omega
      have HF := Lib.hid (show R = bs [] by rw [HR.out, hA.out]; rfl)
      clear hA
      go_wp2_with fail
      go_ret
      exact ⟨by rw [HF.out]; rfl, rfl⟩
    | succ k =>
      obtain rfl : n = (k : Int) := by omega
      have hlt : k < ns.length := by omega
      have hlt2 : k < ts.length := by rw [← HL.out]; exact hlt
      obtain ⟨r, off, rfl, h3⟩ := HS1.out (by intro e; rw [e] at hlt; simp at hlt)
      obtain ⟨r2, off2, rfl, h4⟩ := HS2.out (by intro e; rw [e] at hlt2; simp at hlt2)
      have x1 : w.cell? ⟨r, off + k, none⟩ = some (.string (bs ns[k])) := StrS.cell h3 hlt
      have x2 : w.cell? ⟨r2, off2 + k, none⟩ = some (.string (bs ts[k])) := StrS.cell h4 hlt2
      have hk0 : (0 : Int) ≤ (k : Int) := by omega
      have hltI : (k : Int) < (ns.length : Int) := by omega
      have hltI2 : (k : Int) < (ts.length : Int) := by omega
      have HG := Lib.hid (show lookK ns ts s (k + 1) = if ns[k] = s then ts[k] else lookK ns ts s k by simp [lookK, hlt, hlt2])
      by_cases he : ns[k] = s
      · have hx2 : ((bs ns[k]).toList == (bs s).toList) = true := by rw [bs_toList, bs_toList]; simpa using he
        have hx3 : (bs ns[k]).toList = (bs s).toList := by rw [bs_toList, bs_toList]; exact he
        have HF := Lib.hid (show R = bs ts[k] by rw [HR.out, hA.out, HG.out, if_pos he])
        generalize bs ns[k] = sa at *
        generalize bs ts[k] = sb at *
        clear hA HG he h3 h4
        go_wp2_with fail
        go_ret
        exact ⟨by rw [HF.out]; rfl, rfl⟩
      · have hx2 : ((bs ns[k]).toList == (bs s).toList) = false := by rw [bs_toList, bs_toList]; simpa using he
        have hx3 : ¬ (bs ns[k]).toList = (bs s).toList := by rw [bs_toList, bs_toList]; exact he
        have HF := Lib.hid (show lookK ns ts s ns.length = lookK ns ts s k by rw [hA.out, HG.out, if_neg he])
        generalize bs ns[k] = sa at *
        generalize bs ts[k] = sb at *
        clear hA HG he h3 h4
        go_wp2_with fail
        exact ⟨⟨k, _, by omega, rfl, by omega, HF⟩, by first | (simp [intOf]; done) | (simp [intOf]; omega)⟩
/-- What a look-up hands back. -/
def LkPost (r : Option (List UInt8)) (e : Ending) : Prop := e = .returned (.tuple #[.string (bs (r.getD [])), .bool r.isSome])
end Go.Proofs.YtgljnmbbmjmkjaaGreatDoor
