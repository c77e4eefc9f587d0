/- The program: closed expressions, counting, free names. The program: free names of a text. The reference model: the free names of a text, and whether it is closed. The plain mathematics of chapter 3: how many expressions an expression has; environments, types, the first fault. -/
import Derived.Test.YtjaaalojcdbcpaaGreatDoorpI2n
import Derived.Test.YtjaaalojcdbcpaaGreatDoorpS2f
import Derived.Test.YtjaaalojcdbcpaaGreatDoorpShelf
import Derived.Test.YtjaaalojcdbcpaaGreatDoorpPureT
set_option maxHeartbeats 20000000
set_option linter.unusedVariables false
set_option linter.unusedSimpArgs false
namespace Go.Proofs.YtjaaalojcdbcpaaGreatDoor
open Go.RowKit Go.Proofs.Tryz
set_option maxRecDepth 8000
def Z0a : List Ex → Nat
 | [] => 0
 | k :: ks => lvs k + Z0a ks
theorem sumL_snoc (e : Ex) : ∀ ks : List Ex, Z0a (ks ++ [e]) = Z0a ks + lvs e
 | [] => by simp [Z0a]
 | k :: ks => by simp only [List.cons_append, Z0a, sumL_snoc e ks]; omega
theorem lvs_kids : ∀ x : Ex, lvs x ≤ max 1 (Z0a (Z4 x))
 | .name _ => by simp [lvs, Z4, Z0a]
 | .num _ => by simp [lvs, Z4, Z0a]
 | .two _ a b => by simp only [lvs, Z4, Z0a]; omega
 | .one _ a => by simp only [lvs, Z4, Z0a]; omega
 | .cond a b c => by simp only [lvs, Z4, Z0a]; omega
 | .lete x e b => by simp only [lvs, Z4, Z0a]; omega
 | .func f x _ _ e => by simp only [lvs, Z4, Z0a]; omega
theorem lvs_le : ∀ (n : Nat) (t : Tr) (x : Ex), t.depth < n → t.wf → Zt t = some x → lvs x ≤ t.size
 | 0, t, x, h, _, _ => by omega
 | n + 1, .atom a, x, _, _, h => by
   simp only [Zt, Xt] at h
   simp only [Tr.size]
   split at h
   · simp only [Option.some.injEq] at h; subst h; simp [lvs]
   · split at h
     · simp only [Option.some.injEq] at h; subst h; simp [lvs]
     · cases h
 | n + 1, .list [], x, _, hw, h => by simp [Tr.wf] at hw
 | n + 1, .list (h :: ps), x, hd, hw, e => by
   obtain ⟨a, V⟩ := Kt e
   have hsp := size_pos (.list (h :: ps)) hw
   simp only [Tr.wf] at hw
   have hstep : ∀ j, j ≤ (Z4 x).length → Z0a ((Z4 x).take j) ≤ Yl ((h :: ps).take (a + j)) := by
    intro j
    induction j with
    | zero => intro _; simp [Z0a]
    | succ j ih =>
      intro hj
      have hj' : j < (Z4 x).length := by omega
      have hb := Jy V hj'
      have h1 := ih (by omega)
      have h2 := V.kid j hj' hb
      have h3 := lvs_le n _ _ (by have := Xd hb; omega) (Qq hw.2 hb) h2
      have h5 := J8 (h :: ps) (a + j) hb
      rw [List.take_succ_eq_append_getElem hj', sumL_snoc, show a + (j + 1) = a + j + 1 by omega, h5]
      omega
   have h1 := hstep _ (Nat.le_refl _)
   rw [List.take_length] at h1
   have h2 := Qd (h :: ps) (a + (Z4 x).length)
   have h3 := lvs_kids x
   simp only [Tr.size] at hsp ⊢
   omega
theorem Z0b {l : List UInt8} {x : Ex} (h : Zy l = some x) : lvs x ≤ 120 := by
 cases hp : Yt l with
 | none => rw [K4 hp] at h; cases h
 | some t =>
   rw [Qx hp] at h
   split at h
   · rename_i hs
     have := lvs_le (t.depth + 1) t x (by omega) (Jt hp).1 h
     omega
   · cases h
def readCl (l : List UInt8) : Option Ex := (Zy l).filter (fun x => (Zj x).isEmpty)
def freeE (l : List UInt8) : Option (List Nm) := (Zy l).map (fun x => (Zj x).foldl Jq [])
def V9 : Ex → Nat
 | .name _ => 1
 | .num _ => 1
 | .two _ a b => 1 + V9 a + V9 b
 | .one _ a => 1 + V9 a
 | .cond a b c => 1 + V9 a + V9 b + V9 c
 | .lete _ e b => 1 + V9 e + V9 b
 | .func _ _ _ _ e => 1 + V9 e
def sumM : List Ex → Nat
 | [] => 0
 | k :: ks => V9 k + sumM ks
def manyOf (l : List UInt8) : Int := match Zy l with | none => -1 | some x => (V9 x : Nat)
end Go.Proofs.YtjaaalojcdbcpaaGreatDoor
