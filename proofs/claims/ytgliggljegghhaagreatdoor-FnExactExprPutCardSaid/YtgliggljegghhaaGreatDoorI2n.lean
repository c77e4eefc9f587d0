/- The program's free places: all. The program's free names, each once; its counting and its closed expressions. -/
import Derived.Test.YtgliggljegghhaaGreatDoorImpl2m
namespace Go.Proofs.YtgliggljegghhaaGreatDoor
open Go.RowKit
set_option maxRecDepth 8000
theorem fp_all : ∀ x : Ex, FpC x
  | .name s => fp_name s
  | .num n => fp_num n
  | .two .add a b => fp_add a b (fp_all a) (fp_all b)
  | .two .sub a b => fp_sub a b (fp_all a) (fp_all b)
  | .two .mul a b => fp_mul a b (fp_all a) (fp_all b)
  | .two .call a b => fp_call a b (fp_all a) (fp_all b)
  | .two .pair a b => fp_pair a b (fp_all a) (fp_all b)
  | .one .fst a => fp_fst a (fp_all a)
  | .one .snd a => fp_snd a (fp_all a)
  | .cond a b c => fp_cond a b c (fp_all a) (fp_all b) (fp_all c)
  | .lete s e b => fp_let s e b (fp_all e) (fp_all b)
  | .func f x A B e => fp_fun f x A B e (fp_all e)
end Go.Proofs.YtgliggljegghhaaGreatDoor
namespace Go.Proofs.YtgliggljegghhaaGreatDoor
open Go.RowKit
set_option linter.unusedSimpArgs false
set_option linter.unusedVariables false
structure FnInv (w1 : World) (l : List Nm) (v1 : Value) (wr : World) : Prop where
  own : wr.ownsRow w1.heap.size 9 1 v1 l.length (l.map strV)
  below : Below w1.heap.size w1 wr
theorem FnInv.fin {w w1 wr : World} {l : List Nm} {v1 : Value} (h : FnInv w1 l v1 wr) (hb1 : Below w.heap.size w w1) : FpPost w l (.returned v1) wr := ⟨⟨_, rfl, owns_base h.own hb1.size⟩, hb1.trans (h.below.mono hb1.size)⟩
theorem strS_keep {w w' : World} {v : Value} {l : List Nm} (h : StrS w v l) (hb : Below w.heap.size w w') : StrS w' v l := by
  obtain ⟨p, c, rfl, h1, h2⟩ := h
  refine ⟨p, c, rfl, h1, fun hne => ?_⟩
  obtain ⟨r, off, rfl, h3⟩ := h2 hne
  refine ⟨r, off, rfl, h3.move (hb.block r ?_)⟩
  cases l with
  | nil => exact absurd rfl hne
  | cons x l =>
    have hc := h3 0 (strV x) (by simp)
    by_cases hr : r < w.heap.size
    · exact hr
    · simp [World.cell?, Array.getElem?_eq_none (Nat.le_of_not_lt hr)] at hc
set_option maxHeartbeats 1000000 in
theorem freeNames_c (x : Ex) (v : Value) (ok : Nat → Prop) (w : World) (hl : lvs x ≤ 100000) (hv : EV w ok x v) (hok : ∀ k, ok k → k < w.heap.size) :
    Calls Tryz.prog 64 #[v] w (FpPost w ((freeP x).foldl addA [])) := by
  have C := Lib.hid (fp_all x v ok w hl hv hok)
  have hlen : (freeP x).length ≤ 100000 := by have := freeP_lvs x; omega
  have HL : Hid (∀ j, (((freeP x).take j).foldl addA []).length ≤ 100000) := Lib.hid (fun j => by
    have h1 := (foldA_len ((freeP x).take j) []).2
    simp only [List.length_take, List.length_nil] at h1
    omega)
  obtain ⟨i0, hi0, hz0, hz1, hz2⟩ := info_parts Tryz.infoStr
  obtain ⟨T, u, rfl⟩ := hv.iface
  generalize freeP x = P at *
  clear hv hl hok
  go_enter Tryz.func64, Tryz.ntmps64
  go_wp2_with (go_at_call 71; go_must (refine (C.out).mono ?_; rintro e w1 ⟨⟨v7, rfl, ho7⟩, hb1⟩; obtain ⟨p7, c7, rfl⟩ := owns_slice ho7))
  have hS7 := Lib.hid (owns_strS6 ho7 (by omega))
  clear ho7
  go_loopw [3, 9] (fun v1 i wr => ∃ j : Nat, j ≤ P.length ∧ i = .int .i64 j ∧ Hid (FnInv w1 ((P.take j).foldl addA []) v1 wr)) (fun _ i _ => P.length - (intOf i).toNat)
  case atStart => exact ⟨0, Nat.zero_le _, rfl, Lib.hid ⟨World.ownsRow_nil _ _ _ _, Below.refl _ _⟩⟩
  case round =>
    obtain ⟨j, hj, rfl, hI⟩ := hrel
    by_cases hlt : j < P.length
    · have hSr := strS_keep hS7.out hI.out.below
      obtain ⟨p9, c9, he9, h91, h92⟩ := hSr
      simp only [Value.slice.injEq] at he9
      obtain ⟨rfl, -, rfl⟩ := he9
      obtain ⟨r, off, rfl, h93⟩ := h92 (fun e => by rw [e] at hlt; simp at hlt)
      have c0 : wr.cell? ⟨r, off + j, none⟩ = some (.string (bs P[j])) := StrS.cell h93 hlt
      have HA := Lib.hid (show (P.take (j + 1)).foldl addA [] = addA ((P.take j).foldl addA []) P[j] by rw [List.take_succ_eq_append_getElem hlt, List.foldl_append]; rfl)
      have hl1 := HL.out j
      have hsz := hI.out.below.size
      have HO := Lib.hid hI.out.own
      have hj0 : (0 : Int) ≤ (j : Int) := by omega
      generalize P[j] = a at *
      generalize (P.take j).foldl addA [] = l at *
      obtain ⟨p1, c1, rfl⟩ := owns_slice HO.out
      clear h91 h92 h93 HL
      have CC := Lib.hid (contains_c _ l a wr (owns_strS6 HO.out (by omega)))
      by_cases hm : a ∈ l
      · have hd : decide (a ∈ l) = true := by simpa using hm
        have HA2 := Lib.hid (show (P.take (j + 1)).foldl addA [] = l by rw [HA.out, addA_yes hm])
        rw [hd] at CC
        clear HA hm hd
        go_wp2_with (go_at_call 107; go_must (refine (CC.out).mono ?_; rintro e w3 ⟨rfl, rfl⟩))
        go_roundw
        case rel => exact ⟨j + 1, by omega, by go_num, by rw [HA2.out]; exact hI⟩
        case measure => simp [intOf]; omega
      · have hd : decide (a ∈ l) = false := by simpa using hm
        have HA2 := Lib.hid (show (P.take (j + 1)).foldl addA [] = l ++ [a] by rw [HA.out, addA_no hm])
        rw [hd] at CC
        clear HA hm hd
        go_wp2_with (first | (go_at_call 107; go_must (refine (CC.out).mono ?_; rintro e w3 ⟨rfl, rfl⟩)) | (at_builtin; go_must (refine wpList_append_str _ rfl _ _ 28 rfl w1.heap.size 9 i0 Tryz.underlying28 hi0 hz0 hz1 hz2 _ l rfl (HO.out.alloc _) _ [a] rfl (strS_madeI (l := [a]) (heap_alloc_new _ _) _ (by simp)) (by simp; omega) (by simp; omega) ?_; intro v3 w4 ho4 hg4 hv4)))
        go_roundw
        case rel => exact ⟨j + 1, by omega, by go_num, Lib.hid (by rw [HA2.out]; exact ⟨ho4, below_grown2 hI.out.below ((Below.refl _ _).alloc (Nat.le_refl _) _) hg4 (fun k hk => (own_lt HO.out hk).1)⟩)⟩
        case measure => simp [intOf]; omega
    · have : j = P.length := by omega
      subst this
      have hF := hI.out.fin hb1
      rw [List.take_length] at hF
      have hF := Lib.hid hF
      clear hI HL C
      go_wp2_with fail
      go_ret
      exact hF.out
end Go.Proofs.YtgliggljegghhaaGreatDoor
