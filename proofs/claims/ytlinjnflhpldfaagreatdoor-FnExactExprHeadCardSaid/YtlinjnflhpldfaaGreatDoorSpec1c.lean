/- The reference model's measures and types. -/
import Derived.Test.YtlinjnflhpldfaaGreatDoorSpec1b
import Derived.Test.YtlinjnflhpldfaaGreatDoorPure2
namespace Go.Proofs.YtlinjnflhpldfaaGreatDoor
open Go.RowKit
set_option maxRecDepth 8000
set_option linter.unusedSimpArgs false
set_option linter.unusedVariables false
theorem atomne {a : List UInt8} (h : a ≠ []) : (!(bs a).toList.isEmpty) = true := by simp [bs_toList, h]
theorem emptyne : (!(bs []).toList.isEmpty) = false := by simp [bs_toList]

set_option maxHeartbeats 400000 in
theorem l1Size_c (n : Nat) : ∀ (t : Tr) (cs : List Value) (ok : Nat → Prop) (w : World), t.depth < n → t.wf → t.bytes ≤ 1000000000 → FV nS w ok t cs → (∀ k, ok k → k < w.heap.size) →
    Calls Tryz.prog 56 #[.agg cs.toArray] w fun e w' => e = .returned (.int .i64 t.size) ∧ Below w.heap.size w w' := by
  induction n with
  | zero => intro t _ _ _ h; omega
  | succ n ih =>
    intro t cs ok w hd hwf hsz hv hok
    match t, hv with
    | .atom a, hv =>
      simp only [FV] at hv
      subst hv
      have ha := atomne hwf.1
      go_enter Tryz.func56, Tryz.ntmps56
      simp only [nS, atomOf]
      go_wp2_with fail
      go_ret
      exact ⟨rfl, below1 _ _⟩
    | .list ts, hv =>
      simp only [FV] at hv
      obtain ⟨r, off, cap, xs, rfl, h2, h3, h4, h5, h6⟩ := hv
      have ha := emptyne
      have h3' : ts.length ≤ 9223372036854775807 := by have := maxLen_le h4; omega
      have hwf' := hwf
      simp only [Tr.wf] at hwf
      have hrlt := hok r h2
      have S1 := sizes_le _ hwf.2
      have S2 := hwf.1
      simp only [Tr.bytes] at hsz
      go_enter Tryz.func56, Tryz.ntmps56
      simp only [nS, atomOf]
      go_wp2_with fail
      go_loopw [3, 4] (fun m i wr => ∃ k : Nat, k ≤ ts.length ∧ i = .int .i64 k ∧ m = .int .i64 (sizes (ts.take k)) ∧ Below (w.heap.size + 1) (w.alloc (.cells #[.string (bs []), .slice (some ⟨r, off, none⟩) ts.length cap] 37)) wr) (fun _ i _ => ts.length - (intOf i).toNat)
      case atStart => exact ⟨0, Nat.zero_le _, rfl, by simp [sizes], Below.refl _ _⟩
      case round =>
        obtain ⟨k, hk, rfl, rfl, hb⟩ := hrel
        have c0 : wr.cell? ⟨w.heap.size, 1, none⟩ = some (.slice (some ⟨r, off, none⟩) ts.length cap) := by
          rw [hb.cell (p := ⟨w.heap.size, 1, none⟩) (by simp)]; simp
        have hbw : Below w.heap.size w wr := (below1 w _).trans (hb.mono (by omega))
        have b1 := sizes_take_le ts k
        by_cases hlt : k < ts.length
        · obtain ⟨cs, g1, g2⟩ := FVs.get nS_len h6 h5 k hlt
          obtain ⟨p, pn, pc, rfl⟩ := g1.node
          have e0 : wr.cell? ⟨r, off + k * 2, none⟩ = some (.string (bs (atomOf ts[k]))) := by rw [hbw.cell (by exact hrlt)]; exact g2 0 _ rfl
          have e1 : wr.cell? ⟨r, off + k * 2 + 1, none⟩ = some (.slice p pn pc) := by rw [hbw.cell (by exact hrlt)]; exact g2 1 _ rfl
          have s0 := sizes_take ts k hlt
          have b2 := sizes_take_le ts (k + 1)
          have hdk : ts[k].depth < n := by have := depth_lt hlt; omega
          have hbk : ts[k].bytes ≤ 1000000000 := by have := bytes_lt hlt; simp only [Tr.bytes] at this; omega
          have b3 : ts[k].size ≤ 1000000000 := by have := (size_le _ (wf_get hwf.2 hlt)).1; omega
          have HS := Lib.hid s0
          have g1' := g1.below hbw hok
          have hsz' := hbw.size
          clear s0
          go_wp2_with (go_at_call 56; go_must (refine (ih ts[k] (nS ts[k] (.slice p pn pc)) ok _ hdk (wf_get hwf.2 hlt) hbk g1' (fun j hj => Nat.lt_of_lt_of_le (hok j hj) hsz')).mono ?_; rintro e w' ⟨rfl, hb2⟩))
          all_goals
            go_roundw
            case rel => exact ⟨k + 1, by omega, by go_num, by rw [HS.out]; go_num, hb.trans (hb2.mono (by have := hb.size; simp at this; omega))⟩
            case measure => simp [intOf]; omega
        · have : k = ts.length := by omega
          subst this
          go_wp2_with fail
          go_ret
          exact ⟨ret_int (by simp [Tr.size]), hbw⟩

end Go.Proofs.YtlinjnflhpldfaaGreatDoor
