/- The program tells target types: every form, every text. -/
import Derived.Test.YtfknoigbkleanaaGreatDoorTg4
namespace Go.Proofs.YtfknoigbkleanaaGreatDoor
open Go.RowKit
set_option maxRecDepth 8000
set_option linter.unusedSimpArgs false
set_option linter.unusedVariables false
set_option maxHeartbeats 4000000 in
theorem itw_one (u : List UInt8 → Bool) (opn : Bool) (n : Nat) (ih : ItwC u opn n) (hid : Bool) (h : Tr) (r off : Nat) (ok : Nat → Prop) (b z d : Int) (w : World)
    (hrlt : r < w.heap.size) (e0 : w.cell? ⟨r, off, none⟩ = some (.string (bs (atomOf h)))) (hok : ∀ k, ok k → k < w.heap.size) :
    Calls Tryz.prog 192 #[.agg #[.string (bs []), .slice (some ⟨r, off, none⟩) 1 1, .int .i64 b, .int .i64 z, .int .i64 d], .bool hid, .bool opn] w fun e w' => e = .returned (.bool (tgt u hid (.list [h]))) ∧ Below w.heap.size w w' := by
  by_cases hE : atomOf h = [101]
  · have s1 : ((bs (atomOf h)).toList == [116]) = false := by rw [bs_toList, hE]; rfl
    have s2 : ((bs (atomOf h)).toList == [99]) = false := by rw [bs_toList, hE]; rfl
    have s3 : ((bs (atomOf h)).toList == [101]) = true := by rw [bs_toList, hE]; rfl
    have HT := Lib.hid (tgt_e (u := u) (hid := hid) (ts := []) hE)
    rw [tgtE_no u [] (by simp)] at HT
    clear ih hE hok
    generalize bs (atomOf h) = A at *
    go_enter Tryz.func192, Tryz.ntmps192
    go_wp2_with (go_at_call 73; go_must (refine (isAtom_no _ _ _ _ (by simp) _ _ _ _).mono ?_; rintro e w1 ⟨rfl, hb1⟩; have c1 := below_blk hb1 (by simp; try omega) (three_blocks _ _ _ _).1; have c2 := below_blk hb1 (by simp; try omega) (three_blocks _ _ _ _).2.1; have c3 := below_blk hb1 (by simp; try omega) (three_blocks _ _ _ _).2.2; have d0 := cell_of (j := 0) c1; have d1 := cell_of (j := 1) c1; have d2 := cell_of (j := 0) c2; have d3 := cell_of (j := 0) c3; have hw1 := (below3 w _ _ _).trans (hb1.mono (by simp; try omega)); have hsz2 := hb1.size; have g0 := (hw1.cell (p := ⟨r, off, none⟩) hrlt).trans e0))
    first | (go_region_with fail) | fail
    all_goals
      go_wp2_with fail
      go_ret
      first
        | exact ⟨ret_bool HT.out.symm, hw1.drew⟩
        | exact ⟨ret_bool HT.out.symm, hw1⟩
  · by_cases hTC : atomOf h = [116] ∨ atomOf h = [99]
    · have HT := Lib.hid (tgt_tc (u := u) (hid := hid) (ts := []) hTC)
      have s23 : (((bs (atomOf h)).toList == [116]) = true) ∨ (((bs (atomOf h)).toList == [116]) = false ∧ ((bs (atomOf h)).toList == [99]) = true) := by
        rw [bs_toList]
        rcases hTC with e | e
        · left; rw [e]; rfl
        · right; rw [e]; exact ⟨rfl, rfl⟩
      have HCf : Hid (∀ W, Below w.heap.size w W → ∀ b1 b2, W.cell? ⟨b1, 0, none⟩ = some (.bool hid) → W.cell? ⟨b2, 0, none⟩ = some (.bool opn) → b1 < W.heap.size → b2 < W.heap.size → Calls Tryz.prog 205 #[.slice (some ⟨r, off, none⟩) 0 0, .func (.func 206) #[] #[.pointer (some ⟨b1, 0, none⟩), .pointer (some ⟨b2, 0, none⟩)]] W fun e w' => e = .returned (.bool (!(tgts u hid []))) ∧ Below W.heap.size W w') :=
        Lib.hid (fun W hW b1 b2 j1 j2 j3 j4 => itw_contains _ _ _ W (itw_index u opn n ih hid [] r off 0 [] (fun _ => False) W (by simp) trivial (by simp) (by simp) (Nat.lt_of_lt_of_le hrlt hW.size) (by simp) (by decide) (fun j v hj => by simp at hj) (by simp only [FVs]) (fun j hj => hj.elim) b1 b2 j1 j2 j3 j4))
      clear ih hTC hok
      generalize bs (atomOf h) = A at *
      generalize tgts u hid [] = R at *
      rcases s23 with s2 | ⟨s2, s3⟩
      all_goals
        go_enter Tryz.func192, Tryz.ntmps192
        go_wp2_with (first | (go_at_call 73; go_must (refine (isAtom_no _ _ _ _ (by simp) _ _ _ _).mono ?_; rintro e w1 ⟨rfl, hb1⟩; have c1 := below_blk hb1 (by simp; try omega) (three_blocks _ _ _ _).1; have c2 := below_blk hb1 (by simp; try omega) (three_blocks _ _ _ _).2.1; have c3 := below_blk hb1 (by simp; try omega) (three_blocks _ _ _ _).2.2; have d0 := cell_of (j := 0) c1; have d1 := cell_of (j := 1) c1; have d2 := cell_of (j := 0) c2; have d3 := cell_of (j := 0) c3; have hw1 := (below3 w _ _ _).trans (hb1.mono (by simp; try omega)); have hsz2 := hb1.size; have g0 := (hw1.cell (p := ⟨r, off, none⟩) hrlt).trans e0)) | (go_at_call 205; go_must (refine (HCf.out _ hw1 _ _ d2 d3 (by simp at hsz2; omega) (by simp at hsz2; omega)).mono ?_; rintro e w2 ⟨rfl, hb2⟩)))
        go_ret
        exact ⟨ret_bool (by first | (rw [HT.out]; done) | (rw [HT.out]; simp; done)), hw1.trans (hb2.mono hw1.size)⟩
    · have HT := Lib.hid (tgt_bad (u := u) (hid := hid) (ts := []) hE hTC)
      have s1 : ((bs (atomOf h)).toList == [101]) = false := by rw [bs_toList]; simpa using hE
      have s2 : ((bs (atomOf h)).toList == [116]) = false := by rw [bs_toList]; simpa using fun e => hTC (.inl e)
      have s3 : ((bs (atomOf h)).toList == [99]) = false := by rw [bs_toList]; simpa using fun e => hTC (.inr e)
      clear ih hE hok hTC
      generalize bs (atomOf h) = A at *
      go_enter Tryz.func192, Tryz.ntmps192
      go_wp2_with (go_at_call 73; go_must (refine (isAtom_no _ _ _ _ (by simp) _ _ _ _).mono ?_; rintro e w1 ⟨rfl, hb1⟩; have c1 := below_blk hb1 (by simp; try omega) (three_blocks _ _ _ _).1; have c2 := below_blk hb1 (by simp; try omega) (three_blocks _ _ _ _).2.1; have c3 := below_blk hb1 (by simp; try omega) (three_blocks _ _ _ _).2.2; have d0 := cell_of (j := 0) c1; have d1 := cell_of (j := 1) c1; have d2 := cell_of (j := 0) c2; have d3 := cell_of (j := 0) c3; have hw1 := (below3 w _ _ _).trans (hb1.mono (by simp; try omega)); have hsz2 := hb1.size; have g0 := (hw1.cell (p := ⟨r, off, none⟩) hrlt).trans e0))
      go_ret
      exact ⟨ret_bool HT.out.symm, hw1⟩
theorem itw_all (u : List UInt8 → Bool) (opn : Bool) (hU : UnkC 204 opn u) : ∀ n, ItwC u opn n
  | 0 => fun _ t _ _ _ _ _ h => by omega
  | n + 1 => fun hid t p m c ok w hd hwf hbt hv hok => by
    match t, hv with
    | .atom a, hv =>
      simp only [FV] at hv
      have hh := nI_inj _ _ _ hv
      simp only [Value.slice.injEq] at hh
      obtain ⟨rfl, rfl, rfl⟩ := hh
      exact itw_atom u hid opn hU a (by simpa only [Tr.bytes] using hbt) _ _ _ w
    | .list [], _ => exact absurd rfl hwf.1
    | .list (h :: ts), hv =>
      obtain ⟨r, off, cap, xs, hh, h2, h3, h4, h5, h6⟩ := hv.list_cells
      have hh := nI_inj _ _ _ hh
      simp only [Value.slice.injEq] at hh
      obtain ⟨rfl, rfl, rfl⟩ := hh
      by_cases hcap : c = 1
      · have ht : ts = [] := by
          cases ts with
          | nil => rfl
          | cons a l => simp at h3; omega
        subst ht
        subst hcap
        obtain ⟨ys, -, -, e0⟩ := row_restT h6 h5
        exact itw_one u opn n (itw_all u opn hU n) hid h r off ok _ _ _ w (hok r h2) e0 hok
      · exact itw_list u opn n (itw_all u opn hU n) hid h ts r off c xs ok _ _ _ w hd hwf.2 hbt (hok r h2) h3 h4 h5 h6 hok hcap
set_option maxHeartbeats 1000000 in
theorem isTarget_c (t : Tr) (p : Option Addr) (m c : Nat) (ok : Nat → Prop) (w : World) (hwf : t.wf) (hbt : t.bytes ≤ 12000) (hv : FV nI w ok t (nI t (.slice p m c))) (hok : ∀ k, ok k → k < w.heap.size) :
    Calls Tryz.prog 168 #[.agg #[.string (bs (atomOf t)), .slice p m c, .int .i64 t.bytes, .int .i64 t.size, .int .i64 t.depth]] w fun e w' => e = .returned (.bool (tgt noU false t)) ∧ Below w.heap.size w w' := by
  have C : Hid (∀ W, Below w.heap.size w W → Calls Tryz.prog 192 #[.agg #[.string (bs (atomOf t)), .slice p m c, .int .i64 t.bytes, .int .i64 t.size, .int .i64 t.depth], .bool false, .bool false] W fun e w' => e = .returned (.bool (tgt noU false t)) ∧ Below W.heap.size W w') :=
    Lib.hid (fun W hW => itw_all noU false (unkC_no _) (t.depth + 1) false t p m c ok W (by omega) hwf hbt (hv.below hW hok) (fun j hj => Nat.lt_of_lt_of_le (hok j hj) hW.size))
  clear hv hok hwf hbt
  generalize bs (atomOf t) = A at *
  generalize tgt noU false t = R at *
  obtain ⟨n1, hn1⟩ : ∃ y : Int, y = t.bytes := ⟨_, rfl⟩
  obtain ⟨n2, hn2⟩ : ∃ y : Int, y = t.size := ⟨_, rfl⟩
  obtain ⟨n3, hn3⟩ : ∃ y : Int, y = t.depth := ⟨_, rfl⟩
  rw [← hn1, ← hn2, ← hn3] at C ⊢
  clear hn1 hn2 hn3
  go_enter Tryz.func168, Tryz.ntmps168
  go_wp2_with (go_at_call 192; go_must (refine (C.out _ (below1 _ _)).mono ?_; rintro e w1 ⟨rfl, hb1⟩))
  go_ret
  exact ⟨rfl, (below1 w _).trans (hb1.mono (by simp))⟩
end Go.Proofs.YtfknoigbkleanaaGreatDoor
