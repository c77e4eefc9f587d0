/- The reference model reads whole texts as expressions. -/
import Derived.Test.YtfknoigbkleanaaGreatDoorSpec2b
import Derived.Deep.RegionWith
namespace Go.Proofs.YtfknoigbkleanaaGreatDoor
open Go.RowKit
set_option maxRecDepth 8000
set_option linter.unusedSimpArgs false
set_option linter.unusedVariables false
/-- The tree of an expression within the limits. -/
def parseE (l : List UInt8) : Option Tr :=
  match parse l with
  | none => none
  | some t => if isEx t = true ∧ t.size ≤ 120 then some t else none
theorem parseE_none {l : List UInt8} (h : parse l = none) : parseE l = none := by simp [parseE, h]
theorem parseE_bad {l : List UInt8} {t : Tr} (h : parse l = some t) (hb : isEx t = false) : parseE l = none := by simp [parseE, h, hb]
theorem parseE_long {l : List UInt8} {t : Tr} (h : parse l = some t) (hb : ¬ t.size ≤ 120) : parseE l = none := by simp [parseE, h, hb]
theorem parseE_some {l : List UInt8} {t : Tr} (h : parse l = some t) (hb : isEx t = true) (hs : t.size ≤ 120) : parseE l = some t := by simp [parseE, h, hb, hs]
theorem parseE_got {l : List UInt8} {t : Tr} (h : parseE l = some t) : parse l = some t ∧ isEx t = true ∧ t.size ≤ 120 := by
  unfold parseE at h
  cases hp : parse l with
  | none => simp [hp] at h
  | some t2 =>
    simp only [hp] at h
    split at h
    · rename_i hq
      simp only [Option.some.injEq] at h
      subst h
      exact ⟨rfl, hq⟩
    · simp at h
theorem readEx_parseE (l : List UInt8) : (readEx l).isSome = (parseE l).isSome := by
  cases hp : parse l with
  | none => rw [readEx_none hp, parseE_none hp]; rfl
  | some t =>
    rw [readEx_some hp]
    by_cases hs : t.size ≤ 120
    · rw [if_pos hs]
      cases hv : isEx t with
      | true => rw [parseE_some hp hv hs]; exact hv
      | false => rw [parseE_bad hp hv]; exact hv
    · rw [if_neg hs, parseE_long hp hs]; rfl
theorem set2 {w W : World} (h : Below w.heap.size w W) (v u : Value) : Below w.heap.size w ((W.setCell ⟨w.heap.size, 0, none⟩ v).setCell ⟨w.heap.size, 1, none⟩ u) := (h.setCell (Nat.le_refl _) v).setCell (Nat.le_refl _) u
theorem fv_lenS {w : World} {ok : Nat → Prop} : ∀ {t : Tr} {p : Option Addr} {n c : Nat}, FV nS w ok t (nS t (.slice p n c)) → n ≤ maxLen
  | .atom a, p, n, c, h => by
    simp only [FV, nS] at h
    simp at h
    omega
  | .list ts, p, n, c, h => by
    simp only [FV] at h
    obtain ⟨r, off, cap, xs, hh, _, h3, h4, _⟩ := h
    simp [nS] at hh
    omega
set_option maxHeartbeats 2000000 in
theorem l2Parse_c (s : ByteArray) (hs : s.size ≤ 1048576) (w : World) :
    Calls Tryz.prog 49 #[.string s] w fun e w' => ParsePost w.heap.size (parseE s.data.toList) e w' ∧ Below w.heap.size w w' := by
  cases hp : parse s.data.toList with
  | none =>
    have HD := Lib.hid (parseE_none hp)
    have C : Hid (∀ W, Calls Tryz.prog 65 #[.string s] W fun e w' => (∃ a p n c, e = .returned (.tuple #[.agg #[.string a, .slice p n c], .bool false]) ∧ n ≤ maxLen) ∧ Below W.heap.size W w') := Lib.hid (fun W => (l1Parse_c s hs W).mono fun e w' ⟨h1, h2⟩ => ⟨by rw [hp] at h1; exact h1, h2⟩)
    clear hp
    go_enter Tryz.func49, Tryz.ntmps49
    go_wp2_with (go_at_call 65; go_must (refine (C.out _).mono ?_; rintro e w1 ⟨⟨a, p, n, c, rfl, hn⟩, hb1⟩; have y0 := below_blk hb1 (by simp) (heap_alloc_new _ _); have z0 := cell_of (j := 0) y0; have z1 := cell_of (j := 1) y0; have f0 := free_of (j := 0) y0; have f1 := free_of (j := 1) y0; have hs1 := hb1.size; have hs4 : w.heap.size < w1.heap.size := (by simp at hs1; omega)))
    go_region_with (fail)
    all_goals
      go_wp2_with fail
      refine bodyPost_ret (v := .tuple #[.agg #[.string a, .slice p n c], .bool false]) (by simp [results, Tryz.results49, go_sem, z0, z1, hs4]) rfl ⟨by rw [HD.out]; exact ⟨_, _, _, _, rfl, hn⟩, ?_⟩
      have hw1 : Below w.heap.size w w1 := (below1 w _).trans (hb1.mono (by simp))
      have h2 := set2 hw1 (.string a) (.slice p n c)
      exact (h2.alloc h2.size _).drew
  | some t =>
    have hg := parse_got hp
    have hwf := hg.1
    have hbt : t.bytes ≤ 12000 := by have := hg.2; omega
    have C : Hid (∀ W, Calls Tryz.prog 65 #[.string s] W fun e w' => (∃ p n c, e = .returned (.tuple #[.agg #[.string (bs (atomOf t)), .slice p n c], .bool true]) ∧ FV nS w' (fun k => W.heap.size ≤ k ∧ k < w'.heap.size) t (nS t (.slice p n c))) ∧ Below W.heap.size W w') := Lib.hid (fun W => (l1Parse_c s hs W).mono fun e w' ⟨h1, h2⟩ => ⟨by rw [hp] at h1; exact h1, h2⟩)
    have CV : Hid (∀ (w1 W : World) (B : Nat) p n c, FV nS w1 (fun k => B ≤ k ∧ k < w1.heap.size) t (nS t (.slice p n c)) → Below w1.heap.size w1 W → Calls Tryz.prog 96 #[.agg #[.string (bs (atomOf t)), .slice p n c]] W fun e w' => e = .returned (.bool (isEx t)) ∧ Below W.heap.size W w') :=
      Lib.hid (fun w1 W B p n c hv hW => l2Valid_c (t.depth + 1) t (nS t (.slice p n c)) _ W (by omega) hwf hbt (hv.below hW (fun k hk => hk.2)) (fun k hk => Nat.lt_of_lt_of_le hk.2 hW.size))
    have CS : Hid (∀ (w1 W : World) (B : Nat) p n c, FV nS w1 (fun k => B ≤ k ∧ k < w1.heap.size) t (nS t (.slice p n c)) → Below w1.heap.size w1 W → Calls Tryz.prog 97 #[.agg #[.string (bs (atomOf t)), .slice p n c]] W fun e w' => e = .returned (.int .i64 t.size) ∧ Below W.heap.size W w') :=
      Lib.hid (fun w1 W B p n c hv hW => l1Size_c (t.depth + 1) t (nS t (.slice p n c)) _ W (by omega) hwf (by omega) (hv.below hW (fun k hk => hk.2)) (fun k hk => Nat.lt_of_lt_of_le hk.2 hW.size))
    have hst : t.size ≤ 12000 := by have := (size_le t hwf).1; omega
    clear hg hbt
    cases hx : isEx t with
    | false =>
      have HD := Lib.hid (parseE_bad hp hx)
      rw [hx] at CV
      clear hp hx hwf hst
      go_enter Tryz.func49, Tryz.ntmps49
      go_wp2_with (go_at_call 65; go_must (refine (C.out _).mono ?_; rintro e w1 ⟨⟨p, n, c, rfl, hv⟩, hb1⟩; have y0 := below_blk hb1 (by simp) (heap_alloc_new _ _); have z0 := cell_of (j := 0) y0; have z1 := cell_of (j := 1) y0; have f0 := free_of (j := 0) y0; have f1 := free_of (j := 1) y0; have hs1 := hb1.size; have hs4 : w.heap.size < w1.heap.size := (by simp at hs1; omega)))
      go_region_with (first | (go_at_call 96; refine (CV.out _ _ _ _ _ _ hv (((Below.refl _ _).alloc (Nat.le_refl _) _).drew)).mono ?_; rintro e w2 ⟨rfl, hb2⟩; have hk2 := (((Below.refl w1.heap.size w1).alloc (Nat.le_refl _) _).drew).trans (hb2.mono (by simp)); have y2 := below_blk hk2 hs4 y0; have x2 := below_blk hb2 (by simp) (heap_alloc_new _ _); have p0 := cell_of (j := 0) y2; have p1 := cell_of (j := 1) y2; have q0 := free_of (j := 0) y2; have q1 := free_of (j := 1) y2; have u0 := cell_of (j := 0) x2; have u1 := cell_of (j := 1) x2; have hs5 : w.heap.size < w2.heap.size := (by have := hk2.size; omega)) | (go_at_call 97; refine (CS.out _ _ _ _ _ _ hv hk2).mono ?_; rintro e w3 ⟨rfl, hb3⟩; have hk3 := hk2.trans (hb3.mono hk2.size); have y3 := below_blk hk3 hs4 y0; have x3 := below_blk hb3 (lt_of_block x2) x2; have p0 := cell_of (j := 0) y3; have p1 := cell_of (j := 1) y3; have q0 := free_of (j := 0) y3; have q1 := free_of (j := 1) y3; have u0 := cell_of (j := 0) x3; have u1 := cell_of (j := 1) x3; have hs6 : w.heap.size < w3.heap.size := (by have := hk3.size; omega)))
      all_goals
        go_wp2_with fail
        refine bodyPost_ret (v := .tuple #[.agg #[.string (bs (atomOf t)), .slice p n c], .bool false]) (by simp [results, Tryz.results49, go_sem, p0, p1, hs4, hs5]) rfl ⟨?_, ?_⟩
        · rw [HD.out]; exact ⟨_, _, _, _, rfl, fv_lenS hv⟩
        · have hw1 : Below w.heap.size w w1 := (below1 w _).trans (hb1.mono (by simp))
          exact set2 (hw1.trans (hk2.mono hw1.size)) _ _
    | true =>
      rw [hx] at CV
      by_cases hz : t.size ≤ 120
      · have HD := Lib.hid (parseE_some hp hx hz)
        have hz2 : (t.size : Int) ≤ 120 := by omega
        clear hp hx hwf
        go_enter Tryz.func49, Tryz.ntmps49
        go_wp2_with (go_at_call 65; go_must (refine (C.out _).mono ?_; rintro e w1 ⟨⟨p, n, c, rfl, hv⟩, hb1⟩; have y0 := below_blk hb1 (by simp) (heap_alloc_new _ _); have z0 := cell_of (j := 0) y0; have z1 := cell_of (j := 1) y0; have f0 := free_of (j := 0) y0; have f1 := free_of (j := 1) y0; have hs1 := hb1.size; have hs4 : w.heap.size < w1.heap.size := (by simp at hs1; omega)))
        go_region_with (first | (go_at_call 96; refine (CV.out _ _ _ _ _ _ hv (((Below.refl _ _).alloc (Nat.le_refl _) _).drew)).mono ?_; rintro e w2 ⟨rfl, hb2⟩; have hk2 := (((Below.refl w1.heap.size w1).alloc (Nat.le_refl _) _).drew).trans (hb2.mono (by simp)); have y2 := below_blk hk2 hs4 y0; have x2 := below_blk hb2 (by simp) (heap_alloc_new _ _); have p0 := cell_of (j := 0) y2; have p1 := cell_of (j := 1) y2; have q0 := free_of (j := 0) y2; have q1 := free_of (j := 1) y2; have u0 := cell_of (j := 0) x2; have u1 := cell_of (j := 1) x2; have hs5 : w.heap.size < w2.heap.size := (by have := hk2.size; omega)) | (go_at_call 97; refine (CS.out _ _ _ _ _ _ hv hk2).mono ?_; rintro e w3 ⟨rfl, hb3⟩; have hk3 := hk2.trans (hb3.mono hk2.size); have y3 := below_blk hk3 hs4 y0; have x3 := below_blk hb3 (lt_of_block x2) x2; have p0 := cell_of (j := 0) y3; have p1 := cell_of (j := 1) y3; have q0 := free_of (j := 0) y3; have q1 := free_of (j := 1) y3; have u0 := cell_of (j := 0) x3; have u1 := cell_of (j := 1) x3; have hs6 : w.heap.size < w3.heap.size := (by have := hk3.size; omega)))
        all_goals
          go_wp2_with fail
          refine bodyPost_ret (v := .tuple #[.agg #[.string (bs (atomOf t)), .slice p n c], .bool true]) (by simp [results, Tryz.results49, go_sem, p0, p1, hs4, hs5, hs6]) rfl ⟨?_, ?_⟩
          · rw [HD.out]
            refine ⟨p, n, c, rfl, FV.move (fun k hk => ?_) (fun k hk => ?_) _ _ hv⟩
            · have := hk3.size; simp at hk ⊢; omega
            · rw [blk_set_other _ (by simp at hk ⊢; omega), blk_set_other _ (by simp at hk ⊢; omega)]; exact hk3.block k hk.2
          · have hw1 : Below w.heap.size w w1 := (below1 w _).trans (hb1.mono (by simp))
            exact set2 (hw1.trans (hk3.mono hw1.size)) _ _
      · have HD := Lib.hid (parseE_long hp hz)
        have hz2 : ¬ (t.size : Int) ≤ 120 := by omega
        clear hp hx hwf
        go_enter Tryz.func49, Tryz.ntmps49
        go_wp2_with (go_at_call 65; go_must (refine (C.out _).mono ?_; rintro e w1 ⟨⟨p, n, c, rfl, hv⟩, hb1⟩; have y0 := below_blk hb1 (by simp) (heap_alloc_new _ _); have z0 := cell_of (j := 0) y0; have z1 := cell_of (j := 1) y0; have f0 := free_of (j := 0) y0; have f1 := free_of (j := 1) y0; have hs1 := hb1.size; have hs4 : w.heap.size < w1.heap.size := (by simp at hs1; omega)))
        go_region_with (first | (go_at_call 96; refine (CV.out _ _ _ _ _ _ hv (((Below.refl _ _).alloc (Nat.le_refl _) _).drew)).mono ?_; rintro e w2 ⟨rfl, hb2⟩; have hk2 := (((Below.refl w1.heap.size w1).alloc (Nat.le_refl _) _).drew).trans (hb2.mono (by simp)); have y2 := below_blk hk2 hs4 y0; have x2 := below_blk hb2 (by simp) (heap_alloc_new _ _); have p0 := cell_of (j := 0) y2; have p1 := cell_of (j := 1) y2; have q0 := free_of (j := 0) y2; have q1 := free_of (j := 1) y2; have u0 := cell_of (j := 0) x2; have u1 := cell_of (j := 1) x2; have hs5 : w.heap.size < w2.heap.size := (by have := hk2.size; omega)) | (go_at_call 97; refine (CS.out _ _ _ _ _ _ hv hk2).mono ?_; rintro e w3 ⟨rfl, hb3⟩; have hk3 := hk2.trans (hb3.mono hk2.size); have y3 := below_blk hk3 hs4 y0; have x3 := below_blk hb3 (lt_of_block x2) x2; have p0 := cell_of (j := 0) y3; have p1 := cell_of (j := 1) y3; have q0 := free_of (j := 0) y3; have q1 := free_of (j := 1) y3; have u0 := cell_of (j := 0) x3; have u1 := cell_of (j := 1) x3; have hs6 : w.heap.size < w3.heap.size := (by have := hk3.size; omega)))
        all_goals
          go_wp2_with fail
          refine bodyPost_ret (v := .tuple #[.agg #[.string (bs (atomOf t)), .slice p n c], .bool false]) (by simp [results, Tryz.results49, go_sem, p0, p1, hs4, hs5, hs6]; omega) rfl ⟨?_, ?_⟩
          · rw [HD.out]; exact ⟨_, _, _, _, rfl, fv_lenS hv⟩
          · have hw1 : Below w.heap.size w w1 := (below1 w _).trans (hb1.mono (by simp))
            exact set2 (hw1.trans (hk3.mono hw1.size)) _ _
theorem parsePostE_shape {B : Nat} {res : Option Tr} {e : Ending} {w' : World} (h : ParsePost B res e w') : ∃ a p n c, e = .returned (.tuple #[.agg #[.string a, .slice p n c], .bool res.isSome]) := parsePost_shape h
set_option maxHeartbeats 400000 in
theorem specExprValid_c (s : ByteArray) (hs : s.size ≤ 1048576) (w : World) :
    Calls Tryz.prog 67 #[.string s] w fun e w' => e = .returned (.bool (parseE s.data.toList).isSome) ∧ Below w.heap.size w w' := by
  go_enter Tryz.func67, Tryz.ntmps67
  go_wp2_with (go_at_call 49; go_must (refine (l2Parse_c s hs _).mono ?_; rintro e w1 ⟨hp, hb1⟩; obtain ⟨a, p, n, c, rfl⟩ := parsePost_shape hp; clear hp))
  go_ret
  exact ⟨rfl, hb1.alloc hb1.size _⟩
end Go.Proofs.YtfknoigbkleanaaGreatDoor
