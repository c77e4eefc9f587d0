/- The reference model reads whole texts as expressions. -/
import Derived.Test.YtjaaalojcdbcpaaGreatDoorpSpec2b
import Derived.Deep.RegionWith
set_option maxHeartbeats 20000000
set_option linter.unusedVariables false
set_option linter.unusedSimpArgs false
namespace Go.Proofs.YtjaaalojcdbcpaaGreatDoor
open Go.RowKit Go.Proofs.Tryz
set_option maxRecDepth 8000
def Qe (l : List UInt8) : Option Tr :=
 match Yt l with
 | none => none
 | some t => if Qt t = true ∧ t.size ≤ 120 then some t else none
theorem Z1r {l : List UInt8} (h : Yt l = none) : Qe l = none := by simp [Qe, h]
theorem Z2i {l : List UInt8} {t : Tr} (h : Yt l = some t) (hb : Qt t = false) : Qe l = none := by simp [Qe, h, hb]
theorem Z1s {l : List UInt8} {t : Tr} (h : Yt l = some t) (hb : ¬ t.size ≤ 120) : Qe l = none := by simp [Qe, h, hb]
theorem Z1q {l : List UInt8} {t : Tr} (h : Yt l = some t) (hb : Qt t = true) (hs : t.size ≤ 120) : Qe l = some t := by simp [Qe, h, hb, hs]
theorem Z0d {l : List UInt8} {t : Tr} (h : Qe l = some t) : Yt l = some t ∧ Qt t = true ∧ t.size ≤ 120 := by
 unfold Qe at h
 cases hp : Yt l with
 | none => simp [hp] at h
 | some t2 =>
   simp only [hp] at h
   split at h
   · rename_i hq
     simp only [Option.some.injEq] at h
     subst h
     exact ⟨rfl, hq⟩
   · simp at h
theorem readEx_parseE (l : List UInt8) : (Zy l).isSome = (Qe l).isSome := by
 cases hp : Yt l with
 | none => rw [K4 hp, Z1r hp]; rfl
 | some t =>
   rw [Qx hp]
   by_cases hs : t.size ≤ 120
   · rw [if_pos hs]
     cases hv : Qt t with
     | true => rw [Z1q hp hv hs]; exact hv
     | false => rw [Z2i hp hv]; exact hv
   · rw [if_neg hs, Z1s hp hs]; rfl
theorem set2 {w W : World} (h : Below w.heap.size w W) (v u : Value) : Below w.heap.size w ((W.setCell ⟨w.heap.size, 0, none⟩ v).setCell ⟨w.heap.size, 1, none⟩ u) := (h.setCell (Nat.le_refl _) v).setCell (Nat.le_refl _) u
theorem fv_lenS {w : World} {ok : Nat → Prop} : ∀ {t : Tr} {p : Option Addr} {n c : Nat}, FV nS w ok t (nS t (.slice p n c)) → n ≤ maxLen
 | .atom a, p, n, c, h => by
   simp only [FV, nS] at h
   simp at h
   omega
 | .list ts, p, n, c, h => by
   simp only [FV] at h
   obtain ⟨r, off, cap, xs, hh, _, h3, h4, _⟩ := h
   simp [nS] at hh
   omega
theorem l2Parse_c (s : ByteArray) (hs : s.size ≤ 1048576) (w : World) :
 Calls prog 29 #[.string s] w fun e w' => ParsePost w.heap.size (Qe s.data.toList) e w' ∧ Below w.heap.size w w' := by
 cases hp : Yt s.data.toList with
 | none =>
   have HD := H_ (Z1r hp)
   have C : Hid (∀ W, Calls prog 64 #[.string s] W fun e w' => (∃ a p n c, e = .returned (.tuple #[.agg #[.string a, .slice p n c], .bool false]) ∧ n ≤ maxLen) ∧ Below W.heap.size W w') := H_ (fun W => (l1Parse_c s hs W).mono fun e w' ⟨h1, h2⟩ => ⟨by rw [hp] at h1; exact h1, h2⟩)
   clear hp
   go_enter func29, ntmps29
   go_wp2_with (go_at_call 64; go_must (refine (C.out _).mono ?_; rintro e w1 ⟨⟨a, p, n, c, rfl, hn⟩, hb1⟩; have y0 := Z3 hb1 (by simp) (heap_alloc_new _ _); obtain ⟨z0, z1⟩ := Zm y0; obtain ⟨f0, f1⟩ := X3 y0; have hs1 := hb1.size; have hs4 : w.heap.size < w1.heap.size := (by simp at hs1; omega)))
   go_region_with (fail)
   all_goals
    go_wp2_with fail
    refine bodyPost_ret (v := .tuple #[.agg #[.string a, .slice p n c], .bool false]) (by simp [results, results29, go_sem, z0, z1, hs4]) rfl ⟨by rw [HD.out]; exact ⟨_, _, _, _, rfl, hn⟩, ?_⟩
    have hw1 : Below w.heap.size w w1 := (Z5 w _).trans (hb1.mono (by simp))
    have h2 := set2 hw1 (.string a) (.slice p n c)
    exact (h2.alloc h2.size _).drew
 | some t =>
   have hg := Jt hp
   have hwf := hg.1
   have hbt : t.bytes ≤ 12000 := by have := hg.2; omega
   have C : Hid (∀ W, Calls prog 64 #[.string s] W fun e w' => (∃ p n c, e = .returned (.tuple #[.agg #[.string (bs (Z1 t)), .slice p n c], .bool true]) ∧ FV nS w' (fun k => W.heap.size ≤ k ∧ k < w'.heap.size) t (nS t (.slice p n c))) ∧ Below W.heap.size W w') := H_ (fun W => (l1Parse_c s hs W).mono fun e w' ⟨h1, h2⟩ => ⟨by rw [hp] at h1; exact h1, h2⟩)
   have CV : Hid (∀ (w1 W : World) (B : Nat) p n c, FV nS w1 (fun k => B ≤ k ∧ k < w1.heap.size) t (nS t (.slice p n c)) → Below w1.heap.size w1 W → Calls prog 65 #[.agg #[.string (bs (Z1 t)), .slice p n c]] W fun e w' => e = .returned (.bool (Qt t)) ∧ Below W.heap.size W w') :=
    H_ (fun w1 W B p n c hv hW => l2Valid_c (t.depth + 1) t (nS t (.slice p n c)) _ W (by omega) hwf hbt (hv.below hW (fun k hk => hk.2)) (fun k hk => Nat.lt_of_lt_of_le hk.2 hW.size))
   have CS : Hid (∀ (w1 W : World) (B : Nat) p n c, FV nS w1 (fun k => B ≤ k ∧ k < w1.heap.size) t (nS t (.slice p n c)) → Below w1.heap.size w1 W → Calls prog 66 #[.agg #[.string (bs (Z1 t)), .slice p n c]] W fun e w' => e = .returned (.int .i64 t.size) ∧ Below W.heap.size W w') :=
    H_ (fun w1 W B p n c hv hW => l1Size_c (t.depth + 1) t (nS t (.slice p n c)) _ W (by omega) hwf (by omega) (hv.below hW (fun k hk => hk.2)) (fun k hk => Nat.lt_of_lt_of_le hk.2 hW.size))
   have hst : t.size ≤ 12000 := by have := (Xx t hwf).1; omega
   clear hg hbt
   cases hx : Qt t with
   | false =>
     have HD := H_ (Z2i hp hx)
     rw [hx] at CV
     clear hp hx hwf hst
     go_enter func29, ntmps29
     go_wp2_with (go_at_call 64; go_must (refine (C.out _).mono ?_; rintro e w1 ⟨⟨p, n, c, rfl, hv⟩, hb1⟩; have y0 := Z3 hb1 (by simp) (heap_alloc_new _ _); obtain ⟨z0, z1⟩ := Zm y0; obtain ⟨f0, f1⟩ := X3 y0; have hs1 := hb1.size; have hs4 : w.heap.size < w1.heap.size := (by simp at hs1; omega)))
     go_region_with (first | (go_at_call 65; refine (CV.out _ _ _ _ _ _ hv (((Below.refl _ _).alloc (Nat.le_refl _) _).drew)).mono ?_; rintro e w2 ⟨rfl, hb2⟩; have hk2 := (((Below.refl w1.heap.size w1).alloc (Nat.le_refl _) _).drew).trans (hb2.mono (by simp)); have y2 := Z3 hk2 hs4 y0; have x2 := Z3 hb2 (by simp) (heap_alloc_new _ _); obtain ⟨p0, p1⟩ := Zm y2; obtain ⟨q0, q1⟩ := X3 y2; obtain ⟨u0, u1⟩ := Zm x2; have hs5 : w.heap.size < w2.heap.size := (by have := hk2.size; omega)) | (go_at_call 66; refine (CS.out _ _ _ _ _ _ hv hk2).mono ?_; rintro e w3 ⟨rfl, hb3⟩; have hk3 := hk2.trans (hb3.mono hk2.size); have y3 := Z3 hk3 hs4 y0; have x3 := Z3 hb3 (lt_of_block x2) x2; obtain ⟨p0, p1⟩ := Zm y3; obtain ⟨q0, q1⟩ := X3 y3; obtain ⟨u0, u1⟩ := Zm x3; have hs6 : w.heap.size < w3.heap.size := (by have := hk3.size; omega)))
     all_goals
      go_wp2_with fail
      refine bodyPost_ret (v := .tuple #[.agg #[.string (bs (Z1 t)), .slice p n c], .bool false]) (by simp [results, results29, go_sem, p0, p1, hs4, hs5]) rfl ⟨?_, ?_⟩
      · rw [HD.out]; exact ⟨_, _, _, _, rfl, fv_lenS hv⟩
      · have hw1 : Below w.heap.size w w1 := (Z5 w _).trans (hb1.mono (by simp))
        exact set2 (hw1.trans (hk2.mono hw1.size)) _ _
   | true =>
     rw [hx] at CV
     by_cases hz : t.size ≤ 120
     · have HD := H_ (Z1q hp hx hz)
       have hz2 : (t.size : Int) ≤ 120 := by omega
       clear hp hx hwf
       go_enter func29, ntmps29
       go_wp2_with (go_at_call 64; go_must (refine (C.out _).mono ?_; rintro e w1 ⟨⟨p, n, c, rfl, hv⟩, hb1⟩; have y0 := Z3 hb1 (by simp) (heap_alloc_new _ _); obtain ⟨z0, z1⟩ := Zm y0; obtain ⟨f0, f1⟩ := X3 y0; have hs1 := hb1.size; have hs4 : w.heap.size < w1.heap.size := (by simp at hs1; omega)))
       go_region_with (first | (go_at_call 65; refine (CV.out _ _ _ _ _ _ hv (((Below.refl _ _).alloc (Nat.le_refl _) _).drew)).mono ?_; rintro e w2 ⟨rfl, hb2⟩; have hk2 := (((Below.refl w1.heap.size w1).alloc (Nat.le_refl _) _).drew).trans (hb2.mono (by simp)); have y2 := Z3 hk2 hs4 y0; have x2 := Z3 hb2 (by simp) (heap_alloc_new _ _); obtain ⟨p0, p1⟩ := Zm y2; obtain ⟨q0, q1⟩ := X3 y2; obtain ⟨u0, u1⟩ := Zm x2; have hs5 : w.heap.size < w2.heap.size := (by have := hk2.size; omega)) | (go_at_call 66; refine (CS.out _ _ _ _ _ _ hv hk2).mono ?_; rintro e w3 ⟨rfl, hb3⟩; have hk3 := hk2.trans (hb3.mono hk2.size); have y3 := Z3 hk3 hs4 y0; have x3 := Z3 hb3 (lt_of_block x2) x2; obtain ⟨p0, p1⟩ := Zm y3; obtain ⟨q0, q1⟩ := X3 y3; obtain ⟨u0, u1⟩ := Zm x3; have hs6 : w.heap.size < w3.heap.size := (by have := hk3.size; omega)))
       all_goals
        go_wp2_with fail
        refine bodyPost_ret (v := .tuple #[.agg #[.string (bs (Z1 t)), .slice p n c], .bool true]) (by simp [results, results29, go_sem, p0, p1, hs4, hs5, hs6]) rfl ⟨?_, ?_⟩
        · rw [HD.out]
          refine ⟨p, n, c, rfl, FV.move (fun k hk => ?_) (fun k hk => ?_) _ _ hv⟩
          · have := hk3.size; simp at hk ⊢; omega
          · rw [Z2 _ (by simp at hk ⊢; omega), Z2 _ (by simp at hk ⊢; omega)]; exact hk3.block k hk.2
        · have hw1 : Below w.heap.size w w1 := (Z5 w _).trans (hb1.mono (by simp))
          exact set2 (hw1.trans (hk3.mono hw1.size)) _ _
     · have HD := H_ (Z1s hp hz)
       have hz2 : ¬ (t.size : Int) ≤ 120 := by omega
       clear hp hx hwf
       go_enter func29, ntmps29
       go_wp2_with (go_at_call 64; go_must (refine (C.out _).mono ?_; rintro e w1 ⟨⟨p, n, c, rfl, hv⟩, hb1⟩; have y0 := Z3 hb1 (by simp) (heap_alloc_new _ _); obtain ⟨z0, z1⟩ := Zm y0; obtain ⟨f0, f1⟩ := X3 y0; have hs1 := hb1.size; have hs4 : w.heap.size < w1.heap.size := (by simp at hs1; omega)))
       go_region_with (first | (go_at_call 65; refine (CV.out _ _ _ _ _ _ hv (((Below.refl _ _).alloc (Nat.le_refl _) _).drew)).mono ?_; rintro e w2 ⟨rfl, hb2⟩; have hk2 := (((Below.refl w1.heap.size w1).alloc (Nat.le_refl _) _).drew).trans (hb2.mono (by simp)); have y2 := Z3 hk2 hs4 y0; have x2 := Z3 hb2 (by simp) (heap_alloc_new _ _); obtain ⟨p0, p1⟩ := Zm y2; obtain ⟨q0, q1⟩ := X3 y2; obtain ⟨u0, u1⟩ := Zm x2; have hs5 : w.heap.size < w2.heap.size := (by have := hk2.size; omega)) | (go_at_call 66; refine (CS.out _ _ _ _ _ _ hv hk2).mono ?_; rintro e w3 ⟨rfl, hb3⟩; have hk3 := hk2.trans (hb3.mono hk2.size); have y3 := Z3 hk3 hs4 y0; have x3 := Z3 hb3 (lt_of_block x2) x2; obtain ⟨p0, p1⟩ := Zm y3; obtain ⟨q0, q1⟩ := X3 y3; obtain ⟨u0, u1⟩ := Zm x3; have hs6 : w.heap.size < w3.heap.size := (by have := hk3.size; omega)))
       all_goals
        go_wp2_with fail
        refine bodyPost_ret (v := .tuple #[.agg #[.string (bs (Z1 t)), .slice p n c], .bool false]) (by simp [results, results29, go_sem, p0, p1, hs4, hs5, hs6]; omega) rfl ⟨?_, ?_⟩
        · rw [HD.out]; exact ⟨_, _, _, _, rfl, fv_lenS hv⟩
        · have hw1 : Below w.heap.size w w1 := (Z5 w _).trans (hb1.mono (by simp))
          exact set2 (hw1.trans (hk3.mono hw1.size)) _ _
end Go.Proofs.YtjaaalojcdbcpaaGreatDoor
