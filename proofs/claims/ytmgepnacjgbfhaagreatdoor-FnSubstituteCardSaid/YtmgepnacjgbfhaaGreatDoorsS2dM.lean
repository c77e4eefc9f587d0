/- The program's expressions: heads and kids by the methods of their types. The reference model reads whole texts as expressions. The reference model: the head of an expression; l2Parse by cases. The reference model: the names bound in a part; counting. -/
import Derived.Test.YtmgepnacjgbfhaaGreatDoorsI2e
import Derived.Test.YtmgepnacjgbfhaaGreatDoorsB3
import Derived.Handy
import Derived.Test.YtmgepnacjgbfhaaGreatDoorsSpec2b
import Derived.Deep.RegionWith
import Derived.Test.YtmgepnacjgbfhaaGreatDoorsS1z
namespace Go.Proofs.YtmgepnacjgbfhaaGreatDoor
open Go.RowKit Go.Proofs.Tryz
set_option maxRecDepth 8000
set_option maxHeartbeats 20000000
set_option linter.unusedVariables false
set_option linter.unusedSimpArgs false
theorem head_name_c (vs : Array Value) (w : World) : Calls prog 171 #[.agg vs] w fun e w' => e = .returned (.string (bs [110, 97, 109, 101])) ∧ Below w.heap.size w w' := by
 rw [show bs [110, 97, 109, 101] = ⟨#[110, 97, 109, 101]⟩ from rfl]
 go_enter func171, ntmps171
 go_wp2_with fail
 go_ret
 exact ⟨rfl, Z4 _ _⟩
theorem head_number_c (vs : Array Value) (w : World) : Calls prog 179 #[.agg vs] w fun e w' => e = .returned (.string (bs [110, 117, 109, 98, 101, 114])) ∧ Below w.heap.size w w' := by
 rw [show bs [110, 117, 109, 98, 101, 114] = ⟨#[110, 117, 109, 98, 101, 114]⟩ from rfl]
 go_enter func179, ntmps179
 go_wp2_with fail
 go_ret
 exact ⟨rfl, Z4 _ _⟩
theorem head_add_c (vs : Array Value) (w : World) : Calls prog 182 #[.agg vs] w fun e w' => e = .returned (.string (bs [43])) ∧ Below w.heap.size w w' := by
 rw [show bs [43] = ⟨#[43]⟩ from rfl]
 go_enter func182, ntmps182
 go_wp2_with fail
 go_ret
 exact ⟨rfl, Z4 _ _⟩
theorem head_sub_c (vs : Array Value) (w : World) : Calls prog 184 #[.agg vs] w fun e w' => e = .returned (.string (bs [45])) ∧ Below w.heap.size w w' := by
 rw [show bs [45] = ⟨#[45]⟩ from rfl]
 go_enter func184, ntmps184
 go_wp2_with fail
 go_ret
 exact ⟨rfl, Z4 _ _⟩
theorem head_mul_c (vs : Array Value) (w : World) : Calls prog 186 #[.agg vs] w fun e w' => e = .returned (.string (bs [42])) ∧ Below w.heap.size w w' := by
 rw [show bs [42] = ⟨#[42]⟩ from rfl]
 go_enter func186, ntmps186
 go_wp2_with fail
 go_ret
 exact ⟨rfl, Z4 _ _⟩
theorem head_if_c (vs : Array Value) (w : World) : Calls prog 188 #[.agg vs] w fun e w' => e = .returned (.string (bs [105, 102])) ∧ Below w.heap.size w w' := by
 rw [show bs [105, 102] = ⟨#[105, 102]⟩ from rfl]
 go_enter func188, ntmps188
 go_wp2_with fail
 go_ret
 exact ⟨rfl, Z4 _ _⟩
theorem head_let_c (vs : Array Value) (w : World) : Calls prog 165 #[.agg vs] w fun e w' => e = .returned (.string (bs [108, 101, 116])) ∧ Below w.heap.size w w' := by
 rw [show bs [108, 101, 116] = ⟨#[108, 101, 116]⟩ from rfl]
 go_enter func165, ntmps165
 go_wp2_with fail
 go_ret
 exact ⟨rfl, Z4 _ _⟩
theorem head_fun_c (vs : Array Value) (w : World) : Calls prog 168 #[.agg vs] w fun e w' => e = .returned (.string (bs [102, 117, 110])) ∧ Below w.heap.size w w' := by
 rw [show bs [102, 117, 110] = ⟨#[102, 117, 110]⟩ from rfl]
 go_enter func168, ntmps168
 go_wp2_with fail
 go_ret
 exact ⟨rfl, Z4 _ _⟩
theorem head_call_c (vs : Array Value) (w : World) : Calls prog 191 #[.agg vs] w fun e w' => e = .returned (.string (bs [99, 97, 108, 108])) ∧ Below w.heap.size w w' := by
 rw [show bs [99, 97, 108, 108] = ⟨#[99, 97, 108, 108]⟩ from rfl]
 go_enter func191, ntmps191
 go_wp2_with fail
 go_ret
 exact ⟨rfl, Z4 _ _⟩
theorem head_pair_c (vs : Array Value) (w : World) : Calls prog 176 #[.agg vs] w fun e w' => e = .returned (.string (bs [112, 97, 105, 114])) ∧ Below w.heap.size w w' := by
 rw [show bs [112, 97, 105, 114] = ⟨#[112, 97, 105, 114]⟩ from rfl]
 go_enter func176, ntmps176
 go_wp2_with fail
 go_ret
 exact ⟨rfl, Z4 _ _⟩
theorem head_fst_c (vs : Array Value) (w : World) : Calls prog 194 #[.agg vs] w fun e w' => e = .returned (.string (bs [102, 115, 116])) ∧ Below w.heap.size w w' := by
 rw [show bs [102, 115, 116] = ⟨#[102, 115, 116]⟩ from rfl]
 go_enter func194, ntmps194
 go_wp2_with fail
 go_ret
 exact ⟨rfl, Z4 _ _⟩
theorem head_snd_c (vs : Array Value) (w : World) : Calls prog 197 #[.agg vs] w fun e w' => e = .returned (.string (bs [115, 110, 100])) ∧ Below w.heap.size w w' := by
 rw [show bs [115, 110, 100] = ⟨#[115, 110, 100]⟩ from rfl]
 go_enter func197, ntmps197
 go_wp2_with fail
 go_ret
 exact ⟨rfl, Z4 _ _⟩
theorem Ku {s : ByteArray} (hs : s.size ≤ 1048576) (hp : Yf s.data.toList = none) (W : World) : Calls prog 18 #[.string s] W fun e w' => (∃ v, e = .returned (.tuple #[v, .bool false])) ∧ Below W.heap.size W w' :=
 (Z6l s hs W).mono fun e w' ⟨h1, h2⟩ => ⟨by rw [hp] at h1; exact Z3v h1, h2⟩
theorem Kt {s : ByteArray} (hs : s.size ≤ 1048576) {x : Ex} (hp : Yf s.data.toList = some x) (W : World) : Calls prog 18 #[.string s] W fun e w' => (∃ v, e = .returned (.tuple #[v, .bool true]) ∧ EV w' (fun k => W.heap.size ≤ k ∧ k < w'.heap.size) x v) ∧ Below W.heap.size W w' :=
 (Z6l s hs W).mono fun e w' ⟨h1, h2⟩ => ⟨by rw [hp] at h1; exact h1, h2⟩
def headI (l : List UInt8) : List UInt8 := match Yf l with | none => [] | some x => headOf x
def Qg (l : List UInt8) : Option Tr :=
 match Zt l with
 | none => none
 | some t => if Jo t = true ∧ t.size ≤ 120 then some t else none
theorem Z1o {l : List UInt8} (h : Zt l = none) : Qg l = none := by simp [Qg, h]
theorem Z6o {l : List UInt8} {t : Tr} (h : Zt l = some t) (hb : Jo t = false) : Qg l = none := by simp [Qg, h, hb]
theorem Z1p {l : List UInt8} {t : Tr} (h : Zt l = some t) (hb : ¬ t.size ≤ 120) : Qg l = none := by simp [Qg, h, hb]
theorem Z1n {l : List UInt8} {t : Tr} (h : Zt l = some t) (hb : Jo t = true) (hs : t.size ≤ 120) : Qg l = some t := by simp [Qg, h, hb, hs]
theorem Z6n {l : List UInt8} {t : Tr} (h : Qg l = some t) : Zt l = some t ∧ Jo t = true ∧ t.size ≤ 120 := by
 unfold Qg at h
 cases hp : Zt l with
 | none => simp [hp] at h
 | some t2 =>
   simp only [hp] at h
   split at h
   · rename_i hq
     simp only [Option.some.injEq] at h
     subst h
     exact ⟨rfl, hq⟩
   · simp at h
theorem readEx_parseE (l : List UInt8) : (Yf l).isSome = (Qg l).isSome := by
 cases hp : Zt l with
 | none => rw [K9 hp, Z1o hp]; rfl
 | some t =>
   rw [Qj hp]
   by_cases hs : t.size ≤ 120
   · rw [if_pos hs]
     cases hv : Jo t with
     | true => rw [Z1n hp hv hs]; exact hv
     | false => rw [Z6o hp hv]; exact hv
   · rw [if_neg hs, Z1p hp hs]; rfl
theorem set2 {w W : World} (h : Below w.heap.size w W) (v u : Value) : Below w.heap.size w ((W.setCell ⟨w.heap.size, 0, none⟩ v).setCell ⟨w.heap.size, 1, none⟩ u) := (h.setCell (Nat.le_refl _) v).setCell (Nat.le_refl _) u
theorem fv_lenS {w : World} {ok : Nat → Prop} : ∀ {t : Tr} {p : Option Addr} {n c : Nat}, FV nS w ok t (nS t (.slice p n c)) → n ≤ maxLen
 | .atom a, p, n, c, h => by
   simp only [FV, nS] at h
   simp at h
   omega
 | .list ts, p, n, c, h => by
   simp only [FV] at h
   obtain ⟨r, off, cap, xs, hh, _, h3, h4, _⟩ := h
   simp [nS] at hh
   omega
theorem Z4r (s : ByteArray) (hs : s.size ≤ 1048576) (w : World) :
 Calls prog 21 #[.string s] w fun e w' => Z50 w.heap.size (Qg s.data.toList) e w' ∧ Below w.heap.size w w' := by
 cases hp : Zt s.data.toList with
 | none =>
   have HD := H_ (Z1o hp)
   have C : Hid (∀ W, Calls prog 48 #[.string s] W fun e w' => (∃ a p n c, e = .returned (.tuple #[.agg #[.string a, .slice p n c], .bool false]) ∧ n ≤ maxLen) ∧ Below W.heap.size W w') := H_ (fun W => (Vq s hs W).mono fun e w' ⟨h1, h2⟩ => ⟨by rw [hp] at h1; exact h1, h2⟩)
   clear hp
   go_enter func21, ntmps21
   go_wp2_with (go_at_call 48; go_must (refine (C.out _).mono ?_; rintro e w1 ⟨⟨a, p, n, c, rfl, hn⟩, hb1⟩; have y0 := Z1 hb1 (by simp) (heap_alloc_new _ _); obtain ⟨z0, z1⟩ := Zp y0; obtain ⟨f0, f1⟩ := Q5 y0; have hs1 := hb1.size; have hs4 : w.heap.size < w1.heap.size := (by simp at hs1; omega)))
   go_region_with (fail)
   all_goals
    go_wp2_with fail
    refine bodyPost_ret (v := .tuple #[.agg #[.string a, .slice p n c], .bool false]) (by simp [results, results21, go_sem, z0, z1, hs4]) rfl ⟨by rw [HD.out]; exact ⟨_, _, _, _, rfl, hn⟩, ?_⟩
    have hw1 : Below w.heap.size w w1 := (Z4 w _).trans (hb1.mono (by simp))
    have h2 := set2 hw1 (.string a) (.slice p n c)
    exact (h2.alloc h2.size _).drew
 | some t =>
   have hg := Yn hp
   have hwf := hg.1
   have hbt : t.bytes ≤ 12000 := by have := hg.2; omega
   have C : Hid (∀ W, Calls prog 48 #[.string s] W fun e w' => (∃ p n c, e = .returned (.tuple #[.agg #[.string (bs (Z0 t)), .slice p n c], .bool true]) ∧ FV nS w' (fun k => W.heap.size ≤ k ∧ k < w'.heap.size) t (nS t (.slice p n c))) ∧ Below W.heap.size W w') := H_ (fun W => (Vq s hs W).mono fun e w' ⟨h1, h2⟩ => ⟨by rw [hp] at h1; exact h1, h2⟩)
   have CV : Hid (∀ (w1 W : World) (B : Nat) p n c, FV nS w1 (fun k => B ≤ k ∧ k < w1.heap.size) t (nS t (.slice p n c)) → Below w1.heap.size w1 W → Calls prog 49 #[.agg #[.string (bs (Z0 t)), .slice p n c]] W fun e w' => e = .returned (.bool (Jo t)) ∧ Below W.heap.size W w') :=
    H_ (fun w1 W B p n c hv hW => l2Valid_c (t.depth + 1) t (nS t (.slice p n c)) _ W (by omega) hwf hbt (hv.below hW (fun k hk => hk.2)) (fun k hk => Nat.lt_of_lt_of_le hk.2 hW.size))
   have CS : Hid (∀ (w1 W : World) (B : Nat) p n c, FV nS w1 (fun k => B ≤ k ∧ k < w1.heap.size) t (nS t (.slice p n c)) → Below w1.heap.size w1 W → Calls prog 50 #[.agg #[.string (bs (Z0 t)), .slice p n c]] W fun e w' => e = .returned (.int .i64 t.size) ∧ Below W.heap.size W w') :=
    H_ (fun w1 W B p n c hv hW => l1Size_c (t.depth + 1) t (nS t (.slice p n c)) _ W (by omega) hwf (by omega) (hv.below hW (fun k hk => hk.2)) (fun k hk => Nat.lt_of_lt_of_le hk.2 hW.size))
   have hst : t.size ≤ 12000 := by have := (Q2 t hwf).1; omega
   clear hg hbt
   cases hx : Jo t with
   | false =>
     have HD := H_ (Z6o hp hx)
     rw [hx] at CV
     clear hp hx hwf hst
     go_enter func21, ntmps21
     go_wp2_with (go_at_call 48; go_must (refine (C.out _).mono ?_; rintro e w1 ⟨⟨p, n, c, rfl, hv⟩, hb1⟩; have y0 := Z1 hb1 (by simp) (heap_alloc_new _ _); obtain ⟨z0, z1⟩ := Zp y0; obtain ⟨f0, f1⟩ := Q5 y0; have hs1 := hb1.size; have hs4 : w.heap.size < w1.heap.size := (by simp at hs1; omega)))
     go_region_with (first | (go_at_call 49; refine (CV.out _ _ _ _ _ _ hv (((Below.refl _ _).alloc (Nat.le_refl _) _).drew)).mono ?_; rintro e w2 ⟨rfl, hb2⟩; have hk2 := (((Below.refl w1.heap.size w1).alloc (Nat.le_refl _) _).drew).trans (hb2.mono (by simp)); have y2 := Z1 hk2 hs4 y0; have x2 := Z1 hb2 (by simp) (heap_alloc_new _ _); obtain ⟨p0, p1⟩ := Zp y2; obtain ⟨q0, q1⟩ := Q5 y2; obtain ⟨u0, u1⟩ := Zp x2; have hs5 : w.heap.size < w2.heap.size := (by have := hk2.size; omega)) | (go_at_call 50; refine (CS.out _ _ _ _ _ _ hv hk2).mono ?_; rintro e w3 ⟨rfl, hb3⟩; have hk3 := hk2.trans (hb3.mono hk2.size); have y3 := Z1 hk3 hs4 y0; have x3 := Z1 hb3 (lt_of_block x2) x2; obtain ⟨p0, p1⟩ := Zp y3; obtain ⟨q0, q1⟩ := Q5 y3; obtain ⟨u0, u1⟩ := Zp x3; have hs6 : w.heap.size < w3.heap.size := (by have := hk3.size; omega)))
     all_goals
      go_wp2_with fail
      refine bodyPost_ret (v := .tuple #[.agg #[.string (bs (Z0 t)), .slice p n c], .bool false]) (by simp [results, results21, go_sem, p0, p1, hs4, hs5]) rfl ⟨?_, ?_⟩
      · rw [HD.out]; exact ⟨_, _, _, _, rfl, fv_lenS hv⟩
      · have hw1 : Below w.heap.size w w1 := (Z4 w _).trans (hb1.mono (by simp))
        exact set2 (hw1.trans (hk2.mono hw1.size)) _ _
   | true =>
     rw [hx] at CV
     by_cases hz : t.size ≤ 120
     · have HD := H_ (Z1n hp hx hz)
       have hz2 : (t.size : Int) ≤ 120 := by omega
       clear hp hx hwf
       go_enter func21, ntmps21
       go_wp2_with (go_at_call 48; go_must (refine (C.out _).mono ?_; rintro e w1 ⟨⟨p, n, c, rfl, hv⟩, hb1⟩; have y0 := Z1 hb1 (by simp) (heap_alloc_new _ _); obtain ⟨z0, z1⟩ := Zp y0; obtain ⟨f0, f1⟩ := Q5 y0; have hs1 := hb1.size; have hs4 : w.heap.size < w1.heap.size := (by simp at hs1; omega)))
       go_region_with (first | (go_at_call 49; refine (CV.out _ _ _ _ _ _ hv (((Below.refl _ _).alloc (Nat.le_refl _) _).drew)).mono ?_; rintro e w2 ⟨rfl, hb2⟩; have hk2 := (((Below.refl w1.heap.size w1).alloc (Nat.le_refl _) _).drew).trans (hb2.mono (by simp)); have y2 := Z1 hk2 hs4 y0; have x2 := Z1 hb2 (by simp) (heap_alloc_new _ _); obtain ⟨p0, p1⟩ := Zp y2; obtain ⟨q0, q1⟩ := Q5 y2; obtain ⟨u0, u1⟩ := Zp x2; have hs5 : w.heap.size < w2.heap.size := (by have := hk2.size; omega)) | (go_at_call 50; refine (CS.out _ _ _ _ _ _ hv hk2).mono ?_; rintro e w3 ⟨rfl, hb3⟩; have hk3 := hk2.trans (hb3.mono hk2.size); have y3 := Z1 hk3 hs4 y0; have x3 := Z1 hb3 (lt_of_block x2) x2; obtain ⟨p0, p1⟩ := Zp y3; obtain ⟨q0, q1⟩ := Q5 y3; obtain ⟨u0, u1⟩ := Zp x3; have hs6 : w.heap.size < w3.heap.size := (by have := hk3.size; omega)))
       all_goals
        go_wp2_with fail
        refine bodyPost_ret (v := .tuple #[.agg #[.string (bs (Z0 t)), .slice p n c], .bool true]) (by simp [results, results21, go_sem, p0, p1, hs4, hs5, hs6]) rfl ⟨?_, ?_⟩
        · rw [HD.out]
          refine ⟨p, n, c, rfl, FV.move (fun k hk => ?_) (fun k hk => ?_) _ _ hv⟩
          · have := hk3.size; simp at hk ⊢; omega
          · rw [Za _ (by simp at hk ⊢; omega), Za _ (by simp at hk ⊢; omega)]; exact hk3.block k hk.2
        · have hw1 : Below w.heap.size w w1 := (Z4 w _).trans (hb1.mono (by simp))
          exact set2 (hw1.trans (hk3.mono hw1.size)) _ _
     · have HD := H_ (Z1p hp hz)
       have hz2 : ¬ (t.size : Int) ≤ 120 := by omega
       clear hp hx hwf
       go_enter func21, ntmps21
       go_wp2_with (go_at_call 48; go_must (refine (C.out _).mono ?_; rintro e w1 ⟨⟨p, n, c, rfl, hv⟩, hb1⟩; have y0 := Z1 hb1 (by simp) (heap_alloc_new _ _); obtain ⟨z0, z1⟩ := Zp y0; obtain ⟨f0, f1⟩ := Q5 y0; have hs1 := hb1.size; have hs4 : w.heap.size < w1.heap.size := (by simp at hs1; omega)))
       go_region_with (first | (go_at_call 49; refine (CV.out _ _ _ _ _ _ hv (((Below.refl _ _).alloc (Nat.le_refl _) _).drew)).mono ?_; rintro e w2 ⟨rfl, hb2⟩; have hk2 := (((Below.refl w1.heap.size w1).alloc (Nat.le_refl _) _).drew).trans (hb2.mono (by simp)); have y2 := Z1 hk2 hs4 y0; have x2 := Z1 hb2 (by simp) (heap_alloc_new _ _); obtain ⟨p0, p1⟩ := Zp y2; obtain ⟨q0, q1⟩ := Q5 y2; obtain ⟨u0, u1⟩ := Zp x2; have hs5 : w.heap.size < w2.heap.size := (by have := hk2.size; omega)) | (go_at_call 50; refine (CS.out _ _ _ _ _ _ hv hk2).mono ?_; rintro e w3 ⟨rfl, hb3⟩; have hk3 := hk2.trans (hb3.mono hk2.size); have y3 := Z1 hk3 hs4 y0; have x3 := Z1 hb3 (lt_of_block x2) x2; obtain ⟨p0, p1⟩ := Zp y3; obtain ⟨q0, q1⟩ := Q5 y3; obtain ⟨u0, u1⟩ := Zp x3; have hs6 : w.heap.size < w3.heap.size := (by have := hk3.size; omega)))
       all_goals
        go_wp2_with fail
        refine bodyPost_ret (v := .tuple #[.agg #[.string (bs (Z0 t)), .slice p n c], .bool false]) (by simp [results, results21, go_sem, p0, p1, hs4, hs5, hs6]; omega) rfl ⟨?_, ?_⟩
        · rw [HD.out]; exact ⟨_, _, _, _, rfl, fv_lenS hv⟩
        · have hw1 : Below w.heap.size w w1 := (Z4 w _).trans (hb1.mono (by simp))
          exact set2 (hw1.trans (hk3.mono hw1.size)) _ _
theorem V9 (s : ByteArray) (hs : s.size ≤ 1048576) (w : World) :
 Calls prog 67 #[.string s] w fun e w' => e = .returned (.bool (Qg s.data.toList).isSome) ∧ Below w.heap.size w w' := by
 go_enter func67, ntmps67
 go_wp2_with (go_at_call 21; go_must (refine (Z4r s hs _).mono ?_; rintro e w1 ⟨hp, hb1⟩; obtain ⟨a, p, n, c, rfl⟩ := Va hp; clear hp))
 go_ret
 exact ⟨rfl, hb1.alloc hb1.size _⟩
theorem l2Parse_none {s : ByteArray} (hs : s.size ≤ 1048576) (hp : Qg s.data.toList = none) (W : World) : Calls prog 21 #[.string s] W fun e w' => (∃ a p n c, e = .returned (.tuple #[.agg #[.string a, .slice p n c], .bool false]) ∧ n ≤ maxLen) ∧ Below W.heap.size W w' :=
 (Z4r s hs W).mono fun e w' ⟨h1, h2⟩ => ⟨by rw [hp] at h1; exact h1, h2⟩
theorem l2Parse_some {s : ByteArray} (hs : s.size ≤ 1048576) {t : Tr} (hp : Qg s.data.toList = some t) (W : World) : Calls prog 21 #[.string s] W fun e w' => (∃ p n c, e = .returned (.tuple #[.agg #[.string (bs (Z0 t)), .slice p n c], .bool true]) ∧ FV nS w' (fun k => W.heap.size ≤ k ∧ k < w'.heap.size) t (nS t (.slice p n c))) ∧ Below W.heap.size W w' :=
 (Z4r s hs W).mono fun e w' ⟨h1, h2⟩ => ⟨by rw [hp] at h1; exact h1, h2⟩
def headE (l : List UInt8) : List UInt8 := match Qg l with | none => [] | some t => headT t
theorem strS_made {w : World} {b : Nat} {l : List (List UInt8)} {t : TypeId} (h : w.heap[b]? = some (.cells (l.map Ye).toArray t (0, 0))) (c : Nat) (hl : l.length ≤ 1000000) : Zo w (.slice (some ⟨b, 0, none⟩) l.length c) l :=
 ⟨_, c, rfl, by omega, fun _ => ⟨b, 0, rfl, fun j v hj => by rw [Nat.zero_add, Z2 h]; simpa using hj⟩⟩
theorem Z71 {h : Tr} {ps : List Tr} {x : Ex} {a : Nat} (V : KidView h ps x a) {j : Nat} (hj : j < (Zd x).length) : a + j < (h :: ps).length := by
 have := V.len
 simp only [List.length_cons]; omega
end Go.Proofs.YtmgepnacjgbfhaaGreatDoor
