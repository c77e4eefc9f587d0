/- The program's expressions: heads and kids by the methods of their types. The reference model reads whole texts as expressions. The reference model: the head of an expression; l2Parse by cases. The reference model: the names bound in a part; counting. -/
import Derived.Test.YtjaaalojcdbcpaaGreatDoorlI2e
import Derived.Test.YtjaaalojcdbcpaaGreatDoorlB3
import Derived.Handy
import Derived.Test.YtjaaalojcdbcpaaGreatDoorlSpec2b
import Derived.Deep.RegionWith
import Derived.Test.YtjaaalojcdbcpaaGreatDoorlS1z
set_option maxHeartbeats 20000000
set_option linter.unusedVariables false
set_option linter.unusedSimpArgs false
namespace Go.Proofs.YtjaaalojcdbcpaaGreatDoor
open Go.RowKit Go.Proofs.Tryz
set_option maxRecDepth 8000
theorem head_name_c (vs : Array Value) (w : World) : Calls prog 211 #[.agg vs] w fun e w' => e = .returned (.string (bs [110, 97, 109, 101])) ∧ Below w.heap.size w w' := by
 rw [show bs [110, 97, 109, 101] = ⟨#[110, 97, 109, 101]⟩ from rfl]
 go_enter func211, ntmps211
 go_wp2_with fail
 go_ret
 exact ⟨rfl, Z5 _ _⟩
theorem head_number_c (vs : Array Value) (w : World) : Calls prog 215 #[.agg vs] w fun e w' => e = .returned (.string (bs [110, 117, 109, 98, 101, 114])) ∧ Below w.heap.size w w' := by
 rw [show bs [110, 117, 109, 98, 101, 114] = ⟨#[110, 117, 109, 98, 101, 114]⟩ from rfl]
 go_enter func215, ntmps215
 go_wp2_with fail
 go_ret
 exact ⟨rfl, Z5 _ _⟩
theorem head_add_c (vs : Array Value) (w : World) : Calls prog 219 #[.agg vs] w fun e w' => e = .returned (.string (bs [43])) ∧ Below w.heap.size w w' := by
 rw [show bs [43] = ⟨#[43]⟩ from rfl]
 go_enter func219, ntmps219
 go_wp2_with fail
 go_ret
 exact ⟨rfl, Z5 _ _⟩
theorem head_sub_c (vs : Array Value) (w : World) : Calls prog 222 #[.agg vs] w fun e w' => e = .returned (.string (bs [45])) ∧ Below w.heap.size w w' := by
 rw [show bs [45] = ⟨#[45]⟩ from rfl]
 go_enter func222, ntmps222
 go_wp2_with fail
 go_ret
 exact ⟨rfl, Z5 _ _⟩
theorem head_mul_c (vs : Array Value) (w : World) : Calls prog 224 #[.agg vs] w fun e w' => e = .returned (.string (bs [42])) ∧ Below w.heap.size w w' := by
 rw [show bs [42] = ⟨#[42]⟩ from rfl]
 go_enter func224, ntmps224
 go_wp2_with fail
 go_ret
 exact ⟨rfl, Z5 _ _⟩
theorem head_if_c (vs : Array Value) (w : World) : Calls prog 226 #[.agg vs] w fun e w' => e = .returned (.string (bs [105, 102])) ∧ Below w.heap.size w w' := by
 rw [show bs [105, 102] = ⟨#[105, 102]⟩ from rfl]
 go_enter func226, ntmps226
 go_wp2_with fail
 go_ret
 exact ⟨rfl, Z5 _ _⟩
theorem head_let_c (vs : Array Value) (w : World) : Calls prog 205 #[.agg vs] w fun e w' => e = .returned (.string (bs [108, 101, 116])) ∧ Below w.heap.size w w' := by
 rw [show bs [108, 101, 116] = ⟨#[108, 101, 116]⟩ from rfl]
 go_enter func205, ntmps205
 go_wp2_with fail
 go_ret
 exact ⟨rfl, Z5 _ _⟩
theorem head_fun_c (vs : Array Value) (w : World) : Calls prog 208 #[.agg vs] w fun e w' => e = .returned (.string (bs [102, 117, 110])) ∧ Below w.heap.size w w' := by
 rw [show bs [102, 117, 110] = ⟨#[102, 117, 110]⟩ from rfl]
 go_enter func208, ntmps208
 go_wp2_with fail
 go_ret
 exact ⟨rfl, Z5 _ _⟩
theorem head_call_c (vs : Array Value) (w : World) : Calls prog 229 #[.agg vs] w fun e w' => e = .returned (.string (bs [99, 97, 108, 108])) ∧ Below w.heap.size w w' := by
 rw [show bs [99, 97, 108, 108] = ⟨#[99, 97, 108, 108]⟩ from rfl]
 go_enter func229, ntmps229
 go_wp2_with fail
 go_ret
 exact ⟨rfl, Z5 _ _⟩
theorem head_pair_c (vs : Array Value) (w : World) : Calls prog 231 #[.agg vs] w fun e w' => e = .returned (.string (bs [112, 97, 105, 114])) ∧ Below w.heap.size w w' := by
 rw [show bs [112, 97, 105, 114] = ⟨#[112, 97, 105, 114]⟩ from rfl]
 go_enter func231, ntmps231
 go_wp2_with fail
 go_ret
 exact ⟨rfl, Z5 _ _⟩
theorem head_fst_c (vs : Array Value) (w : World) : Calls prog 234 #[.agg vs] w fun e w' => e = .returned (.string (bs [102, 115, 116])) ∧ Below w.heap.size w w' := by
 rw [show bs [102, 115, 116] = ⟨#[102, 115, 116]⟩ from rfl]
 go_enter func234, ntmps234
 go_wp2_with fail
 go_ret
 exact ⟨rfl, Z5 _ _⟩
theorem head_snd_c (vs : Array Value) (w : World) : Calls prog 237 #[.agg vs] w fun e w' => e = .returned (.string (bs [115, 110, 100])) ∧ Below w.heap.size w w' := by
 rw [show bs [115, 110, 100] = ⟨#[115, 110, 100]⟩ from rfl]
 go_enter func237, ntmps237
 go_wp2_with fail
 go_ret
 exact ⟨rfl, Z5 _ _⟩
theorem Qq {s : ByteArray} (hs : s.size ≤ 1048576) (hp : Zp s.data.toList = none) (W : World) : Calls prog 34 #[.string s] W fun e w' => (∃ v, e = .returned (.tuple #[v, .bool false])) ∧ Below W.heap.size W w' :=
 (Z76 s hs W).mono fun e w' ⟨h1, h2⟩ => ⟨by rw [hp] at h1; exact Z4m h1, h2⟩
theorem Qp {s : ByteArray} (hs : s.size ≤ 1048576) {x : Ex} (hp : Zp s.data.toList = some x) (W : World) : Calls prog 34 #[.string s] W fun e w' => (∃ v, e = .returned (.tuple #[v, .bool true]) ∧ EV w' (fun k => W.heap.size ≤ k ∧ k < w'.heap.size) x v) ∧ Below W.heap.size W w' :=
 (Z76 s hs W).mono fun e w' ⟨h1, h2⟩ => ⟨by rw [hp] at h1; exact h1, h2⟩
def headI (l : List UInt8) : List UInt8 := match Zp l with | none => [] | some x => headOf x
def Xv (l : List UInt8) : Option Tr :=
 match Zt l with
 | none => none
 | some t => if Jx t = true ∧ t.size ≤ 120 then some t else none
theorem Z2f {l : List UInt8} (h : Zt l = none) : Xv l = none := by simp [Xv, h]
theorem Z7c {l : List UInt8} {t : Tr} (h : Zt l = some t) (hb : Jx t = false) : Xv l = none := by simp [Xv, h, hb]
theorem Z2g {l : List UInt8} {t : Tr} (h : Zt l = some t) (hb : ¬ t.size ≤ 120) : Xv l = none := by simp [Xv, h, hb]
theorem Z0s {l : List UInt8} {t : Tr} (h : Zt l = some t) (hb : Jx t = true) (hs : t.size ≤ 120) : Xv l = some t := by simp [Xv, h, hb, hs]
theorem Ve {l : List UInt8} {t : Tr} (h : Xv l = some t) : Zt l = some t ∧ Jx t = true ∧ t.size ≤ 120 := by
 unfold Xv at h
 cases hp : Zt l with
 | none => simp [hp] at h
 | some t2 =>
   simp only [hp] at h
   split at h
   · rename_i hq
     simp only [Option.some.injEq] at h
     subst h
     exact ⟨rfl, hq⟩
   · simp at h
theorem Z3k (l : List UInt8) : (Zp l).isSome = (Xv l).isSome := by
 cases hp : Zt l with
 | none => rw [Kr hp, Z2f hp]; rfl
 | some t =>
   rw [J8 hp]
   by_cases hs : t.size ≤ 120
   · rw [if_pos hs]
     cases hv : Jx t with
     | true => rw [Z0s hp hv hs]; exact hv
     | false => rw [Z7c hp hv]; exact hv
   · rw [if_neg hs, Z2g hp hs]; rfl
theorem set2 {w W : World} (h : Below w.heap.size w W) (v u : Value) : Below w.heap.size w ((W.setCell ⟨w.heap.size, 0, none⟩ v).setCell ⟨w.heap.size, 1, none⟩ u) := (h.setCell (Nat.le_refl _) v).setCell (Nat.le_refl _) u
theorem fv_lenS {w : World} {ok : Nat → Prop} : ∀ {t : Tr} {p : Option Addr} {n c : Nat}, FV nS w ok t (nS t (.slice p n c)) → n ≤ maxLen
 | .atom a, p, n, c, h => by
   simp only [FV, nS] at h
   simp at h
   omega
 | .list ts, p, n, c, h => by
   simp only [FV] at h
   obtain ⟨r, off, cap, xs, hh, _, h3, h4, _⟩ := h
   simp [nS] at hh
   omega
theorem Z36 (s : ByteArray) (hs : s.size ≤ 1048576) (w : World) :
 Calls prog 29 #[.string s] w fun e w' => Z5n w.heap.size (Xv s.data.toList) e w' ∧ Below w.heap.size w w' := by
 cases hp : Zt s.data.toList with
 | none =>
   have HD := H_ (Z2f hp)
   have C : Hid (∀ W, Calls prog 64 #[.string s] W fun e w' => (∃ a p n c, e = .returned (.tuple #[.agg #[.string a, .slice p n c], .bool false]) ∧ n ≤ maxLen) ∧ Below W.heap.size W w') := H_ (fun W => (Z0c s hs W).mono fun e w' ⟨h1, h2⟩ => ⟨by rw [hp] at h1; exact h1, h2⟩)
   clear hp
   go_enter func29, ntmps29
   go_wp2_with (go_at_call 64; go_must (refine (C.out _).mono ?_; rintro e w1 ⟨⟨a, p, n, c, rfl, hn⟩, hb1⟩; have y0 := Z2 hb1 (by simp) (heap_alloc_new _ _); obtain ⟨z0, z1⟩ := Zh y0; obtain ⟨f0, f1⟩ := Xb y0; have hs1 := hb1.size; have hs4 : w.heap.size < w1.heap.size := (by simp at hs1; omega)))
   go_region_with (fail)
   all_goals
    go_wp2_with fail
    refine bodyPost_ret (v := .tuple #[.agg #[.string a, .slice p n c], .bool false]) (by simp [results, results29, go_sem, z0, z1, hs4]) rfl ⟨by rw [HD.out]; exact ⟨_, _, _, _, rfl, hn⟩, ?_⟩
    have hw1 : Below w.heap.size w w1 := (Z5 w _).trans (hb1.mono (by simp))
    have h2 := set2 hw1 (.string a) (.slice p n c)
    exact (h2.alloc h2.size _).drew
 | some t =>
   have hg := Yk hp
   have hwf := hg.1
   have hbt : t.bytes ≤ 12000 := by have := hg.2; omega
   have C : Hid (∀ W, Calls prog 64 #[.string s] W fun e w' => (∃ p n c, e = .returned (.tuple #[.agg #[.string (bs (Z1 t)), .slice p n c], .bool true]) ∧ FV nS w' (fun k => W.heap.size ≤ k ∧ k < w'.heap.size) t (nS t (.slice p n c))) ∧ Below W.heap.size W w') := H_ (fun W => (Z0c s hs W).mono fun e w' ⟨h1, h2⟩ => ⟨by rw [hp] at h1; exact h1, h2⟩)
   have CV : Hid (∀ (w1 W : World) (B : Nat) p n c, FV nS w1 (fun k => B ≤ k ∧ k < w1.heap.size) t (nS t (.slice p n c)) → Below w1.heap.size w1 W → Calls prog 65 #[.agg #[.string (bs (Z1 t)), .slice p n c]] W fun e w' => e = .returned (.bool (Jx t)) ∧ Below W.heap.size W w') :=
    H_ (fun w1 W B p n c hv hW => l2Valid_c (t.depth + 1) t (nS t (.slice p n c)) _ W (by omega) hwf hbt (hv.below hW (fun k hk => hk.2)) (fun k hk => Nat.lt_of_lt_of_le hk.2 hW.size))
   have CS : Hid (∀ (w1 W : World) (B : Nat) p n c, FV nS w1 (fun k => B ≤ k ∧ k < w1.heap.size) t (nS t (.slice p n c)) → Below w1.heap.size w1 W → Calls prog 66 #[.agg #[.string (bs (Z1 t)), .slice p n c]] W fun e w' => e = .returned (.int .i64 t.size) ∧ Below W.heap.size W w') :=
    H_ (fun w1 W B p n c hv hW => l1Size_c (t.depth + 1) t (nS t (.slice p n c)) _ W (by omega) hwf (by omega) (hv.below hW (fun k hk => hk.2)) (fun k hk => Nat.lt_of_lt_of_le hk.2 hW.size))
   have hst : t.size ≤ 12000 := by have := (Q9 t hwf).1; omega
   clear hg hbt
   cases hx : Jx t with
   | false =>
     have HD := H_ (Z7c hp hx)
     rw [hx] at CV
     clear hp hx hwf hst
     go_enter func29, ntmps29
     go_wp2_with (go_at_call 64; go_must (refine (C.out _).mono ?_; rintro e w1 ⟨⟨p, n, c, rfl, hv⟩, hb1⟩; have y0 := Z2 hb1 (by simp) (heap_alloc_new _ _); obtain ⟨z0, z1⟩ := Zh y0; obtain ⟨f0, f1⟩ := Xb y0; have hs1 := hb1.size; have hs4 : w.heap.size < w1.heap.size := (by simp at hs1; omega)))
     go_region_with (first | (go_at_call 65; refine (CV.out _ _ _ _ _ _ hv (((Below.refl _ _).alloc (Nat.le_refl _) _).drew)).mono ?_; rintro e w2 ⟨rfl, hb2⟩; have hk2 := (((Below.refl w1.heap.size w1).alloc (Nat.le_refl _) _).drew).trans (hb2.mono (by simp)); have y2 := Z2 hk2 hs4 y0; have x2 := Z2 hb2 (by simp) (heap_alloc_new _ _); obtain ⟨p0, p1⟩ := Zh y2; obtain ⟨q0, q1⟩ := Xb y2; obtain ⟨u0, u1⟩ := Zh x2; have hs5 : w.heap.size < w2.heap.size := (by have := hk2.size; omega)) | (go_at_call 66; refine (CS.out _ _ _ _ _ _ hv hk2).mono ?_; rintro e w3 ⟨rfl, hb3⟩; have hk3 := hk2.trans (hb3.mono hk2.size); have y3 := Z2 hk3 hs4 y0; have x3 := Z2 hb3 (lt_of_block x2) x2; obtain ⟨p0, p1⟩ := Zh y3; obtain ⟨q0, q1⟩ := Xb y3; obtain ⟨u0, u1⟩ := Zh x3; have hs6 : w.heap.size < w3.heap.size := (by have := hk3.size; omega)))
     all_goals
      go_wp2_with fail
      refine bodyPost_ret (v := .tuple #[.agg #[.string (bs (Z1 t)), .slice p n c], .bool false]) (by simp [results, results29, go_sem, p0, p1, hs4, hs5]) rfl ⟨?_, ?_⟩
      · rw [HD.out]; exact ⟨_, _, _, _, rfl, fv_lenS hv⟩
      · have hw1 : Below w.heap.size w w1 := (Z5 w _).trans (hb1.mono (by simp))
        exact set2 (hw1.trans (hk2.mono hw1.size)) _ _
   | true =>
     rw [hx] at CV
     by_cases hz : t.size ≤ 120
     · have HD := H_ (Z0s hp hx hz)
       have hz2 : (t.size : Int) ≤ 120 := by omega
       clear hp hx hwf
       go_enter func29, ntmps29
       go_wp2_with (go_at_call 64; go_must (refine (C.out _).mono ?_; rintro e w1 ⟨⟨p, n, c, rfl, hv⟩, hb1⟩; have y0 := Z2 hb1 (by simp) (heap_alloc_new _ _); obtain ⟨z0, z1⟩ := Zh y0; obtain ⟨f0, f1⟩ := Xb y0; have hs1 := hb1.size; have hs4 : w.heap.size < w1.heap.size := (by simp at hs1; omega)))
       go_region_with (first | (go_at_call 65; refine (CV.out _ _ _ _ _ _ hv (((Below.refl _ _).alloc (Nat.le_refl _) _).drew)).mono ?_; rintro e w2 ⟨rfl, hb2⟩; have hk2 := (((Below.refl w1.heap.size w1).alloc (Nat.le_refl _) _).drew).trans (hb2.mono (by simp)); have y2 := Z2 hk2 hs4 y0; have x2 := Z2 hb2 (by simp) (heap_alloc_new _ _); obtain ⟨p0, p1⟩ := Zh y2; obtain ⟨q0, q1⟩ := Xb y2; obtain ⟨u0, u1⟩ := Zh x2; have hs5 : w.heap.size < w2.heap.size := (by have := hk2.size; omega)) | (go_at_call 66; refine (CS.out _ _ _ _ _ _ hv hk2).mono ?_; rintro e w3 ⟨rfl, hb3⟩; have hk3 := hk2.trans (hb3.mono hk2.size); have y3 := Z2 hk3 hs4 y0; have x3 := Z2 hb3 (lt_of_block x2) x2; obtain ⟨p0, p1⟩ := Zh y3; obtain ⟨q0, q1⟩ := Xb y3; obtain ⟨u0, u1⟩ := Zh x3; have hs6 : w.heap.size < w3.heap.size := (by have := hk3.size; omega)))
       all_goals
        go_wp2_with fail
        refine bodyPost_ret (v := .tuple #[.agg #[.string (bs (Z1 t)), .slice p n c], .bool true]) (by simp [results, results29, go_sem, p0, p1, hs4, hs5, hs6]) rfl ⟨?_, ?_⟩
        · rw [HD.out]
          refine ⟨p, n, c, rfl, FV.move (fun k hk => ?_) (fun k hk => ?_) _ _ hv⟩
          · have := hk3.size; simp at hk ⊢; omega
          · rw [Z3 _ (by simp at hk ⊢; omega), Z3 _ (by simp at hk ⊢; omega)]; exact hk3.block k hk.2
        · have hw1 : Below w.heap.size w w1 := (Z5 w _).trans (hb1.mono (by simp))
          exact set2 (hw1.trans (hk3.mono hw1.size)) _ _
     · have HD := H_ (Z2g hp hz)
       have hz2 : ¬ (t.size : Int) ≤ 120 := by omega
       clear hp hx hwf
       go_enter func29, ntmps29
       go_wp2_with (go_at_call 64; go_must (refine (C.out _).mono ?_; rintro e w1 ⟨⟨p, n, c, rfl, hv⟩, hb1⟩; have y0 := Z2 hb1 (by simp) (heap_alloc_new _ _); obtain ⟨z0, z1⟩ := Zh y0; obtain ⟨f0, f1⟩ := Xb y0; have hs1 := hb1.size; have hs4 : w.heap.size < w1.heap.size := (by simp at hs1; omega)))
       go_region_with (first | (go_at_call 65; refine (CV.out _ _ _ _ _ _ hv (((Below.refl _ _).alloc (Nat.le_refl _) _).drew)).mono ?_; rintro e w2 ⟨rfl, hb2⟩; have hk2 := (((Below.refl w1.heap.size w1).alloc (Nat.le_refl _) _).drew).trans (hb2.mono (by simp)); have y2 := Z2 hk2 hs4 y0; have x2 := Z2 hb2 (by simp) (heap_alloc_new _ _); obtain ⟨p0, p1⟩ := Zh y2; obtain ⟨q0, q1⟩ := Xb y2; obtain ⟨u0, u1⟩ := Zh x2; have hs5 : w.heap.size < w2.heap.size := (by have := hk2.size; omega)) | (go_at_call 66; refine (CS.out _ _ _ _ _ _ hv hk2).mono ?_; rintro e w3 ⟨rfl, hb3⟩; have hk3 := hk2.trans (hb3.mono hk2.size); have y3 := Z2 hk3 hs4 y0; have x3 := Z2 hb3 (lt_of_block x2) x2; obtain ⟨p0, p1⟩ := Zh y3; obtain ⟨q0, q1⟩ := Xb y3; obtain ⟨u0, u1⟩ := Zh x3; have hs6 : w.heap.size < w3.heap.size := (by have := hk3.size; omega)))
       all_goals
        go_wp2_with fail
        refine bodyPost_ret (v := .tuple #[.agg #[.string (bs (Z1 t)), .slice p n c], .bool false]) (by simp [results, results29, go_sem, p0, p1, hs4, hs5, hs6]; omega) rfl ⟨?_, ?_⟩
        · rw [HD.out]; exact ⟨_, _, _, _, rfl, fv_lenS hv⟩
        · have hw1 : Below w.heap.size w w1 := (Z5 w _).trans (hb1.mono (by simp))
          exact set2 (hw1.trans (hk3.mono hw1.size)) _ _
theorem Kf (s : ByteArray) (hs : s.size ≤ 1048576) (w : World) :
 Calls prog 56 #[.string s] w fun e w' => e = .returned (.bool (Xv s.data.toList).isSome) ∧ Below w.heap.size w w' := by
 go_enter func56, ntmps56
 go_wp2_with (go_at_call 29; go_must (refine (Z36 s hs _).mono ?_; rintro e w1 ⟨hp, hb1⟩; obtain ⟨a, p, n, c, rfl⟩ := Kh hp; clear hp))
 go_ret
 exact ⟨rfl, hb1.alloc hb1.size _⟩
theorem Z4t {s : ByteArray} (hs : s.size ≤ 1048576) (hp : Xv s.data.toList = none) (W : World) : Calls prog 29 #[.string s] W fun e w' => (∃ a p n c, e = .returned (.tuple #[.agg #[.string a, .slice p n c], .bool false]) ∧ n ≤ maxLen) ∧ Below W.heap.size W w' :=
 (Z36 s hs W).mono fun e w' ⟨h1, h2⟩ => ⟨by rw [hp] at h1; exact h1, h2⟩
theorem Z06 {s : ByteArray} (hs : s.size ≤ 1048576) {t : Tr} (hp : Xv s.data.toList = some t) (W : World) : Calls prog 29 #[.string s] W fun e w' => (∃ p n c, e = .returned (.tuple #[.agg #[.string (bs (Z1 t)), .slice p n c], .bool true]) ∧ FV nS w' (fun k => W.heap.size ≤ k ∧ k < w'.heap.size) t (nS t (.slice p n c))) ∧ Below W.heap.size W w' :=
 (Z36 s hs W).mono fun e w' ⟨h1, h2⟩ => ⟨by rw [hp] at h1; exact h1, h2⟩
def headE (l : List UInt8) : List UInt8 := match Xv l with | none => [] | some t => headT t
theorem Z2y {w : World} {b : Nat} {l : List (List UInt8)} {t : TypeId} (h : w.heap[b]? = some (.cells (l.map Y3).toArray t (0, 0))) (c : Nat) (hl : l.length ≤ 1000000) : Zw w (.slice (some ⟨b, 0, none⟩) l.length c) l :=
 ⟨_, c, rfl, by omega, fun _ => ⟨b, 0, rfl, fun j v hj => by rw [Nat.zero_add, Z4 h]; simpa using hj⟩⟩
theorem Z1l (w : World) {n c : Nat} : ∀ k, (Value.slice (some ⟨w.heap.size + 1, 0, none⟩) n c).ownBlock = some k → w.heap.size < k := fun k hk => by simp [Value.ownBlock] at hk; omega
theorem Vh {h : Tr} {ps : List Tr} {x : Ex} {a : Nat} (V : KidView h ps x a) {j : Nat} (hj : j < (Zb x).length) : a + j < (h :: ps).length := by
 have := V.len
 simp only [List.length_cons]; omega
theorem l2Binds_c (h : Tr) (ps : List Tr) (x : Ex) (a j : Nat) (V : KidView h ps x a) (hj : j < (Zb x).length) (cs : List Value) (ok : Nat → Prop) (w : World) (hv : FV nS w ok (.list (h :: ps)) cs) (hok : ∀ k, ok k → k < w.heap.size) :
 Calls prog 100 #[.agg cs.toArray, .int .i64 (a + j : Nat)] w fun e w' => (∃ v, e = .returned v ∧ Zw w' v (Zo x j) ∧ ∀ k, v.ownBlock = some k → w.heap.size < k) ∧ Below w.heap.size w w' := by
 have h0 := V.bind j hj
 have hkb := Vh V hj
 rw [← h0]
 clear h0
 have hV := V.two
 clear V hj
 generalize a + j = k at *
 simp only [FV] at hv
 obtain ⟨r, off, cap, xs, rfl, h2, h3, h4, h5, h6⟩ := hv
 have hrlt := hok r h2
 have e0 : w.cell? ⟨r, off, none⟩ = some (.string (bs (Z1 h))) := by
  obtain ⟨p, m, c, _, q, _⟩ := Kb h6 h5 0 (by simp)
  simpa using q
 obtain ⟨L, hL⟩ : ∃ L, L = (h :: ps).length := ⟨_, rfl⟩
 rw [← hL] at h3 hkb
 have hLm : L ≤ 9223372036854775807 := by have := Yl h4; omega
 by_cases hlet : Z1 h = Yy
 · have hps := hV.1 hlet
   have hL2 : 2 < L := by rw [hL]; simp only [List.length_cons]; omega
   have e1 : w.cell? ⟨r, off + 2, none⟩ = some (.string (bs (Z1 (ps.getD 0 default)))) := by
    obtain ⟨p, m, c, _, q, _⟩ := Kb h6 h5 1 (by simp only [List.length_cons]; omega)
    match ps, hps, q with
    | b :: l, _, q => simpa using q
   have s1 : ((bs (Z1 h)).toList == [108, 101, 116]) = true := by rw [Z9, hlet]; rfl
   by_cases h3k : k = 3
   · have HT := H_ (show Z01 h ps k = [Z1 (ps.getD 0 default)] by simp [Z01, hlet, h3k])
     subst h3k
     generalize Z1 (ps.getD 0 default) = x0 at *
     generalize Z01 h ps 3 = T at *
     generalize Z1 h = hd0 at *
     simp only [nS, Z1, ← hL]
     clear hL hV hlet hps h6 h5
     go_enter func100, ntmps100
     go_wp2_with fail
     go_ret
     refine ⟨⟨_, rfl, ?_, Z1l w⟩, Zl _ _ _⟩
     rw [HT.out]
     exact Z2y (l := [x0]) (Za _ _ _) _ (by simp)
   · have HT := H_ (show Z01 h ps k = [] by simp [Z01, hlet, h3k, Yy, Yt])
     have s2 : ((bs (Z1 h)).toList == [102, 117, 110]) = false := by rw [Z9, hlet]; rfl
     have h3i : ((k : Int) == 3) = false := by simp; omega
     generalize Z01 h ps k = T at *
     generalize Z1 h = hd0 at *
     simp only [nS, Z1, ← hL]
     clear hL hV hlet hps h6 h5 e1
     go_enter func100, ntmps100
     go_wp2_with fail
     go_ret
     refine ⟨⟨_, rfl, ?_, Z1l w⟩, Zl _ _ _⟩
     rw [HT.out]
     exact Z2y (l := []) (Za _ _ _) _ (by simp)
 have s1 : ((bs (Z1 h)).toList == [108, 101, 116]) = false := by rw [Z9]; simpa [Yy] using hlet
 by_cases hfun : Z1 h = Yt
 · have hps := hV.2 hfun
   have hL2 : 2 < L := by rw [hL]; simp only [List.length_cons]; omega
   have e1 : w.cell? ⟨r, off + 2, none⟩ = some (.string (bs (Z1 (ps.getD 0 default)))) := by
    obtain ⟨p, m, c, _, q, _⟩ := Kb h6 h5 1 (by simp only [List.length_cons]; omega)
    match ps, hps, q with
    | b :: l, _, q => simpa using q
   have e2 : w.cell? ⟨r, off + 4, none⟩ = some (.string (bs (Z1 (ps.getD 1 default)))) := by
    obtain ⟨p, m, c, _, q, _⟩ := Kb h6 h5 2 (by simp only [List.length_cons]; omega)
    match ps, hps, q with
    | b :: b2 :: l, _, q => simpa using q
   have s2 : ((bs (Z1 h)).toList == [102, 117, 110]) = true := by rw [Z9, hfun]; rfl
   have HT := H_ (show Z01 h ps k = [Z1 (ps.getD 0 default), Z1 (ps.getD 1 default)] by simp [Z01, hlet, hfun, Yt, Yy])
   generalize Z1 (ps.getD 0 default) = x0 at *
   generalize Z1 (ps.getD 1 default) = x1 at *
   generalize Z01 h ps k = T at *
   generalize Z1 h = hd0 at *
   simp only [nS, Z1, ← hL]
   clear hL hV hlet hfun hps h6 h5
   go_enter func100, ntmps100
   go_wp2_with fail
   go_region_with (fail)
   all_goals
    go_wp2_with fail
    go_ret
    refine ⟨⟨_, rfl, ?_, Z1l w⟩, ?_⟩
    · rw [HT.out]
      exact Z2y (l := [x0, x1]) (Za _ _ _) _ (by simp)
    · exact (Zl _ _ _).drew
 have s2 : ((bs (Z1 h)).toList == [102, 117, 110]) = false := by rw [Z9]; simpa [Yt] using hfun
 have HT := H_ (show Z01 h ps k = [] by simp [Z01, hlet, hfun])
 generalize Z01 h ps k = T at *
 generalize Z1 h = hd0 at *
 simp only [nS, Z1, ← hL]
 clear hL hV hlet hfun h6 h5
 go_enter func100, ntmps100
 go_wp2_with fail
 go_ret
 refine ⟨⟨_, rfl, ?_, Z1l w⟩, Zl _ _ _⟩
 rw [HT.out]
 exact Z2y (l := []) (Za _ _ _) _ (by simp)
end Go.Proofs.YtjaaalojcdbcpaaGreatDoor
