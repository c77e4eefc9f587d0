/- The reference model reads whole texts as expressions. The reference model: the head of an expression; l2Parse by cases. The reference model: the names bound in a part; counting. -/
import Derived.Test.YtfknoigbkleanaaGreatDoorqSpec2b
import Derived.Deep.RegionWith
import Derived.Test.YtfknoigbkleanaaGreatDoorqB3
import Derived.Test.YtfknoigbkleanaaGreatDoorqS1z
namespace Go.Proofs.YtfknoigbkleanaaGreatDoor
open Go.RowKit Go.Proofs.Tryz
set_option maxRecDepth 8000
set_option maxHeartbeats 20000000
set_option linter.unusedVariables false
set_option linter.unusedSimpArgs false
def Qp (l : List UInt8) : Option Tr :=
 match Zv l with
 | none => none
 | some t => if Ki t = true ∧ t.size ≤ 120 then some t else none
theorem Z3m {l : List UInt8} (h : Zv l = none) : Qp l = none := by simp [Qp, h]
theorem Z8m {l : List UInt8} {t : Tr} (h : Zv l = some t) (hb : Ki t = false) : Qp l = none := by simp [Qp, h, hb]
theorem Z3n {l : List UInt8} {t : Tr} (h : Zv l = some t) (hb : ¬ t.size ≤ 120) : Qp l = none := by simp [Qp, h, hb]
theorem Z3l {l : List UInt8} {t : Tr} (h : Zv l = some t) (hb : Ki t = true) (hs : t.size ≤ 120) : Qp l = some t := by simp [Qp, h, hb, hs]
theorem Z2p {l : List UInt8} {t : Tr} (h : Qp l = some t) : Zv l = some t ∧ Ki t = true ∧ t.size ≤ 120 := by
 unfold Qp at h
 cases hp : Zv l with
 | none => simp [hp] at h
 | some t2 =>
   simp only [hp] at h
   split at h
   · rename_i hq
     simp only [Option.some.injEq] at h
     subst h
     exact ⟨rfl, hq⟩
   · simp at h
theorem readEx_parseE (l : List UInt8) : (Yb l).isSome = (Qp l).isSome := by
 cases hp : Zv l with
 | none => rw [Z0a hp, Z3m hp]; rfl
 | some t =>
   rw [Jh hp]
   by_cases hs : t.size ≤ 120
   · rw [if_pos hs]
     cases hv : Ki t with
     | true => rw [Z3l hp hv hs]; exact hv
     | false => rw [Z8m hp hv]; exact hv
   · rw [if_neg hs, Z3n hp hs]; rfl
theorem set2 {w W : World} (h : Below w.heap.size w W) (v u : Value) : Below w.heap.size w ((W.setCell ⟨w.heap.size, 0, none⟩ v).setCell ⟨w.heap.size, 1, none⟩ u) := (h.setCell (Nat.le_refl _) v).setCell (Nat.le_refl _) u
theorem fv_lenS {w : World} {ok : Nat → Prop} : ∀ {t : Tr} {p : Option Addr} {n c : Nat}, FV nS w ok t (nS t (.slice p n c)) → n ≤ maxLen
 | .atom a, p, n, c, h => by
   simp only [FV, nS] at h
   simp at h
   omega
 | .list ts, p, n, c, h => by
   simp only [FV] at h
   obtain ⟨r, off, cap, xs, hh, _, h3, h4, _⟩ := h
   simp [nS] at hh
   omega
theorem Z6i (s : ByteArray) (hs : s.size ≤ 1048576) (w : World) :
 Calls prog 49 #[.string s] w fun e w' => Z6q w.heap.size (Qp s.data.toList) e w' ∧ Below w.heap.size w w' := by
 cases hp : Zv s.data.toList with
 | none =>
   have HD := H_ (Z3m hp)
   have C : Hid (∀ W, Calls prog 65 #[.string s] W fun e w' => (∃ a p n c, e = .returned (.tuple #[.agg #[.string a, .slice p n c], .bool false]) ∧ n ≤ maxLen) ∧ Below W.heap.size W w') := H_ (fun W => (Z0y s hs W).mono fun e w' ⟨h1, h2⟩ => ⟨by rw [hp] at h1; exact h1, h2⟩)
   clear hp
   go_enter func49, ntmps49
   go_wp2_with (go_at_call 65; go_must (refine (C.out _).mono ?_; rintro e w1 ⟨⟨a, p, n, c, rfl, hn⟩, hb1⟩; have y0 := Z1 hb1 (by simp) (heap_alloc_new _ _); obtain ⟨z0, z1⟩ := Zm y0; obtain ⟨f0, f1⟩ := Ql y0; have hs1 := hb1.size; have hs4 : w.heap.size < w1.heap.size := (by simp at hs1; omega)))
   go_region_with (fail)
   all_goals
    go_wp2_with fail
    refine bodyPost_ret (v := .tuple #[.agg #[.string a, .slice p n c], .bool false]) (by simp [results, results49, go_sem, z0, z1, hs4]) rfl ⟨by rw [HD.out]; exact ⟨_, _, _, _, rfl, hn⟩, ?_⟩
    have hw1 : Below w.heap.size w w1 := (Z4 w _).trans (hb1.mono (by simp))
    have h2 := set2 hw1 (.string a) (.slice p n c)
    exact (h2.alloc h2.size _).drew
 | some t =>
   have hg := Yt hp
   have hwf := hg.1
   have hbt : t.bytes ≤ 12000 := by have := hg.2; omega
   have C : Hid (∀ W, Calls prog 65 #[.string s] W fun e w' => (∃ p n c, e = .returned (.tuple #[.agg #[.string (bs (Z0 t)), .slice p n c], .bool true]) ∧ FV nS w' (fun k => W.heap.size ≤ k ∧ k < w'.heap.size) t (nS t (.slice p n c))) ∧ Below W.heap.size W w') := H_ (fun W => (Z0y s hs W).mono fun e w' ⟨h1, h2⟩ => ⟨by rw [hp] at h1; exact h1, h2⟩)
   have CV : Hid (∀ (w1 W : World) (B : Nat) p n c, FV nS w1 (fun k => B ≤ k ∧ k < w1.heap.size) t (nS t (.slice p n c)) → Below w1.heap.size w1 W → Calls prog 96 #[.agg #[.string (bs (Z0 t)), .slice p n c]] W fun e w' => e = .returned (.bool (Ki t)) ∧ Below W.heap.size W w') :=
    H_ (fun w1 W B p n c hv hW => l2Valid_c (t.depth + 1) t (nS t (.slice p n c)) _ W (by omega) hwf hbt (hv.below hW (fun k hk => hk.2)) (fun k hk => Nat.lt_of_lt_of_le hk.2 hW.size))
   have CS : Hid (∀ (w1 W : World) (B : Nat) p n c, FV nS w1 (fun k => B ≤ k ∧ k < w1.heap.size) t (nS t (.slice p n c)) → Below w1.heap.size w1 W → Calls prog 97 #[.agg #[.string (bs (Z0 t)), .slice p n c]] W fun e w' => e = .returned (.int .i64 t.size) ∧ Below W.heap.size W w') :=
    H_ (fun w1 W B p n c hv hW => l1Size_c (t.depth + 1) t (nS t (.slice p n c)) _ W (by omega) hwf (by omega) (hv.below hW (fun k hk => hk.2)) (fun k hk => Nat.lt_of_lt_of_le hk.2 hW.size))
   have hst : t.size ≤ 12000 := by have := (Q8 t hwf).1; omega
   clear hg hbt
   cases hx : Ki t with
   | false =>
     have HD := H_ (Z8m hp hx)
     rw [hx] at CV
     clear hp hx hwf hst
     go_enter func49, ntmps49
     go_wp2_with (go_at_call 65; go_must (refine (C.out _).mono ?_; rintro e w1 ⟨⟨p, n, c, rfl, hv⟩, hb1⟩; have y0 := Z1 hb1 (by simp) (heap_alloc_new _ _); obtain ⟨z0, z1⟩ := Zm y0; obtain ⟨f0, f1⟩ := Ql y0; have hs1 := hb1.size; have hs4 : w.heap.size < w1.heap.size := (by simp at hs1; omega)))
     go_region_with (first | (go_at_call 96; refine (CV.out _ _ _ _ _ _ hv (((Below.refl _ _).alloc (Nat.le_refl _) _).drew)).mono ?_; rintro e w2 ⟨rfl, hb2⟩; have hk2 := (((Below.refl w1.heap.size w1).alloc (Nat.le_refl _) _).drew).trans (hb2.mono (by simp)); have y2 := Z1 hk2 hs4 y0; have x2 := Z1 hb2 (by simp) (heap_alloc_new _ _); obtain ⟨p0, p1⟩ := Zm y2; obtain ⟨q0, q1⟩ := Ql y2; obtain ⟨u0, u1⟩ := Zm x2; have hs5 : w.heap.size < w2.heap.size := (by have := hk2.size; omega)) | (go_at_call 97; refine (CS.out _ _ _ _ _ _ hv hk2).mono ?_; rintro e w3 ⟨rfl, hb3⟩; have hk3 := hk2.trans (hb3.mono hk2.size); have y3 := Z1 hk3 hs4 y0; have x3 := Z1 hb3 (lt_of_block x2) x2; obtain ⟨p0, p1⟩ := Zm y3; obtain ⟨q0, q1⟩ := Ql y3; obtain ⟨u0, u1⟩ := Zm x3; have hs6 : w.heap.size < w3.heap.size := (by have := hk3.size; omega)))
     all_goals
      go_wp2_with fail
      refine bodyPost_ret (v := .tuple #[.agg #[.string (bs (Z0 t)), .slice p n c], .bool false]) (by simp [results, results49, go_sem, p0, p1, hs4, hs5]) rfl ⟨?_, ?_⟩
      · rw [HD.out]; exact ⟨_, _, _, _, rfl, fv_lenS hv⟩
      · have hw1 : Below w.heap.size w w1 := (Z4 w _).trans (hb1.mono (by simp))
        exact set2 (hw1.trans (hk2.mono hw1.size)) _ _
   | true =>
     rw [hx] at CV
     by_cases hz : t.size ≤ 120
     · have HD := H_ (Z3l hp hx hz)
       have hz2 : (t.size : Int) ≤ 120 := by omega
       clear hp hx hwf
       go_enter func49, ntmps49
       go_wp2_with (go_at_call 65; go_must (refine (C.out _).mono ?_; rintro e w1 ⟨⟨p, n, c, rfl, hv⟩, hb1⟩; have y0 := Z1 hb1 (by simp) (heap_alloc_new _ _); obtain ⟨z0, z1⟩ := Zm y0; obtain ⟨f0, f1⟩ := Ql y0; have hs1 := hb1.size; have hs4 : w.heap.size < w1.heap.size := (by simp at hs1; omega)))
       go_region_with (first | (go_at_call 96; refine (CV.out _ _ _ _ _ _ hv (((Below.refl _ _).alloc (Nat.le_refl _) _).drew)).mono ?_; rintro e w2 ⟨rfl, hb2⟩; have hk2 := (((Below.refl w1.heap.size w1).alloc (Nat.le_refl _) _).drew).trans (hb2.mono (by simp)); have y2 := Z1 hk2 hs4 y0; have x2 := Z1 hb2 (by simp) (heap_alloc_new _ _); obtain ⟨p0, p1⟩ := Zm y2; obtain ⟨q0, q1⟩ := Ql y2; obtain ⟨u0, u1⟩ := Zm x2; have hs5 : w.heap.size < w2.heap.size := (by have := hk2.size; omega)) | (go_at_call 97; refine (CS.out _ _ _ _ _ _ hv hk2).mono ?_; rintro e w3 ⟨rfl, hb3⟩; have hk3 := hk2.trans (hb3.mono hk2.size); have y3 := Z1 hk3 hs4 y0; have x3 := Z1 hb3 (lt_of_block x2) x2; obtain ⟨p0, p1⟩ := Zm y3; obtain ⟨q0, q1⟩ := Ql y3; obtain ⟨u0, u1⟩ := Zm x3; have hs6 : w.heap.size < w3.heap.size := (by have := hk3.size; omega)))
       all_goals
        go_wp2_with fail
        refine bodyPost_ret (v := .tuple #[.agg #[.string (bs (Z0 t)), .slice p n c], .bool true]) (by simp [results, results49, go_sem, p0, p1, hs4, hs5, hs6]) rfl ⟨?_, ?_⟩
        · rw [HD.out]
          refine ⟨p, n, c, rfl, FV.move (fun k hk => ?_) (fun k hk => ?_) _ _ hv⟩
          · have := hk3.size; simp at hk ⊢; omega
          · rw [Za _ (by simp at hk ⊢; omega), Za _ (by simp at hk ⊢; omega)]; exact hk3.block k hk.2
        · have hw1 : Below w.heap.size w w1 := (Z4 w _).trans (hb1.mono (by simp))
          exact set2 (hw1.trans (hk3.mono hw1.size)) _ _
     · have HD := H_ (Z3n hp hz)
       have hz2 : ¬ (t.size : Int) ≤ 120 := by omega
       clear hp hx hwf
       go_enter func49, ntmps49
       go_wp2_with (go_at_call 65; go_must (refine (C.out _).mono ?_; rintro e w1 ⟨⟨p, n, c, rfl, hv⟩, hb1⟩; have y0 := Z1 hb1 (by simp) (heap_alloc_new _ _); obtain ⟨z0, z1⟩ := Zm y0; obtain ⟨f0, f1⟩ := Ql y0; have hs1 := hb1.size; have hs4 : w.heap.size < w1.heap.size := (by simp at hs1; omega)))
       go_region_with (first | (go_at_call 96; refine (CV.out _ _ _ _ _ _ hv (((Below.refl _ _).alloc (Nat.le_refl _) _).drew)).mono ?_; rintro e w2 ⟨rfl, hb2⟩; have hk2 := (((Below.refl w1.heap.size w1).alloc (Nat.le_refl _) _).drew).trans (hb2.mono (by simp)); have y2 := Z1 hk2 hs4 y0; have x2 := Z1 hb2 (by simp) (heap_alloc_new _ _); obtain ⟨p0, p1⟩ := Zm y2; obtain ⟨q0, q1⟩ := Ql y2; obtain ⟨u0, u1⟩ := Zm x2; have hs5 : w.heap.size < w2.heap.size := (by have := hk2.size; omega)) | (go_at_call 97; refine (CS.out _ _ _ _ _ _ hv hk2).mono ?_; rintro e w3 ⟨rfl, hb3⟩; have hk3 := hk2.trans (hb3.mono hk2.size); have y3 := Z1 hk3 hs4 y0; have x3 := Z1 hb3 (lt_of_block x2) x2; obtain ⟨p0, p1⟩ := Zm y3; obtain ⟨q0, q1⟩ := Ql y3; obtain ⟨u0, u1⟩ := Zm x3; have hs6 : w.heap.size < w3.heap.size := (by have := hk3.size; omega)))
       all_goals
        go_wp2_with fail
        refine bodyPost_ret (v := .tuple #[.agg #[.string (bs (Z0 t)), .slice p n c], .bool false]) (by simp [results, results49, go_sem, p0, p1, hs4, hs5, hs6]; omega) rfl ⟨?_, ?_⟩
        · rw [HD.out]; exact ⟨_, _, _, _, rfl, fv_lenS hv⟩
        · have hw1 : Below w.heap.size w w1 := (Z4 w _).trans (hb1.mono (by simp))
          exact set2 (hw1.trans (hk3.mono hw1.size)) _ _
theorem Z0k (s : ByteArray) (hs : s.size ≤ 1048576) (w : World) :
 Calls prog 67 #[.string s] w fun e w' => e = .returned (.bool (Qp s.data.toList).isSome) ∧ Below w.heap.size w w' := by
 go_enter func67, ntmps67
 go_wp2_with (go_at_call 49; go_must (refine (Z6i s hs _).mono ?_; rintro e w1 ⟨hp, hb1⟩; obtain ⟨a, p, n, c, rfl⟩ := Z0l hp; clear hp))
 go_ret
 exact ⟨rfl, hb1.alloc hb1.size _⟩
theorem Z2u {s : ByteArray} (hs : s.size ≤ 1048576) (hp : Qp s.data.toList = none) (W : World) : Calls prog 49 #[.string s] W fun e w' => (∃ a p n c, e = .returned (.tuple #[.agg #[.string a, .slice p n c], .bool false]) ∧ n ≤ maxLen) ∧ Below W.heap.size W w' :=
 (Z6i s hs W).mono fun e w' ⟨h1, h2⟩ => ⟨by rw [hp] at h1; exact h1, h2⟩
theorem Z2t {s : ByteArray} (hs : s.size ≤ 1048576) {t : Tr} (hp : Qp s.data.toList = some t) (W : World) : Calls prog 49 #[.string s] W fun e w' => (∃ p n c, e = .returned (.tuple #[.agg #[.string (bs (Z0 t)), .slice p n c], .bool true]) ∧ FV nS w' (fun k => W.heap.size ≤ k ∧ k < w'.heap.size) t (nS t (.slice p n c))) ∧ Below W.heap.size W w' :=
 (Z6i s hs W).mono fun e w' ⟨h1, h2⟩ => ⟨by rw [hp] at h1; exact h1, h2⟩
def headE (l : List UInt8) : List UInt8 := match Qp l with | none => [] | some t => headT t
theorem Z22 {w : World} {b : Nat} {l : List (List UInt8)} {t : TypeId} (h : w.heap[b]? = some (.cells (l.map Yj).toArray t (0, 0))) (c : Nat) (hl : l.length ≤ 1000000) : Zn w (.slice (some ⟨b, 0, none⟩) l.length c) l :=
 ⟨_, c, rfl, by omega, fun _ => ⟨b, 0, rfl, fun j v hj => by rw [Nat.zero_add, Z3 h]; simpa using hj⟩⟩
theorem Z2r (w : World) {n c : Nat} : ∀ k, (Value.slice (some ⟨w.heap.size + 1, 0, none⟩) n c).ownBlock = some k → w.heap.size < k := fun k hk => by simp [Value.ownBlock] at hk; omega
theorem Z18 {h : Tr} {ps : List Tr} {x : Ex} {a : Nat} (V : KidView h ps x a) {j : Nat} (hj : j < (Zc x).length) : a + j < (h :: ps).length := by
 have := V.len
 simp only [List.length_cons]; omega
theorem l2Binds_c (h : Tr) (ps : List Tr) (x : Ex) (a j : Nat) (V : KidView h ps x a) (hj : j < (Zc x).length) (cs : List Value) (ok : Nat → Prop) (w : World) (hv : FV nS w ok (.list (h :: ps)) cs) (hok : ∀ k, ok k → k < w.heap.size) :
 Calls prog 128 #[.agg cs.toArray, .int .i64 (a + j : Nat)] w fun e w' => (∃ v, e = .returned v ∧ Zn w' v (Y2 x j) ∧ ∀ k, v.ownBlock = some k → w.heap.size < k) ∧ Below w.heap.size w w' := by
 have h0 := V.bind j hj
 have hkb := Z18 V hj
 rw [← h0]
 clear h0
 have hV := V.two
 clear V hj
 generalize a + j = k at *
 simp only [FV] at hv
 obtain ⟨r, off, cap, xs, rfl, h2, h3, h4, h5, h6⟩ := hv
 have hrlt := hok r h2
 have e0 : w.cell? ⟨r, off, none⟩ = some (.string (bs (Z0 h))) := by
  obtain ⟨p, m, c, _, q, _⟩ := Vp h6 h5 0 (by simp)
  simpa using q
 obtain ⟨L, hL⟩ : ∃ L, L = (h :: ps).length := ⟨_, rfl⟩
 rw [← hL] at h3 hkb
 have hLm : L ≤ 9223372036854775807 := by have := Zt h4; omega
 by_cases hlet : Z0 h = Q3
 · have hps := hV.1 hlet
   have hL2 : 2 < L := by rw [hL]; simp only [List.length_cons]; omega
   have e1 : w.cell? ⟨r, off + 2, none⟩ = some (.string (bs (Z0 (ps.getD 0 default)))) := by
    obtain ⟨p, m, c, _, q, _⟩ := Vp h6 h5 1 (by simp only [List.length_cons]; omega)
    match ps, hps, q with
    | b :: l, _, q => simpa using q
   have s1 : ((bs (Z0 h)).toList == [108, 101, 116]) = true := by rw [Z5, hlet]; rfl
   by_cases h3k : k = 3
   · have HT := H_ (show Z0i h ps k = [Z0 (ps.getD 0 default)] by simp [Z0i, hlet, h3k])
     subst h3k
     generalize Z0 (ps.getD 0 default) = x0 at *
     generalize Z0i h ps 3 = T at *
     generalize Z0 h = hd0 at *
     simp only [nS, Z0, ← hL]
     clear hL hV hlet hps h6 h5
     go_enter func128, ntmps128
     go_wp2_with fail
     go_ret
     refine ⟨⟨_, rfl, ?_, Z2r w⟩, Zl _ _ _⟩
     rw [HT.out]
     exact Z22 (l := [x0]) (Z9 _ _ _) _ (by simp)
   · have HT := H_ (show Z0i h ps k = [] by simp [Z0i, hlet, h3k, Q3, Q1])
     have s2 : ((bs (Z0 h)).toList == [102, 117, 110]) = false := by rw [Z5, hlet]; rfl
     have h3i : ((k : Int) == 3) = false := by simp; omega
     generalize Z0i h ps k = T at *
     generalize Z0 h = hd0 at *
     simp only [nS, Z0, ← hL]
     clear hL hV hlet hps h6 h5 e1
     go_enter func128, ntmps128
     go_wp2_with fail
     go_ret
     refine ⟨⟨_, rfl, ?_, Z2r w⟩, Zl _ _ _⟩
     rw [HT.out]
     exact Z22 (l := []) (Z9 _ _ _) _ (by simp)
 have s1 : ((bs (Z0 h)).toList == [108, 101, 116]) = false := by rw [Z5]; simpa [Q3] using hlet
 by_cases hfun : Z0 h = Q1
 · have hps := hV.2 hfun
   have hL2 : 2 < L := by rw [hL]; simp only [List.length_cons]; omega
   have e1 : w.cell? ⟨r, off + 2, none⟩ = some (.string (bs (Z0 (ps.getD 0 default)))) := by
    obtain ⟨p, m, c, _, q, _⟩ := Vp h6 h5 1 (by simp only [List.length_cons]; omega)
    match ps, hps, q with
    | b :: l, _, q => simpa using q
   have e2 : w.cell? ⟨r, off + 4, none⟩ = some (.string (bs (Z0 (ps.getD 1 default)))) := by
    obtain ⟨p, m, c, _, q, _⟩ := Vp h6 h5 2 (by simp only [List.length_cons]; omega)
    match ps, hps, q with
    | b :: b2 :: l, _, q => simpa using q
   have s2 : ((bs (Z0 h)).toList == [102, 117, 110]) = true := by rw [Z5, hfun]; rfl
   have HT := H_ (show Z0i h ps k = [Z0 (ps.getD 0 default), Z0 (ps.getD 1 default)] by simp [Z0i, hlet, hfun, Q1, Q3])
   generalize Z0 (ps.getD 0 default) = x0 at *
   generalize Z0 (ps.getD 1 default) = x1 at *
   generalize Z0i h ps k = T at *
   generalize Z0 h = hd0 at *
   simp only [nS, Z0, ← hL]
   clear hL hV hlet hfun hps h6 h5
   go_enter func128, ntmps128
   go_wp2_with fail
   go_region_with (fail)
   all_goals
    go_wp2_with fail
    go_ret
    refine ⟨⟨_, rfl, ?_, Z2r w⟩, ?_⟩
    · rw [HT.out]
      exact Z22 (l := [x0, x1]) (Z9 _ _ _) _ (by simp)
    · exact (Zl _ _ _).drew
 have s2 : ((bs (Z0 h)).toList == [102, 117, 110]) = false := by rw [Z5]; simpa [Q1] using hfun
 have HT := H_ (show Z0i h ps k = [] by simp [Z0i, hlet, hfun])
 generalize Z0i h ps k = T at *
 generalize Z0 h = hd0 at *
 simp only [nS, Z0, ← hL]
 clear hL hV hlet hfun h6 h5
 go_enter func128, ntmps128
 go_wp2_with fail
 go_ret
 refine ⟨⟨_, rfl, ?_, Z2r w⟩, Zl _ _ _⟩
 rw [HT.out]
 exact Z22 (l := []) (Z9 _ _ _) _ (by simp)
end Go.Proofs.YtfknoigbkleanaaGreatDoor
