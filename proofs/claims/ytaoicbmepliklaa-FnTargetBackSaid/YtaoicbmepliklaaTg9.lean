/- The program makes the target type of a type, and of what goes on with it. -/
import Derived.Test.YtaoicbmepliklaaTg8
import Derived.Deep.RegionWith
import Derived.Deep.RegionHeld3
namespace Go.Proofs.Ytaoicbmepliklaa
open Go.RowKit
set_option maxRecDepth 8000
set_option linter.unusedSimpArgs false
set_option linter.unusedVariables false
theorem pk_bytes (ts : List Tr) : (pk ts).bytes = 15 + bytess ts := by simp only [pk, Tr.bytes, bytess, List.length_cons, List.length_nil]; omega
theorem pk_wf {ts : List Tr} (h : wfs ts) : (pk ts).wf :=
  ⟨by simp, (okAt_one (by decide)).1, ⟨by simp, (okAt_one (by decide)).1, ⟨by simp, (okAt_one (by decide)).1, (okAt_one (by decide)).1, h⟩, (okAt_one (by decide)).1, trivial⟩, trivial⟩
theorem tyT_size (c : List UInt8) (a b : Tr) : (tyT c a b).size = 1 + a.size + b.size := by simp only [tyT, Tr.size, sizes]; omega
theorem tyT_kids {c : List UInt8} {a b : Tr} : a.bytes < (tyT c a b).bytes ∧ b.bytes < (tyT c a b).bytes := by simp only [tyT, Tr.bytes, bytess]; omega
theorem tOf_fits : ∀ t : Tr, isTy t = true → (tOf t).wf ∧ (tOf t).bytes ≤ 40 * t.size
  | t, h => by
    rcases isTy_view t h with rfl | ⟨c, a, b, hc, rfl, ha, hb⟩
    · rw [tOf_atom]; exact ⟨(okAt_one (by decide)).1, by simp [Tr.bytes, Tr.size]⟩
    · have k1 := (tyT_kids (c := c) (a := a) (b := b)).1
      have k2 := (tyT_kids (c := c) (a := a) (b := b)).2
      obtain ⟨w1, b1⟩ := tOf_fits a ha
      obtain ⟨w2, b2⟩ := tOf_fits b hb
      rw [tyT_size]
      rcases hc with rfl | rfl
      · rw [tOf_fun]
        refine ⟨pk_wf ⟨w1, pk_wf ⟨w2, trivial⟩, trivial⟩, ?_⟩
        rw [pk_bytes]; simp only [bytess, pk_bytes]; omega
      · rw [tOf_pair]
        refine ⟨⟨by simp, (okAt_one (by decide)).1, w1, w2, trivial⟩, ?_⟩
        simp only [Tr.bytes, bytess, List.length_cons, List.length_nil]; omega
termination_by t => t.bytes
theorem packedCode_n (n : Nat) (ts : List Tr) (hn : ts.length = n) (xs : List Value) (ok : Nat → Prop) (r cap : Nat) (w : World) (hv : FVs nI w ok ts xs) (hrow : hasRow w r 0 xs) (hok : ∀ k, ok k → k < w.heap.size) (hrl : r < w.heap.size) (hwf : wfs ts) (hb : bytess ts ≤ 90000000) :
    Calls Try.prog 62 #[.slice (some ⟨r, 0, none⟩) n cap] w fun e w' => MadeF (okN ok w.heap.size w') (pk ts) e w' ∧ Below w.heap.size w w' := by
  subst hn; exact packedCode_c ts xs ok r 0 cap w hv hrow hok hrl hwf hb
/-- The new blocks of a call. -/
def newK (B : Nat) (w : World) : Nat → Prop := fun k => B ≤ k ∧ k < w.heap.size
/-- A form that was made, by its values. -/
def MadeU (okk : Nat → Prop) (T : Tr) (u : ByteArray) (b1 b2 b3 : Int) (e : Ending) (w' : World) : Prop := ∃ p n c, e = .returned (.agg #[.string u, .slice p n c, .int .i64 b1, .int .i64 b2, .int .i64 b3]) ∧ FV nI w' okk T [.string u, .slice p n c, .int .i64 b1, .int .i64 b2, .int .i64 b3]
theorem madeU_of {okk okk' : Nat → Prop} {T : Tr} {u : ByteArray} {b1 b2 b3 : Int} {e : Ending} {w' : World} (h : MadeF okk T e w') (h0 : u = bs (atomOf T)) (h1 : b1 = T.bytes) (h2 : b2 = T.size) (h3 : b3 = T.depth) (hk : ∀ k, okk k → okk' k) : MadeU okk' T u b1 b2 b3 e w' := by
  obtain ⟨p, n, c, h4, h5⟩ := h
  exact ⟨p, n, c, by rw [h4, h0, h1, h2, h3], by rw [h0, h1, h2, h3]; exact h5.wide hk⟩
theorem madeF_of {okk okk' : Nat → Prop} {T : Tr} {u : ByteArray} {b1 b2 b3 : Int} {e : Ending} {w' : World} (h : MadeU okk T u b1 b2 b3 e w') (h0 : u = bs (atomOf T)) (h1 : b1 = T.bytes) (h2 : b2 = T.size) (h3 : b3 = T.depth) (hk : ∀ k, okk k → okk' k) : MadeF okk' T e w' := by
  obtain ⟨p, n, c, h4, h5⟩ := h
  exact ⟨p, n, c, by rw [h4, h0, h1, h2, h3], by rw [h0, h1, h2, h3] at h5; exact h5.wide hk⟩
/-- The contract of targetForm at types of a depth below n. -/
def TFc (n : Nat) : Prop := ∀ (t : Tr) (p : Option Addr) (m c : Nat) (w : World), t.depth < n → isTy t = true → t.wf → t.size ≤ 16 → FV nI w (fun q => q < w.heap.size) t (nI t (.slice p m c)) →
    Calls Try.prog 33 #[.agg #[.string (bs (atomOf t)), .slice p m c, .int .i64 t.bytes, .int .i64 t.size, .int .i64 t.depth]] w fun e w' => MadeF (newK w.heap.size w') (tOf t) e w' ∧ Below w.heap.size w w'
set_option maxHeartbeats 4000000 in
theorem nextForm_c (n : Nat) (ih : TFc n) (t : Tr) (p : Option Addr) (m c : Nat) (w : World) (hd : t.depth < n) (hty : isTy t = true) (hwf : t.wf) (hsz : t.size ≤ 16) (hv : FV nI w (fun q => q < w.heap.size) t (nI t (.slice p m c))) :
    Calls Try.prog 36 #[.agg #[.string (bs (atomOf t)), .slice p m c, .int .i64 t.bytes, .int .i64 t.size, .int .i64 t.depth]] w fun e w' => MadeF (newK w.heap.size w') (pk [tOf t]) e w' ∧ Below w.heap.size w w' := by
  obtain ⟨hfw, hfb⟩ := tOf_fits t hty
  obtain ⟨u, hu⟩ : ∃ u, u = bs (atomOf (tOf t)) := ⟨_, rfl⟩
  obtain ⟨a1, ha1⟩ : ∃ x : Int, x = (tOf t).bytes := ⟨_, rfl⟩
  obtain ⟨a2, ha2⟩ : ∃ x : Int, x = (tOf t).size := ⟨_, rfl⟩
  obtain ⟨a3, ha3⟩ : ∃ x : Int, x = (tOf t).depth := ⟨_, rfl⟩
  obtain ⟨e1, he1⟩ : ∃ x : Int, x = (pk [tOf t]).bytes := ⟨_, rfl⟩
  obtain ⟨e2, he2⟩ : ∃ x : Int, x = (pk [tOf t]).size := ⟨_, rfl⟩
  obtain ⟨e3, he3⟩ : ∃ x : Int, x = (pk [tOf t]).depth := ⟨_, rfl⟩
  have C1 : Hid (∀ W, Below w.heap.size w W → Calls Try.prog 33 #[.agg #[.string (bs (atomOf t)), .slice p m c, .int .i64 t.bytes, .int .i64 t.size, .int .i64 t.depth]] W fun e w' => MadeU (newK W.heap.size w') (tOf t) u a1 a2 a3 e w' ∧ Below W.heap.size W w') :=
    Lib.hid (fun W hW => (ih t p m c W hd hty hwf hsz ((hv.below hW (fun k hk => hk)).wide (fun k hk => Nat.lt_of_lt_of_le hk hW.size))).mono fun e w' ⟨h1, h2⟩ => ⟨madeU_of h1 hu ha1 ha2 ha3 (fun k hk => hk), h2⟩)
  have C2 : Hid (∀ (X : World) (g B : Nat) (q : Option Addr) (m2 c2 : Nat), FV nI X (newK B X) (tOf t) [.string u, .slice q m2 c2, .int .i64 a1, .int .i64 a2, .int .i64 a3] → X.heap[g]? = some (.cells #[.string u, .slice q m2 c2, .int .i64 a1, .int .i64 a2, .int .i64 a3] 41 (0, 0)) → B ≤ X.heap.size → Calls Try.prog 62 #[.slice (some ⟨g, 0, none⟩) 1 1] X fun e w' => MadeV (newK B w') (pk [tOf t]) e1 e2 e3 e w' ∧ Below X.heap.size X w') :=
    Lib.hid (fun X g B q m2 c2 k1 k2 k3 => (packedCode_n 1 [tOf t] rfl ([.string u, .slice q m2 c2, .int .i64 a1, .int .i64 a2, .int .i64 a3] ++ []) (newK B X) g 1 X (by simp only [FVs]; exact ⟨_, _, rfl, k1, rfl⟩) (row_of k2) (fun k hk => hk.2) (lt_of_block k2) ⟨hfw, trivial⟩ (by simp only [bytess]; omega)).mono fun e w' ⟨h1, h2⟩ => ⟨madeV_of h1 he1 he2 he3 (fun k hk => hk.elim (fun h => ⟨h.1, Nat.lt_of_lt_of_le h.2 h2.size⟩) (fun h => ⟨by omega, h.2⟩)), h2⟩)
  have HE1 := Lib.hid (And.intro he1 (And.intro he2 he3))
  clear ih hv hu ha1 ha2 ha3 he1 he2 he3 hfw hfb hty hwf hsz hd
  generalize bs (atomOf t) = A at *
  obtain ⟨n1, hn1⟩ : ∃ x : Int, x = t.bytes := ⟨_, rfl⟩
  obtain ⟨n2, hn2⟩ : ∃ x : Int, x = t.size := ⟨_, rfl⟩
  obtain ⟨n3, hn3⟩ : ∃ x : Int, x = t.depth := ⟨_, rfl⟩
  rw [← hn1, ← hn2, ← hn3] at C1 ⊢
  clear hn1 hn2 hn3
  go_enter Try.func36, Try.ntmps36
  go_wp2_with (first | (go_at_call 33; go_must (refine (C1.out _ (below2 w _ _)).mono ?_; rintro e w1 ⟨⟨p1, m1, c1, rfl, hf1⟩, hb1⟩; have hs1 := hb1.size; have y1 := below_blk hb1 (by simp) (heap_alloc_new2 w _ _); have hB1 := (below2 w _ _).trans (hb1.mono (by simp; omega)))) | (go_at_call 62; go_must (refine (C2.out _ _ (w.heap.size + 2) _ _ _ (FV.move (fun k hk => ⟨by have := hk.1; simp at this; omega, by have := hk.2; simp; omega⟩) (fun k hk => heap_alloc_old _ _ hk.2) _ _ hf1) (heap_alloc_new w1 _) (by simp at hs1 ⊢; omega)).mono ?_; rintro e w2 ⟨⟨p2, m2, c2, rfl, hf2⟩, hb2⟩; have hs2 := hb2.size; have y2 := below_blk hb2 (by simp at hs1 ⊢; omega) (blk_alloc y1); have hB2 := (hB1.alloc hB1.size _).trans (hb2.mono (by simp at hs1 ⊢; omega)); have z0 := cell_of (j := 0) y2; have z1 := cell_of (j := 1) y2; have z2 := cell_of (j := 2) y2; have z3 := cell_of (j := 3) y2; have z4 := cell_of (j := 4) y2; have f0 := free_of (j := 0) y2; have f1 := free_of (j := 1) y2; have f2 := free_of (j := 2) y2; have f3 := free_of (j := 3) y2; have f4 := free_of (j := 4) y2)))
  have O := set5_same y2 (.string ⟨#[]⟩) (.slice p2 m2 c2) (.int .i64 e1) (.int .i64 e2) (.int .i64 e3)
  have u0 := cell_of (j := 0) O
  have u1 := cell_of (j := 1) O
  have u2 := cell_of (j := 2) O
  have u3 := cell_of (j := 3) O
  have u4 := cell_of (j := 4) O
  refine bodyPost_ret (v := .agg #[.string ⟨#[]⟩, .slice p2 m2 c2, .int .i64 e1, .int .i64 e2, .int .i64 e3]) (by simp [results, Try.results36, go_sem, u0, u1, u2, u3, u4]) rfl ⟨⟨p2, m2, c2, by rw [HE1.out.1, HE1.out.2.1, HE1.out.2.2]; rfl, ?_⟩, ?_⟩
  · exact FV.move (fun k hk => ⟨by have := hk.1; omega, by have := hk.2; simp; omega⟩) (fun k hk => by have : k ≠ w.heap.size + 1 := (by have := hk.1; omega); rw [set5_other this]) _ _ hf2
  · exact set5 (B := w.heap.size) hB2 (by omega) _ _ _ _ _
theorem sides_yes_v {c : UInt8} {a b : Tr} (w : World) (p : Option Addr) (n k : Nat) (u ua ub : ByteArray) (x1 x2 x3 a1 a2 a3 b1 b2 b3 : Int) (hty : isTy (tyT [c] a b) = true) (hwf : (tyT [c] a b).wf) (hv : FV nI w (fun q => q < w.heap.size) (tyT [c] a b) (nI (tyT [c] a b) (.slice p n k)))
    (hn : ∀ v, nI (tyT [c] a b) v = [.string u, v, .int .i64 x1, .int .i64 x2, .int .i64 x3]) (hna : ∀ v, nI a v = [.string ua, v, .int .i64 a1, .int .i64 a2, .int .i64 a3]) (hnb : ∀ v, nI b v = [.string ub, v, .int .i64 b1, .int .i64 b2, .int .i64 b3]) :
    Calls Try.prog 61 #[.agg #[.string u, .slice p n k, .int .i64 x1, .int .i64 x2, .int .i64 x3], .string ⟨#[c]⟩] w fun e w' => (∃ p1 n1 c1 p2 n2 c2, e = .returned (.tuple #[.agg #[.string ua, .slice p1 n1 c1, .int .i64 a1, .int .i64 a2, .int .i64 a3], .agg #[.string ub, .slice p2 n2 c2, .int .i64 b1, .int .i64 b2, .int .i64 b3], .bool true]) ∧ FV nI w' (fun k => k < w.heap.size) a [.string ua, .slice p1 n1 c1, .int .i64 a1, .int .i64 a2, .int .i64 a3] ∧ FV nI w' (fun k => k < w.heap.size) b [.string ub, .slice p2 n2 c2, .int .i64 b1, .int .i64 b2, .int .i64 b3]) ∧ Below w.heap.size w w' := by
  have h := sides_c c (tyT [c] a b) p n k w hty hwf hv
  have hs : sidesTr c (tyT [c] a b) = some (a, b) := by rw [tyT]; exact sidesTr_yes rfl
  rw [hs] at h
  have e1 := hn (.slice p n k)
  simp only [nI, List.cons.injEq, Value.string.injEq, Value.int.injEq, true_and, and_true] at e1
  rw [e1.1, e1.2.1, e1.2.2.1, e1.2.2.2] at h
  refine h.mono fun e w' ⟨⟨p1, n1, c1, p2, n2, c2, k1, k2, k3⟩, k4⟩ => ⟨⟨p1, n1, c1, p2, n2, c2, ?_, ?_, ?_⟩, k4⟩
  · have e2 := hna (.slice p1 n1 c1)
    have e3 := hnb (.slice p2 n2 c2)
    simp only [nI, List.cons.injEq, Value.string.injEq, Value.int.injEq, true_and, and_true] at e2 e3
    rw [k1, e2.1, e2.2.1, e2.2.2.1, e2.2.2.2, e3.1, e3.2.1, e3.2.2.1, e3.2.2.2]
  · rw [← hna]; exact k2
  · rw [← hnb]; exact k3
theorem sides_no_v {c : UInt8} {t : Tr} (w : World) (p : Option Addr) (n k : Nat) (u : ByteArray) (x1 x2 x3 : Int) (hty : isTy t = true) (hwf : t.wf) (hv : FV nI w (fun q => q < w.heap.size) t (nI t (.slice p n k))) (hs : sidesTr c t = none)
    (hn : ∀ v, nI t v = [.string u, v, .int .i64 x1, .int .i64 x2, .int .i64 x3]) :
    Calls Try.prog 61 #[.agg #[.string u, .slice p n k, .int .i64 x1, .int .i64 x2, .int .i64 x3], .string ⟨#[c]⟩] w fun e w' => e = .returned (.tuple #[.agg #[.string ⟨#[]⟩, .slice none 0 0, .int .i64 0, .int .i64 0, .int .i64 0], .agg #[.string ⟨#[]⟩, .slice none 0 0, .int .i64 0, .int .i64 0, .int .i64 0], .bool false]) ∧ Below w.heap.size w w' := by
  have h := sides_c c t p n k w hty hwf hv
  rw [hs] at h
  have e1 := hn (.slice p n k)
  simp only [nI, List.cons.injEq, Value.string.injEq, Value.int.injEq, true_and, and_true] at e1
  rw [e1.1, e1.2.1, e1.2.2.1, e1.2.2.2] at h
  exact h
theorem FV.over {w X : World} {B B' : Nat} {T : Tr} {cs : List Value} (h : FV nI w (newK B w) T cs) (hX : ∀ k, k < w.heap.size → X.heap[k]? = w.heap[k]?) (hs : w.heap.size ≤ X.heap.size) (hB : B' ≤ B) : FV nI X (newK B' X) T cs :=
  FV.move (fun k hk => ⟨Nat.le_trans hB hk.1, Nat.lt_of_lt_of_le hk.2 hs⟩) (fun k hk => hX k hk.2) _ _ h
/-- Two forms in a row of a call's own. -/
theorem two_forms {X : World} {okk : Nat → Prop} {a b : Tr} {x y : List Value} (ha : FV nI X okk a x) (hb : FV nI X okk b y) : FVs nI X okk [a, b] (x ++ (y ++ [])) := by
  simp only [FVs]; exact ⟨_, _, rfl, ha, _, _, rfl, hb, rfl⟩
set_option maxHeartbeats 20000000 in
theorem tf_fun (n : Nat) (ih : TFc n) (a b : Tr) (p : Option Addr) (m c : Nat) (w : World) (hd : (tyT [62] a b).depth < n + 1) (hty : isTy (tyT [62] a b) = true) (hwf : (tyT [62] a b).wf) (hsz : (tyT [62] a b).size ≤ 16) (hv : FV nI w (fun q => q < w.heap.size) (tyT [62] a b) (nI (tyT [62] a b) (.slice p m c))) (u : ByteArray) (x1 x2 x3 : Int) (hn : ∀ v, nI (tyT [62] a b) v = [.string u, v, .int .i64 x1, .int .i64 x2, .int .i64 x3]) :
    Calls Try.prog 33 #[.agg #[.string u, .slice p m c, .int .i64 x1, .int .i64 x2, .int .i64 x3]] w fun e w' => MadeF (newK w.heap.size w') (pk [tOf a, pk [tOf b]]) e w' ∧ Below w.heap.size w w' := by
  have hty2 := hty
  rw [isTy_tyT (.inl rfl), Bool.and_eq_true] at hty2
  obtain ⟨hta, htb⟩ := hty2
  have hwa : a.wf := hwf.2.2.1
  have hwb : b.wf := hwf.2.2.2.1
  have hss := tyT_size [62] a b
  have hda : a.depth < n := by simp only [tyT, Tr.depth, depths] at hd; omega
  have hdb : b.depth < n := by simp only [tyT, Tr.depth, depths] at hd; omega
  obtain ⟨fwa, fba⟩ := tOf_fits a hta
  obtain ⟨fwb, fbb⟩ := tOf_fits b htb
  obtain ⟨ua, a1, a2, a3, -, -, -, -, hna⟩ := nI_named a
  obtain ⟨ub, b1, b2, b3, -, -, -, -, hnb⟩ := nI_named b
  obtain ⟨v1, hv1⟩ : ∃ u, u = bs (atomOf (tOf a)) := ⟨_, rfl⟩
  obtain ⟨f1, hf1⟩ : ∃ x : Int, x = (tOf a).bytes := ⟨_, rfl⟩
  obtain ⟨f2, hf2⟩ : ∃ x : Int, x = (tOf a).size := ⟨_, rfl⟩
  obtain ⟨f3, hf3⟩ : ∃ x : Int, x = (tOf a).depth := ⟨_, rfl⟩
  obtain ⟨g1, hg1⟩ : ∃ x : Int, x = (pk [tOf b]).bytes := ⟨_, rfl⟩
  obtain ⟨g2, hg2⟩ : ∃ x : Int, x = (pk [tOf b]).size := ⟨_, rfl⟩
  obtain ⟨g3, hg3⟩ : ∃ x : Int, x = (pk [tOf b]).depth := ⟨_, rfl⟩
  obtain ⟨e1, he1⟩ : ∃ x : Int, x = (pk [tOf a, pk [tOf b]]).bytes := ⟨_, rfl⟩
  obtain ⟨e2, he2⟩ : ∃ x : Int, x = (pk [tOf a, pk [tOf b]]).size := ⟨_, rfl⟩
  obtain ⟨e3, he3⟩ : ∃ x : Int, x = (pk [tOf a, pk [tOf b]]).depth := ⟨_, rfl⟩
  have eqa := hna (.slice none 0 0)
  have eqb := hnb (.slice none 0 0)
  simp only [nI, List.cons.injEq, Value.string.injEq, Value.int.injEq, true_and, and_true] at eqa eqb
  have CS : Hid (∀ W, Below w.heap.size w W → Calls Try.prog 61 #[.agg #[.string u, .slice p m c, .int .i64 x1, .int .i64 x2, .int .i64 x3], .string ⟨#[62]⟩] W fun e w' => (∃ p1 n1 c1 p2 n2 c2, e = .returned (.tuple #[.agg #[.string ua, .slice p1 n1 c1, .int .i64 a1, .int .i64 a2, .int .i64 a3], .agg #[.string ub, .slice p2 n2 c2, .int .i64 b1, .int .i64 b2, .int .i64 b3], .bool true]) ∧ FV nI w' (fun k => k < W.heap.size) a [.string ua, .slice p1 n1 c1, .int .i64 a1, .int .i64 a2, .int .i64 a3] ∧ FV nI w' (fun k => k < W.heap.size) b [.string ub, .slice p2 n2 c2, .int .i64 b1, .int .i64 b2, .int .i64 b3]) ∧ Below W.heap.size W w') :=
    Lib.hid (fun W hW => sides_yes_v W p m c u ua ub x1 x2 x3 a1 a2 a3 b1 b2 b3 hty hwf ((hv.below hW (fun k hk => hk)).wide (fun k hk => Nat.lt_of_lt_of_le hk hW.size)) hn hna hnb)
  have C1 : Hid (∀ (W : World) (q : Option Addr) (m1 c1 : Nat), FV nI W (fun k => k < W.heap.size) a [.string ua, .slice q m1 c1, .int .i64 a1, .int .i64 a2, .int .i64 a3] → Calls Try.prog 33 #[.agg #[.string ua, .slice q m1 c1, .int .i64 a1, .int .i64 a2, .int .i64 a3]] W fun e w' => MadeU (newK W.heap.size w') (tOf a) v1 f1 f2 f3 e w' ∧ Below W.heap.size W w') :=
    Lib.hid (fun W q m1 c1 k1 => by
      have := ih a q m1 c1 W hda hta hwa (by omega) (by rw [hna]; exact k1)
      rw [eqa.1, eqa.2.1, eqa.2.2.1, eqa.2.2.2] at this
      exact this.mono fun e w' ⟨h1, h2⟩ => ⟨madeU_of h1 hv1 hf1 hf2 hf3 (fun k hk => hk), h2⟩)
  have C2 : Hid (∀ (W : World) (q : Option Addr) (m1 c1 : Nat), FV nI W (fun k => k < W.heap.size) b [.string ub, .slice q m1 c1, .int .i64 b1, .int .i64 b2, .int .i64 b3] → Calls Try.prog 36 #[.agg #[.string ub, .slice q m1 c1, .int .i64 b1, .int .i64 b2, .int .i64 b3]] W fun e w' => MadeU (newK W.heap.size w') (pk [tOf b]) ⟨#[]⟩ g1 g2 g3 e w' ∧ Below W.heap.size W w') :=
    Lib.hid (fun W q m1 c1 k1 => by
      have := nextForm_c n ih b q m1 c1 W hdb htb hwb (by omega) (by rw [hnb]; exact k1)
      rw [eqb.1, eqb.2.1, eqb.2.2.1, eqb.2.2.2] at this
      exact this.mono fun e w' ⟨h1, h2⟩ => ⟨madeU_of h1 rfl hg1 hg2 hg3 (fun k hk => hk), h2⟩)
  have C3 : Hid (∀ (X : World) (g B : Nat) (q r : Option Addr) (m1 c1 m2 c2 : Nat), FV nI X (newK B X) (tOf a) [.string v1, .slice q m1 c1, .int .i64 f1, .int .i64 f2, .int .i64 f3] → FV nI X (newK B X) (pk [tOf b]) [.string ⟨#[]⟩, .slice r m2 c2, .int .i64 g1, .int .i64 g2, .int .i64 g3] → X.heap[g]? = some (.cells #[.string v1, .slice q m1 c1, .int .i64 f1, .int .i64 f2, .int .i64 f3, .string ⟨#[]⟩, .slice r m2 c2, .int .i64 g1, .int .i64 g2, .int .i64 g3] 41 (0, 0)) → B ≤ X.heap.size → Calls Try.prog 62 #[.slice (some ⟨g, 0, none⟩) 2 2] X fun e w' => MadeV (newK B w') (pk [tOf a, pk [tOf b]]) e1 e2 e3 e w' ∧ Below X.heap.size X w') :=
    Lib.hid (fun X g B q r m1 c1 m2 c2 k1 k2 k3 k4 => (packedCode_n 2 [tOf a, pk [tOf b]] rfl _ (newK B X) g 2 X (two_forms k1 k2) (row_of k3) (fun k hk => hk.2) (lt_of_block k3) ⟨fwa, pk_wf ⟨fwb, trivial⟩, trivial⟩ (by simp only [bytess, pk_bytes]; omega)).mono fun e w' ⟨h1, h2⟩ => ⟨madeV_of h1 he1 he2 he3 (fun k hk => hk.elim (fun h => ⟨h.1, Nat.lt_of_lt_of_le h.2 h2.size⟩) (fun h => ⟨by omega, h.2⟩)), h2⟩)
  have HE1 := Lib.hid (And.intro he1 (And.intro he2 he3))
  clear ih hv hn hna hnb eqa eqb hv1 hf1 hf2 hf3 hg1 hg2 hg3 he1 he2 he3 fwa fba fwb fbb hta htb hwa hwb hda hdb hss hty hwf hsz hd
  go_enter Try.func33, Try.ntmps33
  go_wp2_with (go_at_call 61; go_must (refine (CS.out _ (below2 w _ _)).mono ?_; rintro e w1 ⟨⟨p1, n1, c1, p2, n2, c2, rfl, hfa, hfb⟩, hb1⟩; have hs1 := hb1.size; have y1 := below_blk hb1 (by simp) (heap_alloc_new2 w _ _); have hB1 := (below2 w _ _).trans (hb1.mono (by simp; omega))))
  have hlim : ((w.alloc (.cells #[.string u, .slice p m c, .int .i64 x1, .int .i64 x2, .int .i64 x3] 41)).alloc (.cells #[.string ⟨#[]⟩, .slice none 0 0, .int .i64 0, .int .i64 0, .int .i64 0] 41)).heap.size ≤ w1.heap.size := hs1
  have ca := blk_alloc (o' := .cells #[.string ub, .slice p2 n2 c2, .int .i64 b1, .int .i64 b2, .int .i64 b3] 41) (heap_alloc_new w1 (.cells #[.string ua, .slice p1 n1 c1, .int .i64 a1, .int .i64 a2, .int .i64 a3] 41))
  have cb := heap_alloc_new2 w1 (.cells #[.string ua, .slice p1 n1 c1, .int .i64 a1, .int .i64 a2, .int .i64 a3] 41) (.cells #[.string ub, .slice p2 n2 c2, .int .i64 b1, .int .i64 b2, .int .i64 b3] 41)
  have cy := blk_alloc (o' := .cells #[.string ub, .slice p2 n2 c2, .int .i64 b1, .int .i64 b2, .int .i64 b3] 41) (blk_alloc (o' := .cells #[.string ua, .slice p1 n1 c1, .int .i64 a1, .int .i64 a2, .int .i64 a3] 41) y1)
  have hsa : ((w1.alloc (.cells #[.string ua, .slice p1 n1 c1, .int .i64 a1, .int .i64 a2, .int .i64 a3] 41)).alloc (.cells #[.string ub, .slice p2 n2 c2, .int .i64 b1, .int .i64 b2, .int .i64 b3] 41)).heap.size = w1.heap.size + 2 := by simp
  have hBa := (hB1.alloc hB1.size (.cells #[.string ua, .slice p1 n1 c1, .int .i64 a1, .int .i64 a2, .int .i64 a3] 41)).alloc (Nat.le_trans hB1.size (by simp)) (.cells #[.string ub, .slice p2 n2 c2, .int .i64 b1, .int .i64 b2, .int .i64 b3] 41)
  have hfa2 := FV.move (w' := ((w1.alloc (.cells #[.string ua, .slice p1 n1 c1, .int .i64 a1, .int .i64 a2, .int .i64 a3] 41)).alloc (.cells #[.string ub, .slice p2 n2 c2, .int .i64 b1, .int .i64 b2, .int .i64 b3] 41))) (ok' := fun k => k < w1.heap.size) (fun k hk => Nat.lt_of_lt_of_le hk hlim) (fun k hk => by have := Nat.lt_of_lt_of_le hk hlim; rw [heap_alloc_old (h := by simp; omega), heap_alloc_old (h := this)]) _ _ hfa
  have hfb2 := FV.move (w' := ((w1.alloc (.cells #[.string ua, .slice p1 n1 c1, .int .i64 a1, .int .i64 a2, .int .i64 a3] 41)).alloc (.cells #[.string ub, .slice p2 n2 c2, .int .i64 b1, .int .i64 b2, .int .i64 b3] 41))) (ok' := fun k => k < w1.heap.size) (fun k hk => Nat.lt_of_lt_of_le hk hlim) (fun k hk => by have := Nat.lt_of_lt_of_le hk hlim; rw [heap_alloc_old (h := by simp; omega), heap_alloc_old (h := this)]) _ _ hfb
  generalize hwx : (w1.alloc (.cells #[.string ua, .slice p1 n1 c1, .int .i64 a1, .int .i64 a2, .int .i64 a3] 41)).alloc (.cells #[.string ub, .slice p2 n2 c2, .int .i64 b1, .int .i64 b2, .int .i64 b3] 41) = wa at *
  have KA : Hid (∀ W, Below wa.heap.size wa W → (W.cell? ⟨w1.heap.size, 0, none⟩ = some (.string ua) ∧ W.cell? ⟨w1.heap.size, 1, none⟩ = some (.slice p1 n1 c1) ∧ W.cell? ⟨w1.heap.size, 2, none⟩ = some (.int .i64 a1) ∧ W.cell? ⟨w1.heap.size, 3, none⟩ = some (.int .i64 a2) ∧ W.cell? ⟨w1.heap.size, 4, none⟩ = some (.int .i64 a3) ∧ W.cell? ⟨w1.heap.size + 1, 0, none⟩ = some (.string ub) ∧ W.cell? ⟨w1.heap.size + 1, 1, none⟩ = some (.slice p2 n2 c2) ∧ W.cell? ⟨w1.heap.size + 1, 2, none⟩ = some (.int .i64 b1) ∧ W.cell? ⟨w1.heap.size + 1, 3, none⟩ = some (.int .i64 b2) ∧ W.cell? ⟨w1.heap.size + 1, 4, none⟩ = some (.int .i64 b3)) ∧ W.heap[w.heap.size + 1]? = some (.cells #[.string ⟨#[]⟩, .slice none 0 0, .int .i64 0, .int .i64 0, .int .i64 0] 41 (0, 0))) := Lib.hid (fun W hW => by
    have h1 := below_blk hW (lt_of_block ca) ca
    have h2 := below_blk hW (lt_of_block cb) cb
    have h3 := below_blk hW (lt_of_block cy) cy
    exact ⟨⟨cell_of (j := 0) h1, cell_of (j := 1) h1, cell_of (j := 2) h1, cell_of (j := 3) h1, cell_of (j := 4) h1, cell_of (j := 0) h2, cell_of (j := 1) h2, cell_of (j := 2) h2, cell_of (j := 3) h2, cell_of (j := 4) h2⟩, h3⟩)
  have KFa : Hid (∀ W, Below wa.heap.size wa W → FV nI W (fun k => k < W.heap.size) a [.string ua, .slice p1 n1 c1, .int .i64 a1, .int .i64 a2, .int .i64 a3]) := Lib.hid (fun W hW => FV.move (fun k hk => by have := hW.size; omega) (fun k hk => hW.block k (by omega)) _ _ hfa2)
  have KFb : Hid (∀ W, Below wa.heap.size wa W → FV nI W (fun k => k < W.heap.size) b [.string ub, .slice p2 n2 c2, .int .i64 b1, .int .i64 b2, .int .i64 b3]) := Lib.hid (fun W hW => FV.move (fun k hk => by have := hW.size; omega) (fun k hk => hW.block k (by omega)) _ _ hfb2)
  have HBA := Lib.hid hBa
  have HSA := Lib.hid hsa
  have HSB := Lib.hid hlim
  have hR0 := Below.refl wa.heap.size wa
  have hR1 := hR0.drew
  obtain ⟨⟨ix0, ix1, ix2, ix3, ix4, iy0, iy1, iy2, iy3, iy4⟩, yw⟩ := KA.out _ hR0
  have hlt1 : w.heap.size + 1 < wa.heap.size := lt_of_block cy
  clear hfa2 hfb2 hfa hfb ca cb cy hsa hBa hwx hlim
  first | (go_region_with (first | (go_at_call 33; go_loud ((with_reducible refine (C1.out _ _ _ _ ?_).mono ?_); (· exact KFa.out _ (by assumption)); rintro e w2 ⟨⟨q2, m2, k2, rfl, hf2⟩, hb2⟩; have hBw2 := Below.trans (by assumption : Below wa.heap.size wa _) (hb2.mono (Below.size (by assumption))); have hf2' : FV nI w2 (newK wa.heap.size w2) (tOf a) [.string v1, .slice q2 m2 k2, .int .i64 f1, .int .i64 f2, .int .i64 f3] := hf2; obtain ⟨⟨jx0, jx1, jx2, jx3, jx4, jy0, jy1, jy2, jy3, jy4⟩, yw2⟩ := KA.out _ hBw2; have hR2 := hBw2.drew; have tk2 : True := trivial)) | (go_at_call 36; go_loud ((with_reducible refine (C2.out _ _ _ _ ?_).mono ?_); (· exact KFb.out _ (by assumption)); rintro e w3 ⟨⟨q3, m3, k3, rfl, hf3⟩, hb3⟩; have hBw3 := Below.trans (by assumption : Below wa.heap.size wa _) (hb3.mono (Below.size (by assumption))); have hb3' : Below w2.heap.size w2 w3 := ⟨hb3.os, hb3.tape, hb3.output, hb3.size, hb3.block⟩; have hf3' : FV nI w3 (newK w2.heap.size w3) (pk [tOf b]) [.string ⟨#[]⟩, .slice q3 m3 k3, .int .i64 g1, .int .i64 g2, .int .i64 g3] := hf3; obtain ⟨⟨kx0, kx1, kx2, kx3, kx4, ky0, ky1, ky2, ky3, ky4⟩, yw3⟩ := KA.out _ hBw3; have hR3 := hBw3.drew; clear tk2)) | (go_at_call 62; go_loud ((with_reducible refine (C3.out _ _ wa.heap.size q2 q3 m2 k2 m3 k3 ?_ ?_ ?_ ?_).mono ?_); (· exact FV.over (FV.over hf2' (fun k hk => hb3'.block k hk) hb3'.size (Nat.le_refl _)) (fun k hk => heap_alloc_old _ _ hk) (by simp) (Nat.le_refl _)); (· exact FV.over hf3' (fun k hk => heap_alloc_old _ _ hk) (by simp) hBw2.size); (· exact heap_alloc_new w3 _); (· have h1 := hBw3.size; have h3 : wa.heap.size ≤ w3.heap.size + 1 := (by omega); simpa using h3); rintro e w4 ⟨⟨q4, m4, k4, rfl, hf4⟩, hb4⟩; have hb4' : Below w3.heap.size w3 w4 := (by first | exact (Below.alloc (Below.refl w3.heap.size w3) (Nat.le_refl _) _).trans (hb4.mono (by simp)) | exact (Below.alloc (Below.refl w3.heap.size w3) (Nat.le_refl _) _).drew.trans (hb4.mono (by simp))); have hBw4 := hBw3.trans (hb4'.mono hBw3.size); obtain ⟨⟨lx0, lx1, lx2, lx3, lx4, ly0, ly1, ly2, ly3, ly4⟩, yw4⟩ := KA.out _ hBw4; have z0 := cell_of (j := 0) yw4; have z1 := cell_of (j := 1) yw4; have z2 := cell_of (j := 2) yw4; have z3 := cell_of (j := 3) yw4; have z4 := cell_of (j := 4) yw4; have r0 := free_of (j := 0) yw4; have r1 := free_of (j := 1) yw4; have r2 := free_of (j := 2) yw4; have r3 := free_of (j := 3) yw4; have r4 := free_of (j := 4) yw4)) | fail)) | fail
  all_goals
    go_wp2_with fail
    have O := set5_same yw4 (.string ⟨#[]⟩) (.slice q4 m4 k4) (.int .i64 e1) (.int .i64 e2) (.int .i64 e3)
    have u0 := cell_of (j := 0) O
    have u1 := cell_of (j := 1) O
    have u2 := cell_of (j := 2) O
    have u3 := cell_of (j := 3) O
    have u4 := cell_of (j := 4) O
    refine bodyPost_ret (v := .agg #[.string ⟨#[]⟩, .slice q4 m4 k4, .int .i64 e1, .int .i64 e2, .int .i64 e3]) (by simp [results, Try.results33, go_sem, u0, u1, u2, u3, u4]) rfl ⟨⟨q4, m4, k4, by rw [HE1.out.1, HE1.out.2.1, HE1.out.2.2]; rfl, ?_⟩, ?_⟩
    · exact FV.move (fun k hk => ⟨by have := hk.1; omega, by have := hk.2; simp; omega⟩) (fun k hk => by have : k ≠ w.heap.size + 1 := (by have := hk.1; omega); rw [set5_other this]) _ _ hf4
    · exact set5 (B := w.heap.size) (HBA.out.trans (hBw4.mono HBA.out.size)) (by omega) _ _ _ _ _
end Go.Proofs.Ytaoicbmepliklaa
