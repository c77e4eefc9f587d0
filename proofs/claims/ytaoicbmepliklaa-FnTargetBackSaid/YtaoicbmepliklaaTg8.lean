/- The program makes a package of code. -/
import Derived.Test.YtaoicbmepliklaaTg7
import Derived.Test.YtaoicbmepliklaaTg3
namespace Go.Proofs.Ytaoicbmepliklaa
open Go.RowKit
set_option maxRecDepth 8000
set_option linter.unusedSimpArgs false
set_option linter.unusedVariables false
theorem newHeaded_n (hd : List UInt8) (hh : okAt hd) (n : Nat) (ts : List Tr) (hn : ts.length = n) (xs : List Value) (ok : Nat → Prop) (r cap : Nat) (w : World) (hv : FVs nI w ok ts xs) (hrow : hasRow w r 0 xs) (hok : ∀ k, ok k → k < w.heap.size) (hrl : r < w.heap.size) (hwf : wfs ts) (hb : bytess ts ≤ 100000000) :
    Calls Try.prog 63 #[.string (bs hd), .slice (some ⟨r, 0, none⟩) n cap] w fun e w' => MadeF (fun k => ok k ∨ (w.heap.size ≤ k ∧ k < w'.heap.size)) (.list (.atom hd :: ts)) e w' ∧ Below w.heap.size w w' := by
  subst hn; exact newHeaded_c hd hh ts xs ok r 0 cap w hv hrow hok hrl hwf hb
theorem okAt_one {c : UInt8} (h : isAB c = true) : okAt [c] := ⟨⟨by simp, fun b hb => by simp at hb; rw [hb]; exact h⟩, by simp⟩
/-- Given blocks, or blocks from a number on. -/
def okN (ok : Nat → Prop) (B : Nat) (w : World) : Nat → Prop := fun k => ok k ∨ (B ≤ k ∧ k < w.heap.size)
/-- What a call that makes a form hands back, by its values. -/
def MadeV (okk : Nat → Prop) (T : Tr) (b1 b2 b3 : Int) (e : Ending) (w' : World) : Prop := ∃ p n c, e = .returned (.agg #[.string ⟨#[]⟩, .slice p n c, .int .i64 b1, .int .i64 b2, .int .i64 b3]) ∧ FV nI w' okk T (nI T (.slice p n c))
theorem madeV_of {okk okk' : Nat → Prop} {ts : List Tr} {b1 b2 b3 : Int} {e : Ending} {w' : World} (h : MadeF okk (.list ts) e w') (h1 : b1 = (Tr.list ts).bytes) (h2 : b2 = (Tr.list ts).size) (h3 : b3 = (Tr.list ts).depth) (hk : ∀ k, okk k → okk' k) : MadeV okk' (.list ts) b1 b2 b3 e w' := by
  obtain ⟨p, n, c, h4, h5⟩ := h
  exact ⟨p, n, c, by rw [h4, h1, h2, h3]; rfl, h5.wide hk⟩
def codeT (ts : List Tr) : Tr := .list (.atom [99] :: .atom [118] :: ts)
def tupT (ts : List Tr) : Tr := .list [.atom [116], codeT ts, .atom [118]]
theorem pk_eq (ts : List Tr) : pk ts = .list [.atom [101], tupT ts] := rfl
set_option maxHeartbeats 8000000 in
theorem packedCode_c (ts : List Tr) (xs : List Value) (ok : Nat → Prop) (r off cap : Nat) (w : World) (hv : FVs nI w ok ts xs) (hrow : hasRow w r off xs) (hok : ∀ k, ok k → k < w.heap.size) (hrl : r < w.heap.size) (hwf : wfs ts) (hb : bytess ts ≤ 90000000) :
    Calls Try.prog 62 #[.slice (some ⟨r, off, none⟩) ts.length cap] w fun e w' => MadeF (okN ok w.heap.size w') (pk ts) e w' ∧ Below w.heap.size w w' := by
  obtain ⟨i0, hi0, hz0, hz1, hz2⟩ := info_parts Try.infoI
  obtain ⟨h1c, hlx⟩ := FVs.oneCell hv
  have hlen := length_le_bytess ts
  have HNA : Hid (∀ W, Calls Try.prog 64 #[.string ⟨#[118]⟩] W fun e w' => e = .returned (.agg #[.string ⟨#[118]⟩, .slice none 0 0, .int .i64 1, .int .i64 1, .int .i64 0]) ∧ Below W.heap.size W w') := Lib.hid (fun W => newAtom_c ⟨#[118]⟩ W (show 1 ≤ 12000 by decide))
  obtain ⟨a1, ha1⟩ : ∃ x : Int, x = (codeT ts).bytes := ⟨_, rfl⟩
  obtain ⟨a2, ha2⟩ : ∃ x : Int, x = (codeT ts).size := ⟨_, rfl⟩
  obtain ⟨a3, ha3⟩ : ∃ x : Int, x = (codeT ts).depth := ⟨_, rfl⟩
  obtain ⟨t1, ht1⟩ : ∃ x : Int, x = (tupT ts).bytes := ⟨_, rfl⟩
  obtain ⟨t2, ht2⟩ : ∃ x : Int, x = (tupT ts).size := ⟨_, rfl⟩
  obtain ⟨t3, ht3⟩ : ∃ x : Int, x = (tupT ts).depth := ⟨_, rfl⟩
  obtain ⟨e1, he1⟩ : ∃ x : Int, x = (pk ts).bytes := ⟨_, rfl⟩
  obtain ⟨e2, he2⟩ : ∃ x : Int, x = (pk ts).size := ⟨_, rfl⟩
  obtain ⟨e3, he3⟩ : ∃ x : Int, x = (pk ts).depth := ⟨_, rfl⟩
  have hv118 : (Tr.atom [118]).wf := (okAt_one (by decide)).1
  have hwc : (codeT ts).wf := ⟨by simp, (okAt_one (by decide)).1, hv118, hwf⟩
  have hbc : (codeT ts).bytes = 5 + bytess ts := by simp only [codeT, Tr.bytes, bytess, List.length_cons, List.length_nil]; omega
  have hbt : (tupT ts).bytes = 11 + bytess ts := by simp only [tupT, Tr.bytes, bytess, hbc, List.length_cons, List.length_nil]; omega
  have hwt : (tupT ts).wf := ⟨by simp, (okAt_one (by decide)).1, hwc, hv118, trivial⟩
  have FVv : ∀ (X : World) (okk : Nat → Prop), FV nI X okk (.atom [118]) [.string ⟨#[118]⟩, .slice none 0 0, .int .i64 1, .int .i64 1, .int .i64 0] := fun X okk => by simp only [FV]; rfl
  have HC : Hid (∀ (X : World) (g c' : Nat), FVs nI X ok ts xs → hasRow X g 0 ([.string ⟨#[118]⟩, .slice none 0 0, .int .i64 1, .int .i64 1, .int .i64 0] ++ xs) → g < X.heap.size → w.heap.size + 1 ≤ X.heap.size → Calls Try.prog 63 #[.string ⟨#[99]⟩, .slice (some ⟨g, 0, none⟩) (1 + ts.length) c'] X fun e w' => MadeV (okN ok (w.heap.size + 1) w') (codeT ts) a1 a2 a3 e w' ∧ Below X.heap.size X w') :=
    Lib.hid (fun X g c' k1 k2 k3 k4 => (newHeaded_n [99] (okAt_one (by decide)) (1 + ts.length) (.atom [118] :: ts) (by simp; omega) _ ok g c' X (by simp only [FVs]; exact ⟨_, _, rfl, FVv X ok, k1⟩) k2 (fun k hk => Nat.lt_of_lt_of_le (hok k hk) (by omega)) k3 ⟨hv118, hwf⟩ (by simp only [bytess, Tr.bytes, List.length_cons, List.length_nil]; omega)).mono fun e w' ⟨h1, h2⟩ => ⟨madeV_of h1 ha1 ha2 ha3 (fun k hk => hk.elim .inl (fun h => .inr ⟨by omega, h.2⟩)), h2⟩)
  have HT : Hid (∀ (X : World) (g : Nat) (p : Option Addr) (n c : Nat), FV nI X (okN ok (w.heap.size + 1) X) (codeT ts) (nI (codeT ts) (.slice p n c)) → X.heap[g]? = some (.cells #[.string ⟨#[]⟩, .slice p n c, .int .i64 a1, .int .i64 a2, .int .i64 a3, .string ⟨#[118]⟩, .slice none 0 0, .int .i64 1, .int .i64 1, .int .i64 0] 41 (0, 0)) → w.heap.size + 1 ≤ X.heap.size → Calls Try.prog 63 #[.string ⟨#[116]⟩, .slice (some ⟨g, 0, none⟩) 2 2] X fun e w' => MadeV (okN ok (w.heap.size + 1) w') (tupT ts) t1 t2 t3 e w' ∧ Below X.heap.size X w') :=
    Lib.hid (fun X g p n c k1 k2 k4 => (newHeaded_n [116] (okAt_one (by decide)) 2 [codeT ts, .atom [118]] rfl ([.string ⟨#[]⟩, .slice p n c, .int .i64 a1, .int .i64 a2, .int .i64 a3] ++ ([.string ⟨#[118]⟩, .slice none 0 0, .int .i64 1, .int .i64 1, .int .i64 0] ++ [])) (okN ok (w.heap.size + 1) X) g 2 X (by simp only [FVs]; exact ⟨_, _, rfl, by rw [ha1, ha2, ha3]; exact k1, _, _, rfl, FVv X _, rfl⟩) (row_of k2) (fun k hk => hk.elim (fun h => Nat.lt_of_lt_of_le (hok k h) (by omega)) (fun h => h.2)) (lt_of_block k2) ⟨hwc, hv118, trivial⟩ (by simp only [bytess, hbc, Tr.bytes, List.length_cons, List.length_nil]; omega)).mono fun e w' ⟨h1, h2⟩ => ⟨madeV_of h1 ht1 ht2 ht3 (fun k hk => hk.elim (fun h => h.elim .inl (fun h => .inr ⟨h.1, Nat.lt_of_lt_of_le h.2 h2.size⟩)) (fun h => .inr ⟨by omega, h.2⟩)), h2⟩)
  have HE : Hid (∀ (X : World) (g : Nat) (p : Option Addr) (n c : Nat), FV nI X (okN ok (w.heap.size + 1) X) (tupT ts) (nI (tupT ts) (.slice p n c)) → X.heap[g]? = some (.cells #[.string ⟨#[]⟩, .slice p n c, .int .i64 t1, .int .i64 t2, .int .i64 t3] 41 (0, 0)) → w.heap.size + 1 ≤ X.heap.size → Calls Try.prog 63 #[.string ⟨#[101]⟩, .slice (some ⟨g, 0, none⟩) 1 1] X fun e w' => MadeV (okN ok (w.heap.size + 1) w') (pk ts) e1 e2 e3 e w' ∧ Below X.heap.size X w') :=
    Lib.hid (fun X g p n c k1 k2 k4 => (newHeaded_n [101] (okAt_one (by decide)) 1 [tupT ts] rfl ([.string ⟨#[]⟩, .slice p n c, .int .i64 t1, .int .i64 t2, .int .i64 t3] ++ []) (okN ok (w.heap.size + 1) X) g 1 X (by simp only [FVs]; exact ⟨_, _, rfl, by rw [ht1, ht2, ht3]; exact k1, rfl⟩) (row_of k2) (fun k hk => hk.elim (fun h => Nat.lt_of_lt_of_le (hok k h) (by omega)) (fun h => h.2)) (lt_of_block k2) ⟨hwt, trivial⟩ (by simp only [bytess, hbt]; omega)).mono fun e w' ⟨h1, h2⟩ => ⟨madeV_of h1 he1 he2 he3 (fun k hk => hk.elim (fun h => h.elim .inl (fun h => .inr ⟨h.1, Nat.lt_of_lt_of_le h.2 h2.size⟩)) (fun h => .inr ⟨by omega, h.2⟩)), h2⟩)
  have HV := Lib.hid hv
  have HROW := Lib.hid hrow
  have HOK := Lib.hid hok
  have H1C := Lib.hid h1c
  have HLX := Lib.hid hlx
  have HE1 := Lib.hid (And.intro he1 (And.intro he2 he3))
  clear hv hrow hok h1c hlx ha1 ha2 ha3 ht1 ht2 ht3 he1 he2 he3 hwc hbc hbt hwt hv118 FVv hwf
  go_enter Try.func62, Try.ntmps62
  go_wp2_with (first | (go_at_call 64; go_must (refine (HNA.out _).mono ?_; rintro e w1 ⟨rfl, hbw1⟩; have y0 := below_blk hbw1 (by simp) (heap_alloc_new _ _); have hs1 := hbw1.size; have hs4 : w.heap.size < w1.heap.size := (by simp at hs1; omega); have hw1 := (below1 w _).trans (hbw1.mono (by simp)))) | (at_builtin; go_must (refine wpList_append_many _ rfl _ _ 39 rfl (w1.heap.size + 1) 41 i0 (.agg #[.string ⟨#[]⟩, .slice none 0 0, .int .i64 0, .int .i64 0, .int .i64 0]) 5 64 Try.underlying39 hi0 hz0 hz1 hz2 rfl (by decide) _ _ _ rfl (own_one (heap_alloc_new2 w1 _ _) (Nat.le_refl _)) ⟨r, off, none⟩ ts.length cap xs rfl HLX.out (row_add (HROW.out.move (by rw [heap_alloc_old (h := by simp; omega), heap_alloc_old (h := by omega), hw1.block r hrl]))) H1C.out (by unfold maxLen; omega) (by omega) (by simp) ?_; intro v4 w4 hown4 hg4; obtain ⟨g4, c4, rfl, hbg4, hglt4, hcap4, hcap5⟩ := own_shape hown4 (by omega); have hs5 := hg4.size; have hk4 : ∀ k, k < w1.heap.size + 1 → w4.heap[k]? = (w1.alloc (.cells #[.string ⟨#[118]⟩, .slice none 0 0, .int .i64 1, .int .i64 1, .int .i64 0] 41)).heap[k]? := (fun k hk => by rw [hg4.block k (by simp; omega) (fun e => by have h8 : k = w1.heap.size + 1 := Option.some.inj e; omega), heap_alloc_old (h := by simp; omega)]); have y4 := (hk4 w.heap.size (by omega)).trans (blk_alloc y0); have v4 := (hk4 w1.heap.size (by omega)).trans (heap_alloc_new w1 _); have hB4 : Below w.heap.size w w4 := Below.grown (Below.alloc (hw1.alloc hw1.size _) (by simp; omega) _) hg4 (by simp; omega) (fun k hk => by have h8 : w1.heap.size + 1 = k := Option.some.inj hk; omega))) | (go_at_call 63; first | ((with_reducible refine (HC.out _ _ _ ?_ ?_ ?_ ?_).mono ?_); (· exact FVs.move (fun k hk => hk) (fun k hk => by have := HOK.out k hk; rw [hk4 k (by omega), heap_alloc_old (h := by omega), hw1.block k this]) _ _ HV.out); (· exact owns_row hown4); (· exact hglt4); (· simp at hs5; omega); rintro e w5 ⟨⟨p5, n5, c5, rfl, hf5⟩, hb5⟩; have hs6 := hb5.size; have y5 := below_blk hb5 (lt_of_block y4) y4; have v5 := below_blk hb5 (lt_of_block v4) v4; have v5a := fun o => cell_of (j := 0) (blk_alloc (o' := o) v5); have v5b := fun o => cell_of (j := 1) (blk_alloc (o' := o) v5); have v5c := fun o => cell_of (j := 2) (blk_alloc (o' := o) v5); have v5d := fun o => cell_of (j := 3) (blk_alloc (o' := o) v5); have v5e := fun o => cell_of (j := 4) (blk_alloc (o' := o) v5); have hws5 : w.heap.size + 1 ≤ w5.heap.size := (by simp at hs5; omega); have hB5 := hB4.trans (hb5.mono hB4.size)) | ((with_reducible refine (HT.out _ _ p5 n5 c5 ?_ ?_ ?_).mono ?_); (· exact FV.move (fun k hk => hk.elim .inl (fun h => .inr ⟨h.1, by have := h.2; simp; omega⟩)) (fun k hk => by have : k < w5.heap.size := hk.elim (fun h => by have := HOK.out k h; omega) (fun h => h.2); rw [heap_alloc_old (h := by simp; omega), heap_alloc_old (h := this)]) _ _ hf5); (· exact heap_alloc_new2 w5 _ _); (· simp; omega); rintro e w6 ⟨⟨p6, n6, c6, rfl, hf6⟩, hb6⟩; have hs7 := hb6.size; have y6 := below_blk hb6 (by simp; omega) (blk_alloc (blk_alloc y5)); have hws6 : w.heap.size + 1 ≤ w6.heap.size := (by simp at hs7; omega); have hB6 := (Below.alloc (hB5.alloc hB5.size _) (by simp; omega) _).trans (hb6.mono (by simp; omega))) | ((with_reducible refine (HE.out _ _ p6 n6 c6 ?_ ?_ ?_).mono ?_); (· exact FV.move (fun k hk => hk.elim .inl (fun h => .inr ⟨h.1, by have := h.2; simp; omega⟩)) (fun k hk => by have : k < w6.heap.size := hk.elim (fun h => by have := HOK.out k h; omega) (fun h => h.2); rw [heap_alloc_old (h := this)]) _ _ hf6); (· exact heap_alloc_new w6 _); (· simp; omega); rintro e w7 ⟨⟨p7, n7, c7, rfl, hf7⟩, hb7⟩; have hs8 := hb7.size; have hB7 := (hB6.alloc hB6.size _).trans (hb7.mono (by simp; omega)); have y7 := below_blk hb7 (by simp; omega) (blk_alloc y6); have z0 := cell_of (j := 0) y7; have z1 := cell_of (j := 1) y7; have z2 := cell_of (j := 2) y7; have z3 := cell_of (j := 3) y7; have z4 := cell_of (j := 4) y7; have f0 := free_of (j := 0) y7; have f1 := free_of (j := 1) y7; have f2 := free_of (j := 2) y7; have f3 := free_of (j := 3) y7; have f4 := free_of (j := 4) y7)))
  have O := set5_same y7 (.string ⟨#[]⟩) (.slice p7 n7 c7) (.int .i64 e1) (.int .i64 e2) (.int .i64 e3)
  have u0 := cell_of (j := 0) O
  have u1 := cell_of (j := 1) O
  have u2 := cell_of (j := 2) O
  have u3 := cell_of (j := 3) O
  have u4 := cell_of (j := 4) O
  refine bodyPost_ret (v := .agg #[.string ⟨#[]⟩, .slice p7 n7 c7, .int .i64 e1, .int .i64 e2, .int .i64 e3]) (by simp [results, Try.results62, go_sem, u0, u1, u2, u3, u4]) rfl ⟨⟨p7, n7, c7, by rw [HE1.out.1, HE1.out.2.1, HE1.out.2.2]; rfl, ?_⟩, ?_⟩
  · exact FV.move (fun k hk => hk.elim .inl (fun h => .inr ⟨by omega, by have := h.2; simp; omega⟩)) (fun k hk => by have : k ≠ w.heap.size := hk.elim (fun h => by have := HOK.out k h; omega) (fun h => by omega); rw [set5_other this]) _ _ hf7
  · exact set5 (B := w.heap.size) hB7 (Nat.le_refl _) _ _ _ _ _
end Go.Proofs.Ytaoicbmepliklaa
