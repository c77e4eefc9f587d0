/- The program makes a list behind a head. -/
import Derived.Test.YtaoicbmepliklaaTg1
import Derived.Test.YtaoicbmepliklaaImpl1k
namespace Go.Proofs.Ytaoicbmepliklaa
open Go.RowKit
set_option maxRecDepth 8000
set_option linter.unusedSimpArgs false
set_option linter.unusedVariables false
section
variable {P : Program} (w : World)
theorem wp_append_many {o : Oper} {a : Act} {K : Act → World → Prop} {Q : Exit → Act → World → Prop} (s x : Operand) (t : TypeId)
    (ho : o.op = .call { callee := .builtin .append, args := #[s, x], argTypes := #[t, t] })
    (base : Nat) (e : TypeId) (i : TypeInfo) (z : Value) (size bytes : Nat) (ht : P.underlying t = some (.slice e)) (hi : P.info? e = some i) (hz : i.zero = some z)
    (hsize : i.size = size) (hby : i.bytes = bytes) (hzs : z.cells.size = size) (hsz : 0 < size)
    (v : Value) (n : Nat) (xs : List Value) (hs : a.eval s = v) (hown : w.ownsRow base e size v n xs)
    (ad : Addr) (m c : Nat) (news : List Value) (hx : a.eval x = .slice (some ad) m c) (hl : news.length = m * size) (hnews : ∀ j u, news[j]? = some u → w.cell? (ad.add j) = some u) (h1 : ∀ u ∈ news, u.oneCell' = true)
    (h63 : n + m ≤ maxLen) (hbytes : (n + m) * bytes ≤ 140737488355328) (hbase : base ≤ w.heap.size)
    (h : ∀ v' w', w'.ownsRow base e size v' (n + m) (xs ++ news) → w.grownBy w' v.ownBlock → K (a.put o.dst v') w') : o.wp P a w K Q := by
  obtain ⟨v', w', hr, h2, h3, _⟩ := run_append_own (P := P) w base t o.type e i z size bytes ht hi hz hsize hby hzs hsz v n xs hown ad m c news hl hnews h1 h63 hbytes hbase
  unfold Oper.wp execOp
  simp only [ho, resolve, invoke, builtin, Sem.run_bind, Sem.run_pure, Result.andThen_ok, List.map_toArray, List.map_cons, List.map_nil, hs, hx, hr]
  exact h v' w' h2 h3
theorem wpList_append_many {ops : Array Oper} {rest : List Oper} {o : Oper} {a : Act} {Q : Exit → Act → World → Prop} (hgd : o.guard = none) (s x : Operand) (t : TypeId)
    (ho : o.op = .call { callee := .builtin .append, args := #[s, x], argTypes := #[t, t] })
    (base : Nat) (e : TypeId) (i : TypeInfo) (z : Value) (size bytes : Nat) (ht : P.underlying t = some (.slice e)) (hi : P.info? e = some i) (hz : i.zero = some z)
    (hsize : i.size = size) (hby : i.bytes = bytes) (hzs : z.cells.size = size) (hsz : 0 < size)
    (v : Value) (n : Nat) (xs : List Value) (hs : a.eval s = v) (hown : w.ownsRow base e size v n xs)
    (ad : Addr) (m c : Nat) (news : List Value) (hx : a.eval x = .slice (some ad) m c) (hl : news.length = m * size) (hnews : ∀ j u, news[j]? = some u → w.cell? (ad.add j) = some u) (h1 : ∀ u ∈ news, u.oneCell' = true)
    (h63 : n + m ≤ maxLen) (hbytes : (n + m) * bytes ≤ 140737488355328) (hbase : base ≤ w.heap.size)
    (h : ∀ v' w', w'.ownsRow base e size v' (n + m) (xs ++ news) → w.grownBy w' v.ownBlock → wpList P ops Q rest (a.put o.dst v') w') : wpList P ops Q (o :: rest) a w :=
  wpList_plain hgd fun _ hK => wp_append_many w s x t ho base e i z size bytes ht hi hz hsize hby hzs hsz v n xs hs hown ad m c news hx hl hnews h1 h63 hbytes hbase fun v' w' h2 h3 => hK _ _ (h v' w' h2 h3)
end
/-- A row of cells of an address, as 'add' spells it. -/
theorem row_add {w : World} {r off : Nat} {xs : List Value} (h : hasRow w r off xs) : ∀ j u, xs[j]? = some u → w.cell? ((⟨r, off, none⟩ : Addr).add j) = some u := by
  intro j u hj
  have hadd : (⟨r, off, none⟩ : Addr).add j = ⟨r, off + j, none⟩ := by unfold Addr.add; split <;> simp_all
  rw [hadd]; exact h j u hj
theorem FVs.oneCell {w : World} {ok : Nat → Prop} : ∀ {ts : List Tr} {xs : List Value}, FVs nI w ok ts xs → (∀ u ∈ xs, u.oneCell' = true) ∧ xs.length = ts.length * 5
  | [], xs, h => by
    simp only [FVs] at h
    subst h
    exact ⟨by simp, rfl⟩
  | t :: ts, xs, h => by
    simp only [FVs] at h
    obtain ⟨a, b, rfl, k2, k3⟩ := h
    obtain ⟨p, n, c, rfl⟩ := k2.node
    obtain ⟨i1, i2⟩ := FVs.oneCell k3
    refine ⟨fun u hu => ?_, by simp [nI, i2]; omega⟩
    rcases List.mem_append.1 hu with hu | hu
    · simp only [nI, List.mem_cons, List.not_mem_nil, or_false] at hu
      rcases hu with rfl | rfl | rfl | rfl | rfl <;> rfl
    · exact i1 u hu
/-- An atom in order. -/
def okAt (hd : List UInt8) : Prop := (Tr.atom hd).wf ∧ hd.length ≤ 12000
theorem own_one {W : World} {b base : Nat} {x0 x1 x2 x3 x4 : Value} (h : W.heap[b]? = some (.cells #[x0, x1, x2, x3, x4] 41 (0, 0))) (hb : base ≤ b) : W.ownsRow base 41 5 (.slice (some ⟨b, 0, none⟩) 1 1) 1 [x0, x1, x2, x3, x4] :=
  ⟨rfl, .inr ⟨b, 1, _, rfl, hb, h, Nat.le_refl _, by decide, rfl, rfl⟩⟩
theorem own_shape {w : World} {base size n : Nat} {e : TypeId} {v : Value} {xs : List Value} (h : w.ownsRow base e size v n xs) (hn : n ≠ 0) : ∃ g c, v = .slice (some ⟨g, 0, none⟩) n c ∧ base ≤ g ∧ g < w.heap.size ∧ n ≤ c ∧ c ≤ maxLen := by
  have hc := h
  rcases h.2 with ⟨e1, e2⟩ | ⟨g, cap, cur, e1, hb, hg, h1, h2, _⟩
  · have := h.1
    subst e1
    obtain ⟨p, c, hh⟩ := owns_slice hc
    simp only [Value.slice.injEq] at hh
    exact absurd hh.2.1.symm hn
  · exact ⟨g, cap, e1, hb, lt_of_block hg, h1, h2⟩
/-- A form that was made, in new blocks or in given ones. -/
def MadeF (ok : Nat → Prop) (T : Tr) (e : Ending) (w' : World) : Prop := ∃ p n c, e = .returned (.agg #[.string (bs (atomOf T)), .slice p n c, .int .i64 T.bytes, .int .i64 T.size, .int .i64 T.depth]) ∧ FV nI w' ok T (nI T (.slice p n c))
set_option maxHeartbeats 4000000 in
theorem newHeaded_c (hd : List UInt8) (hh : okAt hd) (ts : List Tr) (xs : List Value) (ok : Nat → Prop) (r off cap : Nat) (w : World) (hv : FVs nI w ok ts xs) (hrow : hasRow w r off xs) (hok : ∀ k, ok k → k < w.heap.size) (hrl : r < w.heap.size) (hwf : wfs ts) (hb : bytess ts ≤ 100000000) :
    Calls Try.prog 63 #[.string (bs hd), .slice (some ⟨r, off, none⟩) ts.length cap] w fun e w' => MadeF (fun k => ok k ∨ (w.heap.size ≤ k ∧ k < w'.heap.size)) (.list (.atom hd :: ts)) e w' ∧ Below w.heap.size w w' := by
  obtain ⟨i0, hi0, hz0, hz1, hz2⟩ := info_parts Try.infoI
  obtain ⟨h1c, hlx⟩ := FVs.oneCell hv
  have hlen := length_le_bytess ts
  have hsz : (bs hd).size ≤ 12000 := by rw [bs_size]; exact hh.2
  have HNA : Hid (∀ W, Calls Try.prog 64 #[.string (bs hd)] W fun e w' => e = .returned (.agg #[.string (bs hd), .slice none 0 0, .int .i64 hd.length, .int .i64 1, .int .i64 0]) ∧ Below W.heap.size W w') := Lib.hid (fun W => (newAtom_c (bs hd) W hsz).mono fun e w' ⟨h1, h2⟩ => ⟨by rw [h1, bs_size], h2⟩)
  obtain ⟨u, b1, b2, b3, hu, hb1, hb2, hb3, hn⟩ := nI_named (.list (.atom hd :: ts))
  have HN := Lib.hid hn
  have HV := Lib.hid hv
  have HROW := Lib.hid hrow
  have HOK := Lib.hid hok
  have H1C := Lib.hid h1c
  have HLX := Lib.hid hlx
  have HNL : Hid (∀ (X : World) (g c' : Nat), FVs nI X ok (.atom hd :: ts) ([.string (bs hd), .slice none 0 0, .int .i64 hd.length, .int .i64 1, .int .i64 0] ++ xs) → hasRow X g 0 ([.string (bs hd), .slice none 0 0, .int .i64 hd.length, .int .i64 1, .int .i64 0] ++ xs) → g < X.heap.size → c' ≤ maxLen → 1 + ts.length ≤ c' → w.heap.size ≤ X.heap.size → Calls Try.prog 53 #[.slice (some ⟨g, 0, none⟩) (1 + ts.length) c'] X fun e w'' => e = .returned (.agg #[.string ⟨#[]⟩, .slice (some ⟨g, 0, none⟩) (1 + ts.length) c', .int .i64 b1, .int .i64 b2, .int .i64 b3]) ∧ Below X.heap.size X w'') :=
    Lib.hid (fun X g c' k1 k2 k3 k4 k5 k6 => by
      rw [hb1, hb2, hb3]
      exact newList_n (1 + ts.length) (.atom hd :: ts) (by simp; omega) _ ok g c' X k1 k2 (fun k hk => Nat.lt_of_lt_of_le (hok k hk) k6) k3 ⟨hh.1, hwf⟩ (by simp only [bytess, Tr.bytes]; have := hh.2; omega) k4 k5)
  have HFS : Hid (∀ (X : World), FVs nI X ok ts xs → FVs nI X ok (.atom hd :: ts) ([.string (bs hd), .slice none 0 0, .int .i64 hd.length, .int .i64 1, .int .i64 0] ++ xs)) := Lib.hid (fun X k1 => by
    simp only [FVs]
    exact ⟨_, _, rfl, by simp only [FV]; rfl, k1⟩)
  clear hv hrow hok h1c hlx hn hb1 hb2 hb3 hu
  generalize hAA : bs hd = A at *
  clear hAA
  go_enter Try.func63, Try.ntmps63
  go_wp2_with (first | (go_at_call 64; go_must (refine (HNA.out _).mono ?_; rintro e w1 ⟨rfl, hbw1⟩; have y0 := below_blk hbw1 (by simp) (heap_alloc_new _ _); have hs1 := hbw1.size; have hs4 : w.heap.size < w1.heap.size := (by simp at hs1; omega); have hw1 := (below1 w _).trans (hbw1.mono (by simp)))) | (at_builtin; go_must (refine wpList_append_many _ rfl _ _ 39 rfl w1.heap.size 41 i0 (.agg #[.string ⟨#[]⟩, .slice none 0 0, .int .i64 0, .int .i64 0, .int .i64 0]) 5 64 Try.underlying39 hi0 hz0 hz1 hz2 rfl (by decide) _ _ _ rfl (own_one (heap_alloc_new w1 _) (Nat.le_refl _)) ⟨r, off, none⟩ ts.length cap xs rfl HLX.out (row_add (HROW.out.move (by rw [heap_alloc_old (h := by omega), hw1.block r hrl]))) H1C.out (by unfold maxLen; omega) (by omega) (by simp) ?_; intro v4 w4 hown4 hg4; obtain ⟨g4, c4, rfl, hbg4, hglt4, hcap4, hcap5⟩ := own_shape hown4 (by omega); have hs5 := hg4.size; have hk4 : ∀ k, k < w1.heap.size → w4.heap[k]? = w1.heap[k]? := (fun k hk => by rw [hg4.block k (by simp; omega) (fun e => by have h8 : k = w1.heap.size := Option.some.inj e; omega), heap_alloc_old (h := hk)]); have y4 := (hk4 _ hs4).trans y0)) | (go_at_call 53; go_must (refine (HNL.out _ _ _ (HFS.out _ (FVs.move (fun k hk => hk) (fun k hk => by have := HOK.out k hk; rw [hk4 k (by omega), hw1.block k this]) _ _ HV.out)) (owns_row hown4) hglt4 hcap5 hcap4 (by simp at hs5; omega)).mono ?_; rintro e w5 ⟨rfl, hb5⟩; have y5 := below_blk hb5 (by simp at hs5; omega) y4; have z0 := cell_of (j := 0) y5; have z1 := cell_of (j := 1) y5; have z2 := cell_of (j := 2) y5; have z3 := cell_of (j := 3) y5; have z4 := cell_of (j := 4) y5; have f0 := free_of (j := 0) y5; have f1 := free_of (j := 1) y5; have f2 := free_of (j := 2) y5; have f3 := free_of (j := 3) y5; have f4 := free_of (j := 4) y5)))
  have O := set5_same y5 (.string ⟨#[]⟩) (.slice (some ⟨g4, 0, none⟩) (1 + ts.length) c4) (.int .i64 b1) (.int .i64 b2) (.int .i64 b3)
  have u0 := cell_of (j := 0) O
  have u1 := cell_of (j := 1) O
  have u2 := cell_of (j := 2) O
  have u3 := cell_of (j := 3) O
  have u4 := cell_of (j := 4) O
  have hs6 := hb5.size
  refine bodyPost_ret (v := .agg #[.string ⟨#[]⟩, .slice (some ⟨g4, 0, none⟩) (1 + ts.length) c4, .int .i64 b1, .int .i64 b2, .int .i64 b3]) (by simp [results, Try.results63, go_sem, u0, u1, u2, u3, u4]) rfl ⟨⟨some ⟨g4, 0, none⟩, 1 + ts.length, c4, by have h9 := HN.out (.slice none 0 0); simp only [nI, List.cons.injEq, Value.string.injEq, Value.int.injEq, true_and, and_true] at h9; rw [h9.2.1, h9.2.2.1, h9.2.2.2]; rfl, ?_⟩, ?_⟩
  · simp only [FV]
    refine ⟨g4, 0, c4, _, by rw [show (Tr.atom hd :: ts).length = 1 + ts.length from by simp; omega], .inr ⟨by omega, ?_⟩, by simp; omega, hcap5, ?_, FVs.move (fun k hk => .inl hk) (fun k hk => ?_) _ _ (HFS.out w4 (FVs.move (fun k hk => hk) (fun k hk => by have := HOK.out k hk; rw [hk4 k (by omega), hw1.block k this]) _ _ HV.out))⟩
    · simp; omega
    · have h7 := owns_row hown4
      exact h7.move (by rw [set5_other (by omega)]; exact hb5.block g4 hglt4)
    · have := HOK.out k hk
      rw [set5_other (by omega)]; exact hb5.block k (by simp at hs5; omega)
  · refine set5 (B := w.heap.size) ?_ (Nat.le_refl _) _ _ _ _ _
    have hB1 := hw1.alloc hw1.size (.cells #[.string A, .slice none 0 0, .int .i64 hd.length, .int .i64 1, .int .i64 0] 41)
    have hB4 : Below w.heap.size w w4 := hB1.grown hg4 hB1.size (fun k hk => by have h8 : w1.heap.size = k := Option.some.inj hk; omega)
    exact hB4.trans (hb5.mono hB4.size)
end Go.Proofs.Ytaoicbmepliklaa
