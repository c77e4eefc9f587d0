/- The reference model takes a package of code apart. -/
import Derived.Test.YtaoicbmepliklaaTg2
import Derived.Test.YtaoicbmepliklaaTgp
namespace Go.Proofs.Ytaoicbmepliklaa
open Go.RowKit
set_option maxRecDepth 8000
set_option linter.unusedSimpArgs false
set_option linter.unusedVariables false
def hdT : Tr → List UInt8
  | .list (h :: _) => atomOf h
  | _ => []
theorem l4HeadT_list (h : ByteArray) (r off L c : Nat) (w : World) (hrlt : r < w.heap.size) (hL : 1 ≤ L) (hc : L ≤ c) (hc2 : c ≤ maxLen) (e0 : w.cell? ⟨r, off, none⟩ = some (.string h)) :
    Calls Try.prog 68 #[.agg #[.string ⟨#[]⟩, .slice (some ⟨r, off, none⟩) L c]] w fun e w' => e = .returned (.string h) ∧ Below w.heap.size w w' := by
  have hm := maxLen_le hc2
  have hemp := emptyne
  have hl0 : ((L : Int) == 0) = false := by simp; omega
  have hl1 : ¬ (L : Int) = 0 := by omega
  go_enter Try.func68, Try.ntmps68
  go_wp2_with fail
  go_ret
  exact ⟨rfl, below1 _ _⟩
theorem l4HeadT_atom (a : List UInt8) (ha0 : a ≠ []) (w : World) :
    Calls Try.prog 68 #[.agg #[.string (bs a), .slice none 0 0]] w fun e w' => e = .returned (.string ⟨#[]⟩) ∧ Below w.heap.size w w' := by
  have ha := atomne ha0
  generalize bs a = A at *
  go_enter Try.func68, Try.ntmps68
  go_wp2_with fail
  go_ret
  exact ⟨rfl, below1 _ _⟩
theorem l4HeadT_c (t : Tr) (p : Option Addr) (n c : Nat) (ok : Nat → Prop) (w : World) (hwf : t.wf) (hv : FV nS w ok t (nS t (.slice p n c))) (hok : ∀ k, ok k → k < w.heap.size) :
    Calls Try.prog 68 #[.agg #[.string (bs (atomOf t)), .slice p n c]] w fun e w' => e = .returned (.string (bs (hdT t))) ∧ Below w.heap.size w w' := by
  match t, hv with
  | .atom a, hv =>
    simp only [FV] at hv
    have hh := nS_inj _ _ _ hv
    simp only [Value.slice.injEq] at hh
    obtain ⟨rfl, rfl, rfl⟩ := hh
    exact l4HeadT_atom a hwf.1 w
  | .list [], _ => exact absurd rfl hwf.1
  | .list (h :: ts), hv =>
    obtain ⟨r, off, cap, xs, hh, h2, h3, h4, h5, h6⟩ := hv.list_cells
    have hh := nS_inj _ _ _ hh
    simp only [Value.slice.injEq] at hh
    obtain ⟨rfl, rfl, rfl⟩ := hh
    have e0 : w.cell? ⟨r, off, none⟩ = some (.string (bs (atomOf h))) := by
      obtain ⟨cs0, i0, i1⟩ := FVs.get nS_len h6 h5 0 (by simp)
      obtain ⟨p0, m0, c0, rfl⟩ := i0.node
      have := i1 0 _ rfl
      simpa using this
    exact l4HeadT_list _ r off _ c w (hok r h2) (by simp) h3 h4 e0
/-- The parts of the code in a package, its head among them. -/
def codeOf : Tr → List Tr
  | .list [h, .list [h2, .list (h3 :: cs), _]] => if atomOf h = [101] ∧ atomOf h2 = [116] ∧ atomOf h3 = [99] then h3 :: cs else []
  | _ => []
/-- What l6tCode hands back. -/
def CodePost (ok : Nat → Prop) (cs : List Tr) (e : Ending) (w' : World) : Prop := ∃ p c, e = .returned (.slice p cs.length c) ∧ (cs ≠ [] → ∃ r off xs, p = some ⟨r, off, none⟩ ∧ ok r ∧ cs.length ≤ c ∧ c ≤ maxLen ∧ hasRow w' r off xs ∧ FVs nS w' ok cs xs)
theorem code_nil {ok : Nat → Prop} {p : Option Addr} {c : Nat} {w : World} : CodePost ok [] (.returned (.slice p 0 c)) w := ⟨p, c, rfl, fun h => absurd rfl h⟩
set_option maxHeartbeats 4000000 in
theorem code_0 (u hd : ByteArray) (p : Option Addr) (n c : Nat) (w : World) (h1 : (hd.toList == [101]) = false)
    (CH : ∀ W, Below w.heap.size w W → Calls Try.prog 68 #[.agg #[.string u, .slice p n c]] W fun e w' => e = .returned (.string hd) ∧ Below W.heap.size W w') :
    Calls Try.prog 69 #[.agg #[.string u, .slice p n c]] w fun e w' => (∃ q k, e = .returned (.slice q 0 k)) ∧ Below w.heap.size w w' := by
  have C := Lib.hid CH
  clear CH
  have h2 : ¬ hd.toList = [101] := by simpa using h1
  go_enter Try.func69, Try.ntmps69
  go_wp2_with (go_at_call 68; go_must (refine (C.out _ (below1 _ _)).mono ?_; rintro e w1 ⟨rfl, hb1⟩; have hB1 := (below1 w _).trans (hb1.mono (by simp))))
  go_ret
  exact ⟨⟨_, _, rfl⟩, hB1.alloc hB1.size _⟩
set_option maxHeartbeats 4000000 in
theorem code_1 (u hd ux hx : ByteArray) (r off c : Nat) (px : Option Addr) (nx cx : Nat) (w : World) (hr : r < w.heap.size) (hc : 2 ≤ c) (hc2 : c ≤ maxLen) (h1 : (hd.toList == [101]) = true) (e0 : w.cell? ⟨r, off + 2, none⟩ = some (.string ux)) (e1 : w.cell? ⟨r, off + 2 + 1, none⟩ = some (.slice px nx cx))
    (CH : ∀ W, Below w.heap.size w W → Calls Try.prog 68 #[.agg #[.string u, .slice (some ⟨r, off, none⟩) 2 c]] W fun e w' => e = .returned (.string hd) ∧ Below W.heap.size W w')
    (CHx : ∀ W, Below w.heap.size w W → Calls Try.prog 68 #[.agg #[.string ux, .slice px nx cx]] W fun e w' => e = .returned (.string hx) ∧ Below W.heap.size W w') (hx1 : (hx.toList == [116]) = false) :
    Calls Try.prog 69 #[.agg #[.string u, .slice (some ⟨r, off, none⟩) 2 c]] w fun e w' => (∃ q k, e = .returned (.slice q 0 k)) ∧ Below w.heap.size w w' := by
  have hm := maxLen_le hc2
  have C := Lib.hid CH
  have CX := Lib.hid CHx
  clear CH CHx
  have hx2 : ¬ hx.toList = [116] := by simpa using hx1
  go_enter Try.func69, Try.ntmps69
  go_wp2_with (go_at_call 68; first | ((with_reducible refine (C.out _ (below1 _ _)).mono ?_); rintro e w1 ⟨rfl, hb1⟩; have y1 := below_blk hb1 (by simp) (heap_alloc_new w _); have q1 := cell_of (j := 1) y1; have hB1 := (below1 w _).trans (hb1.mono (by simp)); have i0 := (hB1.cell (p := ⟨r, off + 2, none⟩) hr).trans e0; have i1 := (hB1.cell (p := ⟨r, off + 2 + 1, none⟩) hr).trans e1) | ((with_reducible refine (CX.out _ hB1).mono ?_); rintro e w2 ⟨rfl, hb2⟩; have y2 := below_blk hb2 (lt_of_block y1) y1; have q2 := cell_of (j := 1) y2; have hB2 := hB1.trans (hb2.mono hB1.size); have j0 := (hB2.cell (p := ⟨r, off + 2, none⟩) hr).trans e0; have j1 := (hB2.cell (p := ⟨r, off + 2 + 1, none⟩) hr).trans e1))
  go_ret
  exact ⟨⟨_, _, rfl⟩, hB2.alloc hB2.size _⟩
set_option maxHeartbeats 4000000 in
theorem code_2 (u hd ux hx : ByteArray) (r off c : Nat) (px : Option Addr) (nx cx : Nat) (w : World) (hr : r < w.heap.size) (hc : 2 ≤ c) (hc2 : c ≤ maxLen) (h1 : (hd.toList == [101]) = true) (e0 : w.cell? ⟨r, off + 2, none⟩ = some (.string ux)) (e1 : w.cell? ⟨r, off + 2 + 1, none⟩ = some (.slice px nx cx))
    (CH : ∀ W, Below w.heap.size w W → Calls Try.prog 68 #[.agg #[.string u, .slice (some ⟨r, off, none⟩) 2 c]] W fun e w' => e = .returned (.string hd) ∧ Below W.heap.size W w')
    (CHx : ∀ W, Below w.heap.size w W → Calls Try.prog 68 #[.agg #[.string ux, .slice px nx cx]] W fun e w' => e = .returned (.string hx) ∧ Below W.heap.size W w') (hx1 : (hx.toList == [116]) = true) (hn : nx ≠ 3) (hnx : nx ≤ maxLen) :
    Calls Try.prog 69 #[.agg #[.string u, .slice (some ⟨r, off, none⟩) 2 c]] w fun e w' => (∃ q k, e = .returned (.slice q 0 k)) ∧ Below w.heap.size w w' := by
  have hm := maxLen_le hc2
  have C := Lib.hid CH
  have CX := Lib.hid CHx
  clear CH CHx
  have hnm := maxLen_le hnx
  have hn1 : ((nx : Int) != 3) = true := by simp; omega
  have hn2 : ¬ (nx : Int) = 3 := by omega
  go_enter Try.func69, Try.ntmps69
  go_wp2_with (go_at_call 68; first | ((with_reducible refine (C.out _ (below1 _ _)).mono ?_); rintro e w1 ⟨rfl, hb1⟩; have y1 := below_blk hb1 (by simp) (heap_alloc_new w _); have q1 := cell_of (j := 1) y1; have hB1 := (below1 w _).trans (hb1.mono (by simp)); have i0 := (hB1.cell (p := ⟨r, off + 2, none⟩) hr).trans e0; have i1 := (hB1.cell (p := ⟨r, off + 2 + 1, none⟩) hr).trans e1) | ((with_reducible refine (CX.out _ hB1).mono ?_); rintro e w2 ⟨rfl, hb2⟩; have y2 := below_blk hb2 (lt_of_block y1) y1; have q2 := cell_of (j := 1) y2; have hB2 := hB1.trans (hb2.mono hB1.size); have j0 := (hB2.cell (p := ⟨r, off + 2, none⟩) hr).trans e0; have j1 := (hB2.cell (p := ⟨r, off + 2 + 1, none⟩) hr).trans e1))
  go_ret
  exact ⟨⟨_, _, rfl⟩, hB2.alloc hB2.size _⟩
set_option maxHeartbeats 4000000 in
theorem code_3 (u hd ux hx : ByteArray) (r off c : Nat) (r2 off2 cx : Nat) (uy hy : ByteArray) (py : Option Addr) (ny cy : Nat) (w : World) (hr : r < w.heap.size) (hc : 2 ≤ c) (hc2 : c ≤ maxLen) (h1 : (hd.toList == [101]) = true) (e0 : w.cell? ⟨r, off + 2, none⟩ = some (.string ux)) (e1 : w.cell? ⟨r, off + 2 + 1, none⟩ = some (.slice (some ⟨r2, off2, none⟩) 3 cx))
    (CH : ∀ W, Below w.heap.size w W → Calls Try.prog 68 #[.agg #[.string u, .slice (some ⟨r, off, none⟩) 2 c]] W fun e w' => e = .returned (.string hd) ∧ Below W.heap.size W w')
    (CHx : ∀ W, Below w.heap.size w W → Calls Try.prog 68 #[.agg #[.string ux, .slice (some ⟨r2, off2, none⟩) 3 cx]] W fun e w' => e = .returned (.string hx) ∧ Below W.heap.size W w') (hx1 : (hx.toList == [116]) = true) (hr2 : r2 < w.heap.size) (hcx : 3 ≤ cx) (hcx2 : cx ≤ maxLen) (f0 : w.cell? ⟨r2, off2 + 2, none⟩ = some (.string uy)) (f1 : w.cell? ⟨r2, off2 + 2 + 1, none⟩ = some (.slice py ny cy))
    (CHy : ∀ W, Below w.heap.size w W → Calls Try.prog 68 #[.agg #[.string uy, .slice py ny cy]] W fun e w' => e = .returned (.string hy) ∧ Below W.heap.size W w') (hy1 : (hy.toList == [99]) = false) :
    Calls Try.prog 69 #[.agg #[.string u, .slice (some ⟨r, off, none⟩) 2 c]] w fun e w' => (∃ q k, e = .returned (.slice q 0 k)) ∧ Below w.heap.size w w' := by
  have hm := maxLen_le hc2
  have C := Lib.hid CH
  have CX := Lib.hid CHx
  clear CH CHx
  have CY := Lib.hid CHy
  have hmx := maxLen_le hcx2
  clear CHy
  have hy2 : ¬ hy.toList = [99] := by simpa using hy1
  go_enter Try.func69, Try.ntmps69
  go_wp2_with (go_at_call 68; first | ((with_reducible refine (C.out _ (below1 _ _)).mono ?_); rintro e w1 ⟨rfl, hb1⟩; have y1 := below_blk hb1 (by simp) (heap_alloc_new w _); have q1 := cell_of (j := 1) y1; have hB1 := (below1 w _).trans (hb1.mono (by simp)); have i0 := (hB1.cell (p := ⟨r, off + 2, none⟩) hr).trans e0; have i1 := (hB1.cell (p := ⟨r, off + 2 + 1, none⟩) hr).trans e1) | ((with_reducible refine (CX.out _ hB1).mono ?_); rintro e w2 ⟨rfl, hb2⟩; have y2 := below_blk hb2 (lt_of_block y1) y1; have q2 := cell_of (j := 1) y2; have hB2 := hB1.trans (hb2.mono hB1.size); have j0 := (hB2.cell (p := ⟨r, off + 2, none⟩) hr).trans e0; have j1 := (hB2.cell (p := ⟨r, off + 2 + 1, none⟩) hr).trans e1; have l0 := (hB2.cell (p := ⟨r2, off2 + 2, none⟩) hr2).trans f0; have l1 := (hB2.cell (p := ⟨r2, off2 + 2 + 1, none⟩) hr2).trans f1) | ((with_reducible refine (CY.out _ hB2).mono ?_); rintro e w3 ⟨rfl, hb3⟩; have y3 := below_blk hb3 (lt_of_block y2) y2; have q3 := cell_of (j := 1) y3; have hB3 := hB2.trans (hb3.mono hB2.size); have m0 := (hB3.cell (p := ⟨r, off + 2, none⟩) hr).trans e0; have m1 := (hB3.cell (p := ⟨r, off + 2 + 1, none⟩) hr).trans e1; have n0 := (hB3.cell (p := ⟨r2, off2 + 2, none⟩) hr2).trans f0; have n1 := (hB3.cell (p := ⟨r2, off2 + 2 + 1, none⟩) hr2).trans f1))
  go_ret
  exact ⟨⟨_, _, rfl⟩, hB3.alloc hB3.size _⟩
set_option maxHeartbeats 4000000 in
theorem code_4 (u hd ux hx : ByteArray) (r off c : Nat) (r2 off2 cx : Nat) (uy hy : ByteArray) (py : Option Addr) (ny cy : Nat) (w : World) (hr : r < w.heap.size) (hc : 2 ≤ c) (hc2 : c ≤ maxLen) (h1 : (hd.toList == [101]) = true) (e0 : w.cell? ⟨r, off + 2, none⟩ = some (.string ux)) (e1 : w.cell? ⟨r, off + 2 + 1, none⟩ = some (.slice (some ⟨r2, off2, none⟩) 3 cx))
    (CH : ∀ W, Below w.heap.size w W → Calls Try.prog 68 #[.agg #[.string u, .slice (some ⟨r, off, none⟩) 2 c]] W fun e w' => e = .returned (.string hd) ∧ Below W.heap.size W w')
    (CHx : ∀ W, Below w.heap.size w W → Calls Try.prog 68 #[.agg #[.string ux, .slice (some ⟨r2, off2, none⟩) 3 cx]] W fun e w' => e = .returned (.string hx) ∧ Below W.heap.size W w') (hx1 : (hx.toList == [116]) = true) (hr2 : r2 < w.heap.size) (hcx : 3 ≤ cx) (hcx2 : cx ≤ maxLen) (f0 : w.cell? ⟨r2, off2 + 2, none⟩ = some (.string uy)) (f1 : w.cell? ⟨r2, off2 + 2 + 1, none⟩ = some (.slice py ny cy))
    (CHy : ∀ W, Below w.heap.size w W → Calls Try.prog 68 #[.agg #[.string uy, .slice py ny cy]] W fun e w' => e = .returned (.string hy) ∧ Below W.heap.size W w') (hy1 : (hy.toList == [99]) = true) :
    Calls Try.prog 69 #[.agg #[.string u, .slice (some ⟨r, off, none⟩) 2 c]] w fun e w' => (e = .returned (.slice py ny cy)) ∧ Below w.heap.size w w' := by
  have hm := maxLen_le hc2
  have C := Lib.hid CH
  have CX := Lib.hid CHx
  clear CH CHx
  have CY := Lib.hid CHy
  have hmx := maxLen_le hcx2
  clear CHy
  go_enter Try.func69, Try.ntmps69
  go_wp2_with (go_at_call 68; first | ((with_reducible refine (C.out _ (below1 _ _)).mono ?_); rintro e w1 ⟨rfl, hb1⟩; have y1 := below_blk hb1 (by simp) (heap_alloc_new w _); have q1 := cell_of (j := 1) y1; have hB1 := (below1 w _).trans (hb1.mono (by simp)); have i0 := (hB1.cell (p := ⟨r, off + 2, none⟩) hr).trans e0; have i1 := (hB1.cell (p := ⟨r, off + 2 + 1, none⟩) hr).trans e1) | ((with_reducible refine (CX.out _ hB1).mono ?_); rintro e w2 ⟨rfl, hb2⟩; have y2 := below_blk hb2 (lt_of_block y1) y1; have q2 := cell_of (j := 1) y2; have hB2 := hB1.trans (hb2.mono hB1.size); have j0 := (hB2.cell (p := ⟨r, off + 2, none⟩) hr).trans e0; have j1 := (hB2.cell (p := ⟨r, off + 2 + 1, none⟩) hr).trans e1; have l0 := (hB2.cell (p := ⟨r2, off2 + 2, none⟩) hr2).trans f0; have l1 := (hB2.cell (p := ⟨r2, off2 + 2 + 1, none⟩) hr2).trans f1) | ((with_reducible refine (CY.out _ hB2).mono ?_); rintro e w3 ⟨rfl, hb3⟩; have y3 := below_blk hb3 (lt_of_block y2) y2; have q3 := cell_of (j := 1) y3; have hB3 := hB2.trans (hb3.mono hB2.size); have m0 := (hB3.cell (p := ⟨r, off + 2, none⟩) hr).trans e0; have m1 := (hB3.cell (p := ⟨r, off + 2 + 1, none⟩) hr).trans e1; have n0 := (hB3.cell (p := ⟨r2, off2 + 2, none⟩) hr2).trans f0; have n1 := (hB3.cell (p := ⟨r2, off2 + 2 + 1, none⟩) hr2).trans f1))
  go_ret
  exact ⟨rfl, hB3⟩
theorem codeOf_head {t : Tr} (h : hdT t ≠ [101]) : codeOf t = [] := by
  unfold codeOf
  split
  · rename_i h1 h2 h3 cs z
    rw [if_neg (fun hh => h hh.1)]
  · rfl
theorem codeOf_two {h x : Tr} (hx : hdT x ≠ [116]) : codeOf (.list [h, x]) = [] := by
  match x, hx with
  | .atom _, _ => simp [codeOf]
  | .list [], _ => simp [codeOf]
  | .list [_], _ => simp [codeOf]
  | .list [_, _], _ => simp [codeOf]
  | .list [h2, .atom _, _], _ => simp [codeOf]
  | .list [h2, .list [], _], _ => simp [codeOf]
  | .list [h2, .list (h3 :: cs), z], hx =>
    simp only [codeOf]
    rw [if_neg (fun hh => hx hh.2.1)]
  | .list (_ :: _ :: _ :: _ :: _), _ => simp [codeOf]
theorem codeOf_len {h : Tr} {xs : List Tr} (hx : xs.length ≠ 3) : codeOf (.list [h, .list xs]) = [] := by
  match xs, hx with
  | [], _ => simp [codeOf]
  | [_], _ => simp [codeOf]
  | [_, _], _ => simp [codeOf]
  | [_, _, _], hx => exact absurd rfl hx
  | _ :: _ :: _ :: _ :: _, _ => simp [codeOf]
theorem codeOf_c {h h2 y z : Tr} (hy : hdT y ≠ [99]) : codeOf (.list [h, .list [h2, y, z]]) = [] := by
  match y, hy with
  | .atom _, _ => simp [codeOf]
  | .list [], _ => simp [codeOf]
  | .list (h3 :: cs), hy =>
    simp only [codeOf]
    rw [if_neg (fun hh => hy hh.2.2)]
theorem codePost_nil {ok : Nat → Prop} {e : Ending} {w' : World} (h : ∃ q k, e = .returned (.slice q 0 k)) : CodePost ok [] e w' := by
  obtain ⟨q, k, h⟩ := h
  exact ⟨q, k, h, fun h => absurd rfl h⟩
theorem l6tCode_c (t : Tr) (p : Option Addr) (n c : Nat) (ok : Nat → Prop) (w : World) (hwf : t.wf) (hE : hdT t = [101] → ∃ h x, t = .list [h, x]) (hv : FV nS w ok t (nS t (.slice p n c))) (hok : ∀ k, ok k → k < w.heap.size) :
    Calls Try.prog 69 #[.agg #[.string (bs (atomOf t)), .slice p n c]] w fun e w' => CodePost ok (codeOf t) e w' ∧ Below w.heap.size w w' := by
  have CH := fun W (hW : Below w.heap.size w W) => l4HeadT_c t p n c ok W hwf (hv.below hW hok) (fun k hk => Nat.lt_of_lt_of_le (hok k hk) hW.size)
  by_cases h1 : hdT t = [101]
  · obtain ⟨h, x, rfl⟩ := hE h1
    obtain ⟨r, off, cap, xs, hh, g2, g3, g4, g5, g6⟩ := hv.list_cells
    have hh := nS_inj _ _ _ hh
    simp only [Value.slice.injEq] at hh
    obtain ⟨rfl, rfl, rfl⟩ := hh
    obtain ⟨cs, i1, i2⟩ := FVs.get nS_len g6 g5 1 (by simp)
    obtain ⟨px, nx, cx, rfl⟩ := i1.node
    have hwx : x.wf := hwf.2.2.1
    have hr := hok r g2
    have e0 : w.cell? ⟨r, off + 2, none⟩ = some (.string (bs (atomOf x))) := by simpa using i2 0 _ rfl
    have e1 : w.cell? ⟨r, off + 2 + 1, none⟩ = some (.slice px nx cx) := by simpa using i2 1 _ rfl
    have CHx := fun W (hW : Below w.heap.size w W) => l4HeadT_c x px nx cx ok W hwx (i1.below hW hok) (fun k hk => Nat.lt_of_lt_of_le (hok k hk) hW.size)
    have s1 : ((bs (hdT (.list [h, x]))).toList == [101]) = true := by rw [bs_toList, h1]; rfl
    by_cases h2 : hdT x = [116]
    · have s2 : ((bs (hdT x)).toList == [116]) = true := by rw [bs_toList, h2]; rfl
      match x, i1, hwx, h2, e0, e1, CHx, s2, hE, h1, hv, CH, g5, g6, i2, s1, hwf with
      | .atom a, _, _, h2, _, _, _, _, _, _, _, _, _, _, _, _, _ => cases h2
      | .list ys, i1, hwx, h2, e0, e1, CHx, s2, hE, h1, hv, CH, g5, g6, i2, s1, hwf =>
        obtain ⟨r2, off2, cap2, zs, hh, k2, k3, k4, k5, k6⟩ := i1.list_cells
        have hh := nS_inj _ _ _ hh
        simp only [Value.slice.injEq] at hh
        obtain ⟨rfl, rfl, rfl⟩ := hh
        by_cases h3 : ys.length = 3
        · obtain ⟨h2', y, z, rfl⟩ := three_of h3
          obtain ⟨ds, j1, j2⟩ := FVs.get nS_len k6 k5 1 (by simp)
          obtain ⟨py, ny, cy, rfl⟩ := j1.node
          have hwy : y.wf := hwx.2.2.1
          have f0 : w.cell? ⟨r2, off2 + 2, none⟩ = some (.string (bs (atomOf y))) := by simpa using j2 0 _ rfl
          have f1 : w.cell? ⟨r2, off2 + 2 + 1, none⟩ = some (.slice py ny cy) := by simpa using j2 1 _ rfl
          have CHy := fun W (hW : Below w.heap.size w W) => l4HeadT_c y py ny cy ok W hwy (j1.below hW hok) (fun k hk => Nat.lt_of_lt_of_le (hok k hk) hW.size)
          by_cases h4 : hdT y = [99]
          · have s4 : ((bs (hdT y)).toList == [99]) = true := by rw [bs_toList, h4]; rfl
            refine (code_4 _ _ _ _ r off _ r2 off2 _ _ _ py ny cy w hr g3 g4 s1 e0 e1 CH CHx s2 (hok r2 k2) k3 k4 f0 f1 CHy s4).mono fun e w' ⟨m1, m2⟩ => ⟨?_, m2⟩
            match y, j1, h4 with
            | .list (h3' :: cs), j1, h4 =>
              obtain ⟨r3, off3, cap3, us, hh, o2, o3, o4, o5, o6⟩ := j1.list_cells
              have hh := nS_inj _ _ _ hh
              simp only [Value.slice.injEq] at hh
              obtain ⟨rfl, rfl, rfl⟩ := hh
              have hcd : codeOf (.list [h, .list [h2', .list (h3' :: cs), z]]) = h3' :: cs := by
                simp only [codeOf]
                exact if_pos ⟨h1, h2, h4⟩
              rw [hcd]
              exact ⟨_, _, m1, fun _ => ⟨r3, off3, us, rfl, o2, o3, o4, o5.move (m2.block r3 (hok r3 o2)), o6.below m2 hok⟩⟩
          · have s4 : ((bs (hdT y)).toList == [99]) = false := by rw [bs_toList]; simpa using h4
            rw [codeOf_c h4]
            exact (code_3 _ _ _ _ r off _ r2 off2 _ _ _ py ny cy w hr g3 g4 s1 e0 e1 CH CHx s2 (hok r2 k2) k3 k4 f0 f1 CHy s4).mono fun e w' ⟨m1, m2⟩ => ⟨codePost_nil m1, m2⟩
        · rw [codeOf_len h3]
          exact (code_2 _ _ _ _ r off _ _ _ _ w hr g3 g4 s1 e0 e1 CH CHx s2 h3 (Nat.le_trans k3 k4)).mono fun e w' ⟨m1, m2⟩ => ⟨codePost_nil m1, m2⟩
    · have s2 : ((bs (hdT x)).toList == [116]) = false := by rw [bs_toList]; simpa using h2
      rw [codeOf_two h2]
      exact (code_1 _ _ _ _ r off _ px nx cx w hr g3 g4 s1 e0 e1 CH CHx s2).mono fun e w' ⟨m1, m2⟩ => ⟨codePost_nil m1, m2⟩
  · have s1 : ((bs (hdT t)).toList == [101]) = false := by rw [bs_toList]; simpa using h1
    rw [codeOf_head h1]
    exact (code_0 _ _ p n c w s1 CH).mono fun e w' ⟨m1, m2⟩ => ⟨codePost_nil m1, m2⟩
end Go.Proofs.Ytaoicbmepliklaa
