/- The program takes a package of code apart. -/
import Derived.Test.YtaoicbmepliklaaTge
import Derived.Test.YtaoicbmepliklaaTg9
import Derived.Deep.RegionWith
namespace Go.Proofs.Ytaoicbmepliklaa
open Go.RowKit
set_option maxRecDepth 8000
set_option linter.unusedSimpArgs false
set_option linter.unusedVariables false
def second : Tr → Option Tr
  | .list (_ :: b :: _) => some b
  | _ => none
theorem second_pk (ns : List Tr) : (second (pk ns)).bind second = some (codeT ns) := rfl
/-- A form's value, or that of none. -/
def PVal (w : World) (ok : Nat → Prop) (o : Option Tr) (u : ByteArray) (p : Option Addr) (n c : Nat) (x y z : Int) : Prop :=
  match o with
  | none => u = ⟨#[]⟩ ∧ p = none ∧ n = 0 ∧ c = 0 ∧ x = 0 ∧ y = 0 ∧ z = 0
  | some t => u = bs (atomOf t) ∧ x = t.bytes ∧ y = t.size ∧ z = t.depth ∧ FV nI w ok t (nI t (.slice p n c))
def PPost (ok : Nat → Prop) (o : Option Tr) (e : Ending) (w' : World) : Prop := ∃ u p n c x y z, e = .returned (.agg #[.string u, .slice p n c, .int .i64 x, .int .i64 y, .int .i64 z]) ∧ PVal w' ok o u p n c x y z
set_option maxHeartbeats 2000000 in
theorem part_no (u : ByteArray) (p : Option Addr) (n c : Nat) (hn : n < 2) (x y z : Int) (w : World) :
    Calls Try.prog 94 #[.agg #[.string u, .slice p n c, .int .i64 x, .int .i64 y, .int .i64 z], .int .i64 1] w fun e w' => e = .returned (.agg #[.string ⟨#[]⟩, .slice none 0 0, .int .i64 0, .int .i64 0, .int .i64 0]) ∧ Below w.heap.size w w' := by
  have hd : decide ((n : Int) ≤ 1) = true := by simp; omega
  have hd2 : (n : Int) ≤ 1 := by omega
  have x1 := heap_alloc_new2 w (.cells #[.string u, .slice p n c, .int .i64 x, .int .i64 y, .int .i64 z] 41) (.cells #[.string ⟨#[]⟩, .slice none 0 0, .int .i64 0, .int .i64 0, .int .i64 0] 41)
  go_enter Try.func94, Try.ntmps94
  go_wp2_with fail
  have O := set5_same x1 (.string ⟨#[]⟩) (.slice none 0 0) (.int .i64 0) (.int .i64 0) (.int .i64 0)
  have q0 := cell_of (j := 0) O
  have q1 := cell_of (j := 1) O
  have q2 := cell_of (j := 2) O
  have q3 := cell_of (j := 3) O
  have q4 := cell_of (j := 4) O
  first
    | exact bodyPost_ret (v := .agg #[.string ⟨#[]⟩, .slice none 0 0, .int .i64 0, .int .i64 0, .int .i64 0]) (by simp [results, Try.results94, go_sem, q0, q1, q2, q3, q4]) rfl ⟨rfl, set5 (below2 w _ _) (by omega) _ _ _ _ _⟩
    | exact bodyPost_ret (v := .agg #[.string ⟨#[]⟩, .slice none 0 0, .int .i64 0, .int .i64 0, .int .i64 0]) (by simp [results, Try.results94, go_sem]) rfl ⟨rfl, below2 w _ _⟩
set_option maxHeartbeats 2000000 in
theorem part_yes (u : ByteArray) (r off n c : Nat) (hn : 2 ≤ n) (hc : n ≤ c) (hc2 : c ≤ maxLen) (hrlt : r < 1000000000000000000 + r) (x y z : Int) (w : World) (hr : r < w.heap.size) (v : ByteArray) (q : Option Addr) (m k : Nat) (a1 a2 a3 : Int)
    (e0 : w.cell? ⟨r, off + 5, none⟩ = some (.string v)) (e1 : w.cell? ⟨r, off + 5 + 1, none⟩ = some (.slice q m k)) (e2 : w.cell? ⟨r, off + 5 + 2, none⟩ = some (.int .i64 a1)) (e3 : w.cell? ⟨r, off + 5 + 3, none⟩ = some (.int .i64 a2)) (e4 : w.cell? ⟨r, off + 5 + 4, none⟩ = some (.int .i64 a3)) :
    Calls Try.prog 94 #[.agg #[.string u, .slice (some ⟨r, off, none⟩) n c, .int .i64 x, .int .i64 y, .int .i64 z], .int .i64 1] w fun e w' => e = .returned (.agg #[.string v, .slice q m k, .int .i64 a1, .int .i64 a2, .int .i64 a3]) ∧ Below w.heap.size w w' := by
  have hm := maxLen_le hc2
  have hd : decide ((n : Int) ≤ 1) = false := by simp; omega
  have hd2 : ¬ (n : Int) ≤ 1 := by omega
  have hd3 : (1 : Nat) < n := by omega
  have x1 := heap_alloc_new2 w (.cells #[.string u, .slice (some ⟨r, off, none⟩) n c, .int .i64 x, .int .i64 y, .int .i64 z] 41) (.cells #[.string ⟨#[]⟩, .slice none 0 0, .int .i64 0, .int .i64 0, .int .i64 0] 41)
  go_enter Try.func94, Try.ntmps94
  go_wp2_with fail
  have O := set5_same x1 (.string v) (.slice q m k) (.int .i64 a1) (.int .i64 a2) (.int .i64 a3)
  have q0 := cell_of (j := 0) O
  have q1 := cell_of (j := 1) O
  have q2 := cell_of (j := 2) O
  have q3 := cell_of (j := 3) O
  have q4 := cell_of (j := 4) O
  first
    | exact bodyPost_ret (v := .agg #[.string v, .slice q m k, .int .i64 a1, .int .i64 a2, .int .i64 a3]) (by simp [results, Try.results94, go_sem, q0, q1, q2, q3, q4]) rfl ⟨rfl, set5 (below2 w _ _) (by omega) _ _ _ _ _⟩
    | exact bodyPost_ret (v := .agg #[.string v, .slice q m k, .int .i64 a1, .int .i64 a2, .int .i64 a3]) (by simp [results, Try.results94, go_sem]) rfl ⟨rfl, below2 w _ _⟩
theorem part_c (o : Option Tr) (u : ByteArray) (p : Option Addr) (n c : Nat) (x y z : Int) (ok : Nat → Prop) (w : World) (hv : PVal w ok o u p n c x y z) (hok : ∀ k, ok k → k < w.heap.size) :
    Calls Try.prog 94 #[.agg #[.string u, .slice p n c, .int .i64 x, .int .i64 y, .int .i64 z], .int .i64 1] w fun e w' => PPost ok (o.bind second) e w' ∧ Below w.heap.size w w' := by
  match o, hv with
  | none, ⟨h1, h2, h3, h4, h5, h6, h7⟩ =>
    subst h1 h2 h3 h4 h5 h6 h7
    exact (part_no _ _ _ _ (by decide) _ _ _ w).mono fun e w' ⟨k1, k2⟩ => ⟨⟨_, _, _, _, _, _, _, k1, rfl, rfl, rfl, rfl, rfl, rfl, rfl⟩, k2⟩
  | some (.atom a), ⟨h1, h2, h3, h4, h5⟩ =>
    simp only [FV] at h5
    have hh := nI_inj _ _ _ h5
    simp only [Value.slice.injEq] at hh
    obtain ⟨rfl, rfl, rfl⟩ := hh
    exact (part_no _ _ _ _ (by decide) _ _ _ w).mono fun e w' ⟨k1, k2⟩ => ⟨⟨_, _, _, _, _, _, _, k1, rfl, rfl, rfl, rfl, rfl, rfl, rfl⟩, k2⟩
  | some (.list ts), ⟨h1, h2, h3, h4, h5⟩ =>
    obtain ⟨r, off, cap, xs, hh, g2, g3, g4, g5, g6⟩ := h5.list_cells
    have hh := nI_inj _ _ _ hh
    simp only [Value.slice.injEq] at hh
    obtain ⟨rfl, rfl, rfl⟩ := hh
    match ts, g3, g6 with
    | [], _, _ => exact (part_no _ _ _ _ (by decide) _ _ _ w).mono fun e w' ⟨k1, k2⟩ => ⟨⟨_, _, _, _, _, _, _, k1, rfl, rfl, rfl, rfl, rfl, rfl, rfl⟩, k2⟩
    | [_], _, _ => exact (part_no _ _ _ _ (by simp) _ _ _ w).mono fun e w' ⟨k1, k2⟩ => ⟨⟨_, _, _, _, _, _, _, k1, rfl, rfl, rfl, rfl, rfl, rfl, rfl⟩, k2⟩
    | a :: b :: ts, g3, g6 =>
      obtain ⟨cs, i1, i2⟩ := FVs.get nI_len g6 g5 1 (by simp)
      obtain ⟨q, m, k, rfl⟩ := i1.node
      exact (part_yes u r off _ c (by simp) g3 g4 (by omega) x y z w (hok r g2) _ q m k _ _ _ (i2 0 _ rfl) (i2 1 _ rfl) (i2 2 _ rfl) (i2 3 _ rfl) (i2 4 _ rfl)).mono fun e w' ⟨k1, k2⟩ => ⟨⟨_, _, _, _, _, _, _, k1, rfl, rfl, rfl, rfl, i1.below k2 hok⟩, k2⟩
end Go.Proofs.Ytaoicbmepliklaa
