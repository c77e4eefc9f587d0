/- The plain mathematics of chapter 3: how many expressions an expression has; environments, types, the first fault. The program: ExprPlain. The plain text of an expression: it is read back, has the same type and as many parts. The reference model counts an expression and its parts. -/
import Derived.Test.YtjncmmnbdabjnaaGreatDoorPureT
import Derived.Test.YtjncmmnbdabjnaaGreatDoorS2f
import Derived.Test.YtjncmmnbdabjnaaGreatDoorIp4
import Derived.Test.YtjncmmnbdabjnaaGreatDoorImpl2v
import Derived.Test.YtjncmmnbdabjnaaGreatDoorSpec2iM
import Derived.Test.YtjncmmnbdabjnaaGreatDoorPureA
namespace Go.Proofs.YtjncmmnbdabjnaaGreatDoor
open Go.RowKit
set_option maxRecDepth 8000
set_option linter.unusedSimpArgs false
set_option linter.unusedVariables false
/-- How many of an expression and its parts there are. -/
def manyE : Ex → Nat
  | .name _ => 1
  | .num _ => 1
  | .two _ a b => 1 + manyE a + manyE b
  | .one _ a => 1 + manyE a
  | .cond a b c => 1 + manyE a + manyE b + manyE c
  | .lete _ e b => 1 + manyE e + manyE b
  | .func _ _ _ _ e => 1 + manyE e
def sumM : List Ex → Nat
  | [] => 0
  | k :: ks => manyE k + sumM ks
theorem sumM_snoc (e : Ex) : ∀ ks : List Ex, sumM (ks ++ [e]) = sumM ks + manyE e
  | [] => by simp [sumM]
  | k :: ks => by simp only [List.cons_append, sumM, sumM_snoc e ks]; omega
theorem sumM_take (ks : List Ex) (j : Nat) (h : j < ks.length) : sumM (ks.take (j + 1)) = sumM (ks.take j) + manyE ks[j] := by
  rw [List.take_succ_eq_append_getElem h, sumM_snoc]
theorem sumM_take_le : ∀ (ks : List Ex) (j : Nat), sumM (ks.take j) ≤ sumM ks
  | [], j => by simp [sumM]
  | k :: ks, 0 => by simp [sumM]
  | k :: ks, j + 1 => by have := sumM_take_le ks j; simp only [List.take_succ_cons, sumM]; omega
theorem many_kids : ∀ x : Ex, manyE x = 1 + sumM (kidsE x)
  | .name _ => by simp [manyE, kidsE, sumM]
  | .num _ => by simp [manyE, kidsE, sumM]
  | .two _ a b => by simp only [manyE, kidsE, sumM]; omega
  | .one _ a => by simp only [manyE, kidsE, sumM]; omega
  | .cond a b c => by simp only [manyE, kidsE, sumM]; omega
  | .lete x e b => by simp only [manyE, kidsE, sumM]; omega
  | .func f x _ _ e => by simp only [manyE, kidsE, sumM]; omega
theorem many_le : ∀ (n : Nat) (t : Tr) (x : Ex), t.depth < n → t.wf → asEx t = some x → manyE x ≤ t.size
  | 0, t, x, h, _, _ => by omega
  | n + 1, .atom a, x, _, _, h => by
    simp only [asEx, atomEx] at h
    simp only [Tr.size]
    split at h
    · simp only [Option.some.injEq] at h; subst h; simp [manyE]
    · split at h
      · simp only [Option.some.injEq] at h; subst h; simp [manyE]
      · cases h
  | n + 1, .list [], x, _, hw, h => by simp [Tr.wf] at hw
  | n + 1, .list (h :: ps), x, hd, hw, e => by
    obtain ⟨a, V⟩ := kidView e
    simp only [Tr.wf] at hw
    have hh := size_pos h hw.2.1
    have hstep : ∀ j, j ≤ (kidsE x).length → 1 + sumM ((kidsE x).take j) ≤ sizes ((h :: ps).take (a + j)) := by
      intro j
      induction j with
      | zero =>
        intro _
        obtain ⟨b, rfl⟩ : ∃ b, a = b + 1 := ⟨a - 1, by have := V.pos; omega⟩
        simp only [Nat.add_zero, List.take_zero, sumM, List.take_succ_cons, sizes]; omega
      | succ j ih =>
        intro hj
        have hj' : j < (kidsE x).length := by omega
        have hb := kids_bound V hj'
        have h1 := ih (by omega)
        have h2 := V.kid j hj' hb
        have h3 := many_le n _ _ (by have := depth_lt hb; omega) (wf_get hw.2 hb) h2
        have h5 := sizes_take (h :: ps) (a + j) hb
        rw [sumM_take _ _ hj', show a + (j + 1) = a + j + 1 by omega, h5]
        omega
    have h1 := hstep _ (Nat.le_refl _)
    rw [List.take_length] at h1
    have h2 := sizes_take_le (h :: ps) (a + (kidsE x).length)
    have h3 := many_kids x
    simp only [Tr.size] at *
    omega
theorem readEx_many {l : List UInt8} {x : Ex} (h : readEx l = some x) : manyE x ≤ 120 := by
  cases hp : parse l with
  | none => rw [readEx_none hp] at h; cases h
  | some t =>
    rw [readEx_some hp] at h
    split at h
    · rename_i hs
      have := many_le (t.depth + 1) t x (by omega) (parse_got hp).1 h
      omega
    · cases h
/-- ExprMany's answer. -/
def manyOf (l : List UInt8) : Int := match readEx l with | none => -1 | some x => (manyE x : Nat)
theorem manyOf_none {l : List UInt8} (h : readEx l = none) : manyOf l = -1 := by simp [manyOf, h]
theorem manyOf_some {l : List UInt8} {x : Ex} (h : readEx l = some x) : manyOf l = (manyE x : Nat) := by simp [manyOf, h]
end Go.Proofs.YtjncmmnbdabjnaaGreatDoor
namespace Go.Proofs.YtjncmmnbdabjnaaGreatDoor
open Go.RowKit
set_option maxRecDepth 8000
set_option linter.unusedSimpArgs false
set_option linter.unusedVariables false
/-- A name that can be written. -/
def NmP (s : Nm) : Prop := (Tr.atom s).wf ∧ s.length ≤ 4
theorem digAB (d : Nat) (h : d < 10) : isAB (UInt8.ofNat (48 + d)) = true := by
  have : ∀ d : Nat, d < 10 → isAB (UInt8.ofNat (48 + d)) = true := by decide
  exact this d h
theorem xName_P {i : Nat} (h : i ≤ 200) : NmP (xName i) := by
  unfold NmP xName Lib.itoa
  rw [if_neg (by omega)]
  simp only [Int.toNat_natCast]
  by_cases h1 : i < 10
  · rw [dd1 i h1]
    refine ⟨⟨by simp, fun b hb => ?_⟩, by simp⟩
    simp only [List.mem_cons, List.not_mem_nil, or_false] at hb
    rcases hb with rfl | rfl
    · decide
    · exact digAB i h1
  · by_cases h2 : i < 100
    · obtain ⟨d1, d2, e, k1, k2, k3⟩ : ∃ d1 d2, i = d1 * 10 + d2 ∧ 1 ≤ d1 ∧ d1 < 10 ∧ d2 < 10 := ⟨i / 10, i % 10, by omega, by omega, by omega, by omega⟩
      rw [e, dd2 d1 d2 k1 k2 k3]
      refine ⟨⟨by simp, fun b hb => ?_⟩, by simp⟩
      simp only [List.mem_cons, List.not_mem_nil, or_false] at hb
      rcases hb with rfl | rfl | rfl
      · decide
      · exact digAB d1 k2
      · exact digAB d2 k3
    · obtain ⟨d1, d2, d3, e, k1, k2, k3, k4⟩ : ∃ d1 d2 d3, i = (d1 * 10 + d2) * 10 + d3 ∧ 1 ≤ d1 ∧ d1 < 10 ∧ d2 < 10 ∧ d3 < 10 := ⟨i / 100, i / 10 % 10, i % 10, by omega, by omega, by omega, by omega, by omega⟩
      rw [e, dd3 d1 d2 d3 k1 k2 k3 k4]
      refine ⟨⟨by simp, fun b hb => ?_⟩, by simp⟩
      simp only [List.mem_cons, List.not_mem_nil, or_false] at hb
      rcases hb with rfl | rfl | rfl | rfl
      · decide
      · exact digAB d1 k2
      · exact digAB d2 k3
      · exact digAB d3 k4
def MpP (m : List (Nm × Nm)) : Prop := ∀ q ∈ m, NmP q.2
theorem MpP.cons {m : List (Nm × Nm)} (h : MpP m) (x : Nm) {y : Nm} (hy : NmP y) : MpP ((x, y) :: m) := fun q hq => by
  rcases List.mem_cons.1 hq with rfl | hq
  · exact hy
  · exact h q hq
theorem lookR_P {s : Nm} (hs : NmP s) : ∀ {m : List (Nm × Nm)}, MpP m → NmP (lookR m s)
  | [], _ => hs
  | (a, b) :: m, h => by
    simp only [lookR]
    split
    · exact h (a, b) (by simp)
    · exact lookR_P hs (fun q hq => h q (by simp [hq]))
/-- Can an expression be written, in so many bytes? -/
def ExP (N : Nat) (x : Ex) : Prop := (formOf x).wf ∧ exOK x ∧ (formOf x).bytes ≤ N
theorem plE_P (free : List Nm) : ∀ (x : Ex) (m : List (Nm × Nm)) (k : Nat), MpP m → (formOf x).wf → exOK x → (plE free m k x).2 ≤ 200 → (formOf (plE free m k x).1).wf ∧ exOK (plE free m k x).1 ∧ (formOf (plE free m k x).1).bytes ≤ 4 * (formOf x).bytes
  | .name s, m, k, hm, hw, ho, h2 => by
    simp only [formOf, exOK] at hw ho
    have h := lookR_P (s := s) ⟨hw, ho⟩ hm
    have h1 : 1 ≤ s.length := by cases s with
      | nil => simp [Tr.wf] at hw
      | cons a l => simp
    simp only [plE, formOf, exOK, Tr.bytes]
    exact ⟨h.1, h.2, by have := h.2; omega⟩
  | .num n, m, k, hm, hw, ho, h2 => by
    simp only [plE]
    exact ⟨hw, ho, by omega⟩
  | .two o a b, m, k, hm, hw, ho, h2 => by
    simp only [formOf, Tr.wf, wfs] at hw
    simp only [exOK] at ho
    simp only [plE] at h2
    have hb := (plE_used free b m (plE free m k a).2).1
    obtain ⟨a1, a2, a3⟩ := plE_P free a m k hm hw.2.2.1 ho.1 (by omega)
    obtain ⟨b1, b2, b3⟩ := plE_P free b m _ hm hw.2.2.2.1 ho.2 h2
    simp only [plE, formOf, Tr.wf, wfs, exOK, Tr.bytes, bytess]
    exact ⟨⟨by simp, hw.2.1, a1, b1, trivial⟩, ⟨a2, b2⟩, by omega⟩
  | .one o a, m, k, hm, hw, ho, h2 => by
    simp only [formOf, Tr.wf, wfs] at hw
    simp only [exOK] at ho
    simp only [plE] at h2
    obtain ⟨a1, a2, a3⟩ := plE_P free a m k hm hw.2.2.1 ho h2
    simp only [plE, formOf, Tr.wf, wfs, exOK, Tr.bytes, bytess]
    exact ⟨⟨by simp, hw.2.1, a1, trivial⟩, a2, by omega⟩
  | .cond a b c, m, k, hm, hw, ho, h2 => by
    simp only [formOf, Tr.wf, wfs] at hw
    simp only [exOK] at ho
    simp only [plE] at h2
    have hb := (plE_used free b m (plE free m k a).2).1
    have hc := (plE_used free c m (plE free m (plE free m k a).2 b).2).1
    obtain ⟨a1, a2, a3⟩ := plE_P free a m k hm hw.2.2.1 ho.1 (by omega)
    obtain ⟨b1, b2, b3⟩ := plE_P free b m (plE free m k a).2 hm hw.2.2.2.1 ho.2.1 (by omega)
    obtain ⟨c1, c2, c3⟩ := plE_P free c m _ hm hw.2.2.2.2.1 ho.2.2 h2
    simp only [plE, formOf, Tr.wf, wfs, exOK, Tr.bytes, bytess]
    exact ⟨⟨by simp, hw.2.1, a1, b1, c1, trivial⟩, ⟨a2, b2, c2⟩, by omega⟩
  | .lete s a b, m, k, hm, hw, ho, h2 => by
    simp only [formOf, Tr.wf, wfs] at hw
    simp only [exOK] at ho
    simp only [plE] at h2
    have ha := (plE_used free a m (fresh free k + 1)).1
    have hb := (plE_used free b ((s, xName (fresh free k)) :: m) (plE free m (fresh free k + 1) a).2).1
    have hx := xName_P (i := fresh free k) (by omega)
    obtain ⟨a1, a2, a3⟩ := plE_P free a m (fresh free k + 1) hm hw.2.2.2.1 ho.2.1 (by omega)
    obtain ⟨b1, b2, b3⟩ := plE_P free b _ _ (hm.cons s hx) hw.2.2.2.2.1 ho.2.2 h2
    have hs1 : 1 ≤ s.length := by cases s with
      | nil => simp at hw
      | cons a l => simp
    have hx4 := hx.2
    simp only [plE, formOf, Tr.wf, wfs, exOK, Tr.bytes, bytess]
    exact ⟨⟨by simp, hw.2.1, hx.1, a1, b1, trivial⟩, ⟨hx.2, a2, b2⟩, by omega⟩
  | .func f s A B e, m, k, hm, hw, ho, h2 => by
    simp only [formOf, Tr.wf, wfs] at hw
    simp only [exOK] at ho
    simp only [plE] at h2
    have hj := (fresh_le free (fresh free k + 1)).1
    have he := (plE_used free e ((s, xName (fresh free (fresh free k + 1))) :: (f, xName (fresh free k)) :: m) (fresh free (fresh free k + 1) + 1)).1
    have hx := xName_P (i := fresh free k) (by omega)
    have hy := xName_P (i := fresh free (fresh free k + 1)) (by omega)
    obtain ⟨e1, e2, e3⟩ := plE_P free e _ _ ((hm.cons f hx).cons s hy) hw.2.2.2.2.2.2.1 ho.2.2 h2
    have hf1 : 1 ≤ f.length := by cases f with
      | nil => simp at hw
      | cons a l => simp
    have hs1 : 1 ≤ s.length := by cases s with
      | nil => simp at hw
      | cons a l => simp
    have hx4 := hx.2
    have hy4 := hy.2
    simp only [plE, formOf, Tr.wf, wfs, exOK, Tr.bytes, bytess]
    exact ⟨⟨by simp, hw.2.1, hx.1, hy.1, hw.2.2.2.2.1, hw.2.2.2.2.2.1, e1, trivial⟩, ⟨hx.2, hy.2, e2⟩, by omega⟩
/-- The free names of an expression, each once; the plain expression. -/
def frE (x : Ex) : List Nm := (freeP x).foldl addA []
def plX (x : Ex) : Ex := (plE (frE x) [] 0 x).1
theorem plX_few {x : Ex} (hs : (formOf x).size ≤ 120) : (plE (frE x) [] 0 x).2 ≤ 80 := plE_few (by have h := (foldA_len (freeP x) []).2; simpa [frE] using h) hs
/-- The plain text. -/
def plTx (l : List UInt8) : Option Nm := (readEx l).map (fun x => (formOf (plX x)).text)
theorem plTx_none {l : List UInt8} (h : readEx l = none) : plTx l = none := by simp [plTx, h]
theorem plTx_some {l : List UInt8} {x : Ex} (h : readEx l = some x) : plTx l = some (formOf (plX x)).text := by simp [plTx, h]
theorem EV.wideI {w w' : World} {B C : Nat} {x : Ex} {v : Value} (h : EV w (fun k => k < B) x v) (hb : Below w.heap.size w w') (hB : B ≤ w.heap.size) (hC : B ≤ C) : EV w' (fun k => k < C) x v := EV.move (fun k hk => Nat.lt_of_lt_of_le hk hC) (fun k hk => hb.block k (Nat.lt_of_lt_of_le hk hB)) _ _ h
set_option maxHeartbeats 4000000 in
theorem plainExpr_c (x : Ex) (v : Value) (B : Nat) (w : World) (hv : EV w (fun k => k < B) x v) (hB : B ≤ w.heap.size) (hl : lvs x ≤ 120) (hs : (formOf x).size ≤ 120) (hT : Tab w) :
    Calls Tryz.prog 91 #[v] w fun e w' => (∃ S t n, e = .returned (.tuple #[.iface S t, .int .i64 n]) ∧ n ≤ 100 ∧ EV w' (fun k => k < B) (plX x) (.iface S t)) ∧ Below w.heap.size w w' := by
  obtain ⟨T, u, rfl⟩ := hv.iface
  have hfew := plX_few hs
  have CF := Lib.hid (freeNames_c x (.iface T u) _ w (by omega) hv (fun k hk => by omega))
  have hfl : (frE x).length ≤ 120 := by have h := (foldA_len (freeP x) []).2; have h2 := freeP_lvs x; simp only [List.length_nil] at h; unfold frE; omega
  have CP : Hid (∀ (w1 : World) p c, Below w.heap.size w w1 → w1.ownsRow w.heap.size 9 1 (.slice p (frE x).length c) (frE x).length ((frE x).map strV) → Calls Tryz.prog 130 #[.pointer (some ⟨w1.heap.size, 0, none⟩), .iface T u, .pointer none] (w1.alloc (.cells #[.string ⟨#[120]⟩, .slice p (frE x).length c, .int .i64 0, .int .i64 0] 162)) fun e w' => (∃ S t g, e = .returned (.iface S t) ∧ EV w' (fun k => k < B) (plX x) (.iface S t) ∧ g ≤ 100 ∧ w'.cell? ⟨w1.heap.size, 3, none⟩ = some (.int .i64 (g : Nat))) ∧ Below w.heap.size w w') := Lib.hid (fun w1 p c hb1 ho => by
    have hb2 := below1 w1 (.cells #[.string ⟨#[120]⟩, .slice p (frE x).length c, .int .i64 0, .int .i64 0] 162)
    have hb := hb1.alloc hb1.size (.cells #[.string ⟨#[120]⟩, .slice p (frE x).length c, .int .i64 0, .int .i64 0] 162)
    have hsz := hb1.size
    have hst : StrS w1 (.slice p (frE x).length c) (frE x) := owns_strS6 ho (by omega)
    have h := pn_all (frE x) x [] 0 (.iface T u) (.pointer none) (.slice p (frE x).length c) w1.heap.size B (w1.alloc (.cells #[.string ⟨#[120]⟩, .slice p (frE x).length c, .int .i64 0, .int .i64 0] 162))
      (hv.wideI hb hB (Nat.le_refl _)) (by omega)
      ⟨hst.move (fun q hq => hb2.block q (ho.lt q hq).2), fun q hq => ⟨by have := (ho.lt q hq).2; omega, by have := (ho.lt q hq).2; simp; omega⟩, rfl, ⟨w, hT, hb, by omega⟩, by omega⟩
      ⟨0, Nat.le_refl _, heap_alloc_new _ _⟩ (by omega)
    refine h.mono fun e w' ⟨⟨S, t, h1, h2⟩, ⟨g, hg, hn⟩, ho2⟩ => ⟨⟨S, t, g, h1, h2, by omega, cell_of hn⟩, Only.fresh hb ho2 (by omega) hb.size⟩)
  unfold frE at CP
  generalize hP : (freeP x).foldl addA [] = P at *
  clear hv hl hs hT hfew hfl
  go_enter Tryz.func91, Tryz.ntmps91
  go_wp2_with (first | (go_at_call 60; go_must (refine (CF.out).mono ?_; rintro e w1 ⟨⟨v1, rfl, ho1⟩, hb1⟩; obtain ⟨p1, c1, rfl⟩ := owns_slice ho1)) | (go_at_call 130; go_must (refine (CP.out _ _ _ hb1 ho1).mono ?_; rintro e w3 ⟨⟨S, t, g, rfl, hx, hg, hc⟩, hb3⟩)))
  have S0 := Lib.hid (show w3.drew.cell? ⟨w1.heap.size, 3, none⟩ = some (.int .i64 (g : Nat)) from hc)
  first | (go_region_held3 (fun W => W.cell? ⟨w1.heap.size, 3, none⟩ = some (.int .i64 (g : Nat))) (first | exact S0.out | assumption | fail) (fail)) | fail
  all_goals
    go_wp2_with fail
    go_ret2
    exact ⟨⟨S, t, _, rfl, by omega, EV.move (w := w3) (w' := w3.drew) (fun k hk => hk) (fun k hk => rfl) _ _ hx⟩, hb3.drew⟩
def RpPost (r : Option Ex) (e : Ending) (w' : World) : Prop := match r with
  | none => ∃ v, e = .returned (.tuple #[v, .bool false])
  | some x => ∃ S t, e = .returned (.tuple #[.iface S t, .bool true]) ∧ EV w' (fun k => k < w'.heap.size) (plX x) (.iface S t)
set_option maxHeartbeats 1000000 in
theorem readPlain_c (s : ByteArray) (hs : s.size ≤ 1048576) (w : World) (hT : Tab w) :
    Calls Tryz.prog 54 #[.string s] w fun e w' => RpPost (readEx s.data.toList) e w' ∧ Below w.heap.size w w' := by
  cases hp : readEx s.data.toList with
  | none =>
    have C := Lib.hid (readExpr_none hs hp)
    clear hp hT
    go_enter Tryz.func54, Tryz.ntmps54
    go_wp2_with (go_at_call 46; go_must (refine (C.out _).mono ?_; rintro e w1 ⟨⟨v, rfl⟩, hb1⟩))
    go_ret2
    exact ⟨⟨_, rfl⟩, hb1⟩
  | some x =>
    have C := Lib.hid (readExpr_some hs hp)
    have hl := readEx_lvs hp
    have hsz : (formOf x).size ≤ 120 := by
      unfold readEx at hp
      cases hq : parse s.data.toList with
      | none => simp [hq] at hp
      | some t =>
        simp only [hq] at hp
        split at hp
        · rename_i h; rw [formOf_eq _ _ hp]; exact h
        · cases hp
    have CP : Hid (∀ (w1 : World) (B : Nat) v, Below w.heap.size w w1 → EV w1 (fun k => B ≤ k ∧ k < w1.heap.size) x v → Calls Tryz.prog 91 #[v] w1 fun e w' => (∃ S t n, e = .returned (.tuple #[.iface S t, .int .i64 n]) ∧ n ≤ 100 ∧ EV w' (fun k => k < w1.heap.size) (plX x) (.iface S t)) ∧ Below w1.heap.size w1 w') := Lib.hid (fun w1 B v hb hv => plainExpr_c x v w1.heap.size w1 (EV.move (fun k hk => hk.2) (fun k hk => rfl) _ _ hv) (Nat.le_refl _) hl hsz (hT.below hb))
    clear hp hl hsz hT
    go_enter Tryz.func54, Tryz.ntmps54
    go_wp2_with (first | (go_at_call 46; go_must (refine (C.out _).mono ?_; rintro e w1 ⟨⟨v, rfl, hv⟩, hb1⟩; obtain ⟨T, u, rfl⟩ := hv.iface)) | (go_at_call 91; go_must (refine (CP.out _ _ _ hb1 hv).mono ?_; rintro e w2 ⟨⟨S, t, n, rfl, hn, hx⟩, hb2⟩)))
    go_ret2
    have hd : decide (n ≤ 100) = true := by simpa using hn
    exact ⟨⟨S, t, by first | rfl | (rw [hd]) | simp [hn], EV.move (fun k hk => Nat.lt_of_lt_of_le hk hb2.size) (fun k hk => rfl) _ _ hx⟩, hb1.trans (hb2.mono hb1.size)⟩
set_option maxHeartbeats 1000000 in
theorem implExprPlain_c (s : ByteArray) (hs : s.size ≤ 1048576) (w : World) (hT : Tab w) :
    Calls Tryz.prog 18 #[.string s] w fun e w' => e = .returned (.tuple #[.string (bs ((plTx s.data.toList).getD [])), .bool (plTx s.data.toList).isSome]) ∧ Below w.heap.size w w' := by
  have C := Lib.hid (readPlain_c s hs w hT)
  cases hp : readEx s.data.toList with
  | none =>
    rw [hp] at C
    have HR := Lib.hid (plTx_none hp)
    clear hp hT
    unfold RpPost at C
    go_enter Tryz.func18, Tryz.ntmps18
    go_wp2_with (go_at_call 54; go_must (refine (C.out).mono ?_; rintro e w1 ⟨⟨v, rfl⟩, hb1⟩))
    go_ret2
    exact ⟨by rw [HR.out]; rfl, hb1⟩
  | some x =>
    rw [hp] at C
    have HR := Lib.hid (plTx_some hp)
    obtain ⟨hw, hb, ho⟩ := readEx_tree hp
    have hsz : (formOf x).size ≤ 120 := by
      unfold readEx at hp
      cases hq : parse s.data.toList with
      | none => simp [hq] at hp
      | some t =>
        simp only [hq] at hp
        split at hp
        · rename_i h; rw [formOf_eq _ _ hp]; exact h
        · cases hp
    have hP := plE_P (frE x) x [] 0 (fun q hq => by cases hq) hw ho (by have := plX_few hsz; omega)
    have CT : Hid (∀ (w1 : World) v, Below w.heap.size w w1 → EV w1 (fun k => k < w1.heap.size) (plX x) v → Calls Tryz.prog 53 #[v] w1 fun e w' => e = .returned (.string (bs (formOf (plX x)).text)) ∧ Below w1.heap.size w1 w') := Lib.hid (fun w1 v hb1 hv => exprText_c (plX x) v w1.heap.size w1 hP.2.1 hP.1 (by have h := hP.2.2; show (formOf (plE (frE x) [] 0 x).1).bytes ≤ _; omega) hv (Nat.le_refl _) (hT.below hb1))
    unfold RpPost at C
    clear hp hT hw hb ho hsz hP
    go_enter Tryz.func18, Tryz.ntmps18
    go_wp2_with (first | (go_at_call 54; go_must (refine (C.out).mono ?_; rintro e w1 ⟨⟨S, t, rfl, hx⟩, hb1⟩)) | (go_at_call 53; go_must (refine (CT.out _ _ hb1 hx).mono ?_; rintro e w2 ⟨rfl, hb2⟩)))
    go_ret2
    exact ⟨by rw [HR.out]; rfl, hb1.trans (hb2.mono hb1.size)⟩
end Go.Proofs.YtjncmmnbdabjnaaGreatDoor
namespace Go.Proofs.YtjncmmnbdabjnaaGreatDoor
open Go.RowKit
set_option maxRecDepth 8000
set_option linter.unusedSimpArgs false
set_option linter.unusedVariables false
theorem plX_read {l : List UInt8} {x : Ex} (h : readEx l = some x) : readEx (formOf (plX x)).text = some (plX x) ∧ (formOf (plX x)).text.length ≤ 12000 := by
  obtain ⟨-, -, h1, h2, h3, h4, h5⟩ := readA_all h
  have hf := plX_few h1
  have hg : good (plX x) := plE_good (frE x) x [] 0 (fun q hq => by cases hq) h5 (by omega)
  obtain ⟨s1, s2⟩ := plE_same (frE x) x [] 0
  have s1' : (formOf (plX x)).size = (formOf x).size := s1
  have s2' : (formOf (plX x)).depth = (formOf x).depth := s2
  have hb := good_bytes _ hg
  refine ⟨readA_made (by omega) (by omega) hg, ?_⟩
  rw [text_length _ (good_wf _ hg)]
  omega
theorem plX_ty (x : Ex) (env : List (Nm × Tr)) : tyT env (plX x) = tyT env x :=
  plE_ty (frE x) x [] 0 env env (fun s hs => rfl) (fun s hs => .inl ((memA_foldA s _ []).2 (.inr hs)))
theorem plE_many (free : List Nm) : ∀ (x : Ex) (m : List (Nm × Nm)) (k : Nat), manyE (plE free m k x).1 = manyE x
  | .name s, m, k => rfl
  | .num n, m, k => rfl
  | .two o a b, m, k => by simp only [plE, manyE, plE_many free a, plE_many free b]
  | .one o a, m, k => by simp only [plE, manyE, plE_many free a]
  | .cond a b c, m, k => by simp only [plE, manyE, plE_many free a, plE_many free b, plE_many free c]
  | .lete x e b, m, k => by simp only [plE, manyE, plE_many free e, plE_many free b]
  | .func f x A B e, m, k => by simp only [plE, manyE, plE_many free e]
theorem plX_many (x : Ex) : manyE (plX x) = manyE x := plE_many (frE x) x [] 0
theorem manyA_size {l : List UInt8} {x : Ex} (h : readEx l = some x) : manyE x ≤ (formOf x).size := by
  obtain ⟨-, -, -, -, -, h4, h5⟩ := readA_all h
  exact many_le ((formOf x).depth + 1) (formOf x) x (by omega) h4 h5
end Go.Proofs.YtjncmmnbdabjnaaGreatDoor
namespace Go.Proofs.YtjncmmnbdabjnaaGreatDoor
open Go.RowKit
set_option maxRecDepth 8000
set_option linter.unusedSimpArgs false
set_option linter.unusedVariables false
theorem many_atom {a : List UInt8} {x : Ex} (h : asEx (.atom a) = some x) : manyE x = 1 := by
  simp only [asEx, atomEx] at h
  split at h
  · simp only [Option.some.injEq] at h; subst h; rfl
  · split at h
    · simp only [Option.some.injEq] at h; subst h; rfl
    · cases h
def MnS (n : Nat) : Prop := ∀ (t : Tr) (x : Ex) (cs : List Value) (ok : Nat → Prop) (w : World), t.depth < n → t.wf → t.bytes ≤ 12000 → asEx t = some x → FV nS w ok t cs → (∀ k, ok k → k < w.heap.size) →
    Calls Tryz.prog 52 #[.agg cs.toArray] w fun e w' => e = .returned (.int .i64 (manyE x : Nat)) ∧ Below w.heap.size w w'
set_option maxHeartbeats 1000000 in
theorem l3Many_atom (a : List UInt8) (x : Ex) (w : World) (ha0 : a ≠ []) (hx : asEx (.atom a) = some x) :
    Calls Tryz.prog 52 #[.agg #[.string (bs a), .slice none 0 0]] w fun e w' => e = .returned (.int .i64 (manyE x : Nat)) ∧ Below w.heap.size w w' := by
  rw [many_atom hx]
  have ha := atomne ha0
  generalize bs a = A at *
  go_enter Tryz.func52, Tryz.ntmps52
  go_wp2_with fail
  go_ret
  exact ⟨rfl, below1 _ _⟩
set_option maxHeartbeats 2000000 in
theorem l3Many_list (n : Nat) (ih : MnS n) (h : Tr) (ps : List Tr) (x : Ex) (r off cap L : Nat) (xs : List Value) (ok : Nat → Prop) (w : World) (hd : (Tr.list (h :: ps)).depth < n + 1) (hwf : wfs (h :: ps)) (hby : bytess (h :: ps) ≤ 12000) (hx : asEx (.list (h :: ps)) = some x)
    (h2 : ok r) (h4 : cap ≤ maxLen) (hL : L = (h :: ps).length) (h3 : L ≤ cap) (h5 : hasRow w r off xs) (h6 : FVs nS w ok (h :: ps) xs) (hok : ∀ k, ok k → k < w.heap.size) :
    Calls Tryz.prog 52 #[.agg #[.string (bs []), .slice (some ⟨r, off, none⟩) L cap]] w fun e w' => e = .returned (.int .i64 (manyE x : Nat)) ∧ Below w.heap.size w w' := by
  obtain ⟨a, V⟩ := kidView hx
  have hrlt := hok r h2
  have hemp := emptyne
  have e0 : w.cell? ⟨r, off, none⟩ = some (.string (bs (atomOf h))) := by
    obtain ⟨p, m, c, _, q, _⟩ := kid_S h6 h5 0 (by simp)
    simpa using q
  obtain ⟨K, hK⟩ : ∃ K, K = (kidsE x).length := ⟨_, rfl⟩
  have hLm : L ≤ 9223372036854775807 := by have := maxLen_le h4; omega
  have haK : a + K = L := by rw [hK, hL, V.len]; rfl
  have hKlt : K < L := by have := V.pos; omega
  have CK : Hid (∀ W, Calls Tryz.prog 89 #[.string (bs (atomOf h))] W fun e w' => e = .returned (.tuple #[.int .i64 (a : Int), .int .i64 (L : Int)]) ∧ w' = W) := Lib.hid (fun W => l2Kids_ab _ _ _ (by rw [V.at_, hL]; rfl) W)
  have HR := Lib.hid (many_kids x)
  have hcnt : manyE x ≤ 20000 := by
    have h2 := many_le (n + 1) _ x hd (by simp only [Tr.wf]; exact ⟨by simp, hwf⟩) hx
    have h3 := (size_le (Tr.list (h :: ps)) (by simp only [Tr.wf]; exact ⟨by simp, hwf⟩)).1
    simp only [Tr.bytes] at h3
    omega
  have HC : Hid (∀ j, sumM ((kidsE x).take j) ≤ 20000) := Lib.hid (fun j => by
    have h1 := sumM_take_le (kidsE x) j
    have h2 := many_kids x
    omega)
  have HKe := Lib.hid hK
  have HaK := Lib.hid haK
  have HKid : Hid (∀ (wr : World), Below w.heap.size w wr → ∀ k j, k = a + j → j < K → ∃ at0 p pn pc kx, wr.cell? ⟨r, off + k * 2, none⟩ = some (.string at0) ∧ wr.cell? ⟨r, off + k * 2 + 1, none⟩ = some (.slice p pn pc) ∧
      sumM ((kidsE x).take (j + 1)) = sumM ((kidsE x).take j) + manyE kx ∧
      ∀ W, Below w.heap.size w W → Calls Tryz.prog 52 #[.agg #[.string at0, .slice p pn pc]] W fun e w' => e = .returned (.int .i64 (manyE kx : Nat)) ∧ Below W.heap.size W w') := Lib.hid (fun wr hb k j hk hj => by
    rw [hK] at hj
    obtain ⟨tk, p, pn, pc, q1, q2, q3, q4, q5, q6, q7⟩ := kid_at V hk hj hd hwf hby h5 h6
    refine ⟨bs (atomOf tk), p, pn, pc, (kidsE x)[j], (hb.cell (p := ⟨r, off + k * 2, none⟩) hrlt).trans q2, (hb.cell (p := ⟨r, off + k * 2 + 1, none⟩) hrlt).trans q3, sumM_take _ _ hj, fun W hW => ?_⟩
    exact ih tk _ (nS tk (.slice p pn pc)) ok W q4 q6 q5 q7 (q1.below hW hok) (size_of_hok hok hW))
  have haL : a ≤ L := by omega
  clear V hK ih hwf hcnt hx haK hL h6 h5 hd hby
  go_enter Tryz.func52, Tryz.ntmps52
  go_wp2_with (go_at_call 89; go_must (refine (CK.out _).mono ?_; rintro e w1 ⟨rfl, rfl⟩))
  go_loopw [3, 6] (fun s i wr => ∃ k j Sm : Nat, Hid (k = a + j) ∧ j ≤ K ∧ k ≤ L ∧ i = .int .i64 k ∧ s = .int .i64 (1 + Sm : Nat) ∧ Hid (Sm = sumM ((kidsE x).take j)) ∧ Below (w.heap.size + 1) (w.alloc (.cells #[.string (bs []), .slice (some ⟨r, off, none⟩) L cap] 65)) wr) (fun _ i _ => L - (intOf i).toNat)
  case atStart => exact ⟨a, 0, 0, Lib.hid rfl, Nat.zero_le _, haL, rfl, rfl, Lib.hid (by simp [sumM]), Below.refl _ _⟩
  case round =>
    obtain ⟨k, j, Sm, hkj, hjK, hkL, rfl, rfl, hS, hb⟩ := hrel
    have c0 : wr.cell? ⟨w.heap.size, 0, none⟩ = some (.string (bs [])) := by rw [hb.cell (p := ⟨w.heap.size, 0, none⟩) (by simp)]; simp
    have c1 : wr.cell? ⟨w.heap.size, 1, none⟩ = some (.slice (some ⟨r, off, none⟩) L cap) := by rw [hb.cell (p := ⟨w.heap.size, 1, none⟩) (by simp)]; simp
    have hbw : Below w.heap.size w wr := (below1 w _).trans (hb.mono (by omega))
    have hsz0 : w.heap.size < wr.heap.size := by have := hb.size; simp at this; omega
    have hc1 := HC.out j
    have hc2 := HC.out (j + 1)
    rw [← hS.out] at hc1
    by_cases hlt : k < L
    · have hjlt : j < K := by have := hkj.out; have := HaK.out; omega
      obtain ⟨at0, p, pn, pc, kx, x0, x1, hF, hC⟩ := HKid.out wr hbw k j hkj.out hjlt
      have hF2 := hF
      rw [← hS.out] at hF2
      rw [hF2] at hc2
      have HF := Lib.hid hF2
      have CC := Lib.hid (hC _ hbw)
      have hk0 : (0 : Int) ≤ (k : Int) := by omega
      generalize manyE kx = S2 at *
      clear hF hF2 hC HKid HC hS
      go_wp2_with (go_at_call 52; go_must (refine (CC.out).mono ?_; rintro e w4 ⟨rfl, hb4⟩))
      go_roundw
      case rel => exact ⟨k + 1, j + 1, Sm + S2, Lib.hid (by rw [hkj.out]; omega), by omega, by omega, by go_num, by go_num, Lib.hid (by rw [HF.out]), hb.trans (hb4.mono (by have := hb.size; simp at this; omega))⟩
      case measure => simp [intOf]; omega
    · have hjK2 : j = K := by have := hkj.out; have := HaK.out; omega
      have hfin : (kidsE x).take j = kidsE x := List.take_of_length_le (by rw [← HKe.out]; omega)
      have HF := Lib.hid (show manyE x = 1 + Sm by rw [HR.out, hS.out, hfin])
      clear HC HKid hfin hjK2
      go_wp2_with fail
      go_ret
      exact ⟨ret_int (by rw [HF.out]), hbw⟩
theorem l3Many_all : ∀ n, MnS n
  | 0 => fun t _ _ _ _ h => by omega
  | n + 1 => fun t x cs ok w hd hwf hby hx hv hok => by
    match t, hd, hwf, hby, hx, hv with
    | .atom a, hd, hwf, hby, hx, hv =>
      simp only [FV] at hv
      subst hv
      exact l3Many_atom a x w hwf.1 hx
    | .list [], hd, hwf, hby, hx, hv => simp [Tr.wf] at hwf
    | .list (h :: ps), hd, hwf, hby, hx, hv =>
      simp only [FV] at hv
      obtain ⟨r, off, cap, xs, rfl, h2, h3, h4, h5, h6⟩ := hv
      simp only [Tr.wf] at hwf
      simp only [Tr.bytes] at hby
      exact l3Many_list n (l3Many_all n) h ps x r off cap _ xs ok w hd hwf.2 (by omega) hx h2 h4 rfl h3 h5 h6 hok
set_option maxHeartbeats 1000000 in
theorem specExprMany_c (s : ByteArray) (hs : s.size ≤ 1048576) (w : World) :
    Calls Tryz.prog 16 #[.string s] w fun e w' => e = .returned (.int .i64 (manyOf s.data.toList)) ∧ Below w.heap.size w w' := by
  cases hp : parseE s.data.toList with
  | none =>
    have C := Lib.hid (l2Parse_none hs hp)
    rw [manyOf_none (readEx_none2 hp)]
    clear hp
    go_enter Tryz.func16, Tryz.ntmps16
    go_wp2_with (go_at_call 51; go_must (refine (C.out _).mono ?_; rintro e w1 ⟨⟨a, p, m, c, rfl, hnl⟩, hb1⟩))
    go_ret
    exact ⟨rfl, hb1.alloc hb1.size _⟩
  | some t =>
    have C := Lib.hid (l2Parse_some hs hp)
    obtain ⟨x, hx1, hx2⟩ := readEx_asEx' hp
    have hg := parse_got (parseE_got hp).1
    have HT := Lib.hid (manyOf_some hx1)
    rw [HT.out]
    have CC : Hid (∀ (w1 W : World) (B : Nat) p m c, FV nS w1 (fun k => B ≤ k ∧ k < w1.heap.size) t (nS t (.slice p m c)) → Below w1.heap.size w1 W → Calls Tryz.prog 52 #[.agg #[.string (bs (atomOf t)), .slice p m c]] W fun e w' => e = .returned (.int .i64 (manyE x : Nat)) ∧ Below W.heap.size W w') := Lib.hid (fun w1 W B p m c hv hW =>
      l3Many_all (t.depth + 1) t x (nS t (.slice p m c)) _ W (by omega) hg.1 (by have := hg.2; omega) hx2 (hv.below hW (fun k hk => hk.2)) (fun k hk => Nat.lt_of_lt_of_le hk.2 hW.size))
    generalize manyE x = M at *
    clear hp hg hx1 hx2
    go_enter Tryz.func16, Tryz.ntmps16
    go_wp2_with (first | (go_at_call 51; go_must (refine (C.out _).mono ?_; rintro e w1 ⟨⟨p, m, c, rfl, hv⟩, hb1⟩)) | (go_at_call 52; go_must (refine (CC.out _ _ _ _ _ _ hv (below1 _ _)).mono ?_; rintro e w3 ⟨rfl, hb3⟩)))
    go_ret
    exact ⟨rfl, (hb1.alloc hb1.size _).trans (hb3.mono (by have := hb1.size; simp; omega))⟩
end Go.Proofs.YtjncmmnbdabjnaaGreatDoor
