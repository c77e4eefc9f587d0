/- The program writes expressions as forms: what binds no names. -/
import Derived.Test.YtgliggljegghhaaDoorPureG
import Derived.Test.YtgliggljegghhaaDoorI2j
import Derived.Test.YtgliggljegghhaaDoorImpl2ma
import Derived.Test.YtgliggljegghhaaDoorI2e
import Derived.Test.YtgliggljegghhaaDoorShelf2
import Derived.Lib.AppendIntMem
import Derived.Lib.SmallJoins
namespace Go.Proofs.YtgliggljegghhaaDoor
open Go.RowKit
set_option maxRecDepth 8000
set_option linter.unusedSimpArgs false
set_option linter.unusedVariables false
def Tab (w : World) : Prop := Lib.TabIs Tryd.prog w "internal/strconv.uint64pow10" .u64 Lib.pow10Tab
theorem Tab.below {w w' : World} (h : Tab w) (hb : Below w.heap.size w w') : Tab w' := Lib.tabBelow_of_tabIs h w' hb
def exOK : Ex → Prop
  | .name s => s.length ≤ 4
  | .num n => -1000 < n ∧ n < 1000
  | .two _ a b => exOK a ∧ exOK b
  | .one _ a => exOK a
  | .cond a b c => exOK a ∧ exOK b ∧ exOK c
  | .lete x e b => x.length ≤ 4 ∧ exOK e ∧ exOK b
  | .func f x _ _ e => f.length ≤ 4 ∧ x.length ≤ 4 ∧ exOK e
def FmPost (B N : Nat) (t : Tr) (e : Ending) (w' : World) : Prop :=
  ∃ p m c, e = .returned (.agg (nI t (.slice p m c)).toArray) ∧ FV nI w' (fun k => k < B ∨ (N ≤ k ∧ k < w'.heap.size)) t (nI t (.slice p m c))
def FmC (x : Ex) : Prop := ∀ (v : Value) (B : Nat) (w : World), exOK x → (formOf x).wf → (formOf x).bytes ≤ 500000000 → EV w (fun k => k < B) x v → B ≤ w.heap.size → Tab w →
    Calls Tryd.prog 20 #[v] w fun e w' => FmPost B w.heap.size (formOf x) e w' ∧ Below w.heap.size w w'
structure FmInv (B : Nat) (w : World) (kb : Nat) (kvs : List Value) (ts : List Tr) (ys : List Value) (v1 : Value) (wr : World) : Prop where
  own : wr.ownsRow (w.heap.size + 1) 34 5 v1 ts.length ys
  fv : FVs nI wr (fun q => (q < B ∨ w.heap.size + 1 ≤ q) ∧ q < wr.heap.size ∧ v1.ownBlock ≠ some q) ts ys
  below : Below w.heap.size w wr
  res : wr.heap[w.heap.size]? = some (.cells #[.string ⟨#[]⟩, .slice none 0 0, .int .i64 0, .int .i64 0, .int .i64 0] 34 (0, 0))
  blk : wr.heap[kb]? = some (.cells kvs.toArray 39 (0, 0))
  ne : v1.ownBlock ≠ some kb
theorem FmInv.step {B : Nat} {w wr w2 w3 : World} {kb : Nat} {kvs : List Value} {ts : List Tr} {ys : List Value} {v1 : Value} {t : Tr} {cs : List Value} {o : Obj} {g' c' : Nat} (h : FmInv B w kb kvs ts ys v1 wr) (hB : B ≤ w.heap.size) (h2 : Below wr.heap.size wr w2)
    (hf : FV nI w2 (fun k => k < B ∨ (wr.heap.size ≤ k ∧ k < w2.heap.size)) t cs) (hg : (w2.alloc o).grownBy w3 v1.ownBlock)
    (ho : w3.ownsRow (w.heap.size + 1) 34 5 (.slice (some ⟨g', 0, none⟩) (ts.length + 1) c') (ts.length + 1) (ys ++ cs)) (hv : v1.ownBlock = some g' ∨ g' = (w2.alloc o).heap.size) : FmInv B w kb kvs (ts ++ [t]) (ys ++ cs) (.slice (some ⟨g', 0, none⟩) (ts.length + 1) c') w3 := by
  have hs2 := h2.size
  have hsg := hg.size
  have hbs := h.below.size
  simp only [alloc_size] at hsg hv
  have hres := lt_of_block h.res
  have hblk := lt_of_block h.blk
  have hold : ∀ q, v1.ownBlock = some q → w.heap.size + 1 ≤ q ∧ q < wr.heap.size := fun q hq => own_lt h.own hq
  have hmv : ∀ q, q < wr.heap.size → v1.ownBlock ≠ some q → w3.heap[q]? = wr.heap[q]? := fun q hq hne => by
    rw [hg.block q (by simp; omega) (fun e => hne e.symm), heap_alloc_old _ _ (by omega), h2.block q hq]
  have hnew : ∀ q, (q < wr.heap.size ∧ v1.ownBlock ≠ some q) → (Value.slice (some ⟨g', 0, none⟩) (ts.length + 1) c').ownBlock ≠ some q := fun q hq e => by
    simp only [Value.ownBlock, Option.some.injEq] at e
    subst e
    rcases hv with hv | hv
    · exact hq.2 hv
    · omega
  refine ⟨by simpa using ho, ?_, ?_, ?_, ?_, hnew kb ⟨hblk, h.ne⟩⟩
  · refine FVs.snoc (FV.move ?_ ?_ _ _ hf) (FVs.move ?_ ?_ _ _ h.fv)
    · intro q hq
      refine ⟨by omega, by omega, ?_⟩
      intro e
      simp only [Value.ownBlock, Option.some.injEq] at e
      subst e
      rcases hv with hv | hv
      · have := hold _ hv; omega
      · omega
    · intro q hq
      rw [hg.block q (by simp; omega) (fun e => by have := hold q e.symm; omega), heap_alloc_old _ _ (by omega)]
    · rintro q ⟨q1, q2, q3⟩
      exact ⟨q1, by omega, hnew q ⟨q2, q3⟩⟩
    · rintro q ⟨q1, q2, q3⟩
      exact hmv q q2 q3
  · exact below_grown2 h.below (h2.alloc hs2 o) hg (fun k hk => by have := hold k hk; omega)
  · rw [hmv _ hres (fun e => by have := hold _ e; omega)]; exact h.res
  · rw [hmv _ hblk h.ne]; exact h.blk
theorem newAtom_b (a : List UInt8) (h : a.length ≤ 6) (w : World) : Calls Tryd.prog 28 #[.string (bs a)] w fun e w' => e = .returned (.agg #[.string (bs a), .slice none 0 0, .int .i64 (bs a).size, .int .i64 1, .int .i64 0]) ∧ Below w.heap.size w w' := newAtom_c (bs a) w (by rw [bs_size]; omega)
theorem atom_cells (a : List UInt8) : nI (.atom a) (.slice none 0 0) = [.string (bs a), .slice none 0 0, .int .i64 (bs a).size, .int .i64 1, .int .i64 0] := by simp [nI, atomOf, Tr.bytes, Tr.size, Tr.depth, bs_size]
theorem fm_atom {B N : Nat} (a : List UInt8) (w' : World) : FmPost B N (.atom a) (.returned (.agg #[.string (bs a), .slice none 0 0, .int .i64 (bs a).size, .int .i64 1, .int .i64 0])) w' :=
  ⟨none, 0, 0, by rw [atom_cells], by simp only [FV]⟩
set_option maxHeartbeats 1000000 in
theorem fm_name (s : Nm) : FmC (.name s) := by
  intro v B w hn hw hb hv hB hT
  simp only [EV] at hv
  subst hv
  simp only [exOK] at hn
  rw [show formOf (.name s) = .atom s from rfl]
  have N1 := Lib.hid (newAtom_b [110, 97, 109, 101] (by decide))
  have N2 := Lib.hid (newAtom_b s (by omega))
  obtain ⟨o, ho⟩ : ∃ o : Obj, o = (.cells #[.string ⟨#[]⟩, .slice none 0 0, .int .i64 0, .int .i64 0, .int .i64 0] 34 (0, 0)) := ⟨_, rfl⟩
  clear hn hw hb hT
  go_enter Tryd.func20, Tryd.ntmps20
  go_wp2_with (first | (go_at_call 87; go_must (refine (head_name_c _ _).mono ?_; rintro e w1 ⟨rfl, hb1⟩; have y1 := below_blk hb1 (by simp) (heap_alloc_new _ _))) | (go_at_call_of 28 (bs s); refine (N2.out _).mono ?_; rintro e w5 ⟨rfl, hb5⟩; have y5 := below_blk hb5 (by have := lt_of_block y2; simp; omega) (blk_alloc (blk_alloc y2)); have f0 := free_of (j := 0) y5; have f1 := free_of (j := 1) y5; have f2 := free_of (j := 2) y5; have f3 := free_of (j := 3) y5; have f4 := free_of (j := 4) y5; have z0 := cell_of (j := 0) y5; have z1 := cell_of (j := 1) y5; have z2 := cell_of (j := 2) y5; have z3 := cell_of (j := 3) y5; have z4 := cell_of (j := 4) y5; have hs5 := hb5.size) | (go_at_call 28; refine (N1.out _).mono ?_; rintro e w2 ⟨rfl, hb2⟩; have y2 := below_blk hb2 (lt_of_block y1) y1))
  refine bodyPost_ret (v := .agg #[.string (bs s), .slice none 0 0, .int .i64 (bs s).size, .int .i64 1, .int .i64 0]) (by simp [results, Tryd.results20, go_sem, z0, z1, z2, z3, z4]) rfl ⟨fm_atom s _, ?_⟩
  have k2 : Below w.heap.size w w2 := ((below1 w _).trans (hb1.mono (by simp))).trans (hb2.mono (by have := hb1.size; simp at this; omega))
  have k5 : Below w.heap.size w w5 := ((k2.alloc k2.size _).alloc (by have := k2.size; simp; omega) _).trans (hb5.mono (by have := k2.size; simp; omega))
  exact set5 k5 (Nat.le_refl _) _ _ _ _ _

theorem itoa_b (n : Int) (h : -1000 < n ∧ n < 1000) (w : World) (hT : Tab w) : Calls Tryd.prog 29 #[.int .i64 n] w fun e w' => e = .returned (.string (bs (Lib.itoa n))) ∧ Below w.heap.size w w' :=
  (Tryd.strconv_Itoa n (by omega) (by omega) w hT).mono fun e w' ⟨h1, k, os, h2⟩ => ⟨h1, by rw [h2]; exact Lib.below_grow _ w (Nat.le_refl _) k os⟩
theorem itoa_len {n : Int} (h : -1000 < n ∧ n < 1000) : (Lib.itoa n).length ≤ 6 := by
  have hd : ∀ u : Nat, u < 1000 → (Lib.decDigits u).length ≤ 3 := fun u hu => by
    by_cases h1 : u < 10
    · rw [dd1 u h1]; simp
    · by_cases h2 : u < 100
      · have := dd2 (u / 10) (u % 10) (by omega) (by omega) (by omega)
        rw [show u / 10 * 10 + u % 10 = u by omega] at this
        rw [this]; simp
      · have := dd3 (u / 100) (u / 10 % 10) (u % 10) (by omega) (by omega) (by omega) (by omega)
        rw [show (u / 100 * 10 + u / 10 % 10) * 10 + u % 10 = u by omega] at this
        rw [this]; simp
  unfold Lib.itoa
  split
  · have := hd n.natAbs (by omega); simp only [List.length_cons]; omega
  · have := hd n.toNat (by omega); omega
set_option maxHeartbeats 1000000 in
theorem fm_num (n : Int) : FmC (.num n) := by
  intro v B w hn hw hb hv hB hT
  simp only [EV] at hv
  subst hv
  simp only [exOK] at hn
  rw [show formOf (.num n) = .atom (Lib.itoa n) from rfl]
  have N1 := Lib.hid (newAtom_b [110, 117, 109, 98, 101, 114] (by decide))
  have N2 := Lib.hid (newAtom_b (Lib.itoa n) (itoa_len hn))
  have NI := Lib.hid (fun (W : World) (hW : Below w.heap.size w W) => itoa_b n hn W (hT.below hW))
  clear hn hw hb hT
  generalize Lib.itoa n = s at *
  go_enter Tryd.func20, Tryd.ntmps20
  go_wp2_with (first | (go_at_call 84; go_must (refine (head_number_c _ _).mono ?_; rintro e w1 ⟨rfl, hb1⟩; have y1 := below_blk hb1 (by simp) (heap_alloc_new _ _); have k1 : Below w.heap.size w w1 := (below1 w _).trans (hb1.mono (by simp)))) | (go_at_call_of 28 (bs s); refine (N2.out _).mono ?_; rintro e w5 ⟨rfl, hb5⟩; have y5 := below_blk hb5 (lt_of_block y3) y3; have f0 := free_of (j := 0) y5; have f1 := free_of (j := 1) y5; have f2 := free_of (j := 2) y5; have f3 := free_of (j := 3) y5; have f4 := free_of (j := 4) y5; have z0 := cell_of (j := 0) y5; have z1 := cell_of (j := 1) y5; have z2 := cell_of (j := 2) y5; have z3 := cell_of (j := 3) y5; have z4 := cell_of (j := 4) y5; have k5 : Below w.heap.size w w5 := k3.trans (hb5.mono k3.size)) | (go_at_call 28; refine (N1.out _).mono ?_; rintro e w2 ⟨rfl, hb2⟩; have y2 := below_blk hb2 (lt_of_block y1) y1; have k2 : Below w.heap.size w w2 := k1.trans (hb2.mono k1.size); have k2s := k2.size; have k2a := fun o o' => (k2.alloc k2.size o).alloc (by simp; omega) o') | (go_at_call 29; refine (NI.out _ (k2a _ _)).mono ?_; rintro e w3 ⟨rfl, hb3⟩; have y3 := below_blk hb3 (by have := lt_of_block y2; simp; omega) (blk_alloc (blk_alloc y2)); have k3 : Below w.heap.size w w3 := (k2a _ _).trans (hb3.mono (k2a _ _).size)))
  refine bodyPost_ret (v := .agg #[.string (bs s), .slice none 0 0, .int .i64 (bs s).size, .int .i64 1, .int .i64 0]) (by simp [results, Tryd.results20, go_sem, z0, z1, z2, z3, z4]) rfl ⟨fm_atom s _, ?_⟩
  exact set5 k5 (Nat.le_refl _) _ _ _ _ _
theorem FmInv.start {B : Nat} {w w2 w3 : World} {kb : Nat} {kvs : List Value} (h : List UInt8) (k2 : Below w.heap.size w w2) (y2 : w2.heap[w.heap.size]? = some (.cells #[.string ⟨#[]⟩, .slice none 0 0, .int .i64 0, .int .i64 0, .int .i64 0] 34 (0, 0)))
    (hb3 : Below (w2.alloc (.cells #[.string (bs h), .slice none 0 0, .int .i64 (bs h).size, .int .i64 1, .int .i64 0] 34)).heap.size (w2.alloc (.cells #[.string (bs h), .slice none 0 0, .int .i64 (bs h).size, .int .i64 1, .int .i64 0] 34)) w3)
    (hbl : (w2.alloc (.cells #[.string (bs h), .slice none 0 0, .int .i64 (bs h).size, .int .i64 1, .int .i64 0] 34)).heap.size ≤ kb) (hblk : w3.heap[kb]? = some (.cells kvs.toArray 39 (0, 0))) :
    FmInv B w kb kvs [.atom h] [.string (bs h), .slice none 0 0, .int .i64 (bs h).size, .int .i64 1, .int .i64 0] (.slice (some ⟨w2.heap.size, 0, none⟩) 1 1) w3 := by
  have hs := k2.size
  have hr := lt_of_block y2
  have hq : w3.heap[w2.heap.size]? = some (.cells #[.string (bs h), .slice none 0 0, .int .i64 (bs h).size, .int .i64 1, .int .i64 0] 34 (0, 0)) := below_blk hb3 (by simp) (heap_alloc_new _ _)
  simp only [alloc_size] at hbl
  refine ⟨⟨rfl, .inr ⟨w2.heap.size, 1, _, rfl, by omega, hq, Nat.le_refl _, by decide, rfl, rfl⟩⟩, ?_, (k2.alloc hs _).trans (hb3.mono (by simp; omega)), below_blk hb3 (by simp; omega) (blk_alloc y2), hblk, by simp [Value.ownBlock]; omega⟩
  simp only [FVs]
  exact ⟨[.string (bs h), .slice none 0 0, .int .i64 (bs h).size, .int .i64 1, .int .i64 0], [], rfl, by simp only [FV]; rw [atom_cells], rfl⟩
theorem FmInv.fin {B : Nat} {w wr w7 : World} {kb : Nat} {kvs : List Value} {ts : List Tr} {ys : List Value} {g vc : Nat} (h : FmInv B w kb kvs ts ys (.slice (some ⟨g, 0, none⟩) ts.length vc) wr) (hB : B ≤ w.heap.size) (h7 : Below wr.heap.size wr w7) (v0 v1 v2 v3 v4 : Value) :
    FmPost B w.heap.size (.list ts) (.returned (.agg #[.string ⟨#[]⟩, .slice (some ⟨g, 0, none⟩) ts.length vc, .int .i64 (Tr.list ts).bytes, .int .i64 (Tr.list ts).size, .int .i64 (Tr.list ts).depth])) (((((w7.setCell ⟨w.heap.size, 0, none⟩ v0).setCell ⟨w.heap.size, 1, none⟩ v1).setCell ⟨w.heap.size, 2, none⟩ v2).setCell ⟨w.heap.size, 3, none⟩ v3).setCell ⟨w.heap.size, 4, none⟩ v4) ∧
      Below w.heap.size w (((((w7.setCell ⟨w.heap.size, 0, none⟩ v0).setCell ⟨w.heap.size, 1, none⟩ v1).setCell ⟨w.heap.size, 2, none⟩ v2).setCell ⟨w.heap.size, 3, none⟩ v3).setCell ⟨w.heap.size, 4, none⟩ v4) := by
  have hs7 := h7.size
  have hlt := own_lt h.own (k := g) rfl
  have hcap := owns_cap h.own
  have hmv : ∀ q, q < wr.heap.size → q ≠ w.heap.size → (((((w7.setCell ⟨w.heap.size, 0, none⟩ v0).setCell ⟨w.heap.size, 1, none⟩ v1).setCell ⟨w.heap.size, 2, none⟩ v2).setCell ⟨w.heap.size, 3, none⟩ v3).setCell ⟨w.heap.size, 4, none⟩ v4).heap[q]? = wr.heap[q]? := fun q hq hne => by
    rw [blk_set_other _ hne, blk_set_other _ hne, blk_set_other _ hne, blk_set_other _ hne, blk_set_other _ hne, h7.block q hq]
  refine ⟨⟨some ⟨g, 0, none⟩, ts.length, vc, rfl, ?_⟩, set5 (h.below.trans (h7.mono h.below.size)) (Nat.le_refl _) _ _ _ _ _⟩
  simp only [FV]
  refine ⟨g, 0, vc, ys, rfl, .inr ⟨by omega, by simp; omega⟩, hcap.1, hcap.2, (owns_row h.own).move (hmv g hlt.2 (by omega)), FVs.move (fun q hq => ?_) (fun q hq => ?_) _ _ h.fv⟩
  · simp; omega
  · exact hmv q hq.2.1 (by omega)
def KidCF (B : Nat) (w : World) (ks : List Ex) (kvs : List Value) : Prop := ∀ j (hj : j < ks.length), ∃ T u s o1 o2 o3, kvs[j]? = some (.iface T u) ∧ (∀ q, nI (formOf ks[j]) q = [.string s, q, .int .i64 o1, .int .i64 o2, .int .i64 o3]) ∧
  ∀ W, Below w.heap.size w W → Calls Tryd.prog 20 #[.iface T u] W fun e w' => (∃ p m c, e = .returned (.agg #[.string s, .slice p m c, .int .i64 o1, .int .i64 o2, .int .i64 o3]) ∧ FV nI w' (fun k => k < B ∨ (W.heap.size ≤ k ∧ k < w'.heap.size)) (formOf ks[j]) [.string s, .slice p m c, .int .i64 o1, .int .i64 o2, .int .i64 o3]) ∧ Below W.heap.size W w'
theorem kidF_of {x : Ex} {T : TypeId} {u : Value} {w : World} {B : Nat} (ih : FmC x) (hn : exOK x) (hw : (formOf x).wf) (hb : (formOf x).bytes ≤ 500000000) (hv : EV w (fun k => k < B) x (.iface T u)) (hB : B ≤ w.heap.size) (hT : Tab w) :
    ∃ s o1 o2 o3, (∀ q, nI (formOf x) q = [.string s, q, .int .i64 o1, .int .i64 o2, .int .i64 o3]) ∧ ∀ W, Below w.heap.size w W → Calls Tryd.prog 20 #[.iface T u] W fun e w' => (∃ p m c, e = .returned (.agg #[.string s, .slice p m c, .int .i64 o1, .int .i64 o2, .int .i64 o3]) ∧ FV nI w' (fun k => k < B ∨ (W.heap.size ≤ k ∧ k < w'.heap.size)) (formOf x) [.string s, .slice p m c, .int .i64 o1, .int .i64 o2, .int .i64 o3]) ∧ Below W.heap.size W w' := by
  obtain ⟨s, o1, o2, o3, -, -, -, -, hq⟩ := nI_named (formOf x)
  refine ⟨s, o1, o2, o3, hq, fun W hW => (ih _ B W hn hw hb (hv.below hW (fun k hk => Nat.lt_of_lt_of_le hk hB)) (Nat.le_trans hB hW.size) (hT.below hW)).mono fun e w' ⟨⟨p, m, c, h1, h2⟩, h3⟩ => ⟨⟨p, m, c, ?_, ?_⟩, h3⟩⟩
  · rw [h1, hq]
  · rw [hq] at h2; exact h2
end Go.Proofs.YtgliggljegghhaaDoor
