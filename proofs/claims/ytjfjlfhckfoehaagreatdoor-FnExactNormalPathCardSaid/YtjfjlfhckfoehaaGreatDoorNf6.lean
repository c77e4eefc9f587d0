/- The way from binding to binding: plain, and the reference model. -/
import Derived.Test.YtjfjlfhckfoehaaGreatDoorNf5
import Derived.Test.YtjfjlfhckfoehaaGreatDoorSpec2i
import Derived.OneCell
import Derived.OwnWalk
namespace Go.Proofs.YtjfjlfhckfoehaaGreatDoor
open Go.RowKit
set_option maxRecDepth 8000
set_option linter.unusedSimpArgs false
set_option linter.unusedVariables false
/-- The names and the text behind them, of the normal expression that is a text. -/
def pathTx (l : List UInt8) : Option (List Nm × Nm) := (readNf l).map (fun x => ((pathE x).1, (formOf (pathE x).2).text))
theorem pathTx_none {l : List UInt8} (h : readNf l = none) : pathTx l = none := by simp [pathTx, h]
theorem pathTx_some {l : List UInt8} {x : Ex} (h : readNf l = some x) : pathTx l = some ((pathE x).1, (formOf (pathE x).2).text) := by simp [pathTx, h]
def NpPost (B : Nat) (r : Option (List Nm × Nm)) (e : Ending) (w' : World) : Prop :=
  ∃ v, e = .returned (.tuple #[v, .string (bs ((r.map (fun q => q.2)).getD [])), .bool r.isSome]) ∧ w'.ownsRow B 9 1 v ((r.map (fun q => q.1)).getD []).length (((r.map (fun q => q.1)).getD []).map strV)
theorem path_many : ∀ x : Ex, (pathE x).1.length ≤ manyE x
  | .lete s a b => by have := path_many b; simp only [pathE, List.length_cons, manyE]; omega
  | .name _ => by simp [pathE]
  | .num _ => by simp [pathE]
  | .two _ _ _ => by simp [pathE]
  | .one _ _ => by simp [pathE]
  | .cond _ _ _ => by simp [pathE]
  | .func _ _ _ _ _ => by simp [pathE]
theorem path_short : ∀ x : Ex, good x → ∀ s ∈ (pathE x).1, s.length ≤ 4
  | .lete s a b, h => by
    obtain ⟨gs, ga, gb⟩ := (good_lete s a b).1 h
    intro y hy
    simp only [pathE, List.mem_cons] at hy
    rcases hy with rfl | hy
    · exact (nf_nm_wf gs).2
    · exact path_short b gb y hy
  | .name _, _ => by simp [pathE]
  | .num _, _ => by simp [pathE]
  | .two _ _ _, _ => by simp [pathE]
  | .one _ _, _ => by simp [pathE]
  | .cond _ _ _, _ => by simp [pathE]
  | .func _ _ _ _ _, _ => by simp [pathE]
theorem pathTx_len {l : List UInt8} : (((pathTx l).map (fun q => q.1)).getD []).length ≤ 120 := by
  cases h : readNf l with
  | none => simp [pathTx, h]
  | some x =>
    rw [pathTx_some h]
    exact Nat.le_trans (path_many x) (readEx_many (readNf_got h).1)
structure NpInv (P : List Nm) (Z : Ex) (ok : Nat → Prop) (N : Nat) (w : World) (q : Nat) (y : Ex) (p : Option Addr) (m c : Nat) (l : List Nm) (wr : World) : Prop where
  many : manyE y ≤ q
  len : l.length + manyE y ≤ N
  names : l ++ (pathE y).1 = P
  rest : (pathE y).2 = Z
  good : good y
  wf : (formOf y).wf
  bytes : (formOf y).bytes ≤ 12000
  fv : FV nS wr ok (formOf y) (nS (formOf y) (.slice p m c))
  below : Below w.heap.size w wr
theorem cell_eqP {w w' : World} {r off : Nat} (h : w'.heap[r]? = w.heap[r]?) : w'.cell? ⟨r, off, none⟩ = w.cell? ⟨r, off, none⟩ := by simp [World.cell?, h]
theorem np_fv {W w5 : World} {row : Option Nat} (hg : W.grownBy w5 row) {lo hi : Nat} {t : Tr} {cs : List Value} (h : FV nS W (fun k => lo ≤ k ∧ k < hi) t cs) (hhi : hi ≤ W.heap.size) (hrow : ∀ k, row = some k → k < lo ∨ hi ≤ k) : FV nS w5 (fun k => lo ≤ k ∧ k < hi) t cs :=
  FV.move (fun k hk => hk) (fun k hk => hg.block k (by omega) (fun e => by have := hrow k e.symm; omega)) _ _ h
set_option maxHeartbeats 4000000 in
theorem specNormalPath_c (s : ByteArray) (hs : s.size ≤ 1048576) (w : World) :
    Calls Tryz.prog 36 #[.string s] w fun e w' => NpPost w.heap.size (pathTx s.data.toList) e w' ∧ Below w.heap.size w w' := by
  have CN := Lib.hid (specNormalIs_c s hs)
  have HE : Hid ((w.alloc (.cells #[] 9)).ownsRow w.heap.size 9 1 (.slice (some ⟨w.heap.size, 0, none⟩) 0 0) ([] : List Nm).length (([] : List Nm).map strV)) := Lib.hid (owns_empty (heap_alloc_new w _) (Nat.le_refl _))
  cases hn : readNf s.data.toList with
  | none =>
    rw [hn] at CN
    simp only [Option.isSome_none] at CN
    have HR := Lib.hid (pathTx_none hn)
    clear hn
    go_enter Tryz.func36, Tryz.ntmps36
    go_wp2_with (go_at_call 30; go_must (refine (CN.out _).mono ?_; rintro e w1 ⟨rfl, hb1⟩))
    go_ret3
    exact ⟨by rw [HR.out]; exact ⟨_, rfl, owns_below HE.out hb1⟩, (below1 w _).trans (hb1.mono (by simp))⟩
  | some x =>
    rw [hn] at CN
    simp only [Option.isSome_some] at CN
    cases hp : parseE s.data.toList with
    | none => exact absurd (readNf_got hn).1 (by rw [readEx_none2 hp]; simp)
    | some t =>
      have C := Lib.hid (l2Parse_some hs hp)
      obtain ⟨y, hy1, rfl, hg, hwf, hby⟩ := nf_parsed hp
      have hxy : y = x := by have h1 := (readNf_got hn).1; rw [hy1] at h1; exact Option.some.inj h1
      subst hxy
      have hmany := readEx_many hy1
      have HR := Lib.hid (pathTx_some hn)
      obtain ⟨P, hP⟩ : ∃ P, P = (pathE y).1 := ⟨_, rfl⟩
      obtain ⟨Z, hZ⟩ : ∃ Z, Z = (pathE y).2 := ⟨_, rfl⟩
      have HR := Lib.hid (show pathTx s.data.toList = some (P, (formOf Z).text) by rw [HR.out, hP, hZ])
      have HI : Hid (∀ (w2 w3 : World) B p m c, FV nS w2 (fun k => B ≤ k ∧ k < w2.heap.size) (formOf y) (nS (formOf y) (.slice p m c)) → Below w2.heap.size w2 w3 → Below w.heap.size w w3 → NpInv P Z (fun k => B ≤ k ∧ k < w2.heap.size) 120 w (manyE y) y p m c [] w3) := Lib.hid (fun w2 w3 B p m c hv hb hbw => ⟨Nat.le_refl _, by simp; omega, by rw [hP]; rfl, hZ.symm, hg, hwf, hby, hv.below hb (fun k hk => hk.2), hbw⟩)
      obtain ⟨i0, hi0, hz0, hz1, hz2⟩ := info_parts Tryz.infoStr
      generalize hM : manyE y = M at *
      obtain ⟨YA, hYA⟩ : ∃ YA, YA = bs (atomOf (formOf y)) := ⟨_, rfl⟩
      rw [← hYA] at C
      have HYA := Lib.hid hYA
      clear hp hwf hby hg hy1 hn hmany hP hZ hM hYA
      go_enter Tryz.func36, Tryz.ntmps36
      go_wp2_with (first | (go_at_call 30; go_must (refine (CN.out _).mono ?_; rintro e w1 ⟨rfl, hb1⟩; have HE1 := Lib.hid (owns_below HE.out hb1); have HB1 := Lib.hid ((below1 w (.cells #[] 9)).trans (hb1.mono (by simp))); have hw1 : w.heap.size < w1.heap.size := (by have := hb1.size; simp at this; omega))) | (go_at_call 60; go_must (refine (C.out _).mono ?_; rintro e w2 ⟨⟨p, m, c, rfl, hv⟩, hb2⟩; have HE2 := Lib.hid (owns_below HE1.out hb2); have HB2 := Lib.hid (HB1.out.trans (hb2.mono HB1.out.size)); have hw2 := hb2.size; have HI2 := Lib.hid (HI.out _ _ _ _ _ _ hv (below1 w2 (.cells #[.string YA, .slice p m c] 52)) (HB2.out.alloc HB2.out.size _)); have X0 := heap_alloc_new w2 (.cells #[.string YA, .slice p m c] 52); clear hv)))
      have HE3 := Lib.hid ((HE2.out).alloc (.cells #[.string YA, .slice p m c] 52))
      clear HI CN C HE HE1
      go_loopg [5] M (fun q v wr => ∃ (y : Ex) (p : Option Addr) (m c : Nat) (l : List Nm), Hid (NpInv P Z (fun k => w1.heap.size ≤ k ∧ k < w2.heap.size) 120 w q y p m c l wr) ∧ Hid (wr.ownsRow w.heap.size 9 1 v l.length (l.map strV) ∧ ∀ k, v.ownBlock = some k → k < w1.heap.size ∨ w2.heap.size < k) ∧ wr.heap[w2.heap.size]? = some (.cells #[.string (bs (atomOf (formOf y))), .slice p m c] 52 (0, 0)))
      case atStart => exact ⟨y, p, m, c, [], HI2, Lib.hid ⟨HE3.out, fun k hk => by simp [Value.ownBlock] at hk; omega⟩, by rw [← HYA.out]; exact X0⟩
      case round =>
        obtain ⟨y, p, m, c, l, hI, hO, hblk⟩ := hrel
        clear HI2 X0 HE2 HE3 HYA
        obtain ⟨pv, cv, rfl⟩ := owns_slice hO.out.1
        have HO := Lib.hid hO.out.1
        have HOb := Lib.hid hO.out.2
        have c0 := cell_of (j := 0) hblk
        have c1 := cell_of (j := 1) hblk
        have hlt2 := lt_of_block hblk
        have hokr : ∀ k, (w1.heap.size ≤ k ∧ k < w2.heap.size) → k < wr.heap.size := fun k hk => by omega
        have hb0 := hI.out.below
        have hw0 := hb0.size
        have hll : l.length ≤ 1000 := by have := hI.out.len; omega
        by_cases hl : notLet y
        · obtain ⟨H, hx, hy, CH⟩ := l4Head_of y (.slice p m c) _ wr hl hI.out.wf hI.out.fv hokr
          have CH := Lib.hid CH
          have hlP : l = P := by have h := hI.out.names; rw [pathE_no hl] at h; simpa using h
          have hyZ : y = Z := by have h := hI.out.rest; rw [pathE_no hl] at h; exact h
          have CT : Hid (∀ W, Below wr.heap.size wr W → Calls Tryz.prog 62 #[.agg #[.string (bs (atomOf (formOf y))), .slice p m c]] W fun e w' => e = .returned (.string (bs (formOf Z).text)) ∧ Below W.heap.size W w') := Lib.hid (fun W hW => by
            rw [← hyZ]
            exact l1Text_c ((formOf y).depth + 1) (formOf y) (nS (formOf y) (.slice p m c)) _ W (by omega) hI.out.wf (by have := hI.out.bytes; omega) (hI.out.fv.below hW hokr) (fun k hk => Nat.lt_of_lt_of_le (hokr k hk) hW.size))
          have HlP := Lib.hid hlP
          obtain ⟨T, hTT⟩ : ∃ T, T = bs (formOf Z).text := ⟨_, rfl⟩
          unfold Hid at CT
          rw [← hTT] at CT
          have CT := Lib.hid CT
          have HTT := Lib.hid hTT
          clear hTT
          generalize bs (atomOf (formOf y)) = A at *
          clear hI hl hlP hyZ hO
          go_wp2_with (first | (go_at_call 81; go_must (refine (CH.out _ (Below.refl _ _)).mono ?_; rintro e w3 ⟨rfl, hb3⟩; have y3 := below_blk hb3 hlt2 hblk; have d0 := cell_of (j := 0) y3; have d1 := cell_of (j := 1) y3)) | (go_at_call 62; go_must (refine (CT.out _ hb3).mono ?_; rintro e w4 ⟨rfl, hb4⟩)))
          go_ret3
          exact ⟨by rw [HR.out]; exact ⟨_, by rw [HTT.out]; rfl, by rw [← HlP.out]; exact owns_below (owns_below HO.out hb3) hb4⟩, (nextB (nextB (firstB hb0) hb3) hb4).1⟩
        · obtain ⟨s, a, b, rfl⟩ : ∃ s a b, y = .lete s a b := by cases y <;> first | exact absurd trivial hl | exact ⟨_, _, _, rfl⟩
          clear hl
          obtain ⟨r, off, k, px, mx, cx, pa, ma, ca, pb, mb, cb, hcs, h2, h3, h4, e0, hx, ha, hb⟩ := view_lete hI.out.fv
          simp only [nS, formOf, atomOf, List.cons.injEq, Value.slice.injEq] at hcs
          obtain ⟨-, ⟨rfl, rfl, rfl⟩, -⟩ := hcs
          have hrlt := hokr r h2
          obtain ⟨gs, ga, gb⟩ := (good_lete s a b).1 hI.out.good
          have hwf := hI.out.wf
          have hby := hI.out.bytes
          simp only [formOf, Tr.wf, wfs, Tr.bytes, bytess] at hwf hby
          have hmy := hI.out.many
          have hln := hI.out.len
          simp only [manyE] at hmy hln
          have hmp := many_pos a
          have hnames := hI.out.names
          have hrest := hI.out.rest
          simp only [pathE] at hnames hrest
          have CH : Hid (∀ W, Below wr.heap.size wr W → Calls Tryz.prog 81 #[.agg #[.string (bs []), .slice (some ⟨r, off, none⟩) 4 c]] W fun e w' => e = .returned (.string (bs kLet)) ∧ Below W.heap.size W w') := Lib.hid (fun W hW => l4Head_list kLet r off 4 c W (Nat.lt_of_lt_of_le hrlt hW.size) (by omega) h3 h4 ((hW.cell (p := ⟨r, off, none⟩) hrlt).trans e0))
          have hxl : ((bs kLet).toList == [108, 101, 116]) = true := by rw [bs_toList]; rfl
          have hyl : (bs kLet).toList = [108, 101, 116] := by rw [bs_toList]; rfl
          have s0 : wr.cell? ⟨r, off + 2, none⟩ = some (.string (bs s)) := hx.1
          have b0 := hb.1
          have b1 := hb.2.1
          have hvb := Lib.hid hb.2.2
          have hwb := hwf.2.2.2.2.1
          have hbb : (formOf b).bytes ≤ 12000 := by omega
          have hmb : manyE b ≤ gk - 1 := by omega
          have hlb : (l ++ [s]).length + manyE b ≤ 120 := by simp; omega
          have hgk : 0 < gk := by omega
          have hmc := maxLen_le h4
          have HN := Lib.hid hnames
          have HZ := Lib.hid hrest
          clear hI hwf hby hmy hln hx ha hb e0 ga gs hnames hrest hO
          simp only [formOf, atomOf] at hblk c0 c1
          generalize bs kLet = K at *
          obtain ⟨Sb, hSb⟩ : ∃ Sb, Sb = bs (atomOf (formOf b)) := ⟨_, rfl⟩
          rw [← hSb] at b0
          have HSb := Lib.hid hSb
          clear hSb
          go_wp2_with (first | (go_at_call 81; go_must (refine (CH.out _ (Below.refl _ _)).mono ?_; rintro e w3 ⟨rfl, hb3⟩; have y3 := below_blk hb3 hlt2 hblk; have d0 := cell_of (j := 0) y3; have d1 := cell_of (j := 1) y3; have x0 := (hb3.cell (p := ⟨r, off + 2, none⟩) hrlt).trans s0)) | (at_builtin; go_must (refine wpList_append_str _ rfl _ _ 27 rfl w.heap.size 9 i0 Tryz.underlying27 hi0 hz0 hz1 hz2 _ l rfl ((owns_below HO.out hb3).alloc _) _ [s] rfl (strS_madeI (l := [s]) (heap_alloc_new _ _) _ (by simp)) (by simp; omega) (by have := hb3.size; simp; omega) ?_; intro v3 w5 ho3 hg3 hv3; have hr3 : r < w3.heap.size := Nat.lt_of_lt_of_le hrlt hb3.size; have hne : ∀ q, (Value.slice pv l.length cv).ownBlock = some q → q < w1.heap.size ∨ w2.heap.size < q := HOb.out; have y5 := blk_grown hg3 (blk_alloc y3) (fun e => by have := hne _ e; omega); have d0 := cell_of (j := 0) y5; have d1 := cell_of (j := 1) y5; have g0 := free_of (j := 0) y5; have g1 := free_of (j := 1) y5; have e5 : w5.heap[r]? = wr.heap[r]? := (hg3.block r (by simp; omega) (fun e => by have := hne _ e.symm; omega)).trans ((heap_alloc_old _ _ hr3).trans (hb3.block r hrlt)); have z0 := (cell_eqP (off := off + 6) e5).trans b0; have z1 := (cell_eqP (off := off + 6 + 1) e5).trans b1; have hrw : r ≠ w2.heap.size := by omega)))
          go_roundg (gk - 1)
          case measure => omega
          case rel =>
            have hs3 := hb3.size
            have hs5 := hg3.size
            simp at hs5
            have hB5 : Below w.heap.size w w5 := below_grown2 (hb0) (hb3.alloc hb3.size _) hg3 (fun q hq => (own_lt HO.out hq).1)
            have hneq : v3.ownBlock ≠ some w2.heap.size := by
              intro e
              rcases hv3 with h | h
              · rw [h] at e
                have h9 : w2.heap.size < w1.heap.size ∨ w2.heap.size < w2.heap.size := hne _ e
                omega
              · rw [h] at e
                simp at e
                omega
            have hvb5 := np_fv hg3 ((hvb.out.below hb3 hokr).below (below1 _ _) (fun k hk => by omega)) (by simp; omega) (fun q hq => by have := hne q hq; omega)
            refine ⟨b, pb, mb, cb, l ++ [s], Lib.hid ⟨hmb, hlb, by rw [← HN.out]; simp, HZ.out, gb, hwb, hbb, ?_, ?_⟩, Lib.hid ⟨?_, ?_⟩, ?_⟩
            · exact FV.move (fun k hk => hk) (fun k hk => by rw [blk_set_other _ (show k ≠ w2.heap.size by omega), blk_set_other _ (show k ≠ w2.heap.size by omega)]) _ _ hvb5
            · exact (hB5.setCell (show w.heap.size ≤ w2.heap.size by omega) _).setCell (show w.heap.size ≤ w2.heap.size by omega) _
            · exact ownsRow_setCell_other (ownsRow_setCell_other ho3 hneq _) hneq _
            · intro q hq
              rcases hv3 with h | h
              · exact hne q (h.symm.trans hq)
              · rw [h] at hq
                simp at hq
                omega
            · rw [← HSb.out]
              have kk := blk_set (j := 1) (blk_set (j := 0) y5 (.string Sb)) (.slice pb mb cb)
              simpa using kk
end Go.Proofs.YtjfjlfhckfoehaaGreatDoor
