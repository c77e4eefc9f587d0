/- The reference model: both types of a type with a head. The reference model makes types. The laws on TypeFun and TypePair: their walks. TypeMake of the program. TypeMake, for either mark. -/
import Derived.Test.YtpmlpmdgmapilaaS1z
import Derived.Deep.RegionHeld3
import Derived.Test.YtpmlpmdgmapilaaB1
import Derived.Test.YtpmlpmdgmapilaaImpl1k
import Derived.Test.YtpmlpmdgmapilaaImpl1l
namespace Go.Proofs.Ytpmlpmdgmapilaa
open Go.RowKit
set_option maxRecDepth 8000
set_option linter.unusedSimpArgs false
set_option linter.unusedVariables false
theorem fin_belowS {w w1 W : World} {p : Prop} (h : Below w.heap.size w w1) (k : Below w1.heap.size w1 W ∧ p) : Below w.heap.size w W := h.trans (k.1.mono h.size)
set_option maxHeartbeats 1000000 in
theorem l1Two_c (s : ByteArray) (hs : s.size ≤ 1048576) (hd : List UInt8) (w : World) :
    Calls Try.prog 78 #[.string s, .string (bs hd)] w fun e w' => TwoPost (sidesOf hd s.data.toList) e ∧ Below w.heap.size w w' := by
  cases hp : parse s.data.toList with
  | none =>
    have C := Lib.hid (l1Parse_none hs hp)
    have HR := Lib.hid (sides_none hd (readTy_none hp))
    clear hp
    go_enter Try.func78, Try.ntmps78
    go_wp2_with (go_at_call 56; go_must (refine (C.out _).mono ?_; rintro e w1 ⟨⟨a, p, n, c, rfl, hn⟩, hb1⟩))
    go_ret3
    exact ⟨by rw [HR.out]; rfl, hb1.alloc hb1.size _⟩
  | some t =>
    have C := Lib.hid (l1Parse_some hs hp)
    have hg := parse_got hp
    have hR0 := readTy_some hp
    clear hp
    have T : Hid (∀ (W : World) (p : Option Addr) (n c : Nat) (ok : Nat → Prop), FV nS W ok t (nS t (.slice p n c)) → (∀ k, ok k → k < W.heap.size) → Calls Try.prog 75 #[.agg #[.string (bs (atomOf t)), .slice p n c]] W fun e w' => e = .returned (.bool (isTy t && decide (t.size ≤ 16))) ∧ Below W.heap.size W w') :=
      Lib.hid (fun W p n c ok h1 h2 => l1Typed_c t p n c ok W hg.1 (by omega) h1 h2)
    cases hty : (isTy t && decide (t.size ≤ 16)) with
    | false =>
      rw [hty] at T hR0
      have HR := Lib.hid (sides_none hd hR0)
      go_enter Try.func78, Try.ntmps78
      go_wp2_with (first | (go_at_call 56; go_must (refine (C.out _).mono ?_; rintro e w1 ⟨⟨p, n, c, rfl, hv⟩, hb1⟩)) | (go_at_call 75; go_must (refine (T.out _ p n c (fun k => w.heap.size ≤ k ∧ k < w1.heap.size) (hv.below (below1 _ _) (fun k hk => hk.2)) (fun k hk => by simp; omega)).mono ?_; rintro e w2 ⟨rfl, hb2⟩)))
      go_ret3
      exact ⟨by rw [HR.out]; rfl, (hb1.alloc hb1.size _).trans (hb2.mono (by have := hb1.size; simp; omega))⟩
    | true =>
      rw [hty] at T hR0
      have hR1 : readTy s.data.toList = some t := by rw [hR0]; rfl
      have hty1 : isTy t = true := by simp only [Bool.and_eq_true] at hty; exact hty.1
      clear hR0 hty
      match t, hty1 with
      | .atom a, hty1 =>
        have HR := Lib.hid (sides_atom hd hR1)
        have ha := atomne hg.1.1
        simp only [atomOf] at C T
        go_enter Try.func78, Try.ntmps78
        go_wp2_with (first | (go_at_call 56; go_must (refine (C.out _).mono ?_; rintro e w1 ⟨⟨p, n, c, rfl, hv⟩, hb1⟩)) | (go_at_call 75; go_must (refine (T.out _ p n c (fun k => w.heap.size ≤ k ∧ k < w1.heap.size) (hv.below (below1 _ _) (fun k hk => hk.2)) (fun k hk => by simp; omega)).mono ?_; rintro e w2 ⟨rfl, hb2⟩; have x0 := below_blk hb2 (by simp) (heap_alloc_new _ _); have t2 := cell_of (j := 0) x0; have t3 := cell_of (j := 1) x0)))
        go_ret3
        exact ⟨by rw [HR.out]; rfl, (hb1.alloc hb1.size _).trans (hb2.mono (by have := hb1.size; simp; omega))⟩
      | .list ts, hty1 =>
        obtain ⟨x, a, b, rfl, hx, hta, htb⟩ := isTy_list hty1
        have ha := emptyne
        simp only [atomOf] at C T
        have hwa : a.wf := hg.1.2.2.1
        have hwb : b.wf := hg.1.2.2.2.1
        have hdd := depths3 x a b
        have hbb := bytes3 x a b
        have LA : Hid (∀ (W : World) (p : Option Addr) (n c : Nat) (ok : Nat → Prop), FV nS W ok a (nS a (.slice p n c)) → (∀ k, ok k → k < W.heap.size) → Calls Try.prog 60 #[.agg #[.string (bs (atomOf a)), .slice p n c]] W fun e w' => e = .returned (.string (bs a.text)) ∧ Below W.heap.size W w') :=
          Lib.hid (fun W p n c ok h1 h2 => l1Text_c (a.depth + 1) a _ ok W (by omega) hwa (by omega) h1 h2)
        have LB : Hid (∀ (W : World) (p : Option Addr) (n c : Nat) (ok : Nat → Prop), FV nS W ok b (nS b (.slice p n c)) → (∀ k, ok k → k < W.heap.size) → Calls Try.prog 60 #[.agg #[.string (bs (atomOf b)), .slice p n c]] W fun e w' => e = .returned (.string (bs b.text)) ∧ Below W.heap.size W w') :=
          Lib.hid (fun W p n c ok h1 h2 => l1Text_c (b.depth + 1) b _ ok W (by omega) hwb (by omega) h1 h2)
        cases hxh : (atomOf x == hd) with
        | false =>
          have hx2 : ((bs (atomOf x)).toList == (bs hd).toList) = false := by rw [bs_toList, bs_toList]; exact hxh
          have HR := Lib.hid (sides_no hd hR1 (by simpa using hxh))
          clear hxh hx
          go_enter Try.func78, Try.ntmps78
          go_wp2_with (first | (go_at_call 56; go_must (refine (C.out _).mono ?_; rintro e w1 ⟨⟨p, n, c, rfl, hv⟩, hb1⟩)) | (go_at_call 75; go_must (have hv' := hv.below (below1 w1 (.cells #[.string (bs []), .slice p n c] 53)) (fun k hk => hk.2); refine (T.out _ p n c (fun k => w.heap.size ≤ k ∧ k < w1.heap.size) hv' (fun k hk => by simp; omega)).mono ?_; rintro e w2 ⟨rfl, hb2⟩; have hv2 := hv'.below hb2 (fun k hk => by simp; omega); have x0 := below_blk hb2 (by simp) (heap_alloc_new w1 (.cells #[.string (bs []), .slice p n c] 53)); obtain ⟨r, off, cap, xs, hh, h2, h3, h4, h5, h6⟩ := FV.list_cells hv2; have hh' := nS_inj _ _ _ hh; simp only [Value.slice.injEq] at hh'; obtain ⟨rfl, rfl, rfl⟩ := hh'; clear hh hv hv' hv2; obtain ⟨⟨p0, n0, q0, v0, r0⟩, ⟨p1, n1, q1, v1, r1⟩, ⟨p2, n2, q2, v2, r2⟩⟩ := FVs.three nS_len h6 h5; have hr2 : r < w2.heap.size := (by have := hb2.size; simp at this; omega); have t1 : w2.cell? ⟨r, off, none⟩ = some (.string (bs (atomOf x))) := r0 0 _ rfl; have t2 := cell_of (j := 0) x0; have t3 := cell_of (j := 1) x0; have v0 := FV.wide v0 (fun k hk => (by have := hb2.size; simp at this; omega : k < w2.heap.size)); have v1 := FV.wide v1 (fun k hk => (by have := hb2.size; simp at this; omega : k < w2.heap.size)); have v2 := FV.wide v2 (fun k hk => (by have := hb2.size; simp at this; omega : k < w2.heap.size)); have h3' := maxLen_le h4)))

          go_ret3
          exact ⟨by rw [HR.out]; rfl, (hb1.alloc hb1.size _).trans (hb2.mono (by have := hb1.size; simp; omega))⟩
        | true =>
          have hx2 : ((bs (atomOf x)).toList == (bs hd).toList) = true := by rw [bs_toList, bs_toList]; exact hxh
          have HR := Lib.hid (sides_yes hd hR1 (by simpa using hxh))
          clear hxh hx
          go_enter Try.func78, Try.ntmps78
          go_wp2_with (first | (go_at_call 56; go_must (refine (C.out _).mono ?_; rintro e w1 ⟨⟨p, n, c, rfl, hv⟩, hb1⟩)) | (go_at_call 75; go_must (have hv' := hv.below (below1 w1 (.cells #[.string (bs []), .slice p n c] 53)) (fun k hk => hk.2); refine (T.out _ p n c (fun k => w.heap.size ≤ k ∧ k < w1.heap.size) hv' (fun k hk => by simp; omega)).mono ?_; rintro e w2 ⟨rfl, hb2⟩; have hv2 := hv'.below hb2 (fun k hk => by simp; omega); have x0 := below_blk hb2 (by simp) (heap_alloc_new w1 (.cells #[.string (bs []), .slice p n c] 53)); obtain ⟨r, off, cap, xs, hh, h2, h3, h4, h5, h6⟩ := FV.list_cells hv2; have hh' := nS_inj _ _ _ hh; simp only [Value.slice.injEq] at hh'; obtain ⟨rfl, rfl, rfl⟩ := hh'; clear hh hv hv' hv2; obtain ⟨⟨p0, n0, q0, v0, r0⟩, ⟨p1, n1, q1, v1, r1⟩, ⟨p2, n2, q2, v2, r2⟩⟩ := FVs.three nS_len h6 h5; have hr2 : r < w2.heap.size := (by have := hb2.size; simp at this; omega); have t1 : w2.cell? ⟨r, off, none⟩ = some (.string (bs (atomOf x))) := r0 0 _ rfl; have t2 := cell_of (j := 0) x0; have t3 := cell_of (j := 1) x0; have v0 := FV.wide v0 (fun k hk => (by have := hb2.size; simp at this; omega : k < w2.heap.size)); have v1 := FV.wide v1 (fun k hk => (by have := hb2.size; simp at this; omega : k < w2.heap.size)); have v2 := FV.wide v2 (fun k hk => (by have := hb2.size; simp at this; omega : k < w2.heap.size)); have h3' := maxLen_le h4)))
          have HW2 : Hid (Below w.heap.size w w2) := Lib.hid ((hb1.alloc hb1.size _).trans (hb2.mono (by have := hb1.size; simp; omega)))
          have hW2 := HW2.out.size
          have y1 := cell_of (j := 1) x0
          have K : Hid (∀ W, Below w2.heap.size w2 W → (fun W => Below w2.heap.size w2 W ∧ W.cell? ⟨w1.heap.size, 1, none⟩ = some (.slice (some ⟨r, off, none⟩) 3 c) ∧ (W.cell? ⟨r, off + 2, none⟩ = some (.string (bs (atomOf a))) ∧ W.cell? ⟨r, off + 2 + 1, none⟩ = some (.slice p1 n1 q1)) ∧ (W.cell? ⟨r, off + 4, none⟩ = some (.string (bs (atomOf b))) ∧ W.cell? ⟨r, off + 4 + 1, none⟩ = some (.slice p2 n2 q2))) W) :=
            Lib.hid (fun W hW => ⟨hW, (hW.cell (p := ⟨w1.heap.size, 1, none⟩) (lt_of_block x0)).trans y1,
              ⟨(hW.cell (p := ⟨r, off + 2, none⟩) hr2).trans (r1 0 _ rfl), (hW.cell (p := ⟨r, off + 2 + 1, none⟩) hr2).trans (r1 1 _ rfl)⟩, (hW.cell (p := ⟨r, off + 4, none⟩) hr2).trans (r2 0 _ rfl), (hW.cell (p := ⟨r, off + 4 + 1, none⟩) hr2).trans (r2 1 _ rfl)⟩)
          have S0 := Lib.hid (K.out _ ((Below.refl _ _).drew))
          have VA := Lib.hid v1
          have VB := Lib.hid v2
          clear y1 v0 v1 v2 r0 r1 r2 hb1 hb2 x0
          go_region_held3 (fun W => Below w2.heap.size w2 W ∧ W.cell? ⟨w1.heap.size, 1, none⟩ = some (.slice (some ⟨r, off, none⟩) 3 c) ∧ (W.cell? ⟨r, off + 2, none⟩ = some (.string (bs (atomOf a))) ∧ W.cell? ⟨r, off + 2 + 1, none⟩ = some (.slice p1 n1 q1)) ∧ (W.cell? ⟨r, off + 4, none⟩ = some (.string (bs (atomOf b))) ∧ W.cell? ⟨r, off + 4 + 1, none⟩ = some (.slice p2 n2 q2)))
            (first | exact S0.out | assumption)
            (first | (go_at_call 60; have hh := And.left (by assumption : Below w2.heap.size w2 _ ∧ _); first | ((with_reducible refine (LA.out _ p1 n1 q1 (fun k => k < w2.heap.size) (VA.out.below hh (fun k hk => hk)) (fun k hk => Nat.lt_of_lt_of_le hk hh.size)).mono ?_); rintro e w' ⟨rfl, hb9⟩; have hS2 := K.out _ (hh.trans (hb9.mono hh.size))) | ((with_reducible refine (LB.out _ p2 n2 q2 (fun k => k < w2.heap.size) (VB.out.below hh (fun k hk => hk)) (fun k hk => Nat.lt_of_lt_of_le hk hh.size)).mono ?_); rintro e w' ⟨rfl, hb9⟩; have hS2 := K.out _ (hh.trans (hb9.mono hh.size)))))
          all_goals
            go_wp2_with fail
            go_ret3
            exact ⟨by rw [HR.out]; rfl, fin_belowS HW2.out (by assumption)⟩
end Go.Proofs.Ytpmlpmdgmapilaa
namespace Go.Proofs.Ytpmlpmdgmapilaa
open Go.RowKit
set_option maxRecDepth 8000
set_option linter.unusedSimpArgs false
set_option linter.unusedVariables false
theorem out_data (c : UInt8) (a b : ByteArray) : ((⟨#[40]⟩ ++ ⟨#[c]⟩ ++ ⟨#[32]⟩ ++ a ++ ⟨#[32]⟩ ++ b ++ ⟨#[41]⟩ : ByteArray)).data.toList = 40 :: c :: 32 :: (a.data.toList ++ 32 :: (b.data.toList ++ [41])) := by simp
theorem out_size (c : UInt8) (a b : ByteArray) : ((⟨#[40]⟩ ++ ⟨#[c]⟩ ++ ⟨#[32]⟩ ++ a ++ ⟨#[32]⟩ ++ b ++ ⟨#[41]⟩ : ByteArray)).size = a.size + b.size + 5 := by
  rw [← size_data, out_data, ← size_data a, ← size_data b]
  simp only [List.length_cons, List.length_append, List.length_nil]; omega
set_option maxHeartbeats 1000000 in
theorem specTypeMake_fun (a b : ByteArray) (ha : a.size ≤ 1048576) (hb : b.size ≤ 1048576) (w : World) :
    Calls Try.prog 52 #[.bool true, .string a, .string b] w fun e w' => MakePost (makeT 62 a.data.toList b.data.toList) e ∧ Below w.heap.size w w' := by
  cases h1 : readTy a.data.toList with
  | none =>
    have C1 : Hid (∀ W, Calls Try.prog 40 #[.string a] W fun e w' => e = .returned (.bool false) ∧ Below W.heap.size W w') := Lib.hid (fun W => by have := specTypeValid_c a ha W; rw [h1] at this; exact this)
    have HR := Lib.hid (makeT_left (c := 62) b.data.toList h1)
    clear h1
    go_enter Try.func52, Try.ntmps52
    go_wp2_with (go_at_call 40; go_must (refine (C1.out _).mono ?_; rintro e w1 ⟨rfl, hb1⟩))
    go_ret2
    exact ⟨by rw [HR.out]; rfl, hb1⟩
  | some ta =>
    have C1 : Hid (∀ W, Calls Try.prog 40 #[.string a] W fun e w' => e = .returned (.bool true) ∧ Below W.heap.size W w') := Lib.hid (fun W => by have := specTypeValid_c a ha W; rw [h1] at this; exact this)
    cases h2 : readTy b.data.toList with
    | none =>
      have C2 : Hid (∀ W, Calls Try.prog 40 #[.string b] W fun e w' => e = .returned (.bool false) ∧ Below W.heap.size W w') := Lib.hid (fun W => by have := specTypeValid_c b hb W; rw [h2] at this; exact this)
      have HR := Lib.hid (makeT_right (c := 62) a.data.toList h2)
      clear h1 h2
      by_cases hab : a = b
      · subst hab
        go_enter Try.func52, Try.ntmps52
        go_wp2_with (go_at_call 40; go_must (refine (C2.out _).mono ?_; rintro e w1 ⟨rfl, hb1⟩))
        go_ret2
        exact ⟨by rw [HR.out]; rfl, hb1⟩
      · go_enter Try.func52, Try.ntmps52
        go_wp2_with (go_at_call 40; first | ((with_reducible refine (C1.out _).mono ?_); rintro e w1 ⟨rfl, hb1⟩) | ((with_reducible refine (C2.out _).mono ?_); rintro e w2 ⟨rfl, hb2⟩))
        go_ret2
        exact ⟨by rw [HR.out]; rfl, hb1.trans (hb2.mono hb1.size)⟩
    | some tb =>
      have C2 : Hid (∀ W, Calls Try.prog 40 #[.string b] W fun e w' => e = .returned (.bool true) ∧ Below W.heap.size W w') := Lib.hid (fun W => by have := specTypeValid_c b hb W; rw [h2] at this; exact this)
      have hR0 := makeT_some (c := 62) h1 h2
      have hT := readTy_made (c := 62) (by decide) h1 h2
      have hga := readTy_got h1
      have hgb := readTy_got h2
      have hla : a.size ≤ 12000 := by rw [← size_data, hga.2.2.2.1, text_length _ hga.1]; exact hga.2.1
      have hlb : b.size ≤ 12000 := by rw [← size_data, hgb.2.2.2.1, text_length _ hgb.1]; exact hgb.2.1
      have hE0 := made_text 62 ta tb
      rw [← hga.2.2.2.1, ← hgb.2.2.2.1, ← out_data] at hE0
      have hE : bs (Tr.list [.atom [62], ta, tb]).text = ⟨#[40]⟩ ++ ⟨#[62]⟩ ++ ⟨#[32]⟩ ++ a ++ ⟨#[32]⟩ ++ b ++ ⟨#[41]⟩ := (bs_ext hE0.symm).symm
      clear hE0
      clear hga hgb
      by_cases h16 : 1 + ta.size + tb.size ≤ 16
      · rw [if_pos h16] at hR0 hT
        have C3 : Hid (∀ W, Calls Try.prog 40 #[.string (⟨#[40]⟩ ++ ⟨#[62]⟩ ++ ⟨#[32]⟩ ++ a ++ ⟨#[32]⟩ ++ b ++ ⟨#[41]⟩)] W fun e w' => e = .returned (.bool true) ∧ Below W.heap.size W w') :=
          Lib.hid (fun W => by have := specTypeValid_c _ (by rw [out_size]; omega : ((⟨#[40]⟩ ++ ⟨#[62]⟩ ++ ⟨#[32]⟩ ++ a ++ ⟨#[32]⟩ ++ b ++ ⟨#[41]⟩ : ByteArray)).size ≤ 1048576) W; rw [out_data, hT] at this; exact this)
        have HR := Lib.hid hR0
        have HE := Lib.hid hE
        clear hR0 hT hE h1 h2
        go_enter Try.func52, Try.ntmps52
        go_wp2_with (go_at_call 40; first | ((with_reducible refine (C1.out _).mono ?_); rintro e w1 ⟨rfl, hb1⟩; have hk := hb1) | ((with_reducible refine (C2.out _).mono ?_); rintro e w2 ⟨rfl, hb2⟩; have hk2 := hk.trans (hb2.mono hk.size)) | ((with_reducible refine (C3.out _).mono ?_); rintro e w3 ⟨rfl, hb3⟩))
        go_ret2
        exact ⟨by rw [HR.out]; exact makePost_some HE.out, hk2.trans (hb3.mono hk2.size)⟩
      · rw [if_neg h16] at hR0 hT
        have C3 : Hid (∀ W, Calls Try.prog 40 #[.string (⟨#[40]⟩ ++ ⟨#[62]⟩ ++ ⟨#[32]⟩ ++ a ++ ⟨#[32]⟩ ++ b ++ ⟨#[41]⟩)] W fun e w' => e = .returned (.bool false) ∧ Below W.heap.size W w') :=
          Lib.hid (fun W => by have := specTypeValid_c _ (by rw [out_size]; omega : ((⟨#[40]⟩ ++ ⟨#[62]⟩ ++ ⟨#[32]⟩ ++ a ++ ⟨#[32]⟩ ++ b ++ ⟨#[41]⟩ : ByteArray)).size ≤ 1048576) W; rw [out_data, hT] at this; exact this)
        have HR := Lib.hid hR0
        clear hR0 hT hE h1 h2
        go_enter Try.func52, Try.ntmps52
        go_wp2_with (go_at_call 40; first | ((with_reducible refine (C1.out _).mono ?_); rintro e w1 ⟨rfl, hb1⟩; have hk := hb1) | ((with_reducible refine (C2.out _).mono ?_); rintro e w2 ⟨rfl, hb2⟩; have hk2 := hk.trans (hb2.mono hk.size)) | ((with_reducible refine (C3.out _).mono ?_); rintro e w3 ⟨rfl, hb3⟩))
        go_ret2
        exact ⟨by rw [HR.out]; rfl, hk2.trans (hb3.mono hk2.size)⟩

set_option maxHeartbeats 1000000 in
theorem specTypeMake_pair (a b : ByteArray) (ha : a.size ≤ 1048576) (hb : b.size ≤ 1048576) (w : World) :
    Calls Try.prog 52 #[.bool false, .string a, .string b] w fun e w' => MakePost (makeT 42 a.data.toList b.data.toList) e ∧ Below w.heap.size w w' := by
  cases h1 : readTy a.data.toList with
  | none =>
    have C1 : Hid (∀ W, Calls Try.prog 40 #[.string a] W fun e w' => e = .returned (.bool false) ∧ Below W.heap.size W w') := Lib.hid (fun W => by have := specTypeValid_c a ha W; rw [h1] at this; exact this)
    have HR := Lib.hid (makeT_left (c := 42) b.data.toList h1)
    clear h1
    go_enter Try.func52, Try.ntmps52
    go_wp2_with (go_at_call 40; go_must (refine (C1.out _).mono ?_; rintro e w1 ⟨rfl, hb1⟩))
    go_ret2
    exact ⟨by rw [HR.out]; rfl, hb1⟩
  | some ta =>
    have C1 : Hid (∀ W, Calls Try.prog 40 #[.string a] W fun e w' => e = .returned (.bool true) ∧ Below W.heap.size W w') := Lib.hid (fun W => by have := specTypeValid_c a ha W; rw [h1] at this; exact this)
    cases h2 : readTy b.data.toList with
    | none =>
      have C2 : Hid (∀ W, Calls Try.prog 40 #[.string b] W fun e w' => e = .returned (.bool false) ∧ Below W.heap.size W w') := Lib.hid (fun W => by have := specTypeValid_c b hb W; rw [h2] at this; exact this)
      have HR := Lib.hid (makeT_right (c := 42) a.data.toList h2)
      clear h1 h2
      by_cases hab : a = b
      · subst hab
        go_enter Try.func52, Try.ntmps52
        go_wp2_with (go_at_call 40; go_must (refine (C2.out _).mono ?_; rintro e w1 ⟨rfl, hb1⟩))
        go_ret2
        exact ⟨by rw [HR.out]; rfl, hb1⟩
      · go_enter Try.func52, Try.ntmps52
        go_wp2_with (go_at_call 40; first | ((with_reducible refine (C1.out _).mono ?_); rintro e w1 ⟨rfl, hb1⟩) | ((with_reducible refine (C2.out _).mono ?_); rintro e w2 ⟨rfl, hb2⟩))
        go_ret2
        exact ⟨by rw [HR.out]; rfl, hb1.trans (hb2.mono hb1.size)⟩
    | some tb =>
      have C2 : Hid (∀ W, Calls Try.prog 40 #[.string b] W fun e w' => e = .returned (.bool true) ∧ Below W.heap.size W w') := Lib.hid (fun W => by have := specTypeValid_c b hb W; rw [h2] at this; exact this)
      have hR0 := makeT_some (c := 42) h1 h2
      have hT := readTy_made (c := 42) (by decide) h1 h2
      have hga := readTy_got h1
      have hgb := readTy_got h2
      have hla : a.size ≤ 12000 := by rw [← size_data, hga.2.2.2.1, text_length _ hga.1]; exact hga.2.1
      have hlb : b.size ≤ 12000 := by rw [← size_data, hgb.2.2.2.1, text_length _ hgb.1]; exact hgb.2.1
      have hE0 := made_text 42 ta tb
      rw [← hga.2.2.2.1, ← hgb.2.2.2.1, ← out_data] at hE0
      have hE : bs (Tr.list [.atom [42], ta, tb]).text = ⟨#[40]⟩ ++ ⟨#[42]⟩ ++ ⟨#[32]⟩ ++ a ++ ⟨#[32]⟩ ++ b ++ ⟨#[41]⟩ := (bs_ext hE0.symm).symm
      clear hE0
      clear hga hgb
      by_cases h16 : 1 + ta.size + tb.size ≤ 16
      · rw [if_pos h16] at hR0 hT
        have C3 : Hid (∀ W, Calls Try.prog 40 #[.string (⟨#[40]⟩ ++ ⟨#[42]⟩ ++ ⟨#[32]⟩ ++ a ++ ⟨#[32]⟩ ++ b ++ ⟨#[41]⟩)] W fun e w' => e = .returned (.bool true) ∧ Below W.heap.size W w') :=
          Lib.hid (fun W => by have := specTypeValid_c _ (by rw [out_size]; omega : ((⟨#[40]⟩ ++ ⟨#[42]⟩ ++ ⟨#[32]⟩ ++ a ++ ⟨#[32]⟩ ++ b ++ ⟨#[41]⟩ : ByteArray)).size ≤ 1048576) W; rw [out_data, hT] at this; exact this)
        have HR := Lib.hid hR0
        have HE := Lib.hid hE
        clear hR0 hT hE h1 h2
        go_enter Try.func52, Try.ntmps52
        go_wp2_with (go_at_call 40; first | ((with_reducible refine (C1.out _).mono ?_); rintro e w1 ⟨rfl, hb1⟩; have hk := hb1) | ((with_reducible refine (C2.out _).mono ?_); rintro e w2 ⟨rfl, hb2⟩; have hk2 := hk.trans (hb2.mono hk.size)) | ((with_reducible refine (C3.out _).mono ?_); rintro e w3 ⟨rfl, hb3⟩))
        go_ret2
        exact ⟨by rw [HR.out]; exact makePost_some HE.out, hk2.trans (hb3.mono hk2.size)⟩
      · rw [if_neg h16] at hR0 hT
        have C3 : Hid (∀ W, Calls Try.prog 40 #[.string (⟨#[40]⟩ ++ ⟨#[42]⟩ ++ ⟨#[32]⟩ ++ a ++ ⟨#[32]⟩ ++ b ++ ⟨#[41]⟩)] W fun e w' => e = .returned (.bool false) ∧ Below W.heap.size W w') :=
          Lib.hid (fun W => by have := specTypeValid_c _ (by rw [out_size]; omega : ((⟨#[40]⟩ ++ ⟨#[42]⟩ ++ ⟨#[32]⟩ ++ a ++ ⟨#[32]⟩ ++ b ++ ⟨#[41]⟩ : ByteArray)).size ≤ 1048576) W; rw [out_data, hT] at this; exact this)
        have HR := Lib.hid hR0
        clear hR0 hT hE h1 h2
        go_enter Try.func52, Try.ntmps52
        go_wp2_with (go_at_call 40; first | ((with_reducible refine (C1.out _).mono ?_); rintro e w1 ⟨rfl, hb1⟩; have hk := hb1) | ((with_reducible refine (C2.out _).mono ?_); rintro e w2 ⟨rfl, hb2⟩; have hk2 := hk.trans (hb2.mono hk.size)) | ((with_reducible refine (C3.out _).mono ?_); rintro e w3 ⟨rfl, hb3⟩))
        go_ret2
        exact ⟨by rw [HR.out]; rfl, hk2.trans (hb3.mono hk2.size)⟩
end Go.Proofs.Ytpmlpmdgmapilaa
namespace Go.Proofs.Ytpmlpmdgmapilaa
open Go.RowKit
set_option maxRecDepth 8000
set_option linter.unusedSimpArgs false
set_option linter.unusedVariables false
theorem twoPost_shape {r : Option (List UInt8 × List UInt8)} {e : Ending} (h : TwoPost r e) : e = .returned (.tuple #[.string (bs ((r.map (·.1)).getD [])), .string (bs ((r.map (·.2)).getD [])), .bool r.isSome]) := by
  match r, h with
  | none, h => exact h
  | some (a, b), h => exact h

set_option maxHeartbeats 400000 in
theorem specTypeFun_c (s : ByteArray) (hs : s.size ≤ 1048576) (w : World) :
    Calls Try.prog 45 #[.string s] w fun e w' => e = .returned (.tuple #[.string (bs (((sidesOf [62] s.data.toList).map (·.1)).getD [])), .string (bs (((sidesOf [62] s.data.toList).map (·.2)).getD [])), .bool (sidesOf [62] s.data.toList).isSome]) ∧ Below w.heap.size w w' := by
  obtain ⟨x, hx⟩ : ∃ x, x = bs (((sidesOf [62] s.data.toList).map (·.1)).getD []) := ⟨_, rfl⟩
  obtain ⟨y, hy⟩ : ∃ y, y = bs (((sidesOf [62] s.data.toList).map (·.2)).getD []) := ⟨_, rfl⟩
  obtain ⟨z, hz⟩ : ∃ z, z = (sidesOf [62] s.data.toList).isSome := ⟨_, rfl⟩
  have C : Hid (∀ W, Calls Try.prog 78 #[.string s, .string ⟨#[62]⟩] W fun e w' => e = .returned (.tuple #[.string x, .string y, .bool z]) ∧ Below W.heap.size W w') := Lib.hid (fun W => (l1Two_c s hs [62] W).mono fun e w' ⟨h1, h2⟩ => ⟨by rw [hx, hy, hz]; exact twoPost_shape h1, h2⟩)
  rw [← hx, ← hy, ← hz]
  clear hx hy hz
  go_enter Try.func45, Try.ntmps45
  go_wp2_with (go_at_call 78; go_must (refine (C.out _).mono ?_; rintro e w1 ⟨rfl, hb1⟩))
  go_ret3
  exact ⟨rfl, hb1⟩

set_option maxHeartbeats 400000 in
theorem implTypeFun_c (s : ByteArray) (hs : s.size ≤ 1048576) (w : World) :
    Calls Try.prog 41 #[.string s] w fun e w' => e = .returned (.tuple #[.string (bs (((sidesOf [62] s.data.toList).map (·.1)).getD [])), .string (bs (((sidesOf [62] s.data.toList).map (·.2)).getD [])), .bool (sidesOf [62] s.data.toList).isSome]) ∧ Below w.heap.size w w' := by
  obtain ⟨x, hx⟩ : ∃ x, x = bs (((sidesOf [62] s.data.toList).map (·.1)).getD []) := ⟨_, rfl⟩
  obtain ⟨y, hy⟩ : ∃ y, y = bs (((sidesOf [62] s.data.toList).map (·.2)).getD []) := ⟨_, rfl⟩
  obtain ⟨z, hz⟩ : ∃ z, z = (sidesOf [62] s.data.toList).isSome := ⟨_, rfl⟩
  have C : Hid (∀ W, Calls Try.prog 76 #[.string s, .string ⟨#[62]⟩] W fun e w' => e = .returned (.tuple #[.string x, .string y, .bool z]) ∧ Below W.heap.size W w') := Lib.hid (fun W => (typeSides_c s hs 62 W).mono fun e w' ⟨h1, h2⟩ => ⟨by rw [hx, hy, hz]; exact twoPost_shape h1, h2⟩)
  rw [← hx, ← hy, ← hz]
  clear hx hy hz
  go_enter Try.func41, Try.ntmps41
  go_wp2_with (go_at_call 76; go_must (refine (C.out _).mono ?_; rintro e w1 ⟨rfl, hb1⟩))
  go_ret3
  exact ⟨rfl, hb1⟩

set_option maxHeartbeats 400000 in
theorem specTypePair_c (s : ByteArray) (hs : s.size ≤ 1048576) (w : World) :
    Calls Try.prog 48 #[.string s] w fun e w' => e = .returned (.tuple #[.string (bs (((sidesOf [42] s.data.toList).map (·.1)).getD [])), .string (bs (((sidesOf [42] s.data.toList).map (·.2)).getD [])), .bool (sidesOf [42] s.data.toList).isSome]) ∧ Below w.heap.size w w' := by
  obtain ⟨x, hx⟩ : ∃ x, x = bs (((sidesOf [42] s.data.toList).map (·.1)).getD []) := ⟨_, rfl⟩
  obtain ⟨y, hy⟩ : ∃ y, y = bs (((sidesOf [42] s.data.toList).map (·.2)).getD []) := ⟨_, rfl⟩
  obtain ⟨z, hz⟩ : ∃ z, z = (sidesOf [42] s.data.toList).isSome := ⟨_, rfl⟩
  have C : Hid (∀ W, Calls Try.prog 78 #[.string s, .string ⟨#[42]⟩] W fun e w' => e = .returned (.tuple #[.string x, .string y, .bool z]) ∧ Below W.heap.size W w') := Lib.hid (fun W => (l1Two_c s hs [42] W).mono fun e w' ⟨h1, h2⟩ => ⟨by rw [hx, hy, hz]; exact twoPost_shape h1, h2⟩)
  rw [← hx, ← hy, ← hz]
  clear hx hy hz
  go_enter Try.func48, Try.ntmps48
  go_wp2_with (go_at_call 78; go_must (refine (C.out _).mono ?_; rintro e w1 ⟨rfl, hb1⟩))
  go_ret3
  exact ⟨rfl, hb1⟩

set_option maxHeartbeats 400000 in
theorem implTypePair_c (s : ByteArray) (hs : s.size ≤ 1048576) (w : World) :
    Calls Try.prog 42 #[.string s] w fun e w' => e = .returned (.tuple #[.string (bs (((sidesOf [42] s.data.toList).map (·.1)).getD [])), .string (bs (((sidesOf [42] s.data.toList).map (·.2)).getD [])), .bool (sidesOf [42] s.data.toList).isSome]) ∧ Below w.heap.size w w' := by
  obtain ⟨x, hx⟩ : ∃ x, x = bs (((sidesOf [42] s.data.toList).map (·.1)).getD []) := ⟨_, rfl⟩
  obtain ⟨y, hy⟩ : ∃ y, y = bs (((sidesOf [42] s.data.toList).map (·.2)).getD []) := ⟨_, rfl⟩
  obtain ⟨z, hz⟩ : ∃ z, z = (sidesOf [42] s.data.toList).isSome := ⟨_, rfl⟩
  have C : Hid (∀ W, Calls Try.prog 76 #[.string s, .string ⟨#[42]⟩] W fun e w' => e = .returned (.tuple #[.string x, .string y, .bool z]) ∧ Below W.heap.size W w') := Lib.hid (fun W => (typeSides_c s hs 42 W).mono fun e w' ⟨h1, h2⟩ => ⟨by rw [hx, hy, hz]; exact twoPost_shape h1, h2⟩)
  rw [← hx, ← hy, ← hz]
  clear hx hy hz
  go_enter Try.func42, Try.ntmps42
  go_wp2_with (go_at_call 76; go_must (refine (C.out _).mono ?_; rintro e w1 ⟨rfl, hb1⟩))
  go_ret3
  exact ⟨rfl, hb1⟩

end Go.Proofs.Ytpmlpmdgmapilaa
namespace Go.Proofs.Ytpmlpmdgmapilaa
open Go.RowKit
set_option maxRecDepth 8000
set_option linter.unusedSimpArgs false
set_option linter.unusedVariables false
set_option maxHeartbeats 4000000 in
theorem implTypeMake_h (f : Bool) (c : UInt8) (hc : c = if f = true then 62 else 42) (a b : ByteArray) (ha : a.size ≤ 1048576) (hb : b.size ≤ 1048576) (w : World) :
    Calls Try.prog 46 #[.bool f, .string a, .string b] w fun e w' => MakePost (makeT c a.data.toList b.data.toList) e ∧ Below w.heap.size w w' := by
  have hcc : c = 62 ∨ c = 42 := by rw [hc]; split <;> simp
  cases h1 : readTy a.data.toList with
  | none =>
    have C1 := Lib.hid (readType_none ha h1)
    have HR := Lib.hid (makeT_left (c := c) b.data.toList h1)
    clear h1 hc hcc
    go_enter Try.func46, Try.ntmps46
    go_wp2_with (go_at_call 74; go_must (refine (C1.out _).mono ?_; rintro e w1 ⟨rfl, hb1⟩))
    go_ret2
    exact ⟨by rw [HR.out]; rfl, hb1.alloc hb1.size _⟩
  | some ta =>
    have C1 := Lib.hid (readType_some ha h1)
    obtain ⟨ua, a1, a2, a3, hua, ha1, ha2, ha3, hna⟩ := nI_named ta
    rw [← hua, ← ha1, ← ha2, ← ha3] at C1
    cases h2 : readTy b.data.toList with
    | none =>
      have C2 := Lib.hid (readType_none hb h2)
      have HR := Lib.hid (makeT_right (c := c) a.data.toList h2)
      clear h1 h2 hc hcc hua ha1 ha2 ha3 hna
      go_enter Try.func46, Try.ntmps46
      go_wp2_with (go_at_call 74; first | ((with_reducible refine (C1.out _).mono ?_); rintro e w1 ⟨⟨p1, n1, c1, rfl, hv1⟩, hb1⟩; have B1 := Lib.hid (hb1.alloc hb1.size (.cells #[.string ua, .slice p1 n1 c1, .int .i64 a1, .int .i64 a2, .int .i64 a3] 48))) | ((with_reducible refine (C2.out _).mono ?_); rintro e w2 ⟨rfl, hb2⟩))
      go_ret2
      exact ⟨by rw [HR.out]; rfl, (nextB (nextB (firstB B1.out) hb2) (below1 _ _)).1⟩
    | some tb =>
      have C2 := Lib.hid (readType_some hb h2)
      obtain ⟨ub, b1, b2, b3, hub, hb1', hb2', hb3', hnb⟩ := nI_named tb
      rw [← hub, ← hb1', ← hb2', ← hb3'] at C2
      have hga := readTy_got h1
      have hgb := readTy_got h2
      have hR0 := makeT_some (c := c) h1 h2
      obtain ⟨m1, hm1⟩ : ∃ m : Int, m = (mkTr c ta tb).bytes := ⟨_, rfl⟩
      obtain ⟨m2, hm2⟩ : ∃ m : Int, m = (mkTr c ta tb).size := ⟨_, rfl⟩
      obtain ⟨m3, hm3⟩ : ∃ m : Int, m = (mkTr c ta tb).depth := ⟨_, rfl⟩
      have CM : Hid (∀ (W : World) p1 n1 c1 p2 n2 c2, FV nI W (fun q => q < W.heap.size) ta (nI ta (.slice p1 n1 c1)) → FV nI W (fun q => q < W.heap.size) tb (nI tb (.slice p2 n2 c2)) → Calls Try.prog 79 #[.string ⟨#[c]⟩, .agg #[.string ua, .slice p1 n1 c1, .int .i64 a1, .int .i64 a2, .int .i64 a3], .agg #[.string ub, .slice p2 n2 c2, .int .i64 b1, .int .i64 b2, .int .i64 b3]] W fun e w' => (∃ r, e = .returned (.tuple #[.agg #[.string ⟨#[]⟩, .slice (some ⟨r, 0, none⟩) 3 3, .int .i64 m1, .int .i64 m2, .int .i64 m3], .bool (decide (m2 ≤ 16))]) ∧ FV nI w' (fun q => q < w'.heap.size) (mkTr c ta tb) (nI (mkTr c ta tb) (.slice (some ⟨r, 0, none⟩) 3 3))) ∧ Below W.heap.size W w') :=
        Lib.hid (fun W p1 n1 c1 p2 n2 c2 k1 k2 => makeType_n c hcc ta tb hga.2.2.2.2.1 hga.2.2.2.2.2 hgb.2.2.2.2.1 hgb.2.2.2.2.2 ua ub a1 a2 a3 b1 b2 b3 m1 m2 m3 p1 p2 n1 c1 n2 c2 W hna hnb hm1 hm2 hm3 k1 k2)
      have hsm := isTy_small _ _ (Nat.le_refl _) (made_ty (c := c) hcc hga.2.2.2.2.1 hgb.2.2.2.2.1)
      have hsz := mkTr_size c ta tb
      have hbyt : (mkTr c ta tb).bytes ≤ 100000000000 := by have h9 := hsm.1; have h7 := hga.2.2.2.2.2; have h8 := hgb.2.2.2.2.2; unfold mkTr at hsz ⊢; omega
      have TX : Hid (∀ (W : World) (r : Nat), FV nI W (fun k => k < W.heap.size) (mkTr c ta tb) (nI (mkTr c ta tb) (.slice (some ⟨r, 0, none⟩) 3 3)) → Calls Try.prog 59 #[.agg #[.string ⟨#[]⟩, .slice (some ⟨r, 0, none⟩) 3 3, .int .i64 m1, .int .i64 m2, .int .i64 m3]] W fun e w' => e = .returned (.string (bs (mkTr c ta tb).text)) ∧ Below W.heap.size W w') :=
        Lib.hid (fun W r k1 => by rw [hm1, hm2, hm3]; exact text_c (mkTr c ta tb) _ 3 3 _ W hsm.2.2 hbyt k1 (fun k hk => hk))
      obtain ⟨v, hv⟩ : ∃ v, v = decide (m2 ≤ 16) := ⟨_, rfl⟩
      have HR : Hid (makeT c a.data.toList b.data.toList = if v = true then some (mkTr c ta tb) else none) := Lib.hid (by
        rw [hR0, hv, hm2, hsz]
        by_cases q : 1 + ta.size + tb.size ≤ 16
        · rw [if_pos q, if_pos (by simp; omega)]; rfl
        · rw [if_neg q, if_neg (by simp; omega)])
      rw [← hv] at CM
      generalize mkTr c ta tb = MT at *
      clear h1 h2 hua ha1 ha2 ha3 hub hb1' hb2' hb3' hga hgb hR0 hm1 hm2 hm3 hsm hsz hbyt hv hcc
      have hcf : c = 42 ∧ f = false ∨ c = 62 ∧ f = true := by
        cases f
        · exact .inl ⟨by simpa using hc, rfl⟩
        · exact .inr ⟨by simpa using hc, rfl⟩
      clear hc
      rcases hcf with ⟨rfl, rfl⟩ | ⟨rfl, rfl⟩ <;> cases v <;>
        (go_enter Try.func46, Try.ntmps46
         go_wp2_with (first | (go_at_call 74; first | ((with_reducible refine (C1.out _).mono ?_); rintro e w1 ⟨⟨p1, n1, c1, rfl, hv1⟩, hb1⟩; have B1 := Lib.hid (hb1.alloc hb1.size (.cells #[.string ua, .slice p1 n1 c1, .int .i64 a1, .int .i64 a2, .int .i64 a3] 48)); have V1 := Lib.hid ((hv1.below (below1 w1 (.cells #[.string ua, .slice p1 n1 c1, .int .i64 a1, .int .i64 a2, .int .i64 a3] 48)) (fun k hk => hk.2)).wide (ok' := fun q => q < (w1.alloc (.cells #[.string ua, .slice p1 n1 c1, .int .i64 a1, .int .i64 a2, .int .i64 a3] 48)).heap.size) (fun q hq => by simp; omega)); have N1 := heap_alloc_new w1 (.cells #[.string ua, .slice p1 n1 c1, .int .i64 a1, .int .i64 a2, .int .i64 a3] 48); clear hv1 hb1) | ((with_reducible refine (C2.out _).mono ?_); rintro e w2 ⟨⟨p2, n2, c2, rfl, hv2⟩, hb2⟩; have B2 := Lib.hid (nextB (nextB (firstB B1.out) hb2) (below1 w2 (.cells #[.string ub, .slice p2 n2 c2, .int .i64 b1, .int .i64 b2, .int .i64 b3] 48))); have V2 := Lib.hid ((hv2.below (below1 w2 (.cells #[.string ub, .slice p2 n2 c2, .int .i64 b1, .int .i64 b2, .int .i64 b3] 48)) (fun k hk => hk.2)).wide (ok' := fun q => q < (w2.alloc (.cells #[.string ub, .slice p2 n2 c2, .int .i64 b1, .int .i64 b2, .int .i64 b3] 48)).heap.size) (fun q hq => by simp; omega)); have V3 := Lib.hid (((V1.out.below hb2 (fun _ h => h)).below (below1 w2 (.cells #[.string ub, .slice p2 n2 c2, .int .i64 b1, .int .i64 b2, .int .i64 b3] 48)) (fun q hq => Nat.lt_of_lt_of_le hq hb2.size)).wide (ok' := fun q => q < (w2.alloc (.cells #[.string ub, .slice p2 n2 c2, .int .i64 b1, .int .i64 b2, .int .i64 b3] 48)).heap.size) (fun q hq => by have := hb2.size; simp at this hq ⊢; omega)); have Y1 := blk_alloc (o' := .cells #[.string ub, .slice p2 n2 c2, .int .i64 b1, .int .i64 b2, .int .i64 b3] 48) (below_blk hb2 (lt_of_block N1) N1); have Y2 := heap_alloc_new w2 (.cells #[.string ub, .slice p2 n2 c2, .int .i64 b1, .int .i64 b2, .int .i64 b3] 48); have d0 := cell_of (j := 0) Y1; have d1 := cell_of (j := 1) Y1; have d2 := cell_of (j := 2) Y1; have d3 := cell_of (j := 3) Y1; have d4 := cell_of (j := 4) Y1; have e0 := cell_of (j := 0) Y2; have e1 := cell_of (j := 1) Y2; have e2 := cell_of (j := 2) Y2; have e3 := cell_of (j := 3) Y2; have e4 := cell_of (j := 4) Y2; clear hv2)) | (go_at_call 79; go_must (refine (CM.out _ _ _ _ _ _ _ V3.out V2.out).mono ?_; rintro e w3 ⟨⟨r, rfl, hf3⟩, hb3⟩; have V4 := Lib.hid ((hf3.below (below1 w3 (.cells #[.string ⟨#[]⟩, .slice (some ⟨r, 0, none⟩) 3 3, .int .i64 m1, .int .i64 m2, .int .i64 m3] 48)) (fun _ h => h)).wide (ok' := fun q => q < (w3.alloc (.cells #[.string ⟨#[]⟩, .slice (some ⟨r, 0, none⟩) 3 3, .int .i64 m1, .int .i64 m2, .int .i64 m3] 48)).heap.size) (fun q hq => by simp; omega)); have B3 := Lib.hid (nextB (nextB B2.out hb3) (below1 w3 (.cells #[.string ⟨#[]⟩, .slice (some ⟨r, 0, none⟩) 3 3, .int .i64 m1, .int .i64 m2, .int .i64 m3] 48))))) | (go_at_call 59; go_must (refine (TX.out _ r V4.out).mono ?_; rintro e w9 ⟨rfl, hb9⟩)))
         go_ret2
         first
           | exact ⟨by rw [HR.out]; rfl, B3.out.1⟩
           | exact ⟨by rw [HR.out]; rfl, (nextB B3.out hb9).1⟩)
end Go.Proofs.Ytpmlpmdgmapilaa
namespace Go.Proofs.Ytpmlpmdgmapilaa
open Go.RowKit
set_option maxRecDepth 8000
theorem implTypeMake_c (f : Bool) (a b : ByteArray) (ha : a.size ≤ 1048576) (hb : b.size ≤ 1048576) (w : World) :
    Calls Try.prog 46 #[.bool f, .string a, .string b] w fun e w' => MakePost (makeT (if f = true then 62 else 42) a.data.toList b.data.toList) e ∧ Below w.heap.size w w' := implTypeMake_h f _ rfl a b ha hb w
theorem specTypeMake_c (f : Bool) (a b : ByteArray) (ha : a.size ≤ 1048576) (hb : b.size ≤ 1048576) (w : World) :
    Calls Try.prog 52 #[.bool f, .string a, .string b] w fun e w' => MakePost (makeT (if f = true then 62 else 42) a.data.toList b.data.toList) e ∧ Below w.heap.size w w' := by
  cases f
  · exact specTypeMake_pair a b ha hb w
  · exact specTypeMake_fun a b ha hb w
end Go.Proofs.Ytpmlpmdgmapilaa
