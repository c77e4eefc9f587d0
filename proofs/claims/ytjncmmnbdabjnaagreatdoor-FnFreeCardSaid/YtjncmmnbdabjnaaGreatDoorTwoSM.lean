/- The reference's draws: a small expression of a type. The reference model: both types of a type with a head. -/
import Derived.Test.YtjncmmnbdabjnaaGreatDoorDraw7
import Derived.Test.YtjncmmnbdabjnaaGreatDoorLook3M
import Derived.Test.YtjncmmnbdabjnaaGreatDoorS1z
import Derived.Deep.RegionHeld3
namespace Go.Proofs.YtjncmmnbdabjnaaGreatDoor
open Go.RowKit
set_option maxRecDepth 8000
set_option linter.unusedSimpArgs false
set_option linter.unusedVariables false
/-- An expression of a type, whatever it is. -/
def OfC (s : ByteArray) : Prop := ∀ W : World, Calls Tryz.prog 159 #[.string s] W fun e w' => (∃ (r : ByteArray) (z : Bool), e = .returned (.tuple #[.string r, .bool z]) ∧ r.size ≤ 12000) ∧ Below W.heap.size W w'
structure LfInv (w1 : World) (ns l : List Nm) (k : Nat) (v : Value) (wr : World) : Prop where
  own : wr.ownsRow w1.heap.size 9 1 v l.length (l.map strV)
  below : Below w1.heap.size w1 wr
  len : l.length ≤ k
  mem : ∀ x ∈ l, x ∈ ns
theorem mem_snoc {ns l : List Nm} {x : Nm} (h : ∀ y ∈ l, y ∈ ns) (hx : x ∈ ns) : ∀ y ∈ l ++ [x], y ∈ ns := by
  intro y hy
  rcases List.mem_append.1 hy with h1 | h1
  · exact h y h1
  · simp only [List.mem_singleton] at h1
    subst h1
    exact hx
def numsL : List Nm := [[48], [49], [50], [51], [55], [45, 49], [52, 48, 48], [45, 57, 57, 57]]
set_option maxHeartbeats 4000000 in
theorem l91Leaf_d {q : Nat} {a : Option Addr} {L c p : Nat} {zs : List Int} {w : World} (v1 v2 : Value) (n : Nat) (s : ByteArray) (h : Rd w q a L c p zs) (hs : Sc w q v1 v2 n) (hn : n ≤ 1000) (hp : p ≤ 900000) (ho : OfC s) :
    Calls Tryz.prog 138 #[.pointer (some ⟨q, 0, none⟩), .agg #[v1, v2], .string s] w fun e w' => DrPost q a L c p zs 12000 3 w e w' := by
  obtain ⟨i0, hi0, hz0, hz1, hz2⟩ := info_parts Tryz.infoStrD
  obtain ⟨ns, ts, ⟨hs1, hb1⟩, ⟨hs2, hb2⟩, hl, hln, hmem⟩ := hs
  obtain ⟨p1, n1, c1, rfl⟩ := hs1.shape
  obtain ⟨p2, n2, c2, rfl⟩ := hs2.shape
  have hn1 : n1 = ns.length := by
    obtain ⟨_, _, e, -, -⟩ := hs1
    injection e
  subst hn1
  have hq0 : q < w.heap.size := lt_of_block h.blk
  have HL := Lib.hid hl
  have HM := Lib.hid hmem
  clear hb1 hb2 hl hmem
  go_enter Tryz.func138, Tryz.ntmps138
  go_wp2_with fail
  obtain ⟨w1, hw1⟩ : ∃ w1, w1 = w.alloc (.cells #[.slice p1 ns.length c1, .slice p2 n2 c2] 118) := ⟨_, rfl⟩
  have y1 : w1.heap[w.heap.size]? = some (.cells #[.slice p1 ns.length c1, .slice p2 n2 c2] 118 (0, 0)) := by rw [hw1]; exact heap_alloc_new _ _
  have hB1 : Below w.heap.size w w1 := by rw [hw1]; exact below1 _ _
  have HW : Hid (w.heap.size < w1.heap.size) := Lib.hid (by rw [hw1]; simp)
  have HS1 := Lib.hid (strS_keep2D hs1 hB1)
  have HS2 := Lib.hid (strS_keep2D hs2 hB1)
  have HR1 := Lib.hid (h.below hB1)
  have HB1 := Lib.hid hB1
  have HE : Hid ((w1.alloc (.cells #[] 9)).ownsRow w1.heap.size 9 1 (.slice (some ⟨w1.heap.size, 0, none⟩) 0 0) ([] : List Nm).length (([] : List Nm).map strV)) := Lib.hid (owns_emptyD (heap_alloc_new w1 _) (Nat.le_refl _))
  try rw [← hw1]
  have hsz1 : (w.alloc (.cells #[.slice p1 ns.length c1, .slice p2 n2 c2] 118)).heap.size = w1.heap.size := by rw [hw1]
  clear hs1 hs2 h hB1
  go_loopw [7, 8] (fun v i wr => ∃ (k : Nat) (l : List Nm), k ≤ ns.length ∧ i = .int .i64 k ∧ Hid (LfInv w1 ns l k v wr)) (fun _ i _ => ns.length - (intOf i).toNat)
  case atStart => exact ⟨0, [], Nat.zero_le _, rfl, Lib.hid ⟨by subst hw1; simpa using HE.out, by subst hw1; exact below1 _ _, Nat.le_refl _, fun x hx => by simp at hx⟩⟩
  case round =>
    obtain ⟨k, l, hk, rfl, hI⟩ := hrel
    clear HE hw1 hsz1
    have hB := hI.out.below
    have y2 := below_blk hB (lt_of_block y1) y1
    have z0 := cell_of (j := 0) y2
    have z1 := cell_of (j := 1) y2
    have HO := Lib.hid hI.out.own
    obtain ⟨p3, c3, rfl⟩ := owns_slice HO.out
    have hlk := hI.out.len
    have hkI : (0 : Int) ≤ (k : Int) := by omega
    by_cases hlt : k < ns.length
    · have hSr := strS_keep2D HS1.out hB
      have hSr2 := strS_keep2D HS2.out hB
      have CL : Hid (∀ W, Below wr.heap.size wr W → Calls Tryz.prog 45 #[.slice p1 ns.length c1, .slice p2 n2 c2, .string (bs ns[k])] W fun e w' => e = .returned (.string (bs (lookK ns ts ns[k] ns.length))) ∧ w' = W) := Lib.hid (fun W hW => l3Look_c _ _ ns ts ns[k] W (strS_keep2D hSr hW) (strS_keep2D hSr2 hW) HL.out (by omega))
      obtain ⟨p9, c9, he9, h91, h92⟩ := hSr
      simp only [Value.slice.injEq] at he9
      obtain ⟨rfl, -, rfl⟩ := he9
      obtain ⟨r, off, rfl, h93⟩ := h92 (fun e => by rw [e] at hlt; simp at hlt)
      have c0 : wr.cell? ⟨r, off + k, none⟩ = some (.string (bs ns[k])) := StrS.cell h93 hlt
      have HA : Hid (ns[k] ∈ ns) := Lib.hid (List.getElem_mem hlt)
      have hltI : (k : Int) < (ns.length : Int) := by omega
      have hsz := hB.size
      generalize ns[k] = x at *
      generalize bs (lookK ns ts x ns.length) = R at *
      clear h91 h92 h93 hSr2
      by_cases he : R.toList = s.toList
      · have he2 : (R.toList == s.toList) = true := by simpa using he
        go_wp2_with fail
        go_region_with (first | (go_at_call 45; ((with_reducible refine (CL.out _ ?_).mono ?_); (· first | exact (Below.refl _ _).drew | exact Below.refl _ _ | assumption); rintro e w3 ⟨rfl, rfl⟩)) | fail)
        all_goals go_wp2_with (first | (at_builtin; go_must (refine wpList_append_str _ rfl _ _ 23 rfl w1.heap.size 9 i0 Tryz.underlying23 hi0 hz0 hz1 hz2 _ l rfl (HO.out.alloc _) _ [x] rfl (str_at (l := [x]) (heap_alloc_new _ _) (by simp)) (by simp; omega) (by simp; omega) ?_; intro v3 w4 ho4 hg4 hv4)))
        all_goals exact ⟨⟨k + 1, l ++ [x], by omega, by go_num, Lib.hid ⟨ho4, below_grown2D hB (by first | exact ((Below.refl _ _).alloc (Nat.le_refl _) _).drew | exact ((Below.refl _ _).drew).alloc (Nat.le_refl _) _ | exact (Below.refl _ _).alloc (Nat.le_refl _) _) hg4 (fun k hk => (own_ltD HO.out hk).1), by simp; omega, mem_snoc hI.out.mem HA.out⟩⟩, by simp [intOf]; omega⟩
      · have he2 : (R.toList == s.toList) = false := by simpa using he
        go_wp2_with fail
        go_region_with (first | (go_at_call 45; ((with_reducible refine (CL.out _ ?_).mono ?_); (· first | exact (Below.refl _ _).drew | exact Below.refl _ _ | assumption); rintro e w3 ⟨rfl, rfl⟩)) | fail)
        all_goals go_wp2_with fail
        all_goals exact ⟨⟨k + 1, l, by omega, by go_num, Lib.hid ⟨HO.out, by first | exact hB.drew | exact hB, by omega, hI.out.mem⟩⟩, by simp [intOf]; omega⟩
    · have : k = ns.length := by omega
      subst this
      have HRr := Lib.hid ((HR1.out).below hB)
      have HOr : Hid (Only q w wr) := Lib.hid ((Only.of HB1.out).trans (Only.of hB))
      have HLn : Hid (∀ x ∈ l, x.length ≤ 10) := Lib.hid (fun x hx => HM.out x (hI.out.mem x hx))
      have hk1 : ¬ ((ns.length : Int) < (ns.length : Int)) := by omega
      by_cases hz : l = []
      · subst hz
        have hl0 : ([] : List Nm).length = 0 := rfl
        rw [hl0] at *
        clear hI HO
        have hRd := HRr.out
        have HOx := Lib.hid (HOr.out)
        by_cases hw : s.toList = [105]
        · have hw2 : (s.toList == [105]) = true := by simpa using hw
          have C1 := Lib.hid (of_new (l := numsL) (N := 4) hRd (by omega) (by decide) (by decide) (by decide))
          go_wp2_with fail
          refine (C1.out).mono ?_
          rintro e w5 ⟨s5, p5, rfl, b1, b2, hR5, ho5⟩
          go_wp2_with fail
          go_ret
          exact ⟨_, p5, rfl, by omega, by omega, hR5, HOx.out.trans ho5⟩
        · have hw2 : (s.toList == [105]) = false := by simpa using hw
          have C1 := Lib.hid (ho wr)
          go_wp2_with fail
          refine (C1.out).mono ?_
          rintro e w5 ⟨⟨r5, z5, rfl, hr5⟩, hb5⟩
          have HR5 := Lib.hid (hRd.below hb5)
          have HO5 := Lib.hid (HOx.out.next hb5)
          cases z5
          · go_wp2_with fail
            go_ret
            exact ⟨_, _, rfl, by rw [bsz]; simp, by omega, HR5.out, HO5.out⟩
          · go_wp2_with fail
            go_ret
            exact ⟨_, _, rfl, by omega, by omega, HR5.out, HO5.out⟩
      · have hpos : 0 < l.length := List.length_pos_iff.2 hz
        have hposI : (0 : Int) < (l.length : Int) := by omega
        have CP := Lib.hid (pick_d (n := 4) HRr.out (by omega) (by omega))
        go_wp2_with fail
        refine (CP.out).mono ?_
        rintro e w2 ⟨⟨r, rfl, hr0, hr1⟩, hR2, ho2⟩
        by_cases h0 : r = 0
        · subst h0
          have hRd := hR2
          have HOx := Lib.hid (HOr.out.trans ho2)
          by_cases hw : s.toList = [105]
          · have hw2 : (s.toList == [105]) = true := by simpa using hw
            have C1 := Lib.hid (of_new (l := numsL) (N := 4) hRd (by omega) (by decide) (by decide) (by decide))
            go_wp2_with fail
            refine (C1.out).mono ?_
            rintro e w5 ⟨s5, p5, rfl, b1, b2, hR5, ho5⟩
            go_wp2_with fail
            go_ret
            exact ⟨_, p5, rfl, by omega, by omega, hR5, HOx.out.trans ho5⟩
          · have hw2 : (s.toList == [105]) = false := by simpa using hw
            have C1 := Lib.hid (ho w2)
            go_wp2_with fail
            refine (C1.out).mono ?_
            rintro e w5 ⟨⟨r5, z5, rfl, hr5⟩, hb5⟩
            have HR5 := Lib.hid (hRd.below hb5)
            have HO5 := Lib.hid (HOx.out.next hb5)
            cases z5
            · go_wp2_with fail
              go_ret
              exact ⟨_, _, rfl, by rw [bsz]; simp, by omega, HR5.out, HO5.out⟩
            · go_wp2_with fail
              go_ret
              exact ⟨_, _, rfl, by omega, by omega, HR5.out, HO5.out⟩
        · have hrp : 0 < r := by omega
          have CP2 := Lib.hid (pick_d (n := (l.length : Int)) hR2 (by omega) (by omega))
          have hrow := owns_strS6D HO.out (by omega)
          obtain ⟨p9, c9, he9, h91, h92⟩ := hrow
          simp only [Value.slice.injEq] at he9
          obtain ⟨rfl, -, rfl⟩ := he9
          obtain ⟨rr, off, rfl, h93⟩ := h92 hz
          have hrr := own_ltD HO.out (k := rr) rfl
          have HX : Hid (∀ j (hj : j < l.length), wr.cell? ⟨rr, off + j, none⟩ = some (.string (bs l[j]))) := Lib.hid (fun j hj => StrS.cell h93 hj)
          have hqr : rr ≠ q := by have := HW.out; omega
          clear h91 h92 h93
          go_wp2_with fail
          refine (CP2.out).mono ?_
          rintro e w3 ⟨⟨k3, rfl, hk30, hk31⟩, hR3, ho3⟩
          obtain ⟨j, rfl⟩ : ∃ j : Nat, k3 = (j : Int) := ⟨k3.toNat, by omega⟩
          have hj : j < l.length := by omega
          have x0 : w3.cell? ⟨rr, off + j, none⟩ = some (.string (bs l[j])) := by rw [(ho2.trans ho3).cell (p := ⟨rr, off + j, none⟩) hrr.2 hqr]; exact HX.out j hj
          have hjI : (j : Int) < (l.length : Int) := by omega
          have hs : (bs l[j]).size ≤ 10 := by rw [bs_size]; exact HLn.out _ (List.getElem_mem hj)
          have HR3 := Lib.hid hR3
          have HO3 := Lib.hid ((HOr.out.trans ho2).trans ho3)
          generalize bs l[j] = S at *
          clear HX HLn hI HO
          go_wp2_with fail
          go_ret
          exact ⟨S, _, rfl, by omega, by omega, HR3.out, HO3.out⟩
end Go.Proofs.YtjncmmnbdabjnaaGreatDoor
namespace Go.Proofs.YtjncmmnbdabjnaaGreatDoor
open Go.RowKit
set_option maxRecDepth 8000
set_option linter.unusedSimpArgs false
set_option linter.unusedVariables false
theorem fin_belowS {w w1 W : World} {p : Prop} (h : Below w.heap.size w w1) (k : Below w1.heap.size w1 W ∧ p) : Below w.heap.size w W := h.trans (k.1.mono h.size)
set_option maxHeartbeats 1000000 in
theorem l1Two_c (s : ByteArray) (hs : s.size ≤ 1048576) (hd : List UInt8) (w : World) :
    Calls Tryz.prog 161 #[.string s, .string (bs hd)] w fun e w' => TwoPost (sidesOf hd s.data.toList) e ∧ Below w.heap.size w w' := by
  cases hp : parse s.data.toList with
  | none =>
    have C := Lib.hid (l1Parse_none hs hp)
    have HR := Lib.hid (sides_none hd (readTy_none hp))
    clear hp
    go_enter Tryz.func161, Tryz.ntmps161
    go_wp2_with (go_at_call 86; go_must (refine (C.out _).mono ?_; rintro e w1 ⟨⟨a, p, n, c, rfl, hn⟩, hb1⟩))
    go_ret3
    exact ⟨by rw [HR.out]; rfl, hb1.alloc hb1.size _⟩
  | some t =>
    have C := Lib.hid (l1Parse_some hs hp)
    have hg := parse_got hp
    have hR0 := readTy_some hp
    clear hp
    have T : Hid (∀ (W : World) (p : Option Addr) (n c : Nat) (ok : Nat → Prop), FV nS W ok t (nS t (.slice p n c)) → (∀ k, ok k → k < W.heap.size) → Calls Tryz.prog 111 #[.agg #[.string (bs (atomOf t)), .slice p n c]] W fun e w' => e = .returned (.bool (isTy t && decide (t.size ≤ 16))) ∧ Below W.heap.size W w') :=
      Lib.hid (fun W p n c ok h1 h2 => l1Typed_c t p n c ok W hg.1 (by omega) h1 h2)
    cases hty : (isTy t && decide (t.size ≤ 16)) with
    | false =>
      rw [hty] at T hR0
      have HR := Lib.hid (sides_none hd hR0)
      go_enter Tryz.func161, Tryz.ntmps161
      go_wp2_with (first | (go_at_call 86; go_must (refine (C.out _).mono ?_; rintro e w1 ⟨⟨p, n, c, rfl, hv⟩, hb1⟩)) | (go_at_call 111; go_must (refine (T.out _ p n c (fun k => w.heap.size ≤ k ∧ k < w1.heap.size) (hv.below (below1 _ _) (fun k hk => hk.2)) (fun k hk => by simp; omega)).mono ?_; rintro e w2 ⟨rfl, hb2⟩)))
      go_ret3
      exact ⟨by rw [HR.out]; rfl, (hb1.alloc hb1.size _).trans (hb2.mono (by have := hb1.size; simp; omega))⟩
    | true =>
      rw [hty] at T hR0
      have hR1 : readTy s.data.toList = some t := by rw [hR0]; rfl
      have hty1 : isTy t = true := by simp only [Bool.and_eq_true] at hty; exact hty.1
      clear hR0 hty
      match t, hty1 with
      | .atom a, hty1 =>
        have HR := Lib.hid (sides_atom hd hR1)
        have ha := atomne hg.1.1
        simp only [atomOf] at C T
        go_enter Tryz.func161, Tryz.ntmps161
        go_wp2_with (first | (go_at_call 86; go_must (refine (C.out _).mono ?_; rintro e w1 ⟨⟨p, n, c, rfl, hv⟩, hb1⟩)) | (go_at_call 111; go_must (refine (T.out _ p n c (fun k => w.heap.size ≤ k ∧ k < w1.heap.size) (hv.below (below1 _ _) (fun k hk => hk.2)) (fun k hk => by simp; omega)).mono ?_; rintro e w2 ⟨rfl, hb2⟩; have x0 := below_blk hb2 (by simp) (heap_alloc_new _ _); have t2 := cell_of (j := 0) x0; have t3 := cell_of (j := 1) x0)))
        go_ret3
        exact ⟨by rw [HR.out]; rfl, (hb1.alloc hb1.size _).trans (hb2.mono (by have := hb1.size; simp; omega))⟩
      | .list ts, hty1 =>
        obtain ⟨x, a, b, rfl, hx, hta, htb⟩ := isTy_list hty1
        have ha := emptyne
        simp only [atomOf] at C T
        have hwa : a.wf := hg.1.2.2.1
        have hwb : b.wf := hg.1.2.2.2.1
        have hdd := depths3 x a b
        have hbb := bytes3 x a b
        have LA : Hid (∀ (W : World) (p : Option Addr) (n c : Nat) (ok : Nat → Prop), FV nS W ok a (nS a (.slice p n c)) → (∀ k, ok k → k < W.heap.size) → Calls Tryz.prog 94 #[.agg #[.string (bs (atomOf a)), .slice p n c]] W fun e w' => e = .returned (.string (bs a.text)) ∧ Below W.heap.size W w') :=
          Lib.hid (fun W p n c ok h1 h2 => l1Text_c (a.depth + 1) a _ ok W (by omega) hwa (by omega) h1 h2)
        have LB : Hid (∀ (W : World) (p : Option Addr) (n c : Nat) (ok : Nat → Prop), FV nS W ok b (nS b (.slice p n c)) → (∀ k, ok k → k < W.heap.size) → Calls Tryz.prog 94 #[.agg #[.string (bs (atomOf b)), .slice p n c]] W fun e w' => e = .returned (.string (bs b.text)) ∧ Below W.heap.size W w') :=
          Lib.hid (fun W p n c ok h1 h2 => l1Text_c (b.depth + 1) b _ ok W (by omega) hwb (by omega) h1 h2)
        cases hxh : (atomOf x == hd) with
        | false =>
          have hx2 : ((bs (atomOf x)).toList == (bs hd).toList) = false := by rw [bs_toList, bs_toList]; exact hxh
          have HR := Lib.hid (sides_no hd hR1 (by simpa using hxh))
          clear hxh hx
          go_enter Tryz.func161, Tryz.ntmps161
          go_wp2_with (first | (go_at_call 86; go_must (refine (C.out _).mono ?_; rintro e w1 ⟨⟨p, n, c, rfl, hv⟩, hb1⟩)) | (go_at_call 111; go_must (have hv' := hv.below (below1 w1 (.cells #[.string (bs []), .slice p n c] 65)) (fun k hk => hk.2); refine (T.out _ p n c (fun k => w.heap.size ≤ k ∧ k < w1.heap.size) hv' (fun k hk => by simp; omega)).mono ?_; rintro e w2 ⟨rfl, hb2⟩; have hv2 := hv'.below hb2 (fun k hk => by simp; omega); have x0 := below_blk hb2 (by simp) (heap_alloc_new w1 (.cells #[.string (bs []), .slice p n c] 65)); obtain ⟨r, off, cap, xs, hh, h2, h3, h4, h5, h6⟩ := FV.list_cells hv2; have hh' := nS_inj _ _ _ hh; simp only [Value.slice.injEq] at hh'; obtain ⟨rfl, rfl, rfl⟩ := hh'; clear hh hv hv' hv2; obtain ⟨⟨p0, n0, q0, v0, r0⟩, ⟨p1, n1, q1, v1, r1⟩, ⟨p2, n2, q2, v2, r2⟩⟩ := FVs.three nS_len h6 h5; have hr2 : r < w2.heap.size := (by have := hb2.size; simp at this; omega); have t1 : w2.cell? ⟨r, off, none⟩ = some (.string (bs (atomOf x))) := r0 0 _ rfl; have t2 := cell_of (j := 0) x0; have t3 := cell_of (j := 1) x0; have v0 := FV.wide v0 (fun k hk => (by have := hb2.size; simp at this; omega : k < w2.heap.size)); have v1 := FV.wide v1 (fun k hk => (by have := hb2.size; simp at this; omega : k < w2.heap.size)); have v2 := FV.wide v2 (fun k hk => (by have := hb2.size; simp at this; omega : k < w2.heap.size)); have h3' := maxLen_le h4)))

          go_ret3
          exact ⟨by rw [HR.out]; rfl, (hb1.alloc hb1.size _).trans (hb2.mono (by have := hb1.size; simp; omega))⟩
        | true =>
          have hx2 : ((bs (atomOf x)).toList == (bs hd).toList) = true := by rw [bs_toList, bs_toList]; exact hxh
          have HR := Lib.hid (sides_yes hd hR1 (by simpa using hxh))
          clear hxh hx
          go_enter Tryz.func161, Tryz.ntmps161
          go_wp2_with (first | (go_at_call 86; go_must (refine (C.out _).mono ?_; rintro e w1 ⟨⟨p, n, c, rfl, hv⟩, hb1⟩)) | (go_at_call 111; go_must (have hv' := hv.below (below1 w1 (.cells #[.string (bs []), .slice p n c] 65)) (fun k hk => hk.2); refine (T.out _ p n c (fun k => w.heap.size ≤ k ∧ k < w1.heap.size) hv' (fun k hk => by simp; omega)).mono ?_; rintro e w2 ⟨rfl, hb2⟩; have hv2 := hv'.below hb2 (fun k hk => by simp; omega); have x0 := below_blk hb2 (by simp) (heap_alloc_new w1 (.cells #[.string (bs []), .slice p n c] 65)); obtain ⟨r, off, cap, xs, hh, h2, h3, h4, h5, h6⟩ := FV.list_cells hv2; have hh' := nS_inj _ _ _ hh; simp only [Value.slice.injEq] at hh'; obtain ⟨rfl, rfl, rfl⟩ := hh'; clear hh hv hv' hv2; obtain ⟨⟨p0, n0, q0, v0, r0⟩, ⟨p1, n1, q1, v1, r1⟩, ⟨p2, n2, q2, v2, r2⟩⟩ := FVs.three nS_len h6 h5; have hr2 : r < w2.heap.size := (by have := hb2.size; simp at this; omega); have t1 : w2.cell? ⟨r, off, none⟩ = some (.string (bs (atomOf x))) := r0 0 _ rfl; have t2 := cell_of (j := 0) x0; have t3 := cell_of (j := 1) x0; have v0 := FV.wide v0 (fun k hk => (by have := hb2.size; simp at this; omega : k < w2.heap.size)); have v1 := FV.wide v1 (fun k hk => (by have := hb2.size; simp at this; omega : k < w2.heap.size)); have v2 := FV.wide v2 (fun k hk => (by have := hb2.size; simp at this; omega : k < w2.heap.size)); have h3' := maxLen_le h4)))
          have HW2 : Hid (Below w.heap.size w w2) := Lib.hid ((hb1.alloc hb1.size _).trans (hb2.mono (by have := hb1.size; simp; omega)))
          have hW2 := HW2.out.size
          have y1 := cell_of (j := 1) x0
          have K : Hid (∀ W, Below w2.heap.size w2 W → (fun W => Below w2.heap.size w2 W ∧ W.cell? ⟨w1.heap.size, 1, none⟩ = some (.slice (some ⟨r, off, none⟩) 3 c) ∧ (W.cell? ⟨r, off + 2, none⟩ = some (.string (bs (atomOf a))) ∧ W.cell? ⟨r, off + 2 + 1, none⟩ = some (.slice p1 n1 q1)) ∧ (W.cell? ⟨r, off + 4, none⟩ = some (.string (bs (atomOf b))) ∧ W.cell? ⟨r, off + 4 + 1, none⟩ = some (.slice p2 n2 q2))) W) :=
            Lib.hid (fun W hW => ⟨hW, (hW.cell (p := ⟨w1.heap.size, 1, none⟩) (lt_of_block x0)).trans y1,
              ⟨(hW.cell (p := ⟨r, off + 2, none⟩) hr2).trans (r1 0 _ rfl), (hW.cell (p := ⟨r, off + 2 + 1, none⟩) hr2).trans (r1 1 _ rfl)⟩, (hW.cell (p := ⟨r, off + 4, none⟩) hr2).trans (r2 0 _ rfl), (hW.cell (p := ⟨r, off + 4 + 1, none⟩) hr2).trans (r2 1 _ rfl)⟩)
          have S0 := Lib.hid (K.out _ ((Below.refl _ _).drew))
          have VA := Lib.hid v1
          have VB := Lib.hid v2
          clear y1 v0 v1 v2 r0 r1 r2 hb1 hb2 x0
          go_region_held3 (fun W => Below w2.heap.size w2 W ∧ W.cell? ⟨w1.heap.size, 1, none⟩ = some (.slice (some ⟨r, off, none⟩) 3 c) ∧ (W.cell? ⟨r, off + 2, none⟩ = some (.string (bs (atomOf a))) ∧ W.cell? ⟨r, off + 2 + 1, none⟩ = some (.slice p1 n1 q1)) ∧ (W.cell? ⟨r, off + 4, none⟩ = some (.string (bs (atomOf b))) ∧ W.cell? ⟨r, off + 4 + 1, none⟩ = some (.slice p2 n2 q2)))
            (first | exact S0.out | assumption)
            (first | (go_at_call 94; have hh := And.left (by assumption : Below w2.heap.size w2 _ ∧ _); first | ((with_reducible refine (LA.out _ p1 n1 q1 (fun k => k < w2.heap.size) (VA.out.below hh (fun k hk => hk)) (fun k hk => Nat.lt_of_lt_of_le hk hh.size)).mono ?_); rintro e w' ⟨rfl, hb9⟩; have hS2 := K.out _ (hh.trans (hb9.mono hh.size))) | ((with_reducible refine (LB.out _ p2 n2 q2 (fun k => k < w2.heap.size) (VB.out.below hh (fun k hk => hk)) (fun k hk => Nat.lt_of_lt_of_le hk hh.size)).mono ?_); rintro e w' ⟨rfl, hb9⟩; have hS2 := K.out _ (hh.trans (hb9.mono hh.size)))))
          all_goals
            go_wp2_with fail
            go_ret3
            exact ⟨by rw [HR.out]; rfl, fin_belowS HW2.out (by assumption)⟩
end Go.Proofs.YtjncmmnbdabjnaaGreatDoor
