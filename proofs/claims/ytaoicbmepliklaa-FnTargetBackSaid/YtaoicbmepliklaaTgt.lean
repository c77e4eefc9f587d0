/- The reference model reads a type back from its target type: every target type; the answer of TargetBack. -/
import Derived.Test.YtaoicbmepliklaaTgs
import Derived.Test.YtaoicbmepliklaaTgn
import Derived.Test.YtaoicbmepliklaaTgd
namespace Go.Proofs.Ytaoicbmepliklaa
open Go.RowKit
set_option maxRecDepth 8000
set_option linter.unusedSimpArgs false
set_option linter.unusedVariables false
/-- What is known of the text that l6tBack tells of a form. -/
def BkP (t : Tr) (s : ByteArray) : Prop := ∃ l, s = bs l ∧ l.length ≤ 10 * t.bytes ∧ ∀ x, isTy x = true → tOf x = t → l = x.text
theorem bkP_none {t : Tr} (h : ∀ x, isTy x = true → tOf x ≠ t) : BkP t ⟨#[]⟩ := ⟨[], rfl, by simp, fun x h1 h2 => absurd h2 (h x h1)⟩
theorem tyT_text (c : List UInt8) (a b : Tr) : (tyT c a b).text = 40 :: (c ++ 32 :: (a.text ++ 32 :: (b.text ++ [41]))) := by simp [tyT, Tr.text, texts]
theorem FV.sameN {nd : Tr → Value → List Value} {w W W' : World} {ok : Nat → Prop} {t : Tr} {cs : List Value} (h : FV nd W ok t cs) (hok : ∀ k, ok k → k < w.heap.size) (h1 : Below w.heap.size w W) (h2 : Below w.heap.size w W') : FV nd W' ok t cs :=
  FV.move (fun k hk => hk) (fun k hk => (h2.block k (hok k hk)).trans (h1.block k (hok k hk)).symm) _ _ h
theorem codeOf_some {t : Tr} {cs : List Tr} (h : codeOf t = cs) (hn : cs ≠ []) : ∃ h1 h2 c ds z, t = .list [h1, .list [h2, .list cs, z]] ∧ cs = c :: ds ∧ atomOf h1 = [101] ∧ atomOf h2 = [116] ∧ atomOf c = [99] := by
  unfold codeOf at h
  split at h
  · rename_i a b c ds z
    split at h
    · rename_i hh
      exact ⟨a, b, c, ds, z, by rw [← h], h.symm, hh.1, hh.2.1, hh.2.2⟩
    · exact absurd h.symm hn
  · exact absurd h.symm hn
theorem codeOf_pk (ns : List Tr) : codeOf (pk ns) = .atom [99] :: .atom [118] :: ns := by
  simp only [pk, codeOf]
  exact if_pos ⟨rfl, rfl, rfl⟩
theorem tgt_hE {u : List UInt8 → Bool} {hid : Bool} {k : Tr} (h : tgt u hid k = true) (he : hdT k = [101]) : ∃ h x, k = .list [h, x] := by
  match k, h, he with
  | .atom _, _, he => cases he
  | .list [], _, he => cases he
  | .list [a], h, he =>
    rw [tgt_e he, tgtE] at h; cases h
  | .list [a, x], _, _ => exact ⟨a, x, rfl⟩
  | .list (a :: b :: c :: l), h, he =>
    rw [tgt_e he, tgtE] at h; cases h
theorem tgt_code {hid : Bool} {h1 h2 c z : Tr} {ds : List Tr} (h : tgt noU hid (.list [h1, .list [h2, .list (c :: ds), z]]) = true) (e1 : atomOf h1 = [101]) (e2 : atomOf h2 = [116]) (e3 : atomOf c = [99]) : ∀ t ∈ ds, tgt noU true t = true := by
  rw [tgt_e e1, tgtE_one, tgt_tc (.inl e2), tgts, Bool.and_eq_true, tgt_tc (.inr e3), tgts_all] at h
  intro t ht
  exact List.all_eq_true.1 h.1 t ht
theorem tOf_shape (x : Tr) (h : isTy x = true) : (x = .atom [105] ∧ tOf x = .atom [105]) ∨ (∃ a b, x = tyT [42] a b ∧ isTy a = true ∧ isTy b = true ∧ tOf x = .list [.atom [116], tOf a, tOf b]) ∨ (∃ a b, x = tyT [62] a b ∧ isTy a = true ∧ isTy b = true ∧ tOf x = pk [tOf a, pk [tOf b]]) := by
  rcases isTy_view x h with rfl | ⟨c, a, b, hc, rfl, ha, hb⟩
  · exact .inl ⟨rfl, tOf_atom _⟩
  · rcases hc with rfl | rfl
    · exact .inr (.inr ⟨a, b, rfl, ha, hb, tOf_fun a b⟩)
    · exact .inr (.inl ⟨a, b, rfl, ha, hb, tOf_pair a b⟩)
/-- The contract of l6tBack at target types of a depth below n. -/
def L6bC (n : Nat) : Prop := ∀ (hid : Bool) (t : Tr) (p : Option Addr) (m c : Nat) (ok : Nat → Prop) (w : World), t.depth < n → t.wf → t.bytes ≤ 12000 → tgt noU hid t = true → FV nS w ok t (nS t (.slice p m c)) → (∀ k, ok k → k < w.heap.size) →
    Calls Try.prog 37 #[.agg #[.string (bs (atomOf t)), .slice p m c]] w fun e w' => (∃ s, e = .returned (.string s) ∧ BkP t s) ∧ Below w.heap.size w w'
theorem bkP_size {t : Tr} (hb : t.bytes ≤ 12000) (s : ByteArray) (h : BkP t s) : s.size ≤ 200000 := by
  obtain ⟨l, rfl, h1, -⟩ := h
  rw [bs_size]; omega
set_option maxHeartbeats 4000000 in
theorem l6tBack_list (n : Nat) (ih : L6bC n) (hid : Bool) (h : Tr) (ts : List Tr) (r off cap : Nat) (xs : List Value) (ok : Nat → Prop) (w : World) (hd : (Tr.list (h :: ts)).depth < n + 1) (hwf : (Tr.list (h :: ts)).wf) (hbt : (Tr.list (h :: ts)).bytes ≤ 12000) (htg : tgt noU hid (.list (h :: ts)) = true) (g2 : ok r) (g3 : (h :: ts).length ≤ cap) (g4 : cap ≤ maxLen) (g5 : hasRow w r off xs) (g6 : FVs nS w ok (h :: ts) xs) (hok : ∀ k, ok k → k < w.heap.size) :
    Calls Try.prog 37 #[.agg #[.string (bs (atomOf (.list (h :: ts)))), .slice (some ⟨r, off, none⟩) (h :: ts).length cap]] w fun e w' => (∃ s, e = .returned (.string s) ∧ BkP (.list (h :: ts)) s) ∧ Below w.heap.size w w' := by
  have hv : FV nS w ok (.list (h :: ts)) (nS (.list (h :: ts)) (.slice (some ⟨r, off, none⟩) (h :: ts).length cap)) := by
    simp only [FV]; exact ⟨r, off, cap, xs, rfl, g2, g3, g4, g5, g6⟩
  have CH := fun W (hW : Below w.heap.size w W) => l4HeadT_c (.list (h :: ts)) _ _ _ ok W hwf (hv.below hW hok) (fun k hk => Nat.lt_of_lt_of_le (hok k hk) hW.size)
  have h0 : ((bs (atomOf (Tr.list (h :: ts)))).toList == [105]) = false := by rw [bs_toList]; rfl
  have hr := hok r g2
  by_cases ht : atomOf h = [116]
  · have s1 : ((bs (hdT (.list (h :: ts)))).toList == [116]) = true := by rw [bs_toList, hdT, ht]; rfl
    by_cases h3 : (h :: ts).length = 3
    · have hab : ∃ a b, ts = [a, b] := by
        obtain ⟨x, a, b, hx⟩ := three_of h3
        simp only [List.cons.injEq] at hx
        exact ⟨a, b, hx.2⟩
      obtain ⟨a, b, rfl⟩ := hab
      obtain ⟨-, ⟨pa, na, ca, v1, r1⟩, ⟨pb, nb, cb, v2, r2⟩⟩ := FVs.three nS_len g6 g5
      rw [tgt_tc (.inl ht), tgts, tgts, tgts, Bool.and_eq_true, Bool.and_true] at htg
      have hdd := depths3 h a b
      have hba : a.bytes ≤ 12000 ∧ b.bytes ≤ 12000 ∧ a.bytes + b.bytes + 4 ≤ (Tr.list [h, a, b]).bytes := by simp only [Tr.bytes, bytess] at hbt ⊢; omega
      have e0 : w.cell? ⟨r, off + 2, none⟩ = some (.string (bs (atomOf a))) := r1 0 _ rfl
      have e1 : w.cell? ⟨r, off + 2 + 1, none⟩ = some (.slice pa na ca) := r1 1 _ rfl
      have e2 : w.cell? ⟨r, off + 4, none⟩ = some (.string (bs (atomOf b))) := r2 0 _ rfl
      have e3 : w.cell? ⟨r, off + 4 + 1, none⟩ = some (.slice pb nb cb) := r2 1 _ rfl
      have hT := bk_t (bs (atomOf (.list [h, a, b]))) (bs (hdT (.list [h, a, b]))) (bs (atomOf a)) (bs (atomOf b)) h0 s1 r off cap g3 g4 pa pb na ca nb cb w hr e0 e1 e2 e3 CH (BkP a) (BkP b) (bkP_size hba.1) (bkP_size hba.2.1) (fun W hW => ih hid a pa na ca ok W (by omega) hwf.2.2.1 hba.1 htg.1 (v1.below hW hok) (fun k hk => Nat.lt_of_lt_of_le (hok k hk) hW.size)) (fun W hW => ih hid b pb nb cb ok W (by omega) hwf.2.2.2.1 hba.2.1 htg.2 (v2.below hW hok) (fun k hk => Nat.lt_of_lt_of_le (hok k hk) hW.size))
      refine hT.mono fun e w' ⟨⟨s1, s2, ⟨l1, e1, b1, p1⟩, ⟨l2, e2, b2, p2⟩, he⟩, hb⟩ => ⟨⟨_, he, 40 :: 42 :: 32 :: (l1 ++ 32 :: (l2 ++ [41])), ?_, ?_, ?_⟩, hb⟩
      · rw [e1, e2]; exact bs_ext (by simp [bs])
      · simp only [List.length_cons, List.length_append, List.length_nil]; omega
      · intro x hx hxt
        rcases tOf_shape x hx with ⟨-, h9⟩ | ⟨x1, x2, rfl, i1, i2, h9⟩ | ⟨x1, x2, -, -, -, h9⟩
        · rw [h9] at hxt; cases hxt
        · rw [h9] at hxt
          simp only [Tr.list.injEq, List.cons.injEq, and_true] at hxt
          rw [tyT_text, p1 x1 i1 hxt.2.1, p2 x2 i2 hxt.2.2]; rfl
        · rw [h9] at hxt; simp [pk] at hxt
    · refine (bk_tl _ _ h0 s1 _ _ _ h3 (Nat.le_trans g3 g4) w CH).mono fun e w' ⟨he, hb⟩ => ⟨⟨_, he, bkP_none fun x hx hxt => ?_⟩, hb⟩
      rcases tOf_shape x hx with ⟨-, h9⟩ | ⟨x1, x2, -, -, -, h9⟩ | ⟨x1, x2, -, -, -, h9⟩
      · rw [h9] at hxt; cases hxt
      · rw [h9] at hxt
        simp only [Tr.list.injEq] at hxt
        rw [← hxt] at h3; exact h3 rfl
      · rw [h9] at hxt
        simp only [pk, Tr.list.injEq, List.cons.injEq] at hxt
        rw [← hxt.1] at ht; simp [atomOf] at ht
  · have s1 : ((bs (hdT (.list (h :: ts)))).toList == [116]) = false := by rw [bs_toList, hdT]; simpa using ht
    by_cases he : atomOf h = [101]
    · have s2 : ((bs (hdT (.list (h :: ts)))).toList == [101]) = true := by rw [bs_toList, hdT, he]; rfl
      have hE := fun q => tgt_hE htg q
      have CC := fun W (hW : Below w.heap.size w W) => l6tCode_c (.list (h :: ts)) _ _ _ ok W hwf hE (hv.below hW hok) (fun k hk => Nat.lt_of_lt_of_le (hok k hk) hW.size)
      have nopair : ∀ x, isTy x = true → tOf x = .list (h :: ts) → ∃ a b, x = tyT [62] a b ∧ isTy a = true ∧ isTy b = true ∧ .list (h :: ts) = pk [tOf a, pk [tOf b]] := fun x hx hxt => by
        rcases tOf_shape x hx with ⟨-, h9⟩ | ⟨x1, x2, -, -, -, h9⟩ | ⟨x1, x2, i0, i1, i2, h9⟩
        · rw [h9] at hxt; cases hxt
        · rw [h9] at hxt
          simp only [Tr.list.injEq, List.cons.injEq] at hxt
          exact absurd (by rw [← hxt.1]; rfl) ht
        · exact ⟨x1, x2, i0, i1, i2, by rw [← hxt, h9]⟩
      by_cases h4 : (codeOf (.list (h :: ts))).length = 4
      · obtain ⟨cs, hcs⟩ : ∃ cs, cs = codeOf (.list (h :: ts)) := ⟨_, rfl⟩
        rw [← hcs] at h4 CC
        obtain ⟨h1, h2, c3, ds, z, hT, hcd, q1, q2, q3⟩ := codeOf_some hcs.symm (by intro e; rw [e] at h4; cases h4)
        have hvak : ∃ v3 a k, ds = [v3, a, k] := by
          rw [hcd] at h4
          exact three_of (by simpa using h4)
        obtain ⟨v3, a, k, rfl⟩ := hvak
        subst hcd
        have htk := tgt_code (by rw [← hT]; exact htg) q1 q2 q3
        have hwf2 := hwf
        have hbt2 := hbt
        have hd2 := hd
        rw [hT] at hwf2 hbt2 hd2
        have hwcs : wfs [c3, v3, a, k] := hwf2.2.2.1.2.2.1.2
        have hwa : a.wf := hwcs.2.2.1
        have hwk : k.wf := hwcs.2.2.2.1
        have hbb : a.bytes ≤ 12000 ∧ k.bytes ≤ 12000 ∧ a.bytes + k.bytes + 8 ≤ (Tr.list (h :: ts)).bytes := by rw [hT]; simp only [Tr.bytes, bytess] at hbt2 ⊢; omega
        have hdk : a.depth < n ∧ k.depth < n := by simp only [Tr.depth, depths] at hd2; omega
        have hEk := fun q => tgt_hE (htk k (by simp)) q
        have kfun : ∀ x, isTy x = true → tOf x = .list (h :: ts) → ∃ x1 x2, x = tyT [62] x1 x2 ∧ isTy x1 = true ∧ isTy x2 = true ∧ a = tOf x1 ∧ k = pk [tOf x2] := fun x hx hxt => by
          obtain ⟨x1, x2, i0, i1, i2, i3⟩ := nopair x hx hxt
          have i4 := hcs
          rw [i3, codeOf_pk] at i4
          simp only [List.cons.injEq, and_true] at i4
          exact ⟨x1, x2, i0, i1, i2, i4.2.2.1, i4.2.2.2⟩
        by_cases h5 : (codeOf k).length = 3
        · obtain ⟨es, hes⟩ : ∃ es, es = codeOf k := ⟨_, rfl⟩
          rw [← hes] at h5
          obtain ⟨k1, k2, c4, fs, z2, hK, hcd2, o1, o2, o3⟩ := codeOf_some hes.symm (by intro e; rw [e] at h5; cases h5)
          have hvb : ∃ v4 b, fs = [v4, b] := by
            rw [hcd2] at h5
            obtain ⟨x, a, b, hx⟩ := three_of h5
            simp only [List.cons.injEq] at hx
            exact ⟨a, b, hx.2⟩
          obtain ⟨v4, b, rfl⟩ := hvb
          subst hcd2
          have htb := tgt_code (by rw [← hK]; exact htk k (by simp)) o1 o2 o3
          have hwk2 := hwk
          have hdk2 := hdk.2
          have hbk2 : k.bytes = k.bytes := rfl
          rw [hK] at hwk2 hdk2
          have hwb : b.wf := (show wfs [c4, v4, b] from hwk2.2.2.1.2.2.1.2).2.2.1
          have hbb2 : b.bytes + 8 ≤ k.bytes := by rw [hK]; simp only [Tr.bytes, bytess]; omega
          have hdb : b.depth < n := by simp only [Tr.depth, depths] at hdk2; omega
          refine (bk_e _ _ h0 s1 s2 _ _ _ w (BkP a) (BkP b) (bkP_size hbb.1) (bkP_size (by omega)) CH (fun W hW => (CC W hW).mono fun e w' ⟨⟨p, c, m1, m2⟩, m3⟩ => ⟨?_, m3⟩)).mono fun e w' ⟨⟨t1, t2, ⟨l1, f1, b1, p1⟩, ⟨l2, f2, b2, p2⟩, hee⟩, hb⟩ => ⟨⟨_, hee, 40 :: 62 :: 32 :: (l1 ++ 32 :: (l2 ++ [41])), ?_, ?_, ?_⟩, hb⟩
          · obtain ⟨r3, off3, zs, rfl, m4, m5, m6, m7, m8⟩ := m2 (by simp)
            have hWw := hW.trans (m3.mono hW.size)
            obtain ⟨us, i1, i2⟩ := FVs.get nS_len m8 m7 3 (by simp)
            obtain ⟨pk', nk, ck, rfl⟩ := i1.node
            obtain ⟨vs, j1, j2⟩ := FVs.get nS_len m8 m7 2 (by simp)
            obtain ⟨pa, na, ca, rfl⟩ := j1.node
            have hr3 := hok r3 m4
            refine ⟨r3, off3, c, _, pk', nk, ck, _, pa, na, ca, m1, hr3, m5, m6, ⟨(hWw.cell (p := ⟨r3, off3 + 6, none⟩) hr3).symm.trans (i2 0 _ rfl), (hWw.cell (p := ⟨r3, off3 + 6 + 1, none⟩) hr3).symm.trans (i2 1 _ rfl)⟩, ⟨(hWw.cell (p := ⟨r3, off3 + 4, none⟩) hr3).symm.trans (j2 0 _ rfl), (hWw.cell (p := ⟨r3, off3 + 4 + 1, none⟩) hr3).symm.trans (j2 1 _ rfl)⟩, Lib.hid (fun V hV => (l6tCode_c k pk' nk ck ok V hwk hEk (i1.sameN hok hWw hV) (fun j hj => Nat.lt_of_lt_of_le (hok j hj) hV.size)).mono fun e w'' ⟨⟨p5, c5, n1, n2⟩, n3⟩ => ⟨?_, n3⟩), Lib.hid (fun V hV => ih true a pa na ca ok V hdk.1 hwa hbb.1 (htk a (by simp)) (j1.sameN hok hWw hV) (fun j hj => Nat.lt_of_lt_of_le (hok j hj) hV.size))⟩
            rw [← hes] at n1 n2
            obtain ⟨r4, off4, ws, rfl, n4, n5, n6, n7, n8⟩ := n2 (by simp)
            have hVw := hV.trans (n3.mono hV.size)
            obtain ⟨us2, i3, i4⟩ := FVs.get nS_len n8 n7 2 (by simp)
            obtain ⟨pb, nb, cb, rfl⟩ := i3.node
            have hr4 := hok r4 n4
            exact ⟨r4, off4, c5, _, pb, nb, cb, n1, hr4, n5, n6, ⟨(hVw.cell (p := ⟨r4, off4 + 4, none⟩) hr4).symm.trans (i4 0 _ rfl), (hVw.cell (p := ⟨r4, off4 + 4 + 1, none⟩) hr4).symm.trans (i4 1 _ rfl)⟩, Lib.hid (fun U hU => ih true b pb nb cb ok U hdb hwb (by omega) (htb b (by simp)) (i3.sameN hok hVw hU) (fun j hj => Nat.lt_of_lt_of_le (hok j hj) hU.size))⟩
          · rw [f1, f2]; exact bs_ext (by simp [bs])
          · simp only [List.length_cons, List.length_append, List.length_nil]; omega
          · intro x hx hxt
            obtain ⟨x1, x2, rfl, i1, i2, i3, i4⟩ := kfun x hx hxt
            have i5 := hes
            rw [i4, codeOf_pk] at i5
            simp only [List.cons.injEq, and_true] at i5
            rw [tyT_text, p1 x1 i1 i3.symm, p2 x2 i2 i5.2.2.symm]; rfl
        · refine (bk_e3 _ _ h0 s1 s2 _ _ _ w CH (fun W hW => (CC W hW).mono fun e w' ⟨⟨p, c, m1, m2⟩, m3⟩ => ⟨?_, m3⟩)).mono fun e w' ⟨hee, hb⟩ => ⟨⟨_, hee, bkP_none fun x hx hxt => ?_⟩, hb⟩
          · obtain ⟨r3, off3, zs, rfl, m4, m5, m6, m7, m8⟩ := m2 (by simp)
            have hWw := hW.trans (m3.mono hW.size)
            obtain ⟨us, i1, i2⟩ := FVs.get nS_len m8 m7 3 (by simp)
            obtain ⟨pk', nk, ck, rfl⟩ := i1.node
            have hr3 := hok r3 m4
            refine ⟨r3, off3, c, _, pk', nk, ck, m1, hr3, m5, m6, ⟨(hWw.cell (p := ⟨r3, off3 + 6, none⟩) hr3).symm.trans (i2 0 _ rfl), (hWw.cell (p := ⟨r3, off3 + 6 + 1, none⟩) hr3).symm.trans (i2 1 _ rfl)⟩, Lib.hid (fun V hV => (l6tCode_c k pk' nk ck ok V hwk hEk (i1.sameN hok hWw hV) (fun j hj => Nat.lt_of_lt_of_le (hok j hj) hV.size)).mono fun e w'' ⟨⟨p5, c5, n1, n2⟩, n3⟩ => ⟨⟨p5, _, c5, n1, h5, ?_⟩, n3⟩)⟩
            by_cases hcn : codeOf k = []
            · rw [hcn]; exact Nat.zero_le _
            · obtain ⟨_, _, _, -, -, n5, n6, -⟩ := n2 hcn
              exact Nat.le_trans n5 n6
          · obtain ⟨x1, x2, -, -, -, -, i4⟩ := kfun x hx hxt
            rw [i4, codeOf_pk] at h5
            exact h5 rfl
      · refine (bk_e4 _ _ h0 s1 s2 _ _ _ w CH (fun W hW => (CC W hW).mono fun e w' ⟨⟨p, c, m1, m2⟩, m3⟩ => ⟨⟨p, _, c, m1, h4, ?_⟩, m3⟩)).mono fun e w' ⟨hee, hb⟩ => ⟨⟨_, hee, bkP_none fun x hx hxt => ?_⟩, hb⟩
        · by_cases hcn : codeOf (.list (h :: ts)) = []
          · rw [hcn]; exact Nat.zero_le _
          · obtain ⟨_, _, _, -, -, n5, n6, -⟩ := m2 hcn
            exact Nat.le_trans n5 n6
        · obtain ⟨x1, x2, -, -, -, i3⟩ := nopair x hx hxt
          rw [i3, codeOf_pk] at h4
          exact h4 rfl
    · have s2 : ((bs (hdT (.list (h :: ts)))).toList == [101]) = false := by rw [bs_toList, hdT]; simpa using he
      refine (bk_o _ _ h0 s1 s2 _ _ _ w CH).mono fun e w' ⟨hee, hb⟩ => ⟨⟨_, hee, bkP_none fun x hx hxt => ?_⟩, hb⟩
      rcases tOf_shape x hx with ⟨-, h9⟩ | ⟨x1, x2, -, -, -, h9⟩ | ⟨x1, x2, -, -, -, h9⟩
      · rw [h9] at hxt; cases hxt
      · rw [h9] at hxt
        simp only [Tr.list.injEq, List.cons.injEq] at hxt
        exact ht (by rw [← hxt.1]; rfl)
      · rw [h9] at hxt
        simp only [pk, Tr.list.injEq, List.cons.injEq] at hxt
        exact he (by rw [← hxt.1]; rfl)
theorem l6tBack_all : ∀ n, L6bC n
  | 0 => fun _ t _ _ _ _ _ h => by omega
  | n + 1 => fun hid t p m c ok w hd hwf hbt htg hv hok => by
    match t, hv with
    | .atom a, hv =>
      have CH := fun W (hW : Below w.heap.size w W) => l4HeadT_c (.atom a) p m c ok W hwf (hv.below hW hok) (fun k hk => Nat.lt_of_lt_of_le (hok k hk) hW.size)
      by_cases h1 : a = [105]
      · subst h1
        refine (bk_i (bs [105]) (by rw [bs_toList]; rfl) p m c w).mono fun e w' ⟨hee, hb⟩ => ⟨⟨_, hee, [105], rfl, by simp [Tr.bytes], fun x hx hxt => ?_⟩, hb⟩
        rcases tOf_shape x hx with ⟨h8, -⟩ | ⟨x1, x2, -, -, -, h9⟩ | ⟨x1, x2, -, -, -, h9⟩
        · rw [h8]; rfl
        · rw [h9] at hxt; cases hxt
        · rw [h9] at hxt; cases hxt
      · refine (bk_o (bs a) (bs (hdT (.atom a))) (by rw [bs_toList]; simpa using h1) (by rw [bs_toList]; rfl) (by rw [bs_toList]; rfl) p m c w CH).mono fun e w' ⟨hee, hb⟩ => ⟨⟨_, hee, bkP_none fun x hx hxt => ?_⟩, hb⟩
        rcases tOf_shape x hx with ⟨-, h9⟩ | ⟨x1, x2, -, -, -, h9⟩ | ⟨x1, x2, -, -, -, h9⟩
        · rw [h9] at hxt
          simp only [Tr.atom.injEq] at hxt
          exact h1 hxt.symm
        · rw [h9] at hxt; cases hxt
        · rw [h9] at hxt; cases hxt
    | .list [], _ => exact absurd rfl hwf.1
    | .list (h :: ts), hv =>
      obtain ⟨r, off, cap, xs, hh, g2, g3, g4, g5, g6⟩ := hv.list_cells
      have hh := nS_inj _ _ _ hh
      simp only [Value.slice.injEq] at hh
      obtain ⟨rfl, rfl, rfl⟩ := hh
      exact l6tBack_list n (l6tBack_all n) hid h ts r off c xs ok w hd hwf hbt htg g2 g3 g4 g5 g6 hok
end Go.Proofs.Ytaoicbmepliklaa
