/- The program reads a type back from its target type: every form; the answer of TargetBack. -/
import Derived.Test.YtaoicbmepliklaaTgl
namespace Go.Proofs.Ytaoicbmepliklaa
open Go.RowKit
set_option maxRecDepth 8000
set_option linter.unusedSimpArgs false
set_option linter.unusedVariables false
/-- A form's value where what lies below a number stays. -/
theorem FV.same {w W W' : World} {t : Tr} {cs : List Value} (h : FV nI W (fun k => k < w.heap.size) t cs) (h1 : Below w.heap.size w W) (h2 : Below w.heap.size w W') : FV nI W' (fun k => k < w.heap.size) t cs :=
  FV.move (fun k hk => hk) (fun k hk => (h2.block k hk).trans (h1.block k hk).symm) _ _ h
theorem rec5 {w : World} {t : Tr} {r off : Nat} {p : Option Addr} {n c : Nat} (h : hasRow w r off (nI t (.slice p n c))) : w.cell? ⟨r, off, none⟩ = some (.string (bs (atomOf t))) ∧ w.cell? ⟨r, off + 1, none⟩ = some (.slice p n c) ∧ w.cell? ⟨r, off + 2, none⟩ = some (.int .i64 t.bytes) ∧ w.cell? ⟨r, off + 3, none⟩ = some (.int .i64 t.size) ∧ w.cell? ⟨r, off + 4, none⟩ = some (.int .i64 t.depth) :=
  ⟨h 0 _ rfl, h 1 _ rfl, h 2 _ rfl, h 3 _ rfl, h 4 _ rfl⟩
theorem rec5_back {w W : World} {r off : Nat} {a b c d e : Value} (hW : Below w.heap.size w W) (hr : r < w.heap.size) (h : W.cell? ⟨r, off, none⟩ = some a ∧ W.cell? ⟨r, off + 1, none⟩ = some b ∧ W.cell? ⟨r, off + 2, none⟩ = some c ∧ W.cell? ⟨r, off + 3, none⟩ = some d ∧ W.cell? ⟨r, off + 4, none⟩ = some e) :
    w.cell? ⟨r, off, none⟩ = some a ∧ w.cell? ⟨r, off + 1, none⟩ = some b ∧ w.cell? ⟨r, off + 2, none⟩ = some c ∧ w.cell? ⟨r, off + 3, none⟩ = some d ∧ w.cell? ⟨r, off + 4, none⟩ = some e :=
  ⟨(hW.cell (p := ⟨r, off, none⟩) hr).symm.trans h.1, (hW.cell (p := ⟨r, off + 1, none⟩) hr).symm.trans h.2.1, (hW.cell (p := ⟨r, off + 2, none⟩) hr).symm.trans h.2.2.1, (hW.cell (p := ⟨r, off + 3, none⟩) hr).symm.trans h.2.2.2.1, (hW.cell (p := ⟨r, off + 4, none⟩) hr).symm.trans h.2.2.2.2⟩
/-- packedNeeds in a later world. -/
theorem pn_w (f : Tr) (hwf : f.wf) (hbt : f.bytes ≤ 12000) (p : Option Addr) (n c : Nat) (w W0 : World) (h0 : Below w.heap.size w W0) (hv : FV nI W0 (fun k => k < w.heap.size) f (nI f (.slice p n c))) (W : World) (hW : Below w.heap.size w W) :
    Calls Try.prog 72 #[.agg #[.string (bs (atomOf f)), .slice p n c, .int .i64 f.bytes, .int .i64 f.size, .int .i64 f.depth]] W fun e w' => PnPost (fun k => k < w.heap.size) (pkNeeds f) e w' ∧ Below W.heap.size W w' :=
  pn_c f hwf hbt p n c _ W (hv.same h0 hW) (fun k hk => Nat.lt_of_lt_of_le hk hW.size)
theorem sf_list (n : Nat) (ih : SFc n) (h : Tr) (ts : List Tr) (r off cap : Nat) (xs : List Value) (w : World) (hd : (Tr.list (h :: ts)).depth < n + 1) (hwf : (Tr.list (h :: ts)).wf) (hbt : (Tr.list (h :: ts)).bytes ≤ 12000) (hr : r < w.heap.size) (h3 : (h :: ts).length ≤ cap) (h4 : cap ≤ maxLen) (h5 : hasRow w r off xs) (h6 : FVs nI w (fun k => k < w.heap.size) (h :: ts) xs) :
    Calls Try.prog 39 #[.agg #[.string (bs (atomOf (.list (h :: ts)))), .slice (some ⟨r, off, none⟩) (h :: ts).length cap, .int .i64 (Tr.list (h :: ts)).bytes, .int .i64 (Tr.list (h :: ts)).size, .int .i64 (Tr.list (h :: ts)).depth]] w fun e w' => SfPost w.heap.size (src (n + 1) (.list (h :: ts))) e w' ∧ Below w.heap.size w w' := by
  have hv : FV nI w (fun k => k < w.heap.size) (.list (h :: ts)) (nI (.list (h :: ts)) (.slice (some ⟨r, off, none⟩) (h :: ts).length cap)) := by
    simp only [FV]; exact ⟨r, off, cap, xs, rfl, hr, h3, h4, h5, h6⟩
  have e0 : w.cell? ⟨r, off, none⟩ = some (.string (bs (atomOf h))) := by
    obtain ⟨cs0, i0, i1⟩ := FVs.get nI_len h6 h5 0 (by simp)
    obtain ⟨p0, m0, c0, rfl⟩ := i0.node
    have := i1 0 _ rfl
    simpa using this
  have s1 : ∀ B, (atomOf h == [116]) = B → ((bs (atomOf h)).toList == [116]) = B := fun B hB => by rw [bs_toList]; exact hB
  have CP := pn_w (.list (h :: ts)) hwf hbt _ _ _ w w (Below.refl _ _) hv
  rcases src_view n (.list (h :: ts)) with ⟨a, he, -⟩ | ⟨a, b, he, hs⟩ | ⟨a, b, he, hs⟩ | ⟨hs, hn1, hn2, hn3⟩
  · cases he
  · rw [hs]
    simp only [Tr.list.injEq, List.cons.injEq] at he
    obtain ⟨rfl, rfl⟩ := he
    exact sf_pair n ih a b r off cap xs _ _ _ w hd hwf hbt hr (by simpa using h3) h4 h5 h6
  · rw [hs]
    rw [he] at CP hd hwf hbt
    have he' := he
    simp only [pk, Tr.list.injEq, List.cons.injEq] at he'
    obtain ⟨rfl, rfl⟩ := he'
    have hda := pk_kid (t := a) (ns := [a, pk [b]]) (by simp)
    have hdk := pk_kid (t := pk [b]) (ns := [a, pk [b]]) (by simp)
    have hdb := pk_kid (t := b) (ns := [b]) (by simp)
    have hbb := pk_bytes [a, pk [b]]
    have hbb2 := pk_bytes [b]
    simp only [bytess] at hbb hbb2
    have hwn : wfs [a, pk [b]] := hwf.2.2.1.2.2.1.2.2.2
    have hwa : a.wf := hwn.1
    have hwk : (pk [b]).wf := hwn.2.1
    have hwb : b.wf := hwk.2.2.1.2.2.1.2.2.2.1
    refine sf_pk_yes (two [62] (src n a) (src n b)) (bs [101]) (by rw [bs_toList]; rfl) r off cap _ _ _ w hr (by simpa using h3) h4 e0 (fun W hW => (CP W hW).mono fun e w' ⟨k1, k2⟩ => ⟨?_, k2⟩)
    have hWw := hW.trans (k2.mono hW.size)
    rw [pkNeeds_pk] at k1
    obtain ⟨r2, off2, c2, zs, q1, q2, q3, q4, q5, q6⟩ := k1
    obtain ⟨cs, i1, i2⟩ := FVs.get nI_len q6 q5 0 (by simp)
    obtain ⟨pa, ma, ca, rfl⟩ := i1.node
    obtain ⟨ds, j1, j2⟩ := FVs.get nI_len q6 q5 1 (by simp)
    obtain ⟨pk', mk, ck, rfl⟩ := j1.node
    refine ⟨r2, off2, c2, _, pa, ma, ca, _, _, _, _, pk', mk, ck, _, _, _, q1, q2, q3, q4, rec5_back hWw q2 (rec5 (by simpa using i2)), rec5_back hWw q2 (rec5 (by simpa using j2)), Lib.hid (fun V hV => (pn_w (pk [b]) hwk (by omega) _ _ _ w w' hWw j1 V hV).mono fun e w'' ⟨m1, m2⟩ => ⟨?_, m2⟩)⟩
    have hVw := hV.trans (m2.mono hV.size)
    rw [pkNeeds_pk] at m1
    obtain ⟨r3, off3, c3, us, o1, o2, o3, o4, o5, o6⟩ := m1
    obtain ⟨es, t1, t2⟩ := FVs.get nI_len o6 o5 0 (by simp)
    obtain ⟨pb, mb, cb, rfl⟩ := t1.node
    refine ⟨r3, off3, c3, _, pb, mb, cb, _, _, _, o1, o2, o3, o4, rec5_back hVw o2 (rec5 (by simpa using t2)), Lib.hid (fun U hU => ?_)⟩
    exact sot_c n ih [62] (okAt_one (by decide)) a b _ _ pa pb ma ca mb cb _ _ _ _ _ _ U (by omega) (by omega) hwa hwb (by omega) (by omega) (fun v => rfl) (fun v => rfl) ((i1.same hWw hU).wide (fun k hk => Nat.lt_of_lt_of_le hk hU.size)) ((t1.same hVw hU).wide (fun k hk => Nat.lt_of_lt_of_le hk hU.size))
  · rw [hs]
    by_cases hp : ∃ a k, pkNeeds (.list (h :: ts)) = some [a, k]
    · obtain ⟨a, k, hp⟩ := hp
      have he := pkNeeds_some hp
      rw [hp] at CP
      have hwf2 := hwf
      have hbt2 := hbt
      rw [he] at hwf2 hbt2
      have he' := he
      simp only [pk, Tr.list.injEq, List.cons.injEq] at he'
      obtain ⟨rfl, rfl⟩ := he'
      have hbb := pk_bytes [a, k]
      simp only [bytess] at hbb
      have hwk : k.wf := hwf2.2.2.1.2.2.1.2.2.2.2.1
      refine sf_pk_no (bs [101]) (by rw [bs_toList]; rfl) a k r off cap _ _ _ w hr (by simpa using h3) h4 e0 (fun W hW => (CP W hW).mono fun e w' ⟨k1, k2⟩ => ⟨?_, k2⟩)
      have hWw := hW.trans (k2.mono hW.size)
      obtain ⟨r2, off2, c2, zs, q1, q2, q3, q4, q5, q6⟩ := k1
      obtain ⟨ds, j1, j2⟩ := FVs.get nI_len q6 q5 1 (by simp)
      obtain ⟨pk', mk, ck, rfl⟩ := j1.node
      obtain ⟨d0, d1, d2, d3, d4⟩ := rec5 (by simpa using j2)
      refine ⟨r2, off2, c2, _, pk', mk, ck, _, _, _, q1, q2, q3, q4, d0, d1, d2, d3, d4, Lib.hid (fun V hV => (pn_w k hwk (by omega) _ _ _ w w' hWw j1 V hV).mono fun e w'' ⟨m1, m2⟩ => ⟨pnPost_len 1 m1 (fun ns hns hl => ?_), m2⟩)⟩
      match ns, hl, hns with
      | [b], _, hns => exact hn3 a b (by rw [he, pkNeeds_some hns])
    · refine sf_no (atomOf h == [116]) (bs (atomOf h)) (s1 _ rfl) (h :: ts).length (fun hB hL => ?_) (by simp) r off cap _ _ _ w hr h3 h4 e0 (fun W hW => (CP W hW).mono fun e w' ⟨k1, k2⟩ => ⟨pnPost_len 2 k1 (fun ns hns hl => ?_), k2⟩)
      · have ha := atomOf_eq (by simpa using hB) (by simp)
        match ts, hL with
        | [a, b], _ => exact hn2 a b (by rw [ha])
      · match ns, hl, hns with
        | [a, k], _, hns => exact hp ⟨a, k, hns⟩
theorem sf_all : ∀ n, SFc n
  | 0 => fun f _ _ _ _ h => by omega
  | n + 1 => fun f p m c w hd hwf hbt hv => by
    match f, hv with
    | .atom a, hv =>
      simp only [FV] at hv
      have hh := nI_inj _ _ _ hv
      simp only [Value.slice.injEq] at hh
      obtain ⟨rfl, rfl, rfl⟩ := hh
      exact sf_atom n a _ _ _ (fun v => rfl) w
    | .list [], _ => exact absurd rfl hwf.1
    | .list (h :: ts), hv =>
      obtain ⟨r, off, cap, xs, hh, h2, h3, h4, h5, h6⟩ := hv.list_cells
      have hh := nI_inj _ _ _ hh
      simp only [Value.slice.injEq] at hh
      obtain ⟨rfl, rfl, rfl⟩ := hh
      exact sf_list n (sf_all n) h ts r off c xs w hd hwf hbt h2 h3 h4 h5 h6
end Go.Proofs.Ytaoicbmepliklaa
