/- The program's atoms. -/
import Derived.Test.YtpmlpmdgmapilaaImpl1j
import Derived.Test.YtpmlpmdgmapilaaMapB
namespace Go.Proofs.Ytpmlpmdgmapilaa
open Go.RowKit Go.Maps Go.WideMaps
set_option maxRecDepth 8000
set_option linter.unusedSimpArgs false
set_option linter.unusedVariables false
/-- What adding atoms hands back. -/
def AtPostI (B N b : Nat) (v : Value) (l' : List (List UInt8)) (w : World) (e : Ending) (w' : World) : Prop :=
  ∃ v' D', e = .returned v' ∧ w'.ownsRow B 9 1 v' l'.length (l'.map strV) ∧ SetOf w' b l' D' ∧ Two w w' v.ownBlock b ∧ (v'.ownBlock = v.ownBlock ∨ ∀ q, v'.ownBlock = some q → N ≤ q)
def AtI (n : Nat) : Prop := ∀ (t : Tr) (p : Option Addr) (m c : Nat) (B b : Nat) (l : List (List UInt8)) (D : DataW Unit) (v : Value) (w : World), t.depth < n → t.wf → t.bytes ≤ 1000000 → l.length + t.size ≤ 1000000 → FV nI w (fun k => k < B) t (nI t (.slice p m c)) → B ≤ w.heap.size → B ≤ b → SetOf w b l D → w.ownsRow B 9 1 v l.length (l.map strV) → v.ownBlock ≠ some b →
    Calls Try.prog 57 #[.agg (nI t (.slice p m c)).toArray, v, .map (some b)] w fun e w' => AtPostI B w.heap.size b v (atoms t l) w e w'
theorem kept_row {w w' : World} {B : Nat} {e : TypeId} {size : Nat} {v : Value} {n : Nat} {xs : List Value} {b : Nat} (h : w.ownsRow B e size v n xs) (hg : w.grownBy w' (some b)) (hne : v.ownBlock ≠ some b) : w'.ownsRow B e size v n xs :=
  h.kept hg (.inr (by intro q; exact hne q))
set_option maxHeartbeats 2000000 in
theorem addAtoms_atom (a : List UInt8) (B b : Nat) (l : List (List UInt8)) (D : DataW Unit) (v : Value) (w : World) (ha : (Tr.atom a).wf) (hsz : (Tr.atom a).bytes ≤ 1000000) (hl : l.length ≤ 1000000) (hB : B ≤ w.heap.size) (hb : B ≤ b) (hS : SetOf w b l D) (ho : w.ownsRow B 9 1 v l.length (l.map strV)) (hne : v.ownBlock ≠ some b) :
    Calls Try.prog 57 #[.agg #[.string (bs a), .slice none 0 0, .int .i64 (Tr.atom a).bytes, .int .i64 (Tr.atom a).size, .int .i64 (Tr.atom a).depth], v, .map (some b)] w fun e w' => AtPostI B w.heap.size b v (atoms (.atom a) l) w e w' := by
  obtain ⟨p, c, rfl⟩ := owns_slice ho
  obtain ⟨i0, hi0, hz0, hz1, hz2⟩ := info_parts Try.infoStr
  obtain ⟨u, x1, x2, x3, hu, hx1, hx2, hx3, hn⟩ := nI_named (.atom a)
  have TX : Hid (∀ W, Calls Try.prog 59 #[.agg #[.string (bs a), .slice none 0 0, .int .i64 x1, .int .i64 x2, .int .i64 x3]] W fun e w' => e = .returned (.string (bs a)) ∧ Below W.heap.size W w') :=
    Lib.hid (fun W => by rw [hx1, hx2, hx3]; exact text_c (.atom a) none 0 0 (fun _ => False) W ha (by omega) (by simp only [FV]) (fun k hk => hk.elim))
  have hkey : keyOf Try.prog 9 (.string (bs a)) = some (.string a) := keyOf_string_mk Try.underlying9 (by rw [bs_size]; simp only [Tr.bytes] at hsz; unfold maxLen; omega)
  have hlt := hS.lt
  rw [← hx1, ← hx2, ← hx3]
  clear hu hx1 hx2 hx3 hn
  have HS := Lib.hid hS
  have hat := hS.2.2 a
  by_cases hm : a ∈ l
  · have HR : Hid (atoms (.atom a) l = l) := Lib.hid (by rw [atoms_atom, addA_yes hm])
    have HA : Hid (D.atKey (.string a) (.lit (.bool false)) = .lit (.bool true)) := Lib.hid (by rw [hat]; simp [hm])
    clear hm hat hS
    go_enter Try.func57, Try.ntmps57
    go_wp2_with (first | (go_at_call 58; go_must (refine (isAtom_yes _ _ _ _ _ _ _).mono ?_; rintro e w1 ⟨rfl, hb1⟩; have y0 := below_blk hb1 (by simp) (heap_alloc_new w (.cells #[.string (bs a), .slice none 0 0, .int .i64 x1, .int .i64 x2, .int .i64 x3] 48)); have z0 := cell_of (j := 0) y0; have B1 := Lib.hid ((below1 w _).trans (hb1.mono (by simp))))) | (at_lookup; go_must (refine wpList_lookup_own_bool _ rfl _ _ 57 rfl 9 4 lawStr Try.underlying57 Try.underlying4 (zeroBool _) b l.length D rfl (HS.out.below B1.out).1 _ _ rfl hkey ?_; intro cc hcc; have hcc2 : cc = true := (by rw [HA.out] at hcc; simpa using hcc.symm); subst hcc2; clear hcc)))
    go_ret
    exact ⟨_, D, rfl, by rw [HR.out]; exact owns_below ho B1.out, by rw [HR.out]; exact HS.out.below B1.out, Two.below B1.out _ _, .inl rfl⟩
  · have HR : Hid (atoms (.atom a) l = l ++ [a]) := Lib.hid (by rw [atoms_atom, addA_no hm])
    have HA : Hid (D.atKey (.string a) (.lit (.bool false)) = .lit (.bool false)) := Lib.hid (by rw [hat]; simp [hm])
    clear hm hat hS
    go_enter Try.func57, Try.ntmps57
    go_wp2_with (first | (go_at_call 58; go_must (refine (isAtom_yes _ _ _ _ _ _ _).mono ?_; rintro e w1 ⟨rfl, hb1⟩; have y0 := below_blk hb1 (by simp) (heap_alloc_new w (.cells #[.string (bs a), .slice none 0 0, .int .i64 x1, .int .i64 x2, .int .i64 x3] 48)); have z0 := cell_of (j := 0) y0; have B1 := Lib.hid ((below1 w _).trans (hb1.mono (by simp))); have hs1 := hb1.size)) | (at_lookup; go_must (refine wpList_lookup_own_bool _ rfl _ _ 57 rfl 9 4 lawStr Try.underlying57 Try.underlying4 (zeroBool _) b l.length D rfl (HS.out.below B1.out).1 _ _ rfl hkey ?_; intro cc hcc; have hcc2 : cc = false := (by rw [HA.out] at hcc; simpa using hcc.symm); subst hcc2; clear hcc)) | (at_mapUpdate; go_must (refine wpList_mapUpdate_own _ rfl _ _ _ 57 rfl 9 4 lawStr Try.underlying57 _ b l.length D rfl (HS.out.below B1.out).1 (by unfold maxLen; omega) _ _ (.string a) rfl rfl hkey (.lit (.bool true)) [] (plainElem_bool Try.underlying4 true) ?_; intro w2 hown2 hg2; have hs2 := hg2.size; have y2 := blk_grown hg2 y0 (by simp; omega); have d0 := cell_of (j := 0) y2; have d1 := cell_of (j := 1) y2; have d2 := cell_of (j := 2) y2; have d3 := cell_of (j := 3) y2; have d4 := cell_of (j := 4) y2)) | (go_at_call 59; go_must (refine (TX.out _).mono ?_; rintro e w3 ⟨rfl, hb3⟩; have hs3 := hb3.size)) | (at_builtin; go_must (refine wpList_append_one _ rfl _ _ 25 rfl B 9 i0 (.string ⟨#[]⟩) 1 16 Try.underlying25 hi0 hz0 hz1 hz2 rfl (by decide) _ _ _ rfl ((owns_below (kept_row (owns_below ho B1.out) hg2 hne) hb3).alloc _) ⟨w3.heap.size, 0, none⟩ [.string (bs a)] rfl rfl (news_at (heap_alloc_new _ _)) (by intro u hu; simp at hu; subst hu; rfl) (by unfold maxLen; omega) (by omega) (by simp at hs1 ⊢; omega) ?_; intro g' c' w5 hown' hgrow hgg)))
    go_ret
    have HS2 := (HS.out.below B1.out).add a hown2
    have hbw : b < w3.heap.size := by simp at hs1; omega
    refine ⟨_, _, rfl, by rw [HR.out]; simpa [strV] using hown', by rw [HR.out]; exact ((HS2.below hb3).kept (gB_alloc _ none) (by simp)).kept hgrow (fun e => hne e.symm), (((Two.below B1.out _ _).trans (Two.ofMap hg2 _)).trans (Two.below hb3 _ _)).trans ((Two.of (gB_alloc _ _) _).trans (Two.of hgrow _)), ?_⟩
    rcases hgg with hgg | hgg
    · exact .inl hgg.symm
    · exact .inr (fun q hq => by simp [Value.ownBlock] at hq; subst hq; rw [hgg]; simp at hs1 ⊢; omega)
set_option maxHeartbeats 2000000 in
theorem addAtoms_list (n : Nat) (ih : AtI n) (ts : List Tr) (p0 : Option Addr) (m0 c0 : Nat) (B b : Nat) (l : List (List UInt8)) (D : DataW Unit) (v : Value) (w : World) (hd : (Tr.list ts).depth < n + 1) (hwf : (Tr.list ts).wf) (hsz : (Tr.list ts).bytes ≤ 1000000) (hl : l.length + (Tr.list ts).size ≤ 1000000) (hv : FV nI w (fun k => k < B) (.list ts) (nI (.list ts) (.slice p0 m0 c0))) (hB : B ≤ w.heap.size) (hb : B ≤ b) (hS : SetOf w b l D) (ho : w.ownsRow B 9 1 v l.length (l.map strV)) (hne : v.ownBlock ≠ some b) :
    Calls Try.prog 57 #[.agg (nI (.list ts) (.slice p0 m0 c0)).toArray, v, .map (some b)] w fun e w' => AtPostI B w.heap.size b v (atoms (.list ts) l) w e w' := by
  obtain ⟨r, off, cap, xs, hh, h2, h3, h4, h5, h6⟩ := FV.list_cells hv
  have hh' := nI_inj _ _ _ hh
  simp only [Value.slice.injEq] at hh'
  obtain ⟨rfl, rfl, rfl⟩ := hh'
  clear hh
  obtain ⟨p, c, rfl⟩ := owns_slice ho
  obtain ⟨u, x1, x2, x3, hu, hx1, hx2, hx3, hn⟩ := nI_named (.list ts)
  simp only [atomOf] at hu
  subst hu
  rw [hn]
  have h3' := maxLen_le h4
  have hnl : ts.length ≠ 0 := by intro e; exact hwf.1 (List.eq_nil_of_length_eq_zero e)
  have HR := Lib.hid (atoms_list ts l)
  have HW := Lib.hid hwf.2
  have HI := Lib.hid ih
  simp only [Tr.size] at hl
  have HL : Hid (∀ k, l.length ≤ (atomss (ts.take k) l).length ∧ (atomss (ts.take k) l).length ≤ l.length + sizes (ts.take k)) := Lib.hid (fun k => atomss_take_len ts l k hwf.2)
  have HSZ : Hid (∀ k (h : k < ts.length), ts[k].bytes ≤ 1000000) := Lib.hid (fun k h => by have := bytes_lt h; omega)
  have hblt := hS.lt
  have HS := Lib.hid hS
  clear ih hv hwf hn hx1 hx2 hx3 hS hsz
  go_enter Try.func57, Try.ntmps57
  go_wp2_with (go_at_call 58; go_must (refine (isAtom_no _ _ _ _ hnl _ _ _ _).mono ?_; rintro e w1 ⟨rfl, hb1⟩; have y0 := below_blk hb1 (by simp) (heap_alloc_new w (.cells #[.string (bs []), .slice (some ⟨r, off, none⟩) ts.length c0, .int .i64 x1, .int .i64 x2, .int .i64 x3] 48)); have z1 := cell_of (j := 1) y0; have B1 := Lib.hid ((below1 w _).trans (hb1.mono (by simp))); have hs1 := hb1.size))
  go_loopg [1, 27] ts.length (fun q v1 i wr => ∃ (k : Nat) (D1 : DataW Unit), q + k = ts.length ∧ i = .int .i64 k ∧ Hid (wr.ownsRow B 9 1 v1 (atomss (ts.take k) l).length ((atomss (ts.take k) l).map strV)) ∧ Hid (SetOf wr b (atomss (ts.take k) l) D1) ∧ Hid (Two w wr (Value.slice p l.length c).ownBlock b) ∧ (v1.ownBlock = (Value.slice p l.length c).ownBlock ∨ ∀ q, v1.ownBlock = some q → w.heap.size ≤ q) ∧ v1.ownBlock ≠ some b)
  case atStart => exact ⟨0, D, by omega, rfl, Lib.hid (by simpa [atomss] using owns_below ho B1.out), Lib.hid (by simpa [atomss] using HS.out.below B1.out), Lib.hid (Two.below B1.out _ _), .inl rfl, hne⟩
  case round =>
    obtain ⟨k, D1, hq, rfl, ho1, hS1, hT, hvv, hne1⟩ := hrel
    obtain ⟨p1, c1, rfl⟩ := owns_slice ho1.out
    by_cases hlt : k < ts.length
    · obtain ⟨ds, g1, g2⟩ := FVs.get nI_len h6 h5 k hlt
      obtain ⟨p2, n2, c2, rfl⟩ := g1.node
      have hmv : Below B w wr := hT.out.toBelow hB hb (fun q hq => (ho.lt q hq).1)
      obtain ⟨u2, j1, j2, j3, hu2, hj1, hj2, hj3, hn2⟩ := nI_named ts[k]
      rw [hn2] at g2
      have e0 : wr.cell? ⟨r, off + k * 5, none⟩ = some (.string u2) := by rw [hmv.cell (by exact h2)]; exact g2 0 _ rfl
      have e1 : wr.cell? ⟨r, off + k * 5 + 1, none⟩ = some (.slice p2 n2 c2) := by rw [hmv.cell (by exact h2)]; exact g2 1 _ rfl
      have e2 : wr.cell? ⟨r, off + k * 5 + 2, none⟩ = some (.int .i64 j1) := by rw [hmv.cell (by exact h2)]; exact g2 2 _ rfl
      have e3 : wr.cell? ⟨r, off + k * 5 + 3, none⟩ = some (.int .i64 j2) := by rw [hmv.cell (by exact h2)]; exact g2 3 _ rfl
      have e4 : wr.cell? ⟨r, off + k * 5 + 4, none⟩ = some (.int .i64 j3) := by rw [hmv.cell (by exact h2)]; exact g2 4 _ rfl
      have hdk : ts[k].depth < n := by have := depth_lt hlt; omega
      have hwk := wf_get HW.out hlt
      have hl1 := HL.out k
      have hl2 := HL.out (k + 1)
      have hs1 := sizes_take ts k hlt
      have hs2 := sizes_take_le ts (k + 1)
      have HX := Lib.hid (atomss_take ts l k hlt)
      obtain ⟨L, hL⟩ : ∃ L, L = atomss (ts.take k) l := ⟨_, rfl⟩
      rw [← hL] at ho1 hl1 HX hvv hS1 hne1 ⊢
      have hwz := hmv.size
      have hws := hT.out.size
      have C : Hid (∀ o, Calls Try.prog 57 #[.agg #[.string u2, .slice p2 n2 c2, .int .i64 j1, .int .i64 j2, .int .i64 j3], .slice p1 L.length c1, .map (some b)] (wr.alloc o) fun e w' => AtPostI B (wr.alloc o).heap.size b (.slice p1 L.length c1) (atoms ts[k] L) (wr.alloc o) e w') := Lib.hid (fun o => by
        have := HI.out ts[k] p2 n2 c2 B b L D1 (.slice p1 L.length c1) (wr.alloc o) hdk hwk (HSZ.out k hlt) (by omega) (FV.move (fun k hk => hk) (fun k hk => (hmv.alloc (by omega) o).block k hk) _ _ g1) (by simp; omega) hb (hS1.out.kept (gB_alloc o none) (by simp)) (ho1.out.alloc o) hne1
        rw [hn2] at this
        exact this)
      clear g1 g2 hwk hL hu2 hj1 hj2 hj3 hn2 hs1 hs2 hmv
      go_wp2_with (go_at_call 57; go_must (refine (C.out _).mono ?_; rintro e w2 ⟨v2, D2, rfl, ho2, hS2, hT2, hvv2⟩))
      go_roundg (gk - 1)
      case measure => omega
      case rel =>
        refine ⟨k + 1, D2, by omega, by go_num, Lib.hid (by rw [HX.out]; exact ho2), Lib.hid (by rw [HX.out]; exact hS2), Lib.hid ((hT.out.trans (Two.of (gB_alloc _ _) _)).next hvv hT2), ?_, ?_⟩
        · rcases hvv2 with h | h
          · rw [h]; exact hvv
          · exact .inr (fun q hq => by have := h q hq; simp at this; omega)
        · rcases hvv2 with h | h
          · rw [h]; exact hne1
          · intro e; have := h _ e; simp at this; omega
    · have : k = ts.length := by omega
      subst this
      have hown := ho1.out
      have hset := hS1.out
      rw [List.take_length] at hown hset
      have HO := Lib.hid hown
      have HSS := Lib.hid hset
      have HLn := Lib.hid (show ts.take ts.length = ts from List.take_length)
      clear hown hset
      go_wp2_with fail
      go_ret
      exact ⟨_, D1, rfl, by rw [HR.out]; have h9 := HO.out; rw [← HLn.out] at h9 ⊢; simpa using h9, by rw [HR.out]; exact HSS.out, hT.out, hvv⟩
theorem addAtoms_all : ∀ n, AtI n
  | 0 => fun t _ _ _ _ _ _ _ _ _ h => by omega
  | n + 1 => fun t p m c B b l D v w hd hwf hsz hl hv hB hb hS ho hne => by
    match t, hd, hwf, hsz, hl, hv with
    | .atom a, hd, hwf, hsz, hl, hv =>
      simp only [FV] at hv
      have hh := nI_inj _ _ _ hv
      simp only [Value.slice.injEq] at hh
      obtain ⟨rfl, rfl, rfl⟩ := hh
      exact addAtoms_atom a B b l D v w hwf hsz (by omega) hB hb hS ho hne
    | .list ts, hd, hwf, hsz, hl, hv => exact addAtoms_list n (addAtoms_all n) ts p m c B b l D v w hd hwf hsz hl hv hB hb hS ho hne
end Go.Proofs.Ytpmlpmdgmapilaa
