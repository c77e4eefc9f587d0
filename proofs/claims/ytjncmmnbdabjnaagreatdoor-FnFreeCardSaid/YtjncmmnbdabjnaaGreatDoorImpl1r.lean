/- A set of texts: a map to bools of the call's own. The program's atoms. FormAtoms of the reference model and of the program. -/
import Derived.Test.YtjncmmnbdabjnaaGreatDoorS1z
import Derived.Maps.Own
import Derived.Maps.OwnOps
import Derived.Maps.Views
import Derived.Test.YtjncmmnbdabjnaaGreatDoorImpl1jM
import Derived.Test.YtjncmmnbdabjnaaGreatDoorImpl2dM
namespace Go.Proofs.YtjncmmnbdabjnaaGreatDoor
open Go.RowKit Go.Maps
set_option maxRecDepth 8000
set_option linter.unusedSimpArgs false
set_option linter.unusedVariables false
theorem plainElem_bool_inv' {H : Type} {P : Program} {e : TypeId} (he : P.underlying e = some .bool) {v : Value} {z : DataW H × List MemPlace} (h : plainElem P e v = some z) : ∃ c, v = .bool c ∧ z = (.lit (.bool c), []) := by
  unfold plainElem at h
  rw [he] at h
  cases v <;> simp at h
  exact ⟨_, rfl, h.symm⟩
theorem wpList_lookup_own_bool {H : Type} {P : Program} (w : World) {ops : Array Oper} {rest : List Oper} {o : Oper} {a : Act} {Q : Exit → Act → World → Prop}
    (hg : o.guard = none) (m x : Operand) (t : TypeId) (hop : o.op = Op.lookup t m x false)
    (k e : TypeId) (K : Keyed P k) (ht : P.underlying t = some (.map k e)) (he : P.underlying e = some .bool) (hz : (zeroValue e).run P w = .ok (.bool false) w) (b n : Nat) (D : DataW H)
    (hm : a.eval m = .map (some b)) (hown : w.ownsMap P k (plainElem P e) b n D) (key : Value) (kl : Lit) (hx : a.eval x = key) (hkey : keyOf P k key = some kl)
    (hK : ∀ c : Bool, D.atKey kl (.lit (.bool false)) = .lit (.bool c) → wpList P ops Q rest (a.put o.dst (.bool c)) w) :
    wpList P ops Q (o :: rest) a w := by
  refine wpList_plain hg fun K' hK' => ?_
  obtain ⟨v, ps, hrun, hv⟩ := hown.lookup K ht hz (plainElem_bool he false) hkey
  obtain ⟨c, rfl, hc⟩ := plainElem_bool_inv' he hv
  simp only [Prod.mk.injEq] at hc
  unfold Oper.wp
  simp [execOp, hop, hm, hx, hrun, Result.andThen]
  exact hK' _ _ (hK c hc.1)
theorem lawStr : Keyed Tryz.prog 9 := string_keyed Tryz.underlying9
theorem zeroBool (w : World) : (zeroValue 4).run Tryz.prog w = .ok (.bool false) w := by kernel_rfl
/-- Block b is a map that holds these texts. -/
def SetOf (w : World) (b : Nat) (l : List (List UInt8)) (D : DataW Unit) : Prop :=
  w.ownsMap Tryz.prog 9 (plainElem Tryz.prog 4) b l.length D ∧ IsMap D ∧ ∀ x : List UInt8, D.atKey (.string x) (.lit (.bool false)) = .lit (.bool (decide (x ∈ l)))
theorem SetOf.made (w : World) : SetOf (w.alloc (.map #[] 0)) w.heap.size [] (.map []) :=
  ⟨World.ownsMap_made _ _ _ _, isMap_empty, fun x => rfl⟩
theorem SetOf.lt {w : World} {b : Nat} {l : List (List UInt8)} {D : DataW Unit} (h : SetOf w b l D) : b < w.heap.size := h.1.lt
theorem SetOf.kept {w w' : World} {b : Nat} {l : List (List UInt8)} {D : DataW Unit} {row : Option Nat} (h : SetOf w b l D) (hg : w.grownBy w' row) (hne : some b ≠ row) : SetOf w' b l D := ⟨h.1.kept hg hne, h.2⟩
theorem gB_below6 {a b : World} (h : Below a.heap.size a b) (row : Option Nat) : a.grownBy b row := ⟨h.os, h.tape, h.output, h.size, fun i hi _ => h.block i hi⟩
theorem SetOf.below {w w' : World} {b : Nat} {l : List (List UInt8)} {D : DataW Unit} (h : SetOf w b l D) (hb : Below w.heap.size w w') : SetOf w' b l D := h.kept (gB_below6 hb none) (by simp)
theorem SetOf.add {w : World} {b : Nat} {l : List (List UInt8)} {D : DataW Unit} (h : SetOf w b l D) (x : List UInt8) {w' : World} (k : w'.ownsMap Tryz.prog 9 (plainElem Tryz.prog 4) b (l.length + 1) (D.put (.string x) (.lit (.bool true)))) : SetOf w' b (l ++ [x]) (D.put (.string x) (.lit (.bool true))) := by
  refine ⟨by simpa using k, h.2.1.put _ _, fun y => ?_⟩
  by_cases e : y = x
  · subst e
    rw [atKey_put_same h.2.1 (by trivial)]
    simp
  · rw [atKey_put_other (by intro q; simp only [Lit.string.injEq] at q; exact e q), h.2.2 y]
    simp [e]
/-- A world behind another: but for a row's block and the map's nothing that was there has turned. -/
structure Two (w w' : World) (row : Option Nat) (b : Nat) : Prop where
  os : w'.os = w.os
  tape : w'.tape = w.tape
  output : w'.output = w.output
  size : w.heap.size ≤ w'.heap.size
  block : ∀ i, i < w.heap.size → row ≠ some i → i ≠ b → w'.heap[i]? = w.heap[i]?
theorem Two.of {w w' : World} {row : Option Nat} (h : w.grownBy w' row) (b : Nat) : Two w w' row b := ⟨h.os, h.tape, h.output, h.size, fun i hi hne _ => h.block i hi (fun e => hne e.symm)⟩
theorem Two.ofMap {w w' : World} {b : Nat} (h : w.grownBy w' (some b)) (row : Option Nat) : Two w w' row b := ⟨h.os, h.tape, h.output, h.size, fun i hi _ hne => h.block i hi (fun e => hne (by simpa using e))⟩
theorem Two.below {w w' : World} (h : Below w.heap.size w w') (row : Option Nat) (b : Nat) : Two w w' row b := Two.of (gB_below6 h row) b
theorem Two.trans {a c d : World} {row : Option Nat} {b : Nat} (h : Two a c row b) (k : Two c d row b) : Two a d row b :=
  ⟨k.os.trans h.os, k.tape.trans h.tape, k.output.trans h.output, Nat.le_trans h.size k.size, fun i hi h1 h2 => (k.block i (Nat.lt_of_lt_of_le hi h.size) h1 h2).trans (h.block i hi h1 h2)⟩
theorem Two.next {a c d : World} {v v' : Value} {b : Nat} (h : Two a c v.ownBlock b) (hv : v'.ownBlock = v.ownBlock ∨ ∀ q, v'.ownBlock = some q → a.heap.size ≤ q) (k : Two c d v'.ownBlock b) : Two a d v.ownBlock b :=
  ⟨k.os.trans h.os, k.tape.trans h.tape, k.output.trans h.output, Nat.le_trans h.size k.size, fun i hi h1 h2 => (k.block i (Nat.lt_of_lt_of_le hi h.size) (by
    rcases hv with hv | hv
    · rw [hv]; exact h1
    · intro e; have := hv i e; omega) h2).trans (h.block i hi h1 h2)⟩
theorem Two.toBelow {a c : World} {row : Option Nat} {b B : Nat} (h : Two a c row b) (hB : B ≤ a.heap.size) (hb : B ≤ b) (hr : ∀ q, row = some q → B ≤ q) : Below B a c :=
  ⟨h.os, h.tape, h.output, h.size, fun k hk => h.block k (by omega) (fun e => by have := hr k e; omega) (by omega)⟩
end Go.Proofs.YtjncmmnbdabjnaaGreatDoor
namespace Go.Proofs.YtjncmmnbdabjnaaGreatDoor
open Go.RowKit Go.Maps Go.WideMaps
set_option maxRecDepth 8000
set_option linter.unusedSimpArgs false
set_option linter.unusedVariables false
/-- What adding atoms hands back. -/
def AtPostI (B N b : Nat) (v : Value) (l' : List (List UInt8)) (w : World) (e : Ending) (w' : World) : Prop :=
  ∃ v' D', e = .returned v' ∧ w'.ownsRow B 9 1 v' l'.length (l'.map strV) ∧ SetOf w' b l' D' ∧ Two w w' v.ownBlock b ∧ (v'.ownBlock = v.ownBlock ∨ ∀ q, v'.ownBlock = some q → N ≤ q)
def AtI (n : Nat) : Prop := ∀ (t : Tr) (p : Option Addr) (m c : Nat) (B b : Nat) (l : List (List UInt8)) (D : DataW Unit) (v : Value) (w : World), t.depth < n → t.wf → t.bytes ≤ 1000000 → l.length + t.size ≤ 1000000 → FV nI w (fun k => k < B) t (nI t (.slice p m c)) → B ≤ w.heap.size → B ≤ b → SetOf w b l D → w.ownsRow B 9 1 v l.length (l.map strV) → v.ownBlock ≠ some b →
    Calls Tryz.prog 63 #[.agg (nI t (.slice p m c)).toArray, v, .map (some b)] w fun e w' => AtPostI B w.heap.size b v (atoms t l) w e w'
theorem kept_row {w w' : World} {B : Nat} {e : TypeId} {size : Nat} {v : Value} {n : Nat} {xs : List Value} {b : Nat} (h : w.ownsRow B e size v n xs) (hg : w.grownBy w' (some b)) (hne : v.ownBlock ≠ some b) : w'.ownsRow B e size v n xs :=
  h.kept hg (.inr (by intro q; exact hne q))
set_option maxHeartbeats 2000000 in
theorem addAtoms_atom (a : List UInt8) (B b : Nat) (l : List (List UInt8)) (D : DataW Unit) (v : Value) (w : World) (ha : (Tr.atom a).wf) (hsz : (Tr.atom a).bytes ≤ 1000000) (hl : l.length ≤ 1000000) (hB : B ≤ w.heap.size) (hb : B ≤ b) (hS : SetOf w b l D) (ho : w.ownsRow B 9 1 v l.length (l.map strV)) (hne : v.ownBlock ≠ some b) :
    Calls Tryz.prog 63 #[.agg #[.string (bs a), .slice none 0 0, .int .i64 (Tr.atom a).bytes, .int .i64 (Tr.atom a).size, .int .i64 (Tr.atom a).depth], v, .map (some b)] w fun e w' => AtPostI B w.heap.size b v (atoms (.atom a) l) w e w' := by
  obtain ⟨p, c, rfl⟩ := owns_slice ho
  obtain ⟨i0, hi0, hz0, hz1, hz2⟩ := info_parts Tryz.infoStr
  obtain ⟨u, x1, x2, x3, hu, hx1, hx2, hx3, hn⟩ := nI_named (.atom a)
  have TX : Hid (∀ W, Calls Tryz.prog 43 #[.agg #[.string (bs a), .slice none 0 0, .int .i64 x1, .int .i64 x2, .int .i64 x3]] W fun e w' => e = .returned (.string (bs a)) ∧ Below W.heap.size W w') :=
    Lib.hid (fun W => by rw [hx1, hx2, hx3]; exact text_c (.atom a) none 0 0 (fun _ => False) W ha (by omega) (by simp only [FV]) (fun k hk => hk.elim))
  have hkey : keyOf Tryz.prog 9 (.string (bs a)) = some (.string a) := keyOf_string_mk Tryz.underlying9 (by rw [bs_size]; simp only [Tr.bytes] at hsz; unfold maxLen; omega)
  have hlt := hS.lt
  rw [← hx1, ← hx2, ← hx3]
  clear hu hx1 hx2 hx3 hn
  have HS := Lib.hid hS
  have hat := hS.2.2 a
  by_cases hm : a ∈ l
  · have HR : Hid (atoms (.atom a) l = l) := Lib.hid (by rw [atoms_atom, addA_yes hm])
    have HA : Hid (D.atKey (.string a) (.lit (.bool false)) = .lit (.bool true)) := Lib.hid (by rw [hat]; simp [hm])
    clear hm hat hS
    go_enter Tryz.func63, Tryz.ntmps63
    go_wp2_with (first | (go_at_call 99; go_must (refine (isAtom_yes _ _ _ _ _ _ _).mono ?_; rintro e w1 ⟨rfl, hb1⟩; have y0 := below_blk hb1 (by simp) (heap_alloc_new w (.cells #[.string (bs a), .slice none 0 0, .int .i64 x1, .int .i64 x2, .int .i64 x3] 50)); have z0 := cell_of (j := 0) y0; have B1 := Lib.hid ((below1 w _).trans (hb1.mono (by simp))))) | (at_lookup; go_must (refine wpList_lookup_own_bool _ rfl _ _ 76 rfl 9 4 lawStr Tryz.underlying76 Tryz.underlying4 (zeroBool _) b l.length D rfl (HS.out.below B1.out).1 _ _ rfl hkey ?_; intro cc hcc; have hcc2 : cc = true := (by rw [HA.out] at hcc; simpa using hcc.symm); subst hcc2; clear hcc)))
    go_ret
    exact ⟨_, D, rfl, by rw [HR.out]; exact owns_below ho B1.out, by rw [HR.out]; exact HS.out.below B1.out, Two.below B1.out _ _, .inl rfl⟩
  · have HR : Hid (atoms (.atom a) l = l ++ [a]) := Lib.hid (by rw [atoms_atom, addA_no hm])
    have HA : Hid (D.atKey (.string a) (.lit (.bool false)) = .lit (.bool false)) := Lib.hid (by rw [hat]; simp [hm])
    clear hm hat hS
    go_enter Tryz.func63, Tryz.ntmps63
    go_wp2_with (first | (go_at_call 99; go_must (refine (isAtom_yes _ _ _ _ _ _ _).mono ?_; rintro e w1 ⟨rfl, hb1⟩; have y0 := below_blk hb1 (by simp) (heap_alloc_new w (.cells #[.string (bs a), .slice none 0 0, .int .i64 x1, .int .i64 x2, .int .i64 x3] 50)); have z0 := cell_of (j := 0) y0; have B1 := Lib.hid ((below1 w _).trans (hb1.mono (by simp))); have hs1 := hb1.size)) | (at_lookup; go_must (refine wpList_lookup_own_bool _ rfl _ _ 76 rfl 9 4 lawStr Tryz.underlying76 Tryz.underlying4 (zeroBool _) b l.length D rfl (HS.out.below B1.out).1 _ _ rfl hkey ?_; intro cc hcc; have hcc2 : cc = false := (by rw [HA.out] at hcc; simpa using hcc.symm); subst hcc2; clear hcc)) | (at_mapUpdate; go_must (refine wpList_mapUpdate_own _ rfl _ _ _ 76 rfl 9 4 lawStr Tryz.underlying76 _ b l.length D rfl (HS.out.below B1.out).1 (by unfold maxLen; omega) _ _ (.string a) rfl rfl hkey (.lit (.bool true)) [] (plainElem_bool Tryz.underlying4 true) ?_; intro w2 hown2 hg2; have hs2 := hg2.size; have y2 := blk_grown hg2 y0 (by simp; omega); have d0 := cell_of (j := 0) y2; have d1 := cell_of (j := 1) y2; have d2 := cell_of (j := 2) y2; have d3 := cell_of (j := 3) y2; have d4 := cell_of (j := 4) y2)) | (go_at_call 43; go_must (refine (TX.out _).mono ?_; rintro e w3 ⟨rfl, hb3⟩; have hs3 := hb3.size)) | (at_builtin; go_must (refine wpList_append_one _ rfl _ _ 23 rfl B 9 i0 (.string ⟨#[]⟩) 1 16 Tryz.underlying23 hi0 hz0 hz1 hz2 rfl (by decide) _ _ _ rfl ((owns_below (kept_row (owns_below ho B1.out) hg2 hne) hb3).alloc _) ⟨w3.heap.size, 0, none⟩ [.string (bs a)] rfl rfl (news_at (heap_alloc_new _ _)) (by intro u hu; simp at hu; subst hu; rfl) (by unfold maxLen; omega) (by omega) (by simp at hs1 ⊢; omega) ?_; intro g' c' w5 hown' hgrow hgg)))
    go_ret
    have HS2 := (HS.out.below B1.out).add a hown2
    have hbw : b < w3.heap.size := by simp at hs1; omega
    refine ⟨_, _, rfl, by rw [HR.out]; simpa [strV] using hown', by rw [HR.out]; exact ((HS2.below hb3).kept (gB_alloc _ none) (by simp)).kept hgrow (fun e => hne e.symm), (((Two.below B1.out _ _).trans (Two.ofMap hg2 _)).trans (Two.below hb3 _ _)).trans ((Two.of (gB_alloc _ _) _).trans (Two.of hgrow _)), ?_⟩
    rcases hgg with hgg | hgg
    · exact .inl hgg.symm
    · exact .inr (fun q hq => by simp [Value.ownBlock] at hq; subst hq; rw [hgg]; simp at hs1 ⊢; omega)
set_option maxHeartbeats 2000000 in
theorem addAtoms_list (n : Nat) (ih : AtI n) (ts : List Tr) (p0 : Option Addr) (m0 c0 : Nat) (B b : Nat) (l : List (List UInt8)) (D : DataW Unit) (v : Value) (w : World) (hd : (Tr.list ts).depth < n + 1) (hwf : (Tr.list ts).wf) (hsz : (Tr.list ts).bytes ≤ 1000000) (hl : l.length + (Tr.list ts).size ≤ 1000000) (hv : FV nI w (fun k => k < B) (.list ts) (nI (.list ts) (.slice p0 m0 c0))) (hB : B ≤ w.heap.size) (hb : B ≤ b) (hS : SetOf w b l D) (ho : w.ownsRow B 9 1 v l.length (l.map strV)) (hne : v.ownBlock ≠ some b) :
    Calls Tryz.prog 63 #[.agg (nI (.list ts) (.slice p0 m0 c0)).toArray, v, .map (some b)] w fun e w' => AtPostI B w.heap.size b v (atoms (.list ts) l) w e w' := by
  obtain ⟨r, off, cap, xs, hh, h2, h3, h4, h5, h6⟩ := FV.list_cells hv
  have hh' := nI_inj _ _ _ hh
  simp only [Value.slice.injEq] at hh'
  obtain ⟨rfl, rfl, rfl⟩ := hh'
  clear hh
  obtain ⟨p, c, rfl⟩ := owns_slice ho
  obtain ⟨u, x1, x2, x3, hu, hx1, hx2, hx3, hn⟩ := nI_named (.list ts)
  simp only [atomOf] at hu
  subst hu
  rw [hn]
  have h3' := maxLen_le h4
  have hnl : ts.length ≠ 0 := by intro e; exact hwf.1 (List.eq_nil_of_length_eq_zero e)
  have HR := Lib.hid (atoms_list ts l)
  have HW := Lib.hid hwf.2
  have HI := Lib.hid ih
  simp only [Tr.size] at hl
  have HL : Hid (∀ k, l.length ≤ (atomss (ts.take k) l).length ∧ (atomss (ts.take k) l).length ≤ l.length + sizes (ts.take k)) := Lib.hid (fun k => atomss_take_len ts l k hwf.2)
  have HSZ : Hid (∀ k (h : k < ts.length), ts[k].bytes ≤ 1000000) := Lib.hid (fun k h => by have := bytes_lt h; omega)
  have hblt := hS.lt
  have HS := Lib.hid hS
  clear ih hv hwf hn hx1 hx2 hx3 hS hsz
  go_enter Tryz.func63, Tryz.ntmps63
  go_wp2_with (go_at_call 99; go_must (refine (isAtom_no _ _ _ _ hnl _ _ _ _).mono ?_; rintro e w1 ⟨rfl, hb1⟩; have y0 := below_blk hb1 (by simp) (heap_alloc_new w (.cells #[.string (bs []), .slice (some ⟨r, off, none⟩) ts.length c0, .int .i64 x1, .int .i64 x2, .int .i64 x3] 50)); have z1 := cell_of (j := 1) y0; have B1 := Lib.hid ((below1 w _).trans (hb1.mono (by simp))); have hs1 := hb1.size))
  go_loopg [1, 27] ts.length (fun q v1 i wr => ∃ (k : Nat) (D1 : DataW Unit), q + k = ts.length ∧ i = .int .i64 k ∧ Hid (wr.ownsRow B 9 1 v1 (atomss (ts.take k) l).length ((atomss (ts.take k) l).map strV)) ∧ Hid (SetOf wr b (atomss (ts.take k) l) D1) ∧ Hid (Two w wr (Value.slice p l.length c).ownBlock b) ∧ (v1.ownBlock = (Value.slice p l.length c).ownBlock ∨ ∀ q, v1.ownBlock = some q → w.heap.size ≤ q) ∧ v1.ownBlock ≠ some b)
  case atStart => exact ⟨0, D, by omega, rfl, Lib.hid (by simpa [atomss] using owns_below ho B1.out), Lib.hid (by simpa [atomss] using HS.out.below B1.out), Lib.hid (Two.below B1.out _ _), .inl rfl, hne⟩
  case round =>
    obtain ⟨k, D1, hq, rfl, ho1, hS1, hT, hvv, hne1⟩ := hrel
    obtain ⟨p1, c1, rfl⟩ := owns_slice ho1.out
    by_cases hlt : k < ts.length
    · obtain ⟨ds, g1, g2⟩ := FVs.get nI_len h6 h5 k hlt
      obtain ⟨p2, n2, c2, rfl⟩ := g1.node
      have hmv : Below B w wr := hT.out.toBelow hB hb (fun q hq => (ho.lt q hq).1)
      obtain ⟨u2, j1, j2, j3, hu2, hj1, hj2, hj3, hn2⟩ := nI_named ts[k]
      rw [hn2] at g2
      have e0 : wr.cell? ⟨r, off + k * 5, none⟩ = some (.string u2) := by rw [hmv.cell (by exact h2)]; exact g2 0 _ rfl
      have e1 : wr.cell? ⟨r, off + k * 5 + 1, none⟩ = some (.slice p2 n2 c2) := by rw [hmv.cell (by exact h2)]; exact g2 1 _ rfl
      have e2 : wr.cell? ⟨r, off + k * 5 + 2, none⟩ = some (.int .i64 j1) := by rw [hmv.cell (by exact h2)]; exact g2 2 _ rfl
      have e3 : wr.cell? ⟨r, off + k * 5 + 3, none⟩ = some (.int .i64 j2) := by rw [hmv.cell (by exact h2)]; exact g2 3 _ rfl
      have e4 : wr.cell? ⟨r, off + k * 5 + 4, none⟩ = some (.int .i64 j3) := by rw [hmv.cell (by exact h2)]; exact g2 4 _ rfl
      have hdk : ts[k].depth < n := by have := depth_lt hlt; omega
      have hwk := wf_get HW.out hlt
      have hl1 := HL.out k
      have hl2 := HL.out (k + 1)
      have hs1 := sizes_take ts k hlt
      have hs2 := sizes_take_le ts (k + 1)
      have HX := Lib.hid (atomss_take ts l k hlt)
      obtain ⟨L, hL⟩ : ∃ L, L = atomss (ts.take k) l := ⟨_, rfl⟩
      rw [← hL] at ho1 hl1 HX hvv hS1 hne1 ⊢
      have hwz := hmv.size
      have hws := hT.out.size
      have C : Hid (∀ o, Calls Tryz.prog 63 #[.agg #[.string u2, .slice p2 n2 c2, .int .i64 j1, .int .i64 j2, .int .i64 j3], .slice p1 L.length c1, .map (some b)] (wr.alloc o) fun e w' => AtPostI B (wr.alloc o).heap.size b (.slice p1 L.length c1) (atoms ts[k] L) (wr.alloc o) e w') := Lib.hid (fun o => by
        have := HI.out ts[k] p2 n2 c2 B b L D1 (.slice p1 L.length c1) (wr.alloc o) hdk hwk (HSZ.out k hlt) (by omega) (FV.move (fun k hk => hk) (fun k hk => (hmv.alloc (by omega) o).block k hk) _ _ g1) (by simp; omega) hb (hS1.out.kept (gB_alloc o none) (by simp)) (ho1.out.alloc o) hne1
        rw [hn2] at this
        exact this)
      clear g1 g2 hwk hL hu2 hj1 hj2 hj3 hn2 hs1 hs2 hmv
      go_wp2_with (go_at_call 63; go_must (refine (C.out _).mono ?_; rintro e w2 ⟨v2, D2, rfl, ho2, hS2, hT2, hvv2⟩))
      go_roundg (gk - 1)
      case measure => omega
      case rel =>
        refine ⟨k + 1, D2, by omega, by go_num, Lib.hid (by rw [HX.out]; exact ho2), Lib.hid (by rw [HX.out]; exact hS2), Lib.hid ((hT.out.trans (Two.of (gB_alloc _ _) _)).next hvv hT2), ?_, ?_⟩
        · rcases hvv2 with h | h
          · rw [h]; exact hvv
          · exact .inr (fun q hq => by have := h q hq; simp at this; omega)
        · rcases hvv2 with h | h
          · rw [h]; exact hne1
          · intro e; have := h _ e; simp at this; omega
    · have : k = ts.length := by omega
      subst this
      have hown := ho1.out
      have hset := hS1.out
      rw [List.take_length] at hown hset
      have HO := Lib.hid hown
      have HSS := Lib.hid hset
      have HLn := Lib.hid (show ts.take ts.length = ts from List.take_length)
      clear hown hset
      go_wp2_with fail
      go_ret
      exact ⟨_, D1, rfl, by rw [HR.out]; have h9 := HO.out; rw [← HLn.out] at h9 ⊢; simpa using h9, by rw [HR.out]; exact HSS.out, hT.out, hvv⟩
theorem addAtoms_all : ∀ n, AtI n
  | 0 => fun t _ _ _ _ _ _ _ _ _ h => by omega
  | n + 1 => fun t p m c B b l D v w hd hwf hsz hl hv hB hb hS ho hne => by
    match t, hd, hwf, hsz, hl, hv with
    | .atom a, hd, hwf, hsz, hl, hv =>
      simp only [FV] at hv
      have hh := nI_inj _ _ _ hv
      simp only [Value.slice.injEq] at hh
      obtain ⟨rfl, rfl, rfl⟩ := hh
      exact addAtoms_atom a B b l D v w hwf hsz (by omega) hB hb hS ho hne
    | .list ts, hd, hwf, hsz, hl, hv => exact addAtoms_list n (addAtoms_all n) ts p m c B b l D v w hd hwf hsz hl hv hB hb hS ho hne
end Go.Proofs.YtjncmmnbdabjnaaGreatDoor
namespace Go.Proofs.YtjncmmnbdabjnaaGreatDoor
open Go.RowKit Go.Maps Go.WideMaps
set_option maxRecDepth 8000
set_option linter.unusedSimpArgs false
set_option linter.unusedVariables false
theorem made_empty {w w1 : World} {o : Obj} (hb1 : Below w.heap.size w w1) : ((w1.alloc o).alloc (.cells #[] 9)).ownsRow w.heap.size 9 1 (.slice (some ⟨w1.heap.size + 1, 0, none⟩) 0 0) 0 [] := made_none hb1
theorem fv_twoA {nd : Tr → Value → List Value} {w1 : World} {N : Nat} {t : Tr} {cs : List Value} (hv : FV nd w1 (fun k => N ≤ k ∧ k < w1.heap.size) t cs) (o o' : Obj) : FV nd ((w1.alloc o).alloc o') (fun k => k < w1.heap.size) t cs :=
  FV.wide (hv.below (((Below.refl w1.heap.size w1).alloc (Nat.le_refl _) o).alloc (by simp) o') (fun k hk => hk.2)) (fun k hk => hk.2)
theorem le_two (w1 : World) (o o' : Obj) : w1.heap.size ≤ ((w1.alloc o).alloc o').heap.size := by simp; omega
theorem made_rowA (w1 : World) (o : Obj) : ((w1.alloc o).alloc (.cells #[] 9)).ownsRow w1.heap.size 9 1 (.slice (some ⟨w1.heap.size + 1, 0, none⟩) 0 0) 0 [] := by
  have := World.ownsRow_made (w1.alloc o) #[] 0 (base := w1.heap.size) (e := 9) (size := 1) (by simp) (by decide) rfl
  simpa using this
set_option maxHeartbeats 1000000 in
theorem specFormAtoms_c (s : ByteArray) (hs : s.size ≤ 1048576) (w : World) :
    Calls Tryz.prog 84 #[.string s] w fun e w' => PartsPost w.heap.size (atomsOf s.data.toList) e w' ∧ Below w.heap.size w w' := by
  cases hp : parse s.data.toList with
  | none =>
    have C := Lib.hid (l1Parse_none hs hp)
    have HP := Lib.hid (atomsOf_none hp)
    clear hp
    go_enter Tryz.func84, Tryz.ntmps84
    go_wp2_with (go_at_call 86; go_must (refine (C.out _).mono ?_; rintro e w1 ⟨⟨a, p, n, c, rfl, hn⟩, hb1⟩; have hn' := maxLen_le hn))
    go_ret2
    exact ⟨⟨_, by rw [HP.out]; rfl, by rw [HP.out]; exact made_none hb1⟩, (hb1.alloc hb1.size _).alloc (by have := hb1.size; simp; omega) _⟩
  | some t =>
    have C := Lib.hid (l1Parse_some hs hp)
    have hg := parse_got hp
    have HP := Lib.hid (atomsOf_some hp)
    have hsz := (size_le t hg.1).1
    have hb := hg.2.1
    have HA : Hid (∀ (W : World) (p : Option Addr) (n c : Nat) (B : Nat) (v : Value), FV nS W (fun k => k < B) t (nS t (.slice p n c)) → B ≤ W.heap.size → W.ownsRow B 9 1 v 0 [] → Calls Tryz.prog 123 #[.agg #[.string (bs (atomOf t)), .slice p n c], v] W fun e w' => AtPost B W.heap.size v (atoms t []) W e w') :=
      Lib.hid (fun W p n c B v h1 h2 h3 => l1Atoms_all (t.depth + 1) t _ B [] v W (by omega) hg.1 (by simp; omega) h1 h2 h3)
    clear hp hg hsz hb
    go_enter Tryz.func84, Tryz.ntmps84
    go_wp2_with (first | (go_at_call 86; go_must (refine (C.out _).mono ?_; rintro e w1 ⟨⟨p, n, c, rfl, hv⟩, hb1⟩; have CA := Lib.hid (fun o => HA.out ((w1.alloc o).alloc (.cells #[] 9)) p n c w1.heap.size (.slice (some ⟨w1.heap.size + 1, 0, none⟩) 0 0) (fv_twoA hv o _) (le_two w1 o _) (made_rowA w1 o)))) | (go_at_call 123; go_must (refine (CA.out _).mono ?_; rintro e w2 ⟨v2, rfl, ho2, hg2, hvv2⟩)))
    go_ret2
    have hs1 := hb1.size
    refine ⟨⟨_, by rw [HP.out]; rfl, by rw [HP.out]; exact owns_base ho2 hs1⟩, ?_⟩
    exact (((hb1.alloc hs1 _).alloc (by simp; omega) _).grown hg2 (by simp; omega) (fun q hq => by simp [Value.ownBlock] at hq; omega))
set_option maxHeartbeats 1000000 in
theorem implFormAtoms_c (s : ByteArray) (hs : s.size ≤ 1048576) (w : World) :
    Calls Tryz.prog 32 #[.string s] w fun e w' => PartsPost w.heap.size (atomsOf s.data.toList) e w' ∧ Below w.heap.size w w' := by
  cases hp : parse s.data.toList with
  | none =>
    have C := Lib.hid (readForm_none hs hp)
    have HP := Lib.hid (atomsOf_none hp)
    clear hp
    go_enter Tryz.func32, Tryz.ntmps32
    go_wp2_with (go_at_call 55; go_must (refine (C.out _).mono ?_; rintro e w1 ⟨rfl, hb1⟩))
    go_ret2
    exact ⟨⟨_, by rw [HP.out]; rfl, by rw [HP.out]; exact World.ownsRow_nil _ _ _ _⟩, hb1.alloc hb1.size _⟩
  | some t =>
    have C := Lib.hid (readForm_some hs hp)
    have hg := parse_got hp
    have HP := Lib.hid (atomsOf_some hp)
    have hsz := (size_le t hg.1).1
    have hb := hg.2.1
    obtain ⟨u, x1, x2, x3, hu, hx1, hx2, hx3, hn⟩ := nI_named t
    rw [← hu, ← hx1, ← hx2, ← hx3] at C
    have HA : Hid (∀ (W : World) (p : Option Addr) (n c : Nat) (B b : Nat), FV nI W (fun k => k < B) t (nI t (.slice p n c)) → B ≤ W.heap.size → B ≤ b → SetOf W b [] (.map []) → Calls Tryz.prog 63 #[.agg #[.string u, .slice p n c, .int .i64 x1, .int .i64 x2, .int .i64 x3], .slice none 0 0, .map (some b)] W fun e w' => AtPostI B W.heap.size b (.slice none 0 0) (atoms t []) W e w') :=
      Lib.hid (fun W p n c B b h1 h2 h3 h4 => by
        have := addAtoms_all (t.depth + 1) t p n c B b [] _ (.slice none 0 0) W (by omega) hg.1 (by omega) (by simp; omega) h1 h2 h3 h4 (World.ownsRow_nil _ _ _ _) (by simp [Value.ownBlock])
        rw [hn] at this
        exact this)
    have hmm := @run_makeMap Tryz.prog
    clear hp hg hsz hb hu hx1 hx2 hx3 hn
    go_enter Tryz.func32, Tryz.ntmps32
    go_wp2_with (first | (go_at_call 55; go_must (refine (C.out _).mono ?_; rintro e w1 ⟨⟨p, n, c, rfl, hv⟩, hb1⟩; have CA := Lib.hid (fun o => HA.out ((w1.alloc o).alloc (.map #[] 0)) p n c w1.heap.size (w1.heap.size + 1) (fv_twoA hv o _) (le_two w1 o _) (Nat.le_succ _) (by have := SetOf.made (w1.alloc o); simpa using this)))) | (go_at_call 63; go_must (refine (CA.out _).mono ?_; rintro e w2 ⟨v2, D2, rfl, ho2, hS2, hT2, hvv2⟩)))
    go_ret2
    have hs1 := hb1.size
    refine ⟨⟨_, by rw [HP.out]; rfl, by rw [HP.out]; exact owns_base ho2 hs1⟩, ?_⟩
    exact ((hb1.alloc hs1 _).alloc (by simp; omega) _).trans (hT2.toBelow (by simp; omega) (by omega) (fun q hq => by simp [Value.ownBlock] at hq))
end Go.Proofs.YtjncmmnbdabjnaaGreatDoor
