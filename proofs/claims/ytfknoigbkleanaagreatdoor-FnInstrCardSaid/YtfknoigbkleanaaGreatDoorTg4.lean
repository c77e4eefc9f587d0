/- The program tells target types. -/
import Derived.Test.YtfknoigbkleanaaGreatDoorTg1
import Derived.Test.YtfknoigbkleanaaGreatDoorI1z
import Derived.Test.YtfknoigbkleanaaGreatDoorTg2
import Derived.Deep.RegionWith
import Derived.Deep.QuietTactic
import Derived.BigQuiet
namespace Go.Proofs.YtfknoigbkleanaaGreatDoor
open Go.RowKit
set_option maxRecDepth 8000
set_option linter.unusedSimpArgs false
set_option linter.unusedVariables false
/-- The contract of isTargetWith at forms of a depth below n. -/
def ItwC (u : List UInt8 → Bool) (opn : Bool) (n : Nat) : Prop := ∀ (hid : Bool) (t : Tr) (p : Option Addr) (m c : Nat) (ok : Nat → Prop) (w : World), t.depth < n → t.wf → t.bytes ≤ 12000 → FV nI w ok t (nI t (.slice p m c)) → (∀ k, ok k → k < w.heap.size) →
    Calls Tryz.prog 192 #[.agg #[.string (bs (atomOf t)), .slice p m c, .int .i64 t.bytes, .int .i64 t.size, .int .i64 t.depth], .bool hid, .bool opn] w fun e w' => e = .returned (.bool (tgt u hid t)) ∧ Below w.heap.size w w'
set_option maxHeartbeats 1000000 in
theorem itw_fun (u : List UInt8 → Bool) (opn : Bool) (n : Nat) (ih : ItwC u opn n) (hid : Bool) (t : Tr) (p : Option Addr) (m c : Nat) (ok : Nat → Prop) (w : World) (hd : t.depth < n) (hwf : t.wf) (hbt : t.bytes ≤ 12000) (hv : FV nI w ok t (nI t (.slice p m c))) (hok : ∀ k, ok k → k < w.heap.size) (b1 b2 : Nat)
    (h1 : w.cell? ⟨b1, 0, none⟩ = some (.bool hid)) (h2 : w.cell? ⟨b2, 0, none⟩ = some (.bool opn)) (hl1 : b1 < w.heap.size) (hl2 : b2 < w.heap.size) :
    Calls Tryz.prog 206 #[.agg #[.string (bs (atomOf t)), .slice p m c, .int .i64 t.bytes, .int .i64 t.size, .int .i64 t.depth], .pointer (some ⟨b1, 0, none⟩), .pointer (some ⟨b2, 0, none⟩)] w fun e w' => e = .returned (.bool (!(tgt u hid t))) ∧ Below w.heap.size w w' := by
  have C : Hid (∀ W, Below w.heap.size w W → Calls Tryz.prog 192 #[.agg #[.string (bs (atomOf t)), .slice p m c, .int .i64 t.bytes, .int .i64 t.size, .int .i64 t.depth], .bool hid, .bool opn] W fun e w' => e = .returned (.bool (tgt u hid t)) ∧ Below W.heap.size W w') :=
    Lib.hid (fun W hW => ih hid t p m c ok W hd hwf hbt (hv.below hW hok) (fun j hj => Nat.lt_of_lt_of_le (hok j hj) hW.size))
  clear ih hv hok hd hwf hbt
  generalize bs (atomOf t) = A at *
  generalize tgt u hid t = R at *
  obtain ⟨n1, hn1⟩ : ∃ x : Int, x = t.bytes := ⟨_, rfl⟩
  obtain ⟨n2, hn2⟩ : ∃ x : Int, x = t.size := ⟨_, rfl⟩
  obtain ⟨n3, hn3⟩ : ∃ x : Int, x = t.depth := ⟨_, rfl⟩
  rw [← hn1, ← hn2, ← hn3] at C ⊢
  clear hn1 hn2 hn3
  go_enter Tryz.func206, Tryz.ntmps206
  go_wp2_with (go_at_call 192; go_must (refine (C.out _ (below1 _ _)).mono ?_; rintro e w1 ⟨rfl, hb1⟩))
  go_ret
  exact ⟨rfl, (below1 w _).trans (hb1.mono (by simp))⟩
/-- What IndexFunc tells of parts that are all target types, or not. -/
def IdxP (z : Bool) (e : Ending) : Prop := ∃ i : Int, e = .returned (.int .i64 i) ∧ (z = true → i = -1) ∧ (z = false → 0 ≤ i) ∧ i ≤ 9223372036854775807
set_option maxHeartbeats 2000000 in
theorem itw_index (u : List UInt8 → Bool) (opn : Bool) (n : Nat) (ih : ItwC u opn n) (hid : Bool) (ts : List Tr) (r off cap : Nat) (xs : List Value) (ok : Nat → Prop) (w : World) (hd : ∀ k (h : k < ts.length), ts[k].depth < n) (hwf : wfs ts) (hbt : ∀ k (h : k < ts.length), ts[k].bytes ≤ 12000) (hl : ts.length ≤ 12000)
    (hrlt : r < w.heap.size) (hcl : ts.length ≤ cap) (hc : cap ≤ maxLen) (h5 : hasRow w r off xs) (h6 : FVs nI w ok ts xs) (hok : ∀ k, ok k → k < w.heap.size) (b1 b2 : Nat)
    (h1 : w.cell? ⟨b1, 0, none⟩ = some (.bool hid)) (h2 : w.cell? ⟨b2, 0, none⟩ = some (.bool opn)) (hl1 : b1 < w.heap.size) (hl2 : b2 < w.heap.size) :
    Calls Tryz.prog 214 #[.slice (some ⟨r, off, none⟩) ts.length cap, .func (.func 206) #[] #[.pointer (some ⟨b1, 0, none⟩), .pointer (some ⟨b2, 0, none⟩)]] w fun e w' => IdxP (tgts u hid ts) e ∧ Below w.heap.size w w' := by
  have hc3 := maxLen_le hc
  have HC : Hid (∀ k (hk : k < ts.length) (W : World), Below w.heap.size w W → ∃ a p pn pc a2 a3 a4 R, R = tgt u hid ts[k] ∧ W.cell? ⟨r, off + k * 5, none⟩ = some (.string a) ∧ W.cell? ⟨r, off + k * 5 + 1, none⟩ = some (.slice p pn pc) ∧ W.cell? ⟨r, off + k * 5 + 2, none⟩ = some (.int .i64 a2) ∧ W.cell? ⟨r, off + k * 5 + 3, none⟩ = some (.int .i64 a3) ∧ W.cell? ⟨r, off + k * 5 + 4, none⟩ = some (.int .i64 a4) ∧
      Hid (∀ W, Below w.heap.size w W → Calls Tryz.prog 206 #[.agg #[.string a, .slice p pn pc, .int .i64 a2, .int .i64 a3, .int .i64 a4], .pointer (some ⟨b1, 0, none⟩), .pointer (some ⟨b2, 0, none⟩)] W fun e w' => e = .returned (.bool (!R)) ∧ Below W.heap.size W w')) := Lib.hid (fun k hk W hW => by
    obtain ⟨cs, g1, g2⟩ := FVs.get nI_len h6 h5 k hk
    obtain ⟨p, pn, pc, rfl⟩ := g1.node
    have e (j : Nat) (v : Value) (hj : (nI ts[k] (.slice p pn pc))[j]? = some v) : W.cell? ⟨r, off + k * 5 + j, none⟩ = some v := (hW.cell (p := ⟨r, off + k * 5 + j, none⟩) hrlt).trans (g2 j v hj)
    refine ⟨_, p, pn, pc, _, _, _, _, rfl, e 0 _ rfl, e 1 _ rfl, e 2 _ rfl, e 3 _ rfl, e 4 _ rfl, Lib.hid (fun W hW => ?_)⟩
    exact itw_fun u opn n ih hid ts[k] p pn pc ok W (hd k hk) (wf_get hwf hk) (hbt k hk) (g1.below hW hok) (fun j hj => Nat.lt_of_lt_of_le (hok j hj) hW.size) b1 b2 ((hW.cell (p := ⟨b1, 0, none⟩) hl1).trans h1) ((hW.cell (p := ⟨b2, 0, none⟩) hl2).trans h2) (Nat.lt_of_lt_of_le hl1 hW.size) (Nat.lt_of_lt_of_le hl2 hW.size))
  clear ih h5 h6 hwf hd hbt hok h1 h2
  obtain ⟨LL, hLL0⟩ : ∃ LL, ts.length = LL := ⟨_, rfl⟩
  have HLL := Lib.hid hLL0
  rw [hLL0] at hcl hl ⊢
  clear hLL0
  go_enter Tryz.func214, Tryz.ntmps214
  go_wp2_with fail
  go_loopw [8] (fun i wr => ∃ k : Nat, k ≤ LL ∧ i = .int .i64 k ∧ Hid (tgts u hid (ts.take k) = true) ∧ Below w.heap.size w wr) (fun i _ => LL - (intOf i).toNat)
  case atStart => exact ⟨0, Nat.zero_le _, rfl, Lib.hid (by simp [tgts]), Below.refl _ _⟩
  case round =>
    obtain ⟨k, hk, rfl, hT, hb⟩ := hrel
    by_cases hlt : k < LL
    · have hkt : k < ts.length := by have := HLL.out; omega
      obtain ⟨a, p, pn, pc, a2, a3, a4, R, hR, k0, k1, k2, k3, k4, C⟩ := HC.out k hkt wr hb
      have HR := Lib.hid hR
      have hk0 : (0 : Int) ≤ (k : Int) := by omega
      clear hR HC
      cases R with
      | false =>
        go_wp2_with (go_at_call 206; go_must (refine (C.out _ hb).mono ?_; rintro e w2 ⟨rfl, hb2⟩))
        go_ret
        exact ⟨⟨k, rfl, fun q => (by rw [tgts_bad hkt HR.out.symm] at q; cases q), fun _ => by omega, by omega⟩, hb.trans (hb2.mono hb.size)⟩
      | true =>
        go_wp2_with (go_at_call 206; go_must (refine (C.out _ hb).mono ?_; rintro e w2 ⟨rfl, hb2⟩))
        go_roundw
        case rel => exact ⟨k + 1, by omega, by go_num, Lib.hid (by rw [tgts_take hkt hT.out]; exact HR.out.symm), hb.trans (hb2.mono hb.size)⟩
        case measure => simp [intOf]; omega
    · have hkt : k = ts.length := by have := HLL.out; omega
      have HF : Hid (tgts u hid ts = true) := Lib.hid (by have := hT.out; rw [hkt, List.take_length] at this; exact this)
      clear hkt hT HC
      go_wp2_with fail
      go_ret
      exact ⟨⟨-1, rfl, fun _ => rfl, fun q => (by rw [HF.out] at q; cases q), by omega⟩, hb⟩
theorem itw_contains (z : Bool) (v : Value) (f : Value) (w : World) (h : Calls Tryz.prog 214 #[v, f] w fun e w' => IdxP z e ∧ Below w.heap.size w w') :
    Calls Tryz.prog 205 #[v, f] w fun e w' => e = .returned (.bool (!z)) ∧ Below w.heap.size w w' := by
  have C := Lib.hid h
  clear h
  cases z with
  | true =>
    go_enter Tryz.func205, Tryz.ntmps205
    go_wp2_with (go_at_call 214; go_must (refine (C.out).mono ?_; rintro e w1 ⟨⟨i, rfl, h1, -, -⟩, hb1⟩; have := h1 rfl; subst this))
    go_ret
    exact ⟨rfl, hb1⟩
  | false =>
    go_enter Tryz.func205, Tryz.ntmps205
    go_wp2_with (go_at_call 214; go_must (refine (C.out).mono ?_; rintro e w1 ⟨⟨i, rfl, -, h1, h2⟩, hb1⟩; have h3 := h1 rfl; clear h1))
    go_ret
    exact ⟨ret_bool (by simp), hb1⟩
set_option maxHeartbeats 1000000 in
theorem itw_atom (u : List UInt8 → Bool) (hid opn : Bool) (hU : UnkC 204 opn u) (a : List UInt8) (hal : a.length ≤ 12000) (b z d : Int) (w : World) :
    Calls Tryz.prog 192 #[.agg #[.string (bs a), .slice none 0 0, .int .i64 b, .int .i64 z, .int .i64 d], .bool hid, .bool opn] w fun e w' => e = .returned (.bool (tgt u hid (.atom a))) ∧ Below w.heap.size w w' := by
  have HT := Lib.hid (tgt_atom u hid a)
  have x1 : ((bs a).toList == [105]) = (a == [105]) := by rw [bs_toList]
  have x2 : ((bs a).toList == [118]) = (a == [118]) := by rw [bs_toList]
  have hp := fun h => hU.2 h a
  have hn := fun h => hU.1 h a
  clear hU
  cases h1 : (a == [105]) <;> cases h2 : (a == [118]) <;> cases hid <;> cases opn
  all_goals
    rw [h1] at x1
    rw [h1, h2] at HT
    rw [h2] at x2
    have HN := Lib.hid hn
    have C := Lib.hid (fun h W => hp h W hal)
    clear hn hp h1 h2
    generalize bs a = A at *
    go_enter Tryz.func192, Tryz.ntmps192
    go_wp2_with (first | (go_at_call 73; go_must (refine (isAtom_yes _ _ _ _ _ _ _).mono ?_; rintro e w1 ⟨rfl, hb1⟩; have c1 := below_blk hb1 (by simp; try omega) (three_blocks _ _ _ _).1; have c2 := below_blk hb1 (by simp; try omega) (three_blocks _ _ _ _).2.1; have c3 := below_blk hb1 (by simp; try omega) (three_blocks _ _ _ _).2.2; have d0 := cell_of (j := 0) c1; have d1 := cell_of (j := 0) c2; have d2 := cell_of (j := 0) c3; have hw1 := (below3 w _ _ _).trans (hb1.mono (by simp; try omega)))) | (go_at_call 204; go_must (refine (C.out (by first | rfl | trivial) _).mono ?_; rintro e w2 ⟨rfl, hb2⟩)))
    go_ret
    first
      | (refine ⟨ret_bool ?_, hw1.trans (hb2.mono hw1.size)⟩; rw [HT.out]; simp; done)
      | (refine ⟨ret_bool ?_, hw1⟩; rw [HT.out]; simp; done)
      | (have hz := HN.out (by first | rfl | trivial); refine ⟨ret_bool ?_, hw1⟩; rw [HT.out, hz]; simp; done)
theorem row_restT {w : World} {ok : Nat → Prop} {h : Tr} {ps : List Tr} {xs : List Value} {r off : Nat} (h6 : FVs nI w ok (h :: ps) xs) (h5 : hasRow w r off xs) :
    ∃ ys, FVs nI w ok ps ys ∧ hasRow w r (off + 5) ys ∧ w.cell? ⟨r, off, none⟩ = some (.string (bs (atomOf h))) := by
  obtain ⟨cs, g1, g2⟩ := FVs.get nI_len h6 h5 0 (by simp)
  simp only [FVs] at h6
  obtain ⟨a, b, rfl, k2, k3⟩ := h6
  have hla : a.length = 5 := by obtain ⟨p, n, c, rfl⟩ := k2.node; rfl
  refine ⟨b, k3, fun j v hj => ?_, ?_⟩
  · have := h5 (5 + j) v (by rw [List.getElem?_append_right (by omega)]; rw [hla]; simpa using hj)
    rw [show off + 5 + j = off + (5 + j) from by omega]; exact this
  · obtain ⟨p, n, c, rfl⟩ := g1.node
    have := g2 0 _ rfl
    simpa using this
set_option maxHeartbeats 4000000 in
theorem itw_tc (u : List UInt8 → Bool) (opn : Bool) (n : Nat) (ih : ItwC u opn n) (hid : Bool) (h : Tr) (ts : List Tr) (r off cap : Nat) (ys : List Value) (ok : Nat → Prop) (b z d : Int) (w : World) (hTC : atomOf h = [116] ∨ atomOf h = [99]) (hdt : ∀ k (hk : k < ts.length), ts[k].depth < n) (hwf : wfs (h :: ts)) (hbk : ∀ k (hk : k < ts.length), ts[k].bytes ≤ 12000) (hlb : ts.length ≤ 12000)
    (hrlt : r < w.heap.size) (hcl1 : ts.length + 1 ≤ cap) (hc : cap ≤ maxLen) (hc3 : cap ≤ 9223372036854775807) (h5' : hasRow w r (off + 5) ys) (h6' : FVs nI w ok ts ys) (e0 : w.cell? ⟨r, off, none⟩ = some (.string (bs (atomOf h)))) (hok : ∀ k, ok k → k < w.heap.size) (hcap : ¬ cap = 1) :
    Calls Tryz.prog 192 #[.agg #[.string (bs []), .slice (some ⟨r, off, none⟩) (ts.length + 1) cap, .int .i64 b, .int .i64 z, .int .i64 d], .bool hid, .bool opn] w fun e w' => e = .returned (.bool (tgt u hid (.list (h :: ts)))) ∧ Below w.heap.size w w' := by
    have HT := Lib.hid (tgt_tc (u := u) (hid := hid) (ts := ts) hTC)
    have s23 : (((bs (atomOf h)).toList == [116]) = true) ∨ (((bs (atomOf h)).toList == [116]) = false ∧ ((bs (atomOf h)).toList == [99]) = true) := by
      rw [bs_toList]
      rcases hTC with e | e
      · left; rw [e]; rfl
      · right; rw [e]; exact ⟨rfl, rfl⟩
    have HCf : Hid (∀ W, Below w.heap.size w W → ∀ b1 b2, W.cell? ⟨b1, 0, none⟩ = some (.bool hid) → W.cell? ⟨b2, 0, none⟩ = some (.bool opn) → b1 < W.heap.size → b2 < W.heap.size → Calls Tryz.prog 205 #[.slice (some ⟨r, off + 5, none⟩) ts.length (cap - 1), .func (.func 206) #[] #[.pointer (some ⟨b1, 0, none⟩), .pointer (some ⟨b2, 0, none⟩)]] W fun e w' => e = .returned (.bool (!(tgts u hid ts))) ∧ Below W.heap.size W w') :=
      Lib.hid (fun W hW b1 b2 j1 j2 j3 j4 => itw_contains _ _ _ W (itw_index u opn n ih hid ts r (off + 5) (cap - 1) ys ok W hdt hwf.2 hbk hlb (Nat.lt_of_lt_of_le hrlt hW.size) (by omega) (by omega) (h5'.move (hW.block r hrlt)) (h6'.below hW hok) (fun j hj => Nat.lt_of_lt_of_le (hok j hj) hW.size) b1 b2 j1 j2 j3 j4))
    clear ih h5' h6' hwf hok hdt hbk hTC
    generalize bs (atomOf h) = A at *
    generalize tgts u hid ts = R at *
    rcases s23 with s2 | ⟨s2, s3⟩
    all_goals
      go_enter Tryz.func192, Tryz.ntmps192
      go_wp2_with (first | (go_at_call 73; go_must (refine (isAtom_no _ _ _ _ (by simp) _ _ _ _).mono ?_; rintro e w1 ⟨rfl, hb1⟩; have c1 := below_blk hb1 (by simp; try omega) (three_blocks _ _ _ _).1; have c2 := below_blk hb1 (by simp; try omega) (three_blocks _ _ _ _).2.1; have c3 := below_blk hb1 (by simp; try omega) (three_blocks _ _ _ _).2.2; have d0 := cell_of (j := 0) c1; have d1 := cell_of (j := 1) c1; have d2 := cell_of (j := 0) c2; have d3 := cell_of (j := 0) c3; have hw1 := (below3 w _ _ _).trans (hb1.mono (by simp; try omega)); have hsz2 := hb1.size; have g0 := (hw1.cell (p := ⟨r, off, none⟩) hrlt).trans e0)) | (go_at_call 205; go_must (refine (HCf.out _ hw1 _ _ d2 d3 (by simp at hsz2; omega) (by simp at hsz2; omega)).mono ?_; rintro e w2 ⟨rfl, hb2⟩)))
      go_ret
      exact ⟨ret_bool (by first | (rw [HT.out]; done) | (rw [HT.out]; simp; done)), hw1.trans (hb2.mono hw1.size)⟩
set_option maxHeartbeats 4000000 in
theorem itw_list (u : List UInt8 → Bool) (opn : Bool) (n : Nat) (ih : ItwC u opn n) (hid : Bool) (h : Tr) (ts : List Tr) (r off cap : Nat) (xs : List Value) (ok : Nat → Prop) (b z d : Int) (w : World) (hd : (Tr.list (h :: ts)).depth < n + 1) (hwf : wfs (h :: ts)) (hbt : (Tr.list (h :: ts)).bytes ≤ 12000)
    (hrlt : r < w.heap.size) (hcl : (h :: ts).length ≤ cap) (hc : cap ≤ maxLen) (h5 : hasRow w r off xs) (h6 : FVs nI w ok (h :: ts) xs) (hok : ∀ k, ok k → k < w.heap.size) (hcap : ¬ cap = 1) :
    Calls Tryz.prog 192 #[.agg #[.string (bs []), .slice (some ⟨r, off, none⟩) (ts.length + 1) cap, .int .i64 b, .int .i64 z, .int .i64 d], .bool hid, .bool opn] w fun e w' => e = .returned (.bool (tgt u hid (.list (h :: ts)))) ∧ Below w.heap.size w w' := by
  have hc3 := maxLen_le hc
  have hlb : ts.length ≤ 12000 := by have := length_le_bytess (h :: ts); simp only [Tr.bytes, List.length_cons] at *; omega
  have hcl1 : ts.length + 1 ≤ cap := by simpa using hcl
  obtain ⟨ys, h6', h5', e0⟩ := row_restT h6 h5
  have hdt : ∀ k (hk : k < ts.length), ts[k].depth < n := fun k hk => by
    have := depth_lt (ts := h :: ts) (i := k + 1) (by simp; omega)
    rw [show (h :: ts)[k + 1]'(by simp; omega) = ts[k] from rfl] at this; omega
  have hbk : ∀ k (hk : k < ts.length), ts[k].bytes ≤ 12000 := fun k hk => by
    have := bytes_lt (ts := h :: ts) (i := k + 1) (by simp; omega)
    rw [show (h :: ts)[k + 1]'(by simp; omega) = ts[k] from rfl] at this; omega
  by_cases hE : atomOf h = [101]
  · have s1 : ((bs (atomOf h)).toList == [116]) = false := by rw [bs_toList, hE]; rfl
    have s2 : ((bs (atomOf h)).toList == [99]) = false := by rw [bs_toList, hE]; rfl
    have s3 : ((bs (atomOf h)).toList == [101]) = true := by rw [bs_toList, hE]; rfl
    have HT := Lib.hid (tgt_e (u := u) (hid := hid) (ts := ts) hE)
    by_cases h1 : ts.length = 1
    · have hx : ∃ x, ts = [x] := by match ts, h1 with | [x], _ => exact ⟨x, rfl⟩
      obtain ⟨x, rfl⟩ := hx
      obtain ⟨cs, g1, g2⟩ := FVs.get nI_len h6' h5' 0 (by simp)
      obtain ⟨p, pn, pc, rfl⟩ := g1.node
      have k0 : w.cell? ⟨r, off + 5, none⟩ = some (.string (bs (atomOf x))) := g2 0 _ rfl
      have k1 : w.cell? ⟨r, off + 5 + 1, none⟩ = some (.slice p pn pc) := g2 1 _ rfl
      have k2 : w.cell? ⟨r, off + 5 + 2, none⟩ = some (.int .i64 x.bytes) := g2 2 _ rfl
      have k3 : w.cell? ⟨r, off + 5 + 3, none⟩ = some (.int .i64 x.size) := g2 3 _ rfl
      have k4 : w.cell? ⟨r, off + 5 + 4, none⟩ = some (.int .i64 x.depth) := g2 4 _ rfl
      have C : Hid (∀ W, Below w.heap.size w W → Calls Tryz.prog 192 #[.agg #[.string (bs (atomOf x)), .slice p pn pc, .int .i64 x.bytes, .int .i64 x.size, .int .i64 x.depth], .bool true, .bool opn] W fun e w' => e = .returned (.bool (tgt u true x)) ∧ Below W.heap.size W w') :=
        Lib.hid (fun W hW => ih true x p pn pc ok W (hdt 0 (by simp)) hwf.2.1 (hbk 0 (by simp)) (g1.below hW hok) (fun j hj => Nat.lt_of_lt_of_le (hok j hj) hW.size))
      rw [tgtE_one] at HT
      generalize bs (atomOf h) = A at *
      generalize tgt u true x = R at *
      generalize bs (atomOf x) = AX at *
      obtain ⟨n1, hn1⟩ : ∃ y : Int, y = x.bytes := ⟨_, rfl⟩
      obtain ⟨n2, hn2⟩ : ∃ y : Int, y = x.size := ⟨_, rfl⟩
      obtain ⟨n3, hn3⟩ : ∃ y : Int, y = x.depth := ⟨_, rfl⟩
      rw [← hn1] at C k2
      rw [← hn2] at C k3
      rw [← hn3] at C k4
      clear ih h5 h6 h5' h6' g1 g2 hwf hd hbt hE hok hdt hbk hn1 hn2 hn3 h1
      have x1 : ((1 : Int) == 1) = true := rfl
      go_enter Tryz.func192, Tryz.ntmps192
      go_wp2_with (go_at_call 73; go_must (refine (isAtom_no _ _ _ _ (by simp) _ _ _ _).mono ?_; rintro e w1 ⟨rfl, hb1⟩; have c1 := below_blk hb1 (by simp; try omega) (three_blocks _ _ _ _).1; have c2 := below_blk hb1 (by simp; try omega) (three_blocks _ _ _ _).2.1; have c3 := below_blk hb1 (by simp; try omega) (three_blocks _ _ _ _).2.2; have d0 := cell_of (j := 0) c1; have d1 := cell_of (j := 1) c1; have d2 := cell_of (j := 0) c2; have d3 := cell_of (j := 0) c3; have hw1 := (below3 w _ _ _).trans (hb1.mono (by simp; try omega)); have hsz2 := hb1.size; have g0 := (hw1.cell (p := ⟨r, off, none⟩) hrlt).trans e0; have g1 := (hw1.cell (p := ⟨r, off + 5, none⟩) hrlt).trans k0; have g2 := (hw1.cell (p := ⟨r, off + 5 + 1, none⟩) hrlt).trans k1; have g3 := (hw1.cell (p := ⟨r, off + 5 + 2, none⟩) hrlt).trans k2; have g4 := (hw1.cell (p := ⟨r, off + 5 + 3, none⟩) hrlt).trans k3; have g5 := (hw1.cell (p := ⟨r, off + 5 + 4, none⟩) hrlt).trans k4))
      first | (go_region_with (first | (go_at_call 192; ((with_reducible refine (C.out _ ?_).mono ?_); (· first | exact hw1.drew | exact hw1 | assumption); rintro e w2 ⟨rfl, hb2⟩)) | fail)) | fail
      all_goals
        go_wp2_with fail
        go_ret
        first
          | exact ⟨ret_bool HT.out.symm, hw1.drew.trans (hb2.mono hw1.size)⟩
          | exact ⟨ret_bool HT.out.symm, hw1.trans (hb2.mono hw1.size)⟩
          | exact ⟨ret_bool HT.out.symm, (hw1.trans (hb2.mono hw1.size)).drew⟩
    · rw [tgtE_no u ts h1] at HT
      have hl2 : ((ts.length : Int) == 1) = false := by simp; omega
      have hl3 : ¬ (ts.length : Int) = 1 := by omega
      clear ih h5 h6 h5' h6' hwf hd hbt hE hok hdt hbk
      generalize bs (atomOf h) = A at *
      generalize ts.length = LL at *
      go_enter Tryz.func192, Tryz.ntmps192
      go_wp2_with (go_at_call 73; go_must (refine (isAtom_no _ _ _ _ (by simp) _ _ _ _).mono ?_; rintro e w1 ⟨rfl, hb1⟩; have c1 := below_blk hb1 (by simp; try omega) (three_blocks _ _ _ _).1; have c2 := below_blk hb1 (by simp; try omega) (three_blocks _ _ _ _).2.1; have c3 := below_blk hb1 (by simp; try omega) (three_blocks _ _ _ _).2.2; have d0 := cell_of (j := 0) c1; have d1 := cell_of (j := 1) c1; have d2 := cell_of (j := 0) c2; have d3 := cell_of (j := 0) c3; have hw1 := (below3 w _ _ _).trans (hb1.mono (by simp; try omega)); have hsz2 := hb1.size; have g0 := (hw1.cell (p := ⟨r, off, none⟩) hrlt).trans e0))
      first | (go_region_with fail) | fail
      all_goals
        go_wp2_with fail
        go_ret
        first
          | exact ⟨ret_bool HT.out.symm, hw1.drew⟩
          | exact ⟨ret_bool HT.out.symm, hw1⟩
  · by_cases hTC : atomOf h = [116] ∨ atomOf h = [99]
    · exact itw_tc u opn n ih hid h ts r off cap ys ok b z d w hTC hdt hwf hbk hlb hrlt hcl1 hc hc3 h5' h6' e0 hok hcap
    · have HT := Lib.hid (tgt_bad (u := u) (hid := hid) (ts := ts) hE hTC)
      have s1 : ((bs (atomOf h)).toList == [101]) = false := by rw [bs_toList]; simpa using hE
      have s2 : ((bs (atomOf h)).toList == [116]) = false := by rw [bs_toList]; simpa using fun e => hTC (.inl e)
      have s3 : ((bs (atomOf h)).toList == [99]) = false := by rw [bs_toList]; simpa using fun e => hTC (.inr e)
      clear ih h5 h6 h5' h6' hwf hd hbt hE hok hdt hbk hTC
      generalize bs (atomOf h) = A at *
      generalize ts.length = LL at *
      go_enter Tryz.func192, Tryz.ntmps192
      go_wp2_with (go_at_call 73; go_must (refine (isAtom_no _ _ _ _ (by simp) _ _ _ _).mono ?_; rintro e w1 ⟨rfl, hb1⟩; have c1 := below_blk hb1 (by simp; try omega) (three_blocks _ _ _ _).1; have c2 := below_blk hb1 (by simp; try omega) (three_blocks _ _ _ _).2.1; have c3 := below_blk hb1 (by simp; try omega) (three_blocks _ _ _ _).2.2; have d0 := cell_of (j := 0) c1; have d1 := cell_of (j := 1) c1; have d2 := cell_of (j := 0) c2; have d3 := cell_of (j := 0) c3; have hw1 := (below3 w _ _ _).trans (hb1.mono (by simp; try omega)); have hsz2 := hb1.size; have g0 := (hw1.cell (p := ⟨r, off, none⟩) hrlt).trans e0))
      go_ret
      exact ⟨ret_bool HT.out.symm, hw1⟩
end Go.Proofs.YtfknoigbkleanaaGreatDoor
