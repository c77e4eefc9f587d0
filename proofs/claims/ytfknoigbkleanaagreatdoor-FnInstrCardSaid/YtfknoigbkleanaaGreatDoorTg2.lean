/- The reference model tells target types. -/
import Derived.Test.YtfknoigbkleanaaGreatDoorTg1
import Derived.Test.YtfknoigbkleanaaGreatDoorS1z
import Derived.Test.YtfknoigbkleanaaGreatDoorNumS
namespace Go.Proofs.YtfknoigbkleanaaGreatDoor
open Go.RowKit
set_option maxRecDepth 8000
set_option linter.unusedSimpArgs false
set_option linter.unusedVariables false
/-- What is known of unknown types: none, or those that a function of the program tells. -/
def UnkC (F : FuncId) (opn : Bool) (u : List UInt8 → Bool) : Prop := (opn = false → ∀ a, u a = false) ∧ (opn = true → ∀ (a : List UInt8) (W : World), a.length ≤ 12000 → Calls Tryz.prog F #[.string (bs a)] W fun e w' => e = .returned (.bool (u a)) ∧ Below W.heap.size W w')
theorem unkC_no (F : FuncId) : UnkC F false noU := ⟨fun _ _ => rfl, fun h => by cases h⟩
set_option maxHeartbeats 1000000 in
theorem l6tType_atom (u : List UInt8 → Bool) (hid opn : Bool) (hU : UnkC 193 opn u) (a : List UInt8) (ha0 : a ≠ []) (hal : a.length ≤ 12000) (v : Value) (w : World) :
    Calls Tryz.prog 171 #[.agg #[.string (bs a), .slice none 0 0], .bool hid, .bool opn] w fun e w' => e = .returned (.bool (tgt u hid (.atom a))) ∧ Below w.heap.size w w' := by
  have ha := atomne ha0
  have HT := Lib.hid (tgt_atom u hid a)
  have x1 : ((bs a).toList == [105]) = (a == [105]) := by rw [bs_toList]
  have x2 : ((bs a).toList == [118]) = (a == [118]) := by rw [bs_toList]
  cases h1 : (a == [105]) with
  | true =>
    rw [h1] at x1
    rw [h1] at HT
    clear x2
    generalize bs a = A at *
    go_enter Tryz.func171, Tryz.ntmps171
    go_wp2_with fail
    go_ret
    exact ⟨ret_bool (by rw [HT.out]; simp), below1 _ _⟩
  | false =>
    rw [h1] at x1
    rw [h1] at HT
    cases hid with
    | true =>
      cases h2 : (a == [118]) with
      | true =>
        rw [h2] at x2
        rw [h2] at HT
        generalize bs a = A at *
        go_enter Tryz.func171, Tryz.ntmps171
        go_wp2_with fail
        go_ret
        exact ⟨ret_bool (by rw [HT.out]; simp), below1 _ _⟩
      | false =>
        rw [h2] at x2
        rw [h2] at HT
        cases opn with
        | true =>
          have C := Lib.hid (fun W => hU.2 rfl a W hal)
          clear hU
          generalize bs a = A at *
          go_enter Tryz.func171, Tryz.ntmps171
          go_wp2_with (go_at_call 193; go_must (refine (C.out _).mono ?_; rintro e w1 ⟨rfl, hb1⟩))
          go_ret
          exact ⟨ret_bool (by rw [HT.out]; simp), (below1 w _).trans (hb1.mono (by simp))⟩
        | false =>
          have HN := Lib.hid (hU.1 rfl a)
          clear hU
          generalize bs a = A at *
          go_enter Tryz.func171, Tryz.ntmps171
          go_wp2_with fail
          go_ret
          exact ⟨ret_bool (by rw [HT.out, HN.out]; simp), below1 _ _⟩
    | false =>
      cases opn with
      | true =>
        have C := Lib.hid (fun W => hU.2 rfl a W hal)
        clear hU
        generalize bs a = A at *
        go_enter Tryz.func171, Tryz.ntmps171
        go_wp2_with (go_at_call 193; go_must (refine (C.out _).mono ?_; rintro e w1 ⟨rfl, hb1⟩))
        go_ret
        exact ⟨ret_bool (by rw [HT.out]; simp), (below1 w _).trans (hb1.mono (by simp))⟩
      | false =>
        have HN := Lib.hid (hU.1 rfl a)
        clear hU
        generalize bs a = A at *
        go_enter Tryz.func171, Tryz.ntmps171
        go_wp2_with fail
        go_ret
        exact ⟨ret_bool (by rw [HT.out, HN.out]; simp), below1 _ _⟩
/-- The contract of l6tType at forms of a depth below n. -/
def L6tC (u : List UInt8 → Bool) (opn : Bool) (n : Nat) : Prop := ∀ (hid : Bool) (t : Tr) (cs : List Value) (ok : Nat → Prop) (w : World), t.depth < n → t.wf → t.bytes ≤ 12000 → FV nS w ok t cs → (∀ k, ok k → k < w.heap.size) →
    Calls Tryz.prog 171 #[.agg cs.toArray, .bool hid, .bool opn] w fun e w' => e = .returned (.bool (tgt u hid t)) ∧ Below w.heap.size w w'
set_option maxHeartbeats 2000000 in
theorem l6tType_list (u : List UInt8 → Bool) (opn : Bool) (n : Nat) (ih : L6tC u opn n) (hid : Bool) (h : Tr) (ts : List Tr) (r off cap : Nat) (xs : List Value) (ok : Nat → Prop) (w : World) (hd : (Tr.list (h :: ts)).depth < n + 1) (hwf : wfs (h :: ts)) (hbt : (Tr.list (h :: ts)).bytes ≤ 12000)
    (hrlt : r < w.heap.size) (hcl : (h :: ts).length ≤ cap) (hc : cap ≤ maxLen) (h5 : hasRow w r off xs) (h6 : FVs nS w ok (h :: ts) xs) (hok : ∀ k, ok k → k < w.heap.size) :
    Calls Tryz.prog 171 #[.agg #[.string (bs []), .slice (some ⟨r, off, none⟩) (h :: ts).length cap], .bool hid, .bool opn] w fun e w' => e = .returned (.bool (tgt u hid (.list (h :: ts)))) ∧ Below w.heap.size w w' := by
  have ha := emptyne
  have hc3 := maxLen_le hc
  have hlb : ts.length ≤ 12000 := by have := length_le_bytess (h :: ts); simp only [Tr.bytes, List.length_cons] at *; omega
  have e0 : w.cell? ⟨r, off, none⟩ = some (.string (bs (atomOf h))) := by
    obtain ⟨cs, g1, g2⟩ := FVs.get nS_len h6 h5 0 (by simp)
    obtain ⟨p, pn, pc, rfl⟩ := g1.node
    have := g2 0 _ rfl
    simpa using this
  have HL : Hid ((h :: ts).length = ts.length + 1) := Lib.hid rfl
  by_cases hE : atomOf h = [101]
  · have s1 : ((bs (atomOf h)).toList == [101]) = true := by rw [bs_toList, hE]; rfl
    have HT := Lib.hid (tgt_e (u := u) (hid := hid) (ts := ts) hE)
    by_cases h1 : ts.length = 1
    · have hx : ∃ x, ts = [x] := by match ts, h1 with | [x], _ => exact ⟨x, rfl⟩
      obtain ⟨x, rfl⟩ := hx
      obtain ⟨cs, g1, g2⟩ := FVs.get nS_len h6 h5 1 (by simp)
      obtain ⟨p, pn, pc, rfl⟩ := g1.node
      have k0 : w.cell? ⟨r, off + 2, none⟩ = some (.string (bs (atomOf x))) := g2 0 _ rfl
      have k1 : w.cell? ⟨r, off + 2 + 1, none⟩ = some (.slice p pn pc) := g2 1 _ rfl
      have hdx : x.depth < n := by simp only [Tr.depth, depths] at hd; omega
      have hbx : x.bytes ≤ 12000 := by simp only [Tr.bytes, bytess] at hbt; omega
      have hwx : x.wf := hwf.2.1
      have C : Hid (∀ W, Below w.heap.size w W → Calls Tryz.prog 171 #[.agg #[.string (bs (atomOf x)), .slice p pn pc], .bool true, .bool opn] W fun e w' => e = .returned (.bool (tgt u true x)) ∧ Below W.heap.size W w') :=
        Lib.hid (fun W hW => ih true x (nS x (.slice p pn pc)) ok W hdx hwx hbx (g1.below hW hok) (fun j hj => Nat.lt_of_lt_of_le (hok j hj) hW.size))
      rw [tgtE_one] at HT
      clear ih h5 h6 g1 g2 hwf hd hbt hE hok
      generalize bs (atomOf h) = A at *
      generalize tgt u true x = R at *
      go_enter Tryz.func171, Tryz.ntmps171
      go_wp2_with (go_at_call 171; go_must (refine (C.out _ (below1 _ _)).mono ?_; rintro e w1 ⟨rfl, hb1⟩))
      go_ret
      exact ⟨ret_bool (by rw [HT.out]), (below1 w _).trans (hb1.mono (by simp))⟩
    · have hl' : (((ts.length : Int) + 1) == 2) = false := by simp; omega
      have hl2 : (((h :: ts).length : Int) == 2) = false := by simp; omega
      rw [tgtE_no u ts h1] at HT
      have hLpos : 0 < (h :: ts).length := by simp
      clear ih h5 h6 hwf hd hbt hE hok
      generalize (h :: ts).length = LL at *
      generalize bs (atomOf h) = A at *
      go_enter Tryz.func171, Tryz.ntmps171
      go_wp2_with fail
      go_ret
      exact ⟨ret_bool (by rw [HT.out]), below1 _ _⟩
  · have s1 : ((bs (atomOf h)).toList == [101]) = false := by rw [bs_toList]; simpa using hE
    by_cases hTC : atomOf h = [116] ∨ atomOf h = [99]
    · have HT := Lib.hid (tgt_tc (u := u) (hid := hid) (ts := ts) hTC)
      have s23 : (((bs (atomOf h)).toList == [116]) = true) ∨ (((bs (atomOf h)).toList == [116]) = false ∧ ((bs (atomOf h)).toList == [99]) = true) := by
        rw [bs_toList]
        rcases hTC with e | e
        · left; rw [e]; rfl
        · right; rw [e]; exact ⟨rfl, rfl⟩
      have HC : Hid (∀ k (hk : k < ts.length) (W : World), Below w.heap.size w W → ∃ a p pn pc R, R = tgt u hid ts[k] ∧ W.cell? ⟨r, off + (k + 1) * 2, none⟩ = some (.string a) ∧ W.cell? ⟨r, off + (k + 1) * 2 + 1, none⟩ = some (.slice p pn pc) ∧ Hid (∀ W, Below w.heap.size w W → Calls Tryz.prog 171 #[.agg #[.string a, .slice p pn pc], .bool hid, .bool opn] W fun e w' => e = .returned (.bool R) ∧ Below W.heap.size W w')) := Lib.hid (fun k hk W hW => by
        obtain ⟨cs, g1, g2⟩ := FVs.get nS_len h6 h5 (k + 1) (by simp; omega)
        obtain ⟨p, pn, pc, rfl⟩ := g1.node
        rw [show (h :: ts)[k + 1]'(by simp; omega) = ts[k] from rfl] at g1 g2
        have e (j : Nat) (v : Value) (hj : (nS ts[k] (.slice p pn pc))[j]? = some v) : W.cell? ⟨r, off + (k + 1) * 2 + j, none⟩ = some v := (hW.cell (p := ⟨r, off + (k + 1) * 2 + j, none⟩) hrlt).trans (g2 j v hj)
        have hdk := depth_lt (ts := h :: ts) (i := k + 1) (by simp; omega)
        have hbk := bytes_lt (ts := h :: ts) (i := k + 1) (by simp; omega)
        rw [show (h :: ts)[k + 1]'(by simp; omega) = ts[k] from rfl] at hdk hbk
        refine ⟨_, p, pn, pc, _, rfl, e 0 _ rfl, e 1 _ rfl, Lib.hid (fun W hW => ?_)⟩
        exact ih hid ts[k] (nS ts[k] (.slice p pn pc)) ok W (by omega) (wf_get (ts := h :: ts) hwf (i := k + 1) (by simp; omega)) (by omega) (g1.below hW hok) (fun j hj => Nat.lt_of_lt_of_le (hok j hj) hW.size))
      clear ih h5 h6 hwf hd hbt hE hTC hok
      have hLL : ((h :: ts).length : Int) = (ts.length : Int) + 1 := by simp
      obtain ⟨LL, hLL0⟩ : ∃ LL, (h :: ts).length = LL := ⟨_, rfl⟩
      have HLL : Hid (LL = ts.length + 1) := Lib.hid (by rw [← hLL0]; rfl)
      rw [hLL0] at hcl ⊢
      clear hLL hLL0 HL
      have hLpos : 0 < LL := by rw [HLL.out]; omega
      have hLmax : LL ≤ 12001 := by rw [HLL.out]; omega
      obtain ⟨A, hA⟩ : ∃ A, bs (atomOf h) = A := ⟨_, rfl⟩
      rw [hA] at e0 s1 s23
      clear hA
      rcases s23 with s2 | ⟨s2, s3⟩
      all_goals
        go_enter Tryz.func171, Tryz.ntmps171
        go_wp2_with fail
        go_loopw [8] (fun i wr => ∃ k : Nat, k + 1 ≤ LL ∧ i = .int .i64 ((k : Int) + 1) ∧ Hid (tgts u hid (ts.take k) = true) ∧ Below (w.heap.size + 1) (w.alloc (.cells #[.string (bs []), .slice (some ⟨r, off, none⟩) LL cap] 62)) wr) (fun i _ => LL - (intOf i).toNat)
        case atStart => exact ⟨0, by omega, rfl, Lib.hid (by simp [tgts]), Below.refl _ _⟩
        case round =>
          obtain ⟨k, hk, rfl, hT, hb⟩ := hrel
          have c0 : wr.cell? ⟨w.heap.size, 1, none⟩ = some (.slice (some ⟨r, off, none⟩) LL cap) := by
            rw [hb.cell (p := ⟨w.heap.size, 1, none⟩) (by simp)]; simp
          have hbw : Below w.heap.size w wr := (below1 w _).trans (hb.mono (by omega))
          by_cases hlt : k + 1 < LL
          · have hkt : k < ts.length := by have := HLL.out; omega
            obtain ⟨a, p, pn, pc, R, hR, k0, k1, C⟩ := HC.out k hkt wr hbw
            have HR := Lib.hid hR
            clear hR
            cases R with
            | false =>
              go_wp2_with (go_at_call 171; go_must (refine (C.out _ hbw).mono ?_; rintro e w2 ⟨rfl, hb2⟩))
              go_ret
              exact ⟨ret_bool (by rw [HT.out, tgts_bad hkt HR.out.symm]), hbw.trans (hb2.mono hbw.size)⟩
            | true =>
              go_wp2_with (go_at_call 171; go_must (refine (C.out _ hbw).mono ?_; rintro e w2 ⟨rfl, hb2⟩))
              go_roundw
              case rel => exact ⟨k + 1, by omega, by go_num, Lib.hid (by rw [tgts_take hkt hT.out]; exact HR.out.symm), hb.trans (hb2.mono (by have := hb.size; simp at this; omega))⟩
              case measure => simp [intOf]; omega
          · have hkt : k = ts.length := by have := HLL.out; omega
            have HF : Hid (tgts u hid ts = true) := Lib.hid (by have := hT.out; rw [hkt, List.take_length] at this; exact this)
            clear hkt hT
            go_wp2_with fail
            go_ret
            exact ⟨ret_bool (by rw [HT.out, HF.out]), hbw⟩
    · have HT := Lib.hid (tgt_bad (u := u) (hid := hid) (ts := ts) hE hTC)
      have s2 : ((bs (atomOf h)).toList == [116]) = false := by rw [bs_toList]; simpa using fun e => hTC (.inl e)
      have s3 : ((bs (atomOf h)).toList == [99]) = false := by rw [bs_toList]; simpa using fun e => hTC (.inr e)
      clear ih h5 h6 hwf hd hbt hE hTC hok
      have hLpos : 0 < (h :: ts).length := by simp
      generalize (h :: ts).length = LL at *
      generalize bs (atomOf h) = A at *
      go_enter Tryz.func171, Tryz.ntmps171
      go_wp2_with fail
      go_ret
      exact ⟨ret_bool (by rw [HT.out]), below1 _ _⟩
theorem l6tType_c (u : List UInt8 → Bool) (opn : Bool) (hU : UnkC 193 opn u) : ∀ n, L6tC u opn n
  | 0 => fun _ t _ _ _ h => by omega
  | n + 1 => fun hid t cs ok w hd hwf hbt hv hok => by
    match t, hv with
    | .atom a, hv =>
      simp only [FV] at hv
      subst hv
      have := l6tType_atom u hid opn hU a hwf.1 (by simpa only [Tr.bytes] using hbt) (.slice none 0 0) w
      exact this
    | .list [], _ => exact absurd rfl hwf.1
    | .list (h :: ts), hv =>
      obtain ⟨r, off, cap, xs, rfl, h2, h3, h4, h5, h6⟩ := hv.list_cells
      exact l6tType_list u opn n (l6tType_c u opn hU n) hid h ts r off cap xs ok w hd hwf.2 hbt (hok r h2) h3 h4 h5 h6 hok
end Go.Proofs.YtfknoigbkleanaaGreatDoor
