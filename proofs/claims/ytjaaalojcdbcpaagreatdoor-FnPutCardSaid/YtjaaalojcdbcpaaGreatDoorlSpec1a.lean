/- The reference model's reader of forms. -/
import Derived.Test.YtjaaalojcdbcpaaGreatDoorProg
import Derived.Test.YtjaaalojcdbcpaaGreatDoorlB1
set_option maxHeartbeats 20000000
set_option linter.unusedVariables false
set_option linter.unusedSimpArgs false
namespace Go.Proofs.YtjaaalojcdbcpaaGreatDoor
open Go.RowKit Go.Proofs.Tryz
set_option maxRecDepth 8000
theorem Tryz.infoS : (prog.info? 47).map (fun i => (i.zero, i.size, i.bytes)) = some (some (.agg #[.string ⟨#[]⟩, .slice none 0 0]), 2, 40) := by kernel_rfl
theorem isAB_iff (b : UInt8) : J3 b = true ↔ ((97 ≤ (b.toNat : Int) ∧ (b.toNat : Int) ≤ 122) ∨ (48 ≤ (b.toNat : Int) ∧ (b.toNat : Int) ≤ 57) ∨ (b.toNat : Int) = 43 ∨ (b.toNat : Int) = 45 ∨ (b.toNat : Int) = 42 ∨ (b.toNat : Int) = 62) := by
 simp [J3]; omega
theorem Z7l (b : UInt8) (w : World) : Calls prog 148 #[.int .u8 b.toNat] w fun e w' => e = .returned (.bool (J3 b)) ∧ w' = w := by
 go_enter func148, ntmps148
 go_wp2
 all_goals go_ret; exact ⟨Zf (by rw [Bool.eq_iff_iff, isAB_iff]; simp; try omega), rfl⟩
def RdS (B : Nat) (s : ByteArray) (res : Option (Tr × List UInt8)) (e : Ending) (w' : World) : Prop :=
 match res with
 | none => ∃ a p n c, e = .returned (.tuple #[.agg #[.string a, .slice p n c], .int .i64 (-1)]) ∧ n ≤ maxLen
 | some (t, r) => ∃ cs, e = .returned (.tuple #[.agg cs.toArray, .int .i64 ((s.size - r.length : Nat) : Int)]) ∧ FV nS w' (fun k => B ≤ k ∧ k < w'.heap.size) t cs
theorem u8_ne {a b : UInt8} (h : a ≠ b) : ((a.toNat : Int) == b.toNat) = false := by
 simp only [beq_eq_false_iff_ne, ne_eq]; intro h'; exact h (UInt8.toNat_inj.1 (by omega))
theorem Z16 (B : Nat) (s a : ByteArray) (p : Option Addr) (n c : Nat) (w : World) (h : n ≤ maxLen) : RdS B s none (.returned (.tuple #[.agg #[.string a, .slice p n c], .int .i64 (-1)])) w := ⟨a, p, n, c, rfl, h⟩
theorem rdS_some {B : Nat} {s : ByteArray} {t : Tr} {r : List UInt8} {cs : List Value} {n : Int} {w : World} (h : FV nS w (fun k => B ≤ k ∧ k < w.heap.size) t cs) (hn : n = ((s.size - r.length : Nat) : Int)) :
 RdS B s (some (t, r)) (.returned (.tuple #[.agg cs.toArray, .int .i64 n])) w := ⟨cs, by rw [hn], h⟩
theorem rdS_atom (s : ByteArray) (i k : Nat) (B : Nat) (w : World) (h : Z5l s.data.toList i k) (hk0 : k ≠ 0) (hd : ∀ h : i + k < s.size, J3 s[i + k] = false) (m : Nat) (hi : i < s.size) (hc : s[i] ≠ 40) :
 RdS B s (X8 (m + 1) (s.data.toList.drop i)) (.returned (.tuple #[.agg #[.string (s.extract i (i + k)), .slice none 0 0], .int .i64 ((i : Int) + k)])) w := by
 have e := h.done (fun h => hd (by simpa using h))
 rw [if_neg hk0] at e
 have e2 : X8 (m + 1) (s.data.toList.drop i) = Xz (s.data.toList.drop i) := by
  rw [List.drop_eq_getElem_cons (by simpa using hi)]
  exact Z15 _ _ _ hc
 rw [e2, e]
 have := h.2.2
 refine ⟨nS (.atom ((s.data.toList.drop i).take k)) (.slice none 0 0), ?_, by simp only [FV]⟩
 simp only [nS, Z1, Kq, List.length_drop, Q2, Nat.add_sub_cancel_left] at *
 rw [show ((s.size - (s.size - (i + k)) : Nat) : Int) = (i : Int) + k from by omega]
theorem read_list (s : ByteArray) (i m : Nat) (hi : i < s.size) (hc : s[i] = 40) : X8 (m + 1) (s.data.toList.drop i) = (Xe (X8 m) (s.data.toList.drop (i + 1)).length.succ (s.data.toList.drop (i + 1))).map fun p => (.list p.1, p.2) := by
 have e : s.data.toList.drop i = 40 :: s.data.toList.drop (i + 1) := by
  rw [List.drop_eq_getElem_cons (by simpa using hi)]
  exact congrArg (· :: _) hc
 rw [e, Z32]
def LS (s : ByteArray) (m N : Nat) (R : Option (List Tr × List UInt8)) (v : Value) (wr : World) : Prop :=
 ∃ (j : Nat) (ts : List Tr) (xs : List Value) (pv : Value) (f : Nat), v = .int .i64 j ∧ j < s.size ∧ wr.heap[N]? = some (.cells #[.string ⟨#[]⟩, .slice none 0 0] 47 (0, 0)) ∧
   wr.heap[N + 1]? = some (.cells #[.string ⟨#[]⟩, pv] 47 (0, 0)) ∧ wr.ownsRow (N + 2) 47 2 pv ts.length xs ∧
   FVs nS wr (fun q => N + 2 ≤ q ∧ q < wr.heap.size ∧ pv.ownBlock ≠ some q) ts xs ∧ (s.data.toList.drop (j + 1)).length < f ∧ ts.length ≤ j ∧
   Hid (R = (Xe (X8 m) f (s.data.toList.drop (j + 1))).map fun p => (ts ++ p.1, p.2))
theorem LS.start (s : ByteArray) (m i : Nat) (w : World) (hi : i < s.size) : LS s m w.heap.size (Xe (X8 m) (s.data.toList.drop (i + 1)).length.succ (s.data.toList.drop (i + 1))) (.int .i64 i)
 ((w.alloc (.cells #[.string ⟨#[]⟩, .slice none 0 0] 47)).alloc (.cells #[.string ⟨#[]⟩, .slice none 0 0] 47)) :=
 ⟨i, [], [], .slice none 0 0, _, rfl, hi, by rw [heap_alloc_old (h := by simp)]; exact heap_alloc_new _ _, by have := heap_alloc_new (w.alloc (.cells #[.string ⟨#[]⟩, .slice none 0 0] 47)) (.cells #[.string ⟨#[]⟩, .slice none 0 0] 47); simpa using this,
   World.ownsRow_nil _ _ _ _, by simp only [FVs], Nat.lt_succ_self _, Nat.zero_le _, by unfold Hid; simp⟩
theorem LS.none_of {s : ByteArray} {m j f : Nat} {ts : List Tr} {R : Option (List Tr × List UInt8)} (hres : X8 m (s.data.toList.drop (j + 1)) = none) (hR : Hid (R = (Xe (X8 m) f (s.data.toList.drop (j + 1))).map fun p => (ts ++ p.1, p.2))) : R = none := by
 rw [hR.out]
 cases f with
 | zero => rfl
 | succ f => simp [Xe, hres]
theorem LS.none_of2 {s : ByteArray} {m j f : Nat} {ts : List Tr} {R : Option (List Tr × List UInt8)} {t : Tr} {r : List UInt8} (hres : X8 m (s.data.toList.drop (j + 1)) = some (t, r)) (hr : ∀ c r', r = c :: r' → c ≠ 41 ∧ c ≠ 32)
 (hR : Hid (R = (Xe (X8 m) f (s.data.toList.drop (j + 1))).map fun p => (ts ++ p.1, p.2))) : R = none := by
 rw [hR.out]
 cases f with
 | zero => rfl
 | succ f =>
   cases r with
   | nil => simp [Xe, hres]
   | cons c r' => simp [Xe, hres, (hr c r' rfl).1, (hr c r' rfl).2]
theorem LS.end_of {s : ByteArray} {m j f : Nat} {ts : List Tr} {R : Option (List Tr × List UInt8)} {t : Tr} {c : UInt8} {r' : List UInt8} (hres : X8 m (s.data.toList.drop (j + 1)) = some (t, c :: r')) (hc : c = 41)
 (hf : (s.data.toList.drop (j + 1)).length < f) (hR : Hid (R = (Xe (X8 m) f (s.data.toList.drop (j + 1))).map fun p => (ts ++ p.1, p.2))) : R = some (ts ++ [t], r') := by
 rw [hR.out]
 cases f with
 | zero => omega
 | succ f => subst hc; simp [Xe, hres]
theorem LS.next_of {s : ByteArray} {m j f : Nat} {ts : List Tr} {R : Option (List Tr × List UInt8)} {t : Tr} {c : UInt8} {r' : List UInt8} (hres : X8 m (s.data.toList.drop (j + 1)) = some (t, c :: r')) (hc : c = 32)
 (hf : (s.data.toList.drop (j + 1)).length < f) (hR : Hid (R = (Xe (X8 m) f (s.data.toList.drop (j + 1))).map fun p => (ts ++ p.1, p.2))) : ∃ f', f = f' + 1 ∧ Hid (R = (Xe (X8 m) f' r').map fun p => ((ts ++ [t]) ++ p.1, p.2)) := by
 cases f with
 | zero => omega
 | succ f =>
   subst hc
   refine ⟨f, rfl, ?_⟩
   unfold Hid
   rw [hR.out]
   simp [Xe, hres, Function.comp_def]
theorem l1Read_none (s : ByteArray) (m k i : Nat) (w : World) (h : Calls prog 107 #[.string s, .int .i64 (i + 1 : Nat), .int .i64 (k + 1 : Nat)] w fun e w' => RdS w.heap.size s (X8 m (s.data.toList.drop (i + 1))) e w' ∧ Below w.heap.size w w')
 (hr : X8 m (s.data.toList.drop (i + 1)) = none) : Calls prog 107 #[.string s, .int .i64 ((i : Int) + 1), .int .i64 ((k : Int) + 1)] w fun e w' => (∃ a p n c, e = .returned (.tuple #[.agg #[.string a, .slice p n c], .int .i64 (-1)]) ∧ n ≤ maxLen) ∧ Below w.heap.size w w' :=
 h.mono fun e w' ⟨h1, h2⟩ => ⟨by rw [hr] at h1; exact h1, h2⟩
theorem l1Read_some (s : ByteArray) (m k i : Nat) (w : World) {t : Tr} {r : List UInt8} {e' : Nat} (he : s.size - r.length = e') (h : Calls prog 107 #[.string s, .int .i64 (i + 1 : Nat), .int .i64 (k + 1 : Nat)] w fun e w' => RdS w.heap.size s (X8 m (s.data.toList.drop (i + 1))) e w' ∧ Below w.heap.size w w')
 (hr : X8 m (s.data.toList.drop (i + 1)) = some (t, r)) : Calls prog 107 #[.string s, .int .i64 ((i : Int) + 1), .int .i64 ((k : Int) + 1)] w fun e w' =>
   ∃ p n c, e = .returned (.tuple #[.agg #[.string (bs (Z1 t)), .slice p n c], .int .i64 (e' : Int)]) ∧ FV nS w' (fun k => w.heap.size ≤ k ∧ k < w'.heap.size) t (nS t (.slice p n c)) ∧ Below w.heap.size w w' :=
 h.mono fun e w' ⟨h1, h2⟩ => by
  rw [hr] at h1
  obtain ⟨cs, rfl, hv⟩ := h1
  obtain ⟨p, n, c, rfl⟩ := hv.node
  exact ⟨p, n, c, by rw [he]; rfl, hv, h2⟩
theorem rdS_no (s : ByteArray) (i m : Nat) (h : Z5l s.data.toList i 0) (hd : ∀ h : i + 0 < s.size, J3 s[i + 0] = false) (hi : i < s.size) (hc : s[i] ≠ 40) : X8 (m + 1) (s.data.toList.drop i) = none := by
 have e := h.done (fun h => hd (by simpa using h))
 rw [if_pos rfl] at e
 rw [← e, List.drop_eq_getElem_cons (by simpa using hi)]
 exact Z15 _ _ _ hc
theorem rdS_list {s : ByteArray} {wr w' w2 w3 : World} {N : Nat} {pp : Option Addr} {pc : Nat} {ts : List Tr} {xs : List Value} {t : Tr} {cs : List Value} {g' c' e' : Nat} {r' : List UInt8}
 (HV : FVs nS wr (fun q => N + 2 ≤ q ∧ q < wr.heap.size ∧ (Value.slice pp ts.length pc).ownBlock ≠ some q) ts xs) (hv : FV nS w' (fun q => wr.heap.size ≤ q ∧ q < w'.heap.size) t cs)
 (hb2 : Below wr.heap.size wr w') {a b : Obj} (hown : wr.ownsRow (N + 2) 47 2 (.slice pp ts.length pc) ts.length xs)
 (hown' : w2.ownsRow (N + 2) 47 2 (.slice (some ⟨g', 0, none⟩) (ts.length + 1) c') (ts.length + 1) (xs ++ cs)) (hgrow : ((w'.alloc a).alloc b).grownBy w2 (Value.slice pp ts.length pc).ownBlock)
 (hgg : (Value.slice pp ts.length pc).ownBlock = some g' ∨ g' = ((w'.alloc a).alloc b).heap.size) (hN : N + 1 < wr.heap.size) (he : s.size - r'.length = e' + 1)
 (h3 : ∀ q, N + 2 ≤ q → w3.heap[q]? = w2.heap[q]?) (h3s : w3.heap.size = w2.heap.size) :
 RdS N s ((some (ts ++ [t], r')).map fun p => (Tr.list p.1, p.2)) (.returned (.tuple #[.agg #[.string ⟨#[]⟩, .slice (some ⟨g', 0, none⟩) (ts.length + 1) c'], .int .i64 ((e' : Int) + 1)])) w3 := by
 have hcap := Xx hown'
 have hlt := hown'.lt g' rfl
 refine rdS_some (cs := nS (.list (ts ++ [t])) (.slice (some ⟨g', 0, none⟩) (ts.length + 1) c')) ?_ (by rw [he]; rfl)
 simp only [FV]
 refine ⟨g', 0, c', xs ++ cs, by simp, ⟨by omega, by omega⟩, by simpa using hcap.1, hcap.2, (X4 hown').move (h3 g' hlt.1), ?_⟩
 refine FVs.move (w := w2) (ok := fun q => N + 2 ≤ q ∧ q < w2.heap.size ∧ (Value.slice (some ⟨g', 0, none⟩) (ts.length + 1) c').ownBlock ≠ some q) (fun q hq => ⟨by omega, by omega⟩) (fun q hq => h3 q hq.1) _ _ ?_
 exact FVs.snoc (FV.grown hv (by omega) (Zl _ _ _) hgrow rfl hgg (fun q hq => (hown.lt q hq).2)) (FVs.grown HV (hb2.trans ((Zl _ _ _).mono hb2.size)) hgrow rfl hgg)
theorem l1Read_c (s : ByteArray) (hs : s.size ≤ 1048576) (m : Nat) : ∀ (k i : Nat) (w : World), k + m = 61 → i ≤ s.size →
 Calls prog 107 #[.string s, .int .i64 i, .int .i64 k] w fun e w' => RdS w.heap.size s (X8 m (s.data.toList.drop i)) e w' ∧ Below w.heap.size w w' := by
 induction m with
 | zero =>
   intro k i w hk hi
   obtain rfl : k = 61 := by omega
   go_enter func107, ntmps107
   go_wp2_with fail
   exact bodyPost_ret (v := .tuple #[.agg #[.string ⟨#[]⟩, .slice none 0 0], .int .i64 (-1)]) (by simp [results, results107, go_sem]) rfl ⟨Z16 _ _ _ _ _ _ _ (Nat.zero_le _), Zl _ _ _⟩
 | succ m ih =>
   intro k i w hk hi
   have hk' : (k : Int) ≤ 60 := by omega
   have hk2 : decide (60 < (k : Int)) = false := by simpa using hk'
   by_cases hlt : i < s.size
   · have hlt2 : decide (s.size ≤ i) = false := by simpa using hlt
     by_cases hc : s[i] = 40
     · have HI := H_ ih
       have HR : Hid (X8 (m + 1) (s.data.toList.drop i) = (Xe (X8 m) (s.data.toList.drop (i + 1)).length.succ (s.data.toList.drop (i + 1))).map fun p => (.list p.1, p.2)) := read_list s i m hlt hc
       clear ih
       go_enter func107, ntmps107
       go_wp2_with fail
       go_loopw [1] (fun v wr => LS s m w.heap.size (Xe (X8 m) (s.data.toList.drop (i + 1)).length.succ (s.data.toList.drop (i + 1))) v wr ∧ Below w.heap.size w wr) (fun v _ => s.size - (intOf v).toNat)
       case atStart => exact ⟨LS.start _ _ _ _ hlt, Zl _ _ _⟩
       case round =>
        obtain ⟨⟨j, ts, xs, pv, f, rfl, hj, hb0, hb1, hown, hfv, hf, hlen, hR⟩, hbel⟩ := hrel
        obtain ⟨pp, pc, rfl⟩ := Zn hown
        have hN : w.heap.size + 1 < wr.heap.size := lt_of_block hb1
        cases hres : X8 m (s.data.toList.drop (j + 1)) with
        | none =>
          have HC := l1Read_none s m k j wr (HI.out _ _ _ (by omega) (by omega)) hres
          have HN := H_ (LS.none_of hres hR)
          have HL := H_ hbel
          clear hres hR hfv hown hbel hc
          go_wp2_with (go_at_call 107; go_must (refine HC.mono ?_; rintro e w' ⟨⟨a, p, n, c, rfl, hn⟩, hb2⟩; have y0 := Z2 hb2 (by omega) hb0; have y1 := Z2 hb2 (by omega) hb1; obtain ⟨z0, z1⟩ := Zh y0; obtain ⟨z2, z3⟩ := Zh y1; obtain ⟨f0, f1⟩ := Xb y0; have hs2 : w.heap.size + 1 < w'.heap.size := Nat.lt_of_lt_of_le hN hb2.size; have hs3 : w.heap.size < w'.heap.size := by omega))
          refine bodyPost_ret (v := .tuple #[.agg #[.string ⟨#[]⟩, .slice pp ts.length pc], .int .i64 (-1)]) (by simp [results, results107, go_sem, z0, z1, hs3]) rfl ⟨?_, ?_⟩
          · rw [HR.out, HN.out]; exact Z16 _ _ _ _ _ _ _ (by unfold maxLen; omega)
          · exact (((HL.out.trans (hb2.mono HL.out.size)).setCell (Nat.le_refl _) _).setCell (Nat.le_refl _) _).alloc (by simp; omega) _
        | some tr =>
          obtain ⟨t, r⟩ := tr
          have hgot := (Vw _ _ _ _ hres).drop (by rw [Q2]; omega)
          rw [Q2] at hgot
          obtain ⟨hr0, hr1, hr2⟩ := hgot
          obtain ⟨e', he'⟩ : ∃ e', s.size - r.length = e' := ⟨_, rfl⟩
          rw [he'] at hr0
          have HC := l1Read_some s m k j wr he' (HI.out _ _ _ (by omega) (by omega)) hres
          have hj1 : j < e' := by omega
          have HL := H_ hbel
          have HV := H_ hfv
          obtain ⟨i0, hi0, hz0, hz1, hz2⟩ := info_parts Tryz.infoS
          clear hbel hfv hc
          cases r with
          | nil =>
            have HN := H_ (LS.none_of2 hres (by simp) hR)
            have hee : e' = s.size := by simp at he'; omega
            subst hee
            clear hres hR hr0 he'
            go_wp2_with (go_at_call 107; refine HC.mono ?_; rintro e w' ⟨p, n, c, rfl, hv, hb2⟩; have y0 := Z2 hb2 (by omega) hb0; have y1 := Z2 hb2 (by omega) hb1; obtain ⟨z0, z1⟩ := Zh y0; obtain ⟨z2, z3⟩ := Zh y1; obtain ⟨f0, f1⟩ := Xb y0; have f2 := Yf (j := 1) y1; have hs2 : w.heap.size + 1 < w'.heap.size := Nat.lt_of_lt_of_le hN hb2.size; have hs3 : w.heap.size < w'.heap.size := by omega)
            refine bodyPost_ret (v := .tuple #[.agg #[.string ⟨#[]⟩, .slice pp ts.length pc], .int .i64 (-1)]) (by simp [results, results107, go_sem, z0, z1, hs3]) rfl ⟨?_, ?_⟩
            · rw [HR.out, HN.out]; exact Z16 _ _ _ _ _ _ _ (by unfold maxLen; omega)
            · exact (((HL.out.trans (hb2.mono HL.out.size)).setCell (Nat.le_refl _) _).setCell (Nat.le_refl _) _).alloc (by simp; omega) _
          | cons c1 r' =>
            have hel : e' < s.size := by simp at he'; omega
            have hel2 : decide (s.size ≤ e') = false := by simpa using hel
            have hse : s[e'] = c1 ∧ s.data.toList.drop (e' + 1) = r' := by
             rw [List.drop_eq_getElem_cons (by simpa using hel)] at hr0
             simp only [List.cons.injEq] at hr0
             exact ⟨hr0.1.symm, hr0.2.symm⟩
            obtain ⟨hse1, hse2⟩ := hse
            clear hr0
            by_cases h41 : c1 = 41
            · have HS := H_ (LS.end_of hres h41 hf hR)
              subst h41
              clear hres hR he'
              go_wp2_with (first | (go_at_call 107; refine HC.mono ?_; rintro e w' ⟨p, n, c, rfl, hv, hb2⟩; have y0 := Z2 hb2 (by omega) hb0; have y1 := Z2 hb2 (by omega) hb1; obtain ⟨z0, z1⟩ := Zh y0; obtain ⟨z2, z3⟩ := Zh y1; obtain ⟨f0, f1⟩ := Xb y0; have f2 := Yf (j := 1) y1; have hs2 : w.heap.size + 1 < w'.heap.size := Nat.lt_of_lt_of_le hN hb2.size; have hs3 : w.heap.size < w'.heap.size := by omega) | (at_builtin; go_must (refine Zm _ rfl _ _ 45 rfl (w.heap.size + 2) 47 i0 (.agg #[.string ⟨#[]⟩, .slice none 0 0]) 2 40 underlying45 hi0 hz0 hz1 hz2 rfl (by decide) _ _ _ rfl (((Zx hown hb2).alloc _).alloc _) ⟨w'.heap.size + 1, 0, none⟩ [.string (bs (Z1 t)), .slice p n c] rfl rfl (Xr (Za _ _ _)) (by intro u hu; simp at hu; rcases hu with rfl | rfl <;> rfl) (by unfold maxLen; omega) (by omega) (by simp; omega) ?_; intro g' c' w2 hown' hgrow hgg; have x0 := Yc hgrow (Z8 (Z8 y0)) (Xq hown (by omega)); have x1 := Yc hgrow (Z8 (Z8 y1)) (Xq hown (by omega)); obtain ⟨q0, q1⟩ := Zh x0; obtain ⟨q2, q3⟩ := Zh x1; obtain ⟨k0, k1⟩ := Xb x0; have k2 := Yf (j := 1) x1; have hs4 : w.heap.size + 1 < w2.heap.size := (by have := Ku hgrow; omega); have hs5 : w.heap.size < w2.heap.size := by omega)))
              refine bodyPost_ret (v := .tuple #[.agg #[.string ⟨#[]⟩, .slice (some ⟨g', 0, none⟩) (ts.length + 1) c'], .int .i64 ((e' : Int) + 1)]) (by simp [results, results107, go_sem, q0, q1, q2, q3, k0, k1, k2, hs4, hs5]) rfl ⟨?_, ?_⟩
              · rw [HR.out, HS.out]
                refine rdS_list HV.out hv hb2 hown hown' hgrow hgg (by omega) (by rw [← hse2]; simp; omega) ?_ ?_
                · intro q hq
                  repeat rw [Below.heap_setCell _ _ _ _ (by simp; omega)]
                · simp
              · exact ((((((HL.out.trans (hb2.mono HL.out.size)).alloc (by omega) _).alloc (by simp; omega) _).grown hgrow (by simp; omega) (fun k hk => by have := hown.lt k hk; omega)).setCell (by simp) _).setCell (by simp) _).setCell (by simp) _
            · by_cases h32 : c1 = 32
              · have HS := H_ (LS.next_of hres h32 hf hR)
                subst h32
                clear hres hR he'
                go_wp2_with (first | (go_at_call 107; refine HC.mono ?_; rintro e w' ⟨p, n, c, rfl, hv, hb2⟩; have y0 := Z2 hb2 (by omega) hb0; have y1 := Z2 hb2 (by omega) hb1; obtain ⟨z0, z1⟩ := Zh y0; obtain ⟨z2, z3⟩ := Zh y1; obtain ⟨f0, f1⟩ := Xb y0; have f2 := Yf (j := 1) y1; have hs2 : w.heap.size + 1 < w'.heap.size := Nat.lt_of_lt_of_le hN hb2.size; have hs3 : w.heap.size < w'.heap.size := by omega) | (at_builtin; go_must (refine Zm _ rfl _ _ 45 rfl (w.heap.size + 2) 47 i0 (.agg #[.string ⟨#[]⟩, .slice none 0 0]) 2 40 underlying45 hi0 hz0 hz1 hz2 rfl (by decide) _ _ _ rfl (((Zx hown hb2).alloc _).alloc _) ⟨w'.heap.size + 1, 0, none⟩ [.string (bs (Z1 t)), .slice p n c] rfl rfl (Xr (Za _ _ _)) (by intro u hu; simp at hu; rcases hu with rfl | rfl <;> rfl) (by unfold maxLen; omega) (by omega) (by simp; omega) ?_; intro g' c' w2 hown' hgrow hgg; have x0 := Yc hgrow (Z8 (Z8 y0)) (Xq hown (by omega)); have x1 := Yc hgrow (Z8 (Z8 y1)) (Xq hown (by omega)); obtain ⟨q0, q1⟩ := Zh x0; obtain ⟨q2, q3⟩ := Zh x1; obtain ⟨k0, k1⟩ := Xb x0; have k2 := Yf (j := 1) x1; have hs4 : w.heap.size + 1 < w2.heap.size := (by have := Ku hgrow; omega); have hs5 : w.heap.size < w2.heap.size := by omega)))
                obtain ⟨f', rfl, HF⟩ := HS.out
                go_roundw
                case rel =>
                 refine ⟨⟨e', ts ++ [t], xs ++ [.string (bs (Z1 t)), .slice p n c], .slice (some ⟨g', 0, none⟩) (ts.length + 1) c', f', rfl, hel, ?_, ?_, ?_, ?_, ?_, ?_, ?_⟩, ?_⟩
                 · rw [Z3 _ (by simp)]; exact x0
                 · exact Yu x1 _
                 · have := ownsRow_setCell_other hown' (a := ⟨w.heap.size + 1, 1, none⟩) (Xq hown' (by simp)) (.slice (some ⟨g', 0, none⟩) (ts.length + 1) c')
                   simpa using this
                 · refine FVs.move (w := w2) (ok := fun q => w.heap.size + 2 ≤ q ∧ q < w2.heap.size ∧ (Value.slice (some ⟨g', 0, none⟩) (ts.length + 1) c').ownBlock ≠ some q) (fun q hq => by simpa using hq) (fun q hq => Z3 _ (by simp; omega)) _ _ ?_
                   exact FVs.snoc (FV.grown hv (by omega) (Zl _ _ _) hgrow rfl hgg (fun q hq => (hown.lt q hq).2)) (FVs.grown HV.out (hb2.trans ((Zl _ _ _).mono hb2.size)) hgrow rfl hgg)
                 · simp at hf ⊢; omega
                 · simp; omega
                 · rw [hse2]; exact HF
                 · exact (((((HL.out.trans (hb2.mono HL.out.size)).alloc (by omega) _).alloc (by simp; omega) _).grown hgrow (by simp; omega) (fun k hk => by have := hown.lt k hk; omega)).setCell (by simp) _)
                case measure => simp [intOf]; omega
              · have HN := H_ (LS.none_of2 hres (by simp [h41, h32]) hR)
                have n41 : ((c1.toNat : Int) == 41) = false := u8_ne (b := 41) h41
                have n32 : ((c1.toNat : Int) == 32) = false := u8_ne (b := 32) h32
                have n32' : ((c1.toNat : Int) != 32) = true := by simp [bne, n32]
                clear hres hR he'
                go_wp2_with (first | (go_at_call 107; refine HC.mono ?_; rintro e w' ⟨p, n, c, rfl, hv, hb2⟩; have y0 := Z2 hb2 (by omega) hb0; have y1 := Z2 hb2 (by omega) hb1; obtain ⟨z0, z1⟩ := Zh y0; obtain ⟨z2, z3⟩ := Zh y1; obtain ⟨f0, f1⟩ := Xb y0; have f2 := Yf (j := 1) y1; have hs2 : w.heap.size + 1 < w'.heap.size := Nat.lt_of_lt_of_le hN hb2.size; have hs3 : w.heap.size < w'.heap.size := by omega) | (at_builtin; go_must (refine Zm _ rfl _ _ 45 rfl (w.heap.size + 2) 47 i0 (.agg #[.string ⟨#[]⟩, .slice none 0 0]) 2 40 underlying45 hi0 hz0 hz1 hz2 rfl (by decide) _ _ _ rfl (((Zx hown hb2).alloc _).alloc _) ⟨w'.heap.size + 1, 0, none⟩ [.string (bs (Z1 t)), .slice p n c] rfl rfl (Xr (Za _ _ _)) (by intro u hu; simp at hu; rcases hu with rfl | rfl <;> rfl) (by unfold maxLen; omega) (by omega) (by simp; omega) ?_; intro g' c' w2 hown' hgrow hgg; have x0 := Yc hgrow (Z8 (Z8 y0)) (Xq hown (by omega)); have x1 := Yc hgrow (Z8 (Z8 y1)) (Xq hown (by omega)); obtain ⟨q0, q1⟩ := Zh x0; obtain ⟨q2, q3⟩ := Zh x1; obtain ⟨k0, k1⟩ := Xb x0; have k2 := Yf (j := 1) x1; have hs4 : w.heap.size + 1 < w2.heap.size := (by have := Ku hgrow; omega); have hs5 : w.heap.size < w2.heap.size := by omega)))
                refine bodyPost_ret (v := .tuple #[.agg #[.string ⟨#[]⟩, .slice (some ⟨g', 0, none⟩) (ts.length + 1) c'], .int .i64 (-1)]) (by simp [results, results107, go_sem, q0, q1, q2, q3, k0, k1, k2, hs4, hs5]) rfl ⟨?_, ?_⟩
                · rw [HR.out, HN.out]; exact Z16 _ _ _ _ _ _ _ (by unfold maxLen; omega)
                · exact ((((((HL.out.trans (hb2.mono HL.out.size)).alloc (by omega) _).alloc (by simp; omega) _).grown hgrow (by simp; omega) (fun k hk => by have := hown.lt k hk; omega)).setCell (by simp) _).setCell (by simp) _).setCell (by simp) _
     · have hne : ((s[i].toNat : Int) == 40) = false := u8_ne (b := 40) hc
       have hne' : ((s[i].toNat : Int) != 40) = true := by simp [bne, hne]
       go_enter func107, ntmps107
       go_wp2_with fail
       go_loop [1] (fun v => ∃ j : Nat, Z5l s.data.toList i j ∧ v = .int .i64 ((i + j : Nat) : Int)) (fun v => s.size - (intOf v).toNat)
       case atStart => exact ⟨0, Z5l.zero _ _ (by simpa using hi), rfl⟩
       case round =>
        obtain ⟨j, hsc, rfl⟩ := hrel
        have hj := hsc.2.2
        rw [Q2] at hj
        by_cases hjl : i + j < s.size
        · cases hb : J3 s[i + j] with
          | true =>
            go_wp2_with (go_at_call 148; refine (Z7l _ _).mono ?_; rintro e w' ⟨rfl, rfl⟩)
            exact ⟨⟨j + 1, hsc.succ (by rw [Q2]; exact hjl) hb, by go_num⟩, by simp [intOf]; omega⟩
          | false =>
            by_cases hj0 : j = 0
            · subst hj0
              have hb0 : J3 s[i] = false := by simpa using hb
              have HR := H_ (rdS_no s i m hsc (fun _ => hb) hlt hc)
              go_wp2_with (go_at_call 148; refine (Z7l _ _).mono ?_; rintro e w' ⟨rfl, rfl⟩)
              exact bodyPost_ret (v := .tuple #[.agg #[.string ByteArray.empty, .slice none 0 0], .int .i64 (-1)]) (by simp [results, results107, go_sem]) rfl ⟨by rw [HR.out]; exact Z16 _ _ _ _ _ _ _ (Nat.zero_le _), Zl _ _ _⟩
            · have hx : (s.extract i (i + j)).toList.isEmpty = false := by rw [ext_empty _ _ _ hj]; simpa using hj0
              have HR := H_ (fun B w => rdS_atom s i j B w hsc hj0 (fun _ => hb) m hlt hc)
              go_wp2_with (go_at_call 148; refine (Z7l _ _).mono ?_; rintro e w' ⟨rfl, rfl⟩)
              exact bodyPost_ret (v := .tuple #[.agg #[.string (s.extract i (i + j)), .slice none 0 0], .int .i64 ((i : Int) + j)]) (by simp [results, results107, go_sem]) rfl ⟨HR.out _ _, Zl _ _ _⟩
        · have hb : ∀ h : i + j < s.size, J3 s[i + j] = false := fun h => absurd h hjl
          by_cases hj0 : j = 0
          · omega
          · have hx : (s.extract i (i + j)).toList.isEmpty = false := by rw [ext_empty _ _ _ hj]; simpa using hj0
            have HR := H_ (fun B w => rdS_atom s i j B w hsc hj0 hb m hlt hc)
            clear hb
            go_wp2_with fail
            exact bodyPost_ret (v := .tuple #[.agg #[.string (s.extract i (i + j)), .slice none 0 0], .int .i64 ((i : Int) + j)]) (by simp [results, results107, go_sem]) rfl ⟨HR.out _ _, Zl _ _ _⟩
   · have hlt2 : decide (s.size ≤ i) = true := by simp; omega
     have hd : s.data.toList.drop i = [] := List.drop_eq_nil_of_le (by rw [Q2]; omega)
     have hr := read_nil (m + 1)
     rw [← hd] at hr
     have HR := H_ hr
     clear hr hd
     go_enter func107, ntmps107
     go_wp2_with fail
     exact bodyPost_ret (v := .tuple #[.agg #[.string ⟨#[]⟩, .slice none 0 0], .int .i64 (-1)]) (by simp [results, results107, go_sem]) rfl ⟨by rw [HR.out]; exact Z16 _ _ _ _ _ _ _ (Nat.zero_le _), Zl _ _ _⟩
end Go.Proofs.YtjaaalojcdbcpaaGreatDoor
