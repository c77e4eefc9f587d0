/- The reference: decimals. strings.Builder at this cut: what a used builder's writers do. The program writes a form as a text. The program's text of a form. -/
import Derived.Test.YtjncmmnbdabjnaaGreatDoorDraw3
import Derived.Test.YtjncmmnbdabjnaaGreatDoorPureT
import Derived.Test.YtjncmmnbdabjnaaGreatDoorNumSM
import Derived.Deep.RegionHeld3
import Derived.Test.YtjncmmnbdabjnaaGreatDoorShelf
import Derived.Test.YtjncmmnbdabjnaaGreatDoorB1
import Derived.Lib.FrozenHead2
import Derived.Lib.OthersKept
import Derived.Test.YtjncmmnbdabjnaaGreatDoorImpl2dM
namespace Go.Proofs.YtjncmmnbdabjnaaGreatDoor
open Go.RowKit
set_option maxRecDepth 8000
set_option linter.unusedSimpArgs false
set_option linter.unusedVariables false
theorem dig_one (n : Int) (h0 : 0 ≤ n) (h1 : n < 10) : strOfNums [48 + n] = bs [UInt8.ofNat (48 + n.toNat)] := by
  simp only [strOfNums, List.map_cons, List.map_nil, bs]
  rw [show (48 + n).toNat = 48 + n.toNat from by omega]
theorem conv_blk (W : World) (b : Nat) (x : Int) (h : W.heap[b]? = some (.cells #[.int .u8 x] 5 (0, 0))) : (convert 22 9 (.slice (some ⟨b, 0, none⟩) 1 1)).run Tryz.prog W = .ok (.string (strOfNums [x])) W := by
  refine run_convert_bytes_arg (P := Tryz.prog) W 22 5 Tryz.underlying22 Tryz.underlying5 b 0 1 1 [x] rfl (fun i hi => ?_) 9 Tryz.underlying9
  obtain rfl : i = 0 := by omega
  rw [cell_of h]; simp
theorem dec_len : ∀ (n : Nat), n ≤ 1000000 → (Lib.decDigits n).length ≤ 100 := fun n hn => by
  have h : ∀ (k n : Nat), n < 10 ^ k → (Lib.decDigits n).length ≤ k + 1 := by
    intro k
    induction k with
    | zero => intro n h; rw [Lib.decDigits, dif_pos (by simp at h; omega)]; simp
    | succ k ih =>
      intro n h
      rw [Lib.decDigits]
      split
      · simp
      · have := ih (n / 10) (by rw [Nat.pow_succ] at h; omega)
        simp; omega
  have := h 7 n (by omega)
  omega
set_option maxHeartbeats 2000000 in
theorem l6Dec_c : ∀ (f n : Nat), n < f → n ≤ 1000000 → ∀ w : World, Calls Tryz.prog 160 #[.int .i64 (n : Int)] w fun e w' => e = .returned (.string (bs (Lib.decDigits n))) ∧ Below w.heap.size w w'
  | 0, n, hf, hn, w => by omega
  | f + 1, n, hf, hn, w => by
    by_cases h : n < 10
    · rw [Lib.decDigits_one h]
      have HD := Lib.hid (show strOfNums [48 + (n : Int)] = bs [UInt8.ofNat (48 + n)] from dig_one n (by omega) (by omega))
      have hconv := conv_blk (w.alloc (.cells #[.int .u8 (48 + (n : Int))] 5)) w.heap.size (48 + (n : Int)) (heap_alloc_new w _)
      go_enter Tryz.func160, Tryz.ntmps160
      go_wp2_with fail
      go_ret
      exact ⟨by rw [← HD.out]; rfl, below1 _ _⟩
    · have C := Lib.hid (fun W => l6Dec_c f (n / 10) (by omega) (by omega) W)
      have e1 : ((n / 10 : Nat) : Int) = (n : Int) / 10 := by omega
      rw [e1] at C
      have HD := Lib.hid (show bs (Lib.decDigits n) = bs (Lib.decDigits (n / 10)) ++ strOfNums [48 + (n : Int) % 10] by
        rw [Lib.decDigits, dif_neg h, dig_one _ (by omega) (by omega), bs_append, show ((n : Int) % 10).toNat = n % 10 by omega])
      rw [HD.out]
      have hs1 : (strOfNums [48 + (n : Int) % 10]).size = 1 := strOfNums_size _
      have hlen : (bs (Lib.decDigits (n / 10))).size ≤ 100 := by rw [bs_size]; exact dec_len _ (by omega)
      obtain ⟨D, hD⟩ : ∃ q, q = bs (Lib.decDigits (n / 10)) := ⟨_, rfl⟩
      rw [← hD] at C hlen ⊢
      obtain ⟨S1, hS1⟩ : ∃ q, q = strOfNums [48 + (n : Int) % 10] := ⟨_, rfl⟩
      have hm : 0 ≤ (n : Int) % 10 ∧ (n : Int) % 10 < 10 := by omega
      have hq : 0 ≤ (n : Int) / 10 ∧ (n : Int) / 10 ≤ 100000 := by omega
      have h10 : ¬ (n : Int) < 10 := by omega
      have w1 : IntKind.i64.wrap ((n : Int) / 10) = (n : Int) / 10 := by rw [IntKind.wrap_i64]; omega
      have w2 : (n : Int).tmod 10 = (n : Int) % 10 := Int.tmod_eq_emod_of_nonneg (by omega)
      have w3 : IntKind.i64.wrap (48 + (n : Int) % 10) = 48 + (n : Int) % 10 := by rw [IntKind.wrap_i64]; omega
      have w4 : IntKind.u8.wrap (48 + (n : Int) % 10) = 48 + (n : Int) % 10 := by rw [IntKind.wrap_u8]; omega
      have hcA : ∀ W : World, (convert 22 9 (.slice (some ⟨W.heap.size, 0, none⟩) 1 1)).run Tryz.prog (W.alloc (.cells #[.int .u8 (48 + (n : Int) % 10)] 5)) = .ok (.string S1) (W.alloc (.cells #[.int .u8 (48 + (n : Int) % 10)] 5)) := fun W => by rw [hS1]; exact conv_blk _ _ _ (heap_alloc_new W _)
      have hcC : (convert 22 9 (.slice (some ⟨w.heap.size, 0, none⟩) 1 1)).run Tryz.prog (w.alloc (.cells #[.int .u8 (48 + (n : Int) % 10)] 5)).drew = .ok (.string S1) (w.alloc (.cells #[.int .u8 (48 + (n : Int) % 10)] 5)).drew := by rw [hS1]; exact conv_blk _ _ _ (heap_alloc_new w _)
      have hcD : (convert 22 9 (.slice (some ⟨w.heap.size, 0, none⟩) 1 1)).run Tryz.prog (w.drew.alloc (.cells #[.int .u8 (48 + (n : Int) % 10)] 5)) = .ok (.string S1) (w.drew.alloc (.cells #[.int .u8 (48 + (n : Int) % 10)] 5)) := by rw [hS1]; exact conv_blk _ _ _ (heap_alloc_new w _)
      have HS1 := Lib.hid hS1
      rw [← hS1] at hs1 ⊢
      clear hS1
      have gq1 : ¬ (9223372036854775807 : Nat) < D.size + S1.size := by omega
      have gq2 : ¬ (9223372036854775807 : Nat) < D.size + 1 := by omega
      clear HD hD
      have K : Hid (∀ W, Below w.heap.size w W → (fun W => Below w.heap.size w W ∧ True) W) := Lib.hid (fun W hW => ⟨hW, trivial⟩)
      have S0 := Lib.hid (K.out _ ((Below.refl _ w).drew))
      go_enter Tryz.func160, Tryz.ntmps160
      go_wp2_with fail
      first | (go_region_with (first | (go_at_call 160; (with_reducible refine (C.out _).mono ?_); rintro e w2 ⟨rfl, hb2⟩; first | (have hcB : (convert 22 9 (.slice (some ⟨w.heap.size, 0, none⟩) 1 1)).run Tryz.prog w2 = .ok (.string S1) w2 := (by rw [HS1.out]; exact conv_blk _ _ _ (below_blk hb2 (lt_of_block (heap_alloc_new w _)) (heap_alloc_new w _)))) | (have hcE : ∀ (W : World), (convert 22 9 (.slice (some ⟨W.heap.size, 0, none⟩) 1 1)).run Tryz.prog (W.alloc (.cells #[.int .u8 (48 + (n : Int) % 10)] 5)) = .ok (.string S1) (W.alloc (.cells #[.int .u8 (48 + (n : Int) % 10)] 5)) := hcA)))) | fail
      all_goals
        go_wp2_with fail
        go_ret
        first
          | exact ⟨rfl, (below1 w _).trans (hb2.mono (by simp))⟩
          | exact ⟨rfl, Below.trans (below1 w _).drew (hb2.mono (by simp))⟩
          | exact ⟨rfl, hb2.alloc hb2.size _⟩
          | exact ⟨rfl, (show Below w.heap.size w w2 from ⟨hb2.os, hb2.tape, hb2.output, hb2.size, hb2.block⟩).alloc hb2.size _⟩
          | exact ⟨rfl, ⟨hb2.os, hb2.tape, hb2.output, hb2.size, hb2.block⟩⟩
set_option maxHeartbeats 1000000 in
theorem l6Dec_any (n : Int) (h1 : -1000 ≤ n) (h2 : n ≤ 1000) (w : World) : Calls Tryz.prog 160 #[.int .i64 n] w fun e w' => (∃ s : ByteArray, e = .returned (.string s) ∧ s.size ≤ 1000) ∧ Below w.heap.size w w' := by
  by_cases hn : 0 ≤ n
  · obtain ⟨m, rfl⟩ : ∃ m : Nat, n = (m : Int) := ⟨n.toNat, by omega⟩
    exact (l6Dec_c (m + 1) m (by omega) (by omega) w).mono fun e w' ⟨h3, h4⟩ => ⟨⟨_, h3, by rw [bs_size]; have := dec_len m (by omega); omega⟩, h4⟩
  · obtain ⟨m, hm⟩ : ∃ m : Nat, -n = (m : Int) := ⟨(-n).toNat, by omega⟩
    have C := Lib.hid (fun W => l6Dec_c (m + 1) m (by omega) (by omega) W)
    unfold Hid at C
    rw [← hm] at C
    have C := Lib.hid C
    have hlen : (bs (Lib.decDigits m)).size ≤ 100 := by rw [bs_size]; exact dec_len m (by omega)
    have k1 : IntKind.i64.wrap (-n) = -n := by rw [IntKind.wrap_i64]; omega
    have k2 : ¬ n < -9223372036854775807 := by omega
    have k3 : n < 0 := by omega
    clear hm
    generalize bs (Lib.decDigits m) = D at *
    go_enter Tryz.func160, Tryz.ntmps160
    go_wp2_with fail
    refine (C.out _).mono ?_
    rintro e w2 ⟨rfl, hb2⟩
    go_wp2_with fail
    go_ret
    exact ⟨⟨_, rfl, by have y : (⟨#[45]⟩ : ByteArray).size = 1 := rfl; simp; omega⟩, hb2⟩
end Go.Proofs.YtjncmmnbdabjnaaGreatDoor
namespace Go.Proofs.YtjncmmnbdabjnaaGreatDoor
open Go.RowKit
set_option maxRecDepth 8000
set_option linter.unusedSimpArgs false
set_option linter.unusedVariables false
theorem Tryz.infoByte : (Tryz.prog.info? 5).map (fun i => (i.zero, i.size, i.bytes)) = some (some (.int .u8 0), 1, 1) := by kernel_rfl
/-- A used builder that holds these bytes. -/
def Bld (B b : Nat) (l : List UInt8) (w : World) : Prop := Lib.BuilderAtF 88 5 B b (.pointer (some ⟨b, 0, none⟩)) (Lib.byteCells l) w
theorem Bld.blk {B b : Nat} {l : List UInt8} {w : World} (h : Bld B b l w) : B ≤ b ∧ ∃ p n c, w.heap[b]? = some (.cells #[.pointer (some ⟨b, 0, none⟩), .slice p n c] 88 (0, 0)) := by
  obtain ⟨hB, v, hb, hown, hne⟩ := h
  rcases hown.2 with ⟨rfl, _⟩ | ⟨g, cap, cur, fz, rfl, _⟩
  · exact ⟨hB, _, _, _, hb⟩
  · exact ⟨hB, _, _, _, hb⟩
theorem Tryz.sizeBuilder : (Tryz.prog.info? 88).map (fun i => i.size) = some 2 := by kernel_rfl
theorem bld_slice {w : World} {B e n : Nat} {v : Value} {xs : List Value} (h : w.ownsRowF B e 1 v (n + 1) xs) : ∃ g cap, v = .slice (some ⟨g, 0, none⟩) (n + 1) cap := by
  rcases h.2 with ⟨_, h0⟩ | ⟨g, cap, cur, fz, hv, _⟩
  · omega
  · exact ⟨g, cap, hv⟩
theorem bld_slice2 {w : World} {B e n : Nat} {v : Value} {xs : List Value} (h : w.ownsRowF B e 1 v n xs) : ∃ g n' cap, v = .slice g n' cap := by
  rcases h.2 with ⟨hv, _⟩ | ⟨g, cap, cur, fz, hv, _⟩
  · exact ⟨_, _, _, hv⟩
  · exact ⟨_, _, _, hv⟩
set_option maxHeartbeats 400000 in
theorem copyCheck_c (b : Nat) (p : Value) (w : World) (hb : w.heap[b]? = some (.cells #[.pointer (some ⟨b, 0, none⟩), p] 88 (0, 0))) :
    Calls Tryz.prog 106 #[.pointer (some ⟨b, 0, none⟩)] w fun e w' => e = .returned (.tuple #[]) ∧ w = w' := by
  have c0 := cell_of (j := 0) hb
  go_enter Tryz.func106, Tryz.ntmps106
  go_wp2_with fail
  obtain ⟨j, hj, _⟩ := Option.map_eq_some_iff.1 Tryz.sizeBuilder
  rw [Lib.run_neq_ptr_same w _ Tryz.underlying86 hj]
  go_wp2_with fail
  go_end0
  exact ⟨rfl, rfl⟩
set_option maxHeartbeats 1000000 in
theorem WriteByte_c (B b : Nat) (l : List UInt8) (c : UInt8) (x : Int) (hx : x = c.toNat) (w : World) (h : Bld B b l w) (hlen : l.length + 1 ≤ 140737488355328) (hBw : B ≤ w.heap.size) :
    Calls Tryz.prog 109 #[.pointer (some ⟨b, 0, none⟩), .int .u8 x] w fun e w' => e = .returned .nilIface ∧ Bld B b (l ++ [c]) w' ∧ Below B w w' ∧ Lib.OthersKept 5 (some b) w w' := by
  subst hx
  obtain ⟨i0, hi, hz0, hz1, hz2⟩ := info_parts Tryz.infoByte
  obtain ⟨hB, v, hbk, hown, hne⟩ := h
  have hll : (Lib.byteCells l).length = l.length := by simp [Lib.byteCells]
  rw [hll] at hown
  obtain ⟨p, n, cc, rfl⟩ : ∃ p n cc, v = .slice p n cc := by
    rcases hown.2 with ⟨hv, _⟩ | ⟨g, cap, cur, fz, hv, _⟩
    · exact ⟨_, _, _, hv⟩
    · exact ⟨_, _, _, hv⟩
  have hlt := lt_of_block hbk
  have c0 := cell_of (j := 0) hbk
  have c1 := cell_of (j := 1) hbk
  have HO := Lib.hid hown
  have HNE := Lib.hid hne
  clear hown hne hll
  go_enter Tryz.func109, Tryz.ntmps109
  go_wp2_with (first | (go_at_call 106; go_must (refine (copyCheck_c b _ _ hbk).mono ?_; rintro e w1 ⟨rfl, rfl⟩)) | (at_builtin; go_must (refine wpList_append_ownF _ rfl _ _ 22 rfl B 5 i0 (.int .u8 0) 1 1 Tryz.underlying22 hi hz0 hz1 hz2 rfl (by decide) _ _ _ rfl (HO.out.alloc _) ⟨w.heap.size, 0, none⟩ 1 1 [.int .u8 c.toNat] rfl rfl (news_at (heap_alloc_new _ _)) (by intro u hu; simp at hu; subst hu; rfl) (by unfold maxLen; omega) (by omega) (by simp; omega) ?_; intro v' w2 hown' hgrow _; have hb2 := blk_grown hgrow (blk_alloc hbk) HNE.out; obtain ⟨g, cap, rfl⟩ := bld_slice hown'; have d0 := cell_of (j := 0) hb2; have d1 := cell_of (j := 1) hb2; have f1 := free_of (j := 1) hb2)))
  go_ret
  refine ⟨rfl, ?_, ?_, ?_⟩
  · exact Lib.BuilderAtF.put hB hb2 (bs' := Lib.byteCells (l ++ [c])) (by simpa [Lib.byteCells] using hown') (by decide)
  · exact (((Below.refl B w).alloc hBw _).grown hgrow (by simp; omega) (fun k hk => (HO.out.lt k hk).1)).setCell (p := ⟨b, 1, none⟩) hB _
  · exact (((Lib.OthersKept.refl _ _ _).alloc _).grown hgrow (Lib.ownsRowF_kind (HO.out.alloc _))).setCell ⟨b, 1, none⟩ rfl _
set_option maxHeartbeats 1000000 in
theorem WriteString_c (B b : Nat) (l s : List UInt8) (w : World) (h : Bld B b l w) (hlen : l.length + s.length ≤ 140737488355328) (hBw : B ≤ w.heap.size) :
    Calls Tryz.prog 108 #[.pointer (some ⟨b, 0, none⟩), .string (bs s)] w fun e w' => e = .returned (.tuple #[.int .i64 s.length, .nilIface]) ∧ Bld B b (l ++ s) w' ∧ Below B w w' ∧ Lib.OthersKept 5 (some b) w w' := by
  obtain ⟨i0, hi, hz0, hz1, hz2⟩ := info_parts Tryz.infoByte
  obtain ⟨hB, v, hbk, hown, hne⟩ := h
  have hll : (Lib.byteCells l).length = l.length := by simp [Lib.byteCells]
  rw [hll] at hown
  obtain ⟨p, n, cc, rfl⟩ : ∃ p n cc, v = .slice p n cc := by
    rcases hown.2 with ⟨hv, _⟩ | ⟨g, cap, cur, fz, hv, _⟩
    · exact ⟨_, _, _, hv⟩
    · exact ⟨_, _, _, hv⟩
  have hlt := lt_of_block hbk
  have c0 := cell_of (j := 0) hbk
  have c1 := cell_of (j := 1) hbk
  have HO := Lib.hid hown
  have HNE := Lib.hid hne
  have hbs := bs_size s
  have HBS := Lib.hid hbs
  have hl2 : l.length + (bs s).size ≤ 140737488355328 := by rw [hbs]; exact hlen
  clear hown hne hll hbs
  go_enter Tryz.func108, Tryz.ntmps108
  go_wp2_with (first | (go_at_call 106; go_must (refine (copyCheck_c b _ _ hbk).mono ?_; rintro e w1 ⟨rfl, rfl⟩)) | (at_builtin; go_must (refine Lib.wpList_append_own_stringF _ rfl _ _ 22 9 rfl B 5 i0 Tryz.underlying22 Tryz.underlying9 hi hz0 hz1 hz2 _ _ _ rfl HO.out (bs s) rfl (by unfold maxLen; omega) hl2 hBw ?_; intro v' w2 hown' hgrow _; have hb2 := blk_grown hgrow hbk HNE.out; obtain ⟨g, n2, cap, rfl⟩ := bld_slice2 hown'; have d0 := cell_of (j := 0) hb2; have d1 := cell_of (j := 1) hb2; have f1 := free_of (j := 1) hb2)))
  go_ret2
  refine ⟨rfl, ?_, ?_, ?_⟩
  · exact Lib.BuilderAtF.put hB hb2 (bs' := Lib.byteCells (l ++ s)) (by have h3 := HBS.out; rw [h3] at hown'; simpa [Lib.byteCells, Lib.strCells, bs] using hown') (by decide)
  · exact ((Below.refl B w).grown hgrow hBw (fun k hk => (HO.out.lt k hk).1)).setCell (p := ⟨b, 1, none⟩) hB _
  · exact ((Lib.OthersKept.refl _ _ _).grown hgrow (Lib.ownsRowF_kind HO.out)).setCell ⟨b, 1, none⟩ rfl _
end Go.Proofs.YtjncmmnbdabjnaaGreatDoor
namespace Go.Proofs.YtjncmmnbdabjnaaGreatDoor
open Go.RowKit
set_option maxRecDepth 8000
set_option linter.unusedSimpArgs false
set_option linter.unusedVariables false
theorem texts_snoc : ∀ (ts : List Tr) (t : Tr), texts (ts ++ [t]) = if ts = [] then t.text else texts ts ++ 32 :: t.text
  | [], t => by simp [texts]
  | [a], t => by simp [texts]
  | a :: b :: ts, t => by
    have ih := texts_snoc (b :: ts) t
    simp only [List.cons_append, texts] at ih ⊢
    rw [ih]; simp
/-- What of a list's text has been written ahead of the part with an index. -/
def pre (ts : List Tr) (k : Nat) : List UInt8 := if k = 0 then [] else 40 :: texts (ts.take k)
theorem pre_succ (ts : List Tr) (k : Nat) (h : k < ts.length) : pre ts (k + 1) = pre ts k ++ (if k = 0 then 40 else 32) :: ts[k].text := by
  unfold pre
  rw [if_neg (by omega), take_snoc' _ _ h, texts_snoc]
  by_cases hk : k = 0
  · subst hk; simp
  · rw [if_neg hk, if_neg hk, if_neg (by intro e; rcases List.take_eq_nil_iff.1 e with h1 | h1; exact hk h1; subst h1; simp at h)]; simp
theorem pre_end (ts : List Tr) (h : ts ≠ []) : pre ts ts.length ++ [41] = (Tr.list ts).text := by
  unfold pre
  rw [if_neg (by intro e; exact h (List.eq_nil_of_length_eq_zero e)), List.take_length]; simp [Tr.text]
theorem wfs_take {ts : List Tr} (h : wfs ts) (k : Nat) : wfs (ts.take k) := by
  induction ts generalizing k with
  | nil => simp [wfs]
  | cons a ts ih => cases k with
    | zero => simp [wfs]
    | succ k => exact ⟨h.1, ih h.2 k⟩
theorem pre_length (ts : List Tr) (k : Nat) (hw : wfs ts) (hk : k ≤ ts.length) : (pre ts k).length ≤ bytess ts := by
  unfold pre
  by_cases h : k = 0
  · rw [if_pos h]; exact Nat.zero_le _
  · rw [if_neg h]
    have h1 := texts_length (ts.take k) (wfs_take hw k) (by intro e; rcases List.take_eq_nil_iff.1 e with h1 | h1; exact h h1; subst h1; simp at hk; exact h hk)
    have h2 := bytess_take_le ts k
    simp only [List.length_cons]; omega
theorem others_blk {w w' : World} {b k : Nat} {cs : Array Value} {T : TypeId} (h : Lib.OthersKept 5 (some b) w w') (hk : w.heap[k]? = some (.cells cs T (0, 0))) (hT : T ≠ 5) (hb : k ≠ b) : w'.heap[k]? = some (.cells cs T (0, 0)) :=
  h k _ hk (by simpa using hb) (fun c fz e => by simp only [Obj.cells.injEq] at e; exact hT e.2.1)
theorem Bld.alloc {B b : Nat} {l : List UInt8} {w : World} (h : Bld B b l w) (o : Obj) : Bld B b l (w.alloc o) := by
  obtain ⟨hB, v, hb, hown, hne⟩ := h
  exact ⟨hB, v, blk_alloc hb, hown.alloc o, hne⟩
theorem Bld.lt {B b : Nat} {l : List UInt8} {w : World} (h : Bld B b l w) : B ≤ b ∧ b < w.heap.size := by
  obtain ⟨hB, v, hb, _⟩ := h
  exact ⟨hB, lt_of_block hb⟩
theorem Bld.below {B b : Nat} {l : List UInt8} {w w' : World} (h : Bld B b l w) (hb : Below w.heap.size w w') : Bld B b l w' := by
  obtain ⟨hB, v, hb', hown, hne⟩ := h
  exact ⟨hB, v, below_blk hb (lt_of_block hb') hb', hown.kept (row := none) ⟨hb.os, hb.tape, hb.output, hb.size, fun k hk _ => hb.block k hk⟩ (by cases Value.ownBlock v <;> simp), hne⟩
theorem others_below {w w' : World} (hb : Below w.heap.size w w') (e : TypeId) (b : Option Nat) : Lib.OthersKept e b w w' := by
  intro k o hk _ _
  rw [hb.block k (lt_of_block hk)]; exact hk
/-- The contract of write at forms of a depth below n. -/
def WriteC (n : Nat) : Prop := ∀ (t : Tr) (p : Option Addr) (m c : Nat) (ok : Nat → Prop) (l : List UInt8) (B b : Nat) (w : World), t.depth < n → t.wf → FV nI w ok t (nI t (.slice p m c)) → (∀ k, ok k → k < B) → Bld B b l w → l.length + t.bytes ≤ 100000000000 →
    Calls Tryz.prog 74 #[.agg #[.string (bs (atomOf t)), .slice p m c, .int .i64 t.bytes, .int .i64 t.size, .int .i64 t.depth], .pointer (some ⟨b, 0, none⟩)] w fun e w' => e = .returned (.tuple #[]) ∧ Bld B b (l ++ t.text) w' ∧ Below B w w' ∧ Lib.OthersKept 5 (some b) w w'
set_option maxHeartbeats 1000000 in
theorem write_atom (n : Nat) (a : List UInt8) (p : Option Addr) (m c : Nat) (ok : Nat → Prop) (l : List UInt8) (B b : Nat) (w : World) (hv : FV nI w ok (.atom a) (nI (.atom a) (.slice p m c))) (hB : Bld B b l w) (hl : l.length + (Tr.atom a).bytes ≤ 100000000000) :
    Calls Tryz.prog 74 #[.agg #[.string (bs a), .slice p m c, .int .i64 (Tr.atom a).bytes, .int .i64 (Tr.atom a).size, .int .i64 (Tr.atom a).depth], .pointer (some ⟨b, 0, none⟩)] w fun e w' => e = .returned (.tuple #[]) ∧ Bld B b (l ++ (Tr.atom a).text) w' ∧ Below B w w' ∧ Lib.OthersKept 5 (some b) w w' := by
  simp only [FV] at hv
  have hh := nI_inj _ _ _ hv
  simp only [Value.slice.injEq] at hh
  obtain ⟨rfl, rfl, rfl⟩ := hh
  clear hv
  have hlt := hB.lt
  simp only [Tr.bytes] at hl
  have HB := Lib.hid hB
  clear hB
  go_enter Tryz.func74, Tryz.ntmps74
  go_wp2_with (first | (go_at_call 99; go_must (refine (isAtom_yes _ _ _ _ _ _ _).mono ?_; rintro e w1 ⟨rfl, hb1⟩; have c1 := below_blk hb1 (by simp) (heap_alloc_new _ _); have d0 := cell_of (j := 0) c1; have hw1 := Lib.hid ((below1 w _).trans (hb1.mono (by simp))); have hs1 := hb1.size)) | (go_at_call 108; go_must (refine (WriteString_c B b l a w1 (HB.out.below hw1.out) (by omega) (by simp at hs1; omega)).mono ?_; rintro e w2 ⟨rfl, hB2, hb2, ho2⟩)))
  exact bodyPost_ret (v := .tuple #[]) (by simp [results, Tryz.results74, go_sem]) rfl ⟨rfl, by simpa [Tr.text] using hB2, (hw1.out.mono (by omega)).trans hb2, (others_below hw1.out _ _).trans ho2⟩
set_option maxHeartbeats 2000000 in
theorem write_list (n : Nat) (ih : WriteC n) (ts : List Tr) (p : Option Addr) (m c : Nat) (ok : Nat → Prop) (l : List UInt8) (B b : Nat) (w : World) (hd : (Tr.list ts).depth < n + 1) (hwf : (Tr.list ts).wf) (hv : FV nI w ok (.list ts) (nI (.list ts) (.slice p m c))) (hok : ∀ k, ok k → k < B) (hB : Bld B b l w) (hl : l.length + (Tr.list ts).bytes ≤ 100000000000) :
    Calls Tryz.prog 74 #[.agg #[.string (bs []), .slice p m c, .int .i64 (Tr.list ts).bytes, .int .i64 (Tr.list ts).size, .int .i64 (Tr.list ts).depth], .pointer (some ⟨b, 0, none⟩)] w fun e w' => e = .returned (.tuple #[]) ∧ Bld B b (l ++ (Tr.list ts).text) w' ∧ Below B w w' ∧ Lib.OthersKept 5 (some b) w w' := by
  simp only [FV] at hv
  obtain ⟨r, off, cap, xs, hh, h2, h3, h4, h5, h6⟩ := hv
  have hh := nI_inj _ _ _ hh
  simp only [Value.slice.injEq] at hh
  obtain ⟨rfl, rfl, rfl⟩ := hh
  have h3' := maxLen_le h4
  have hrlt := hok r h2
  have hlt := hB.lt
  have hne : ts.length ≠ 0 := by intro e; exact hwf.1 (List.eq_nil_of_length_eq_zero e)
  have hlen := length_le_bytess ts
  have hE := Lib.hid (pre_end ts hwf.1)
  have HB := Lib.hid hB
  have HW := Lib.hid hwf.2
  have HL : Hid (∀ k, k ≤ ts.length → (pre ts k).length ≤ bytess ts) := Lib.hid (fun k hk => pre_length ts k hwf.2 hk)
  have IH := Lib.hid ih
  simp only [Tr.bytes] at hl
  clear hB ih hwf
  go_enter Tryz.func74, Tryz.ntmps74
  go_wp2_with (go_at_call 99; go_must (refine (isAtom_no _ _ _ _ hne _ _ _ _).mono ?_; rintro e w1 ⟨rfl, hb1⟩; have c1 := below_blk hb1 (by simp) (heap_alloc_new _ _); have d1 := cell_of (j := 1) c1; have hw1 := Lib.hid ((below1 w _).trans (hb1.mono (by simp))); have hs1 := hb1.size))
  clear c1 d1 hb1
  go_loopg [4, 16] ts.length (fun q v i wr => ∃ (k : Nat) (a : UInt8), q + k = ts.length ∧ i = .int .i64 k ∧ v = .int .u8 a.toNat ∧ Hid (a = if k = 0 then 40 else 32) ∧ Hid (Bld B b (l ++ pre ts k) wr) ∧ Hid (Below B w wr) ∧ Hid (Lib.OthersKept 5 (some b) w wr) ∧ w.heap.size ≤ wr.heap.size)
  case atStart => exact ⟨0, 40, by omega, rfl, rfl, Lib.hid rfl, Lib.hid (by simpa [pre] using HB.out.below hw1.out), Lib.hid (hw1.out.mono (by omega)), Lib.hid (others_below hw1.out _ _), by simp at hs1; omega⟩
  case round =>
    obtain ⟨k, a, hq, rfl, rfl, ha, hBr, hbr, hor, hsz⟩ := hrel
    by_cases hk : k < ts.length
    · obtain ⟨cs, q1, q2⟩ := FVs.get nI_len h6 h5 k hk
      obtain ⟨pp, pn, pc, rfl⟩ := q1.node
      have e0 : wr.cell? ⟨r, off + k * 5, none⟩ = some (.string (bs (atomOf ts[k]))) := by rw [hbr.out.cell (by exact hrlt)]; exact q2 0 _ rfl
      have e1 : wr.cell? ⟨r, off + k * 5 + 1, none⟩ = some (.slice pp pn pc) := by rw [hbr.out.cell (by exact hrlt)]; exact q2 1 _ rfl
      have e2 : wr.cell? ⟨r, off + k * 5 + 2, none⟩ = some (.int .i64 ts[k].bytes) := by rw [hbr.out.cell (by exact hrlt)]; exact q2 2 _ rfl
      have e3 : wr.cell? ⟨r, off + k * 5 + 3, none⟩ = some (.int .i64 ts[k].size) := by rw [hbr.out.cell (by exact hrlt)]; exact q2 3 _ rfl
      have e4 : wr.cell? ⟨r, off + k * 5 + 4, none⟩ = some (.int .i64 ts[k].depth) := by rw [hbr.out.cell (by exact hrlt)]; exact q2 4 _ rfl
      have hp1 := HL.out k (by omega)
      have hp2 := HL.out (k + 1) (by omega)
      have hPS := Lib.hid (pre_succ ts k hk)
      have hdk : ts[k].depth < n := by have := depth_lt hk; omega
      have hwk := Lib.hid (wf_get HW.out hk)
      have hlk : (l ++ pre ts k).length + 1 ≤ 140737488355328 := by simp; omega
      have hlk2 : (l ++ pre ts k ++ [a]).length + ts[k].bytes ≤ 100000000000 := by
        have h1 := congrArg List.length hPS.out
        simp only [List.length_append, List.length_cons, text_length _ hwk.out] at h1 ⊢
        simp; omega
      have hBB : b ≠ wr.heap.size := by have := hBr.out.lt; omega
      have hBw : B ≤ wr.heap.size := by omega
      clear hp1 hp2
      go_wp2_with (first | (go_at_call 109; go_must (refine (WriteByte_c B b _ a _ rfl _ (hBr.out.alloc _) hlk (by simp; omega)).mono ?_; rintro e w2 ⟨rfl, hB2, hb2, ho2⟩; have y0 := others_blk ho2 (heap_alloc_new _ _) (by decide) (by omega); have z0 := cell_of (j := 0) y0; have z1 := cell_of (j := 1) y0; have z2 := cell_of (j := 2) y0; have z3 := cell_of (j := 3) y0; have z4 := cell_of (j := 4) y0; have hs2 := hb2.size)) | (go_at_call 74; go_must (refine (IH.out ts[k] pp pn pc ok (l ++ pre ts k ++ [a]) B b w2 hdk hwk.out (FV.below q1 (hbr.out.trans (((Below.refl B wr).alloc (by omega) _).trans hb2)) hok) hok hB2 hlk2).mono ?_; rintro e w3 ⟨rfl, hB3, hb3, ho3⟩)))
      go_roundg (gk - 1)
      case measure => omega
      case rel =>
        refine ⟨k + 1, 32, by omega, by go_num, rfl, Lib.hid (by rw [if_neg (by omega)]), Lib.hid ?_, Lib.hid (((hbr.out.alloc (by omega) _).trans hb2).trans hb3), Lib.hid (((hor.out.alloc _).trans ho2).trans ho3), ?_⟩
        · rw [hPS.out, ← ha.out]; simpa using hB3
        · have := hb3.size; simp at hs2; omega
    · have : k = ts.length := by omega
      subst this
      have hp1 := HL.out ts.length (by omega)
      have hlk : (l ++ pre ts ts.length).length + 1 ≤ 140737488355328 := by simp; omega
      have hBw : B ≤ wr.heap.size := by omega
      go_wp2_with (go_at_call 109; go_must (refine (WriteByte_c B b _ 41 _ rfl _ hBr.out hlk hBw).mono ?_; rintro e w2 ⟨rfl, hB2, hb2, ho2⟩))
      go_end0
      refine ⟨rfl, ?_, hbr.out.trans hb2, hor.out.trans ho2⟩
      rw [← hE.out, ← List.append_assoc]; exact hB2
theorem write_all : ∀ n, WriteC n
  | 0 => fun t _ _ _ _ _ _ _ _ h => by omega
  | n + 1 => fun t p m c ok l B b w hd hwf hv hok hB hl => by
    match t with
    | .atom a => exact write_atom n a p m c ok l B b w hv hB hl
    | .list ts => exact write_list n (write_all n) ts p m c ok l B b w hd hwf hv hok hB hl
end Go.Proofs.YtjncmmnbdabjnaaGreatDoor
namespace Go.Proofs.YtjncmmnbdabjnaaGreatDoor
open Go.RowKit
set_option maxRecDepth 8000
set_option linter.unusedSimpArgs false
set_option linter.unusedVariables false
set_option maxHeartbeats 1000000 in
theorem text_c (t : Tr) (p : Option Addr) (m c : Nat) (ok : Nat → Prop) (w : World) (hwf : t.wf) (hb : t.bytes ≤ 100000000000) (hv : FV nI w ok t (nI t (.slice p m c))) (hok : ∀ k, ok k → k < w.heap.size) :
    Calls Tryz.prog 43 #[.agg #[.string (bs (atomOf t)), .slice p m c, .int .i64 t.bytes, .int .i64 t.size, .int .i64 t.depth]] w fun e w' => e = .returned (.string (bs t.text)) ∧ Below w.heap.size w w' := by
  have HW : Hid (∀ (W : World) (B b : Nat), Below w.heap.size w W → w.heap.size ≤ B → Bld B b [] W → Calls Tryz.prog 74 #[.agg #[.string (bs (atomOf t)), .slice p m c, .int .i64 t.bytes, .int .i64 t.size, .int .i64 t.depth], .pointer (some ⟨b, 0, none⟩)] W fun e w' => e = .returned (.tuple #[]) ∧ Bld B b t.text w' ∧ Below B W w') :=
    Lib.hid (fun W B b h1 h2 h3 => (write_all (t.depth + 1) t p m c ok [] B b W (by omega) hwf (hv.below h1 hok) (fun k hk => Nat.lt_of_lt_of_le (hok k hk) h2) h3 (by simpa using hb)).mono fun e w' ⟨k1, k2, k3, _⟩ => ⟨k1, by simpa using k2, k3⟩)
  have hs := (size_le t hwf)
  have hd := depth_le t hwf
  clear hv hwf
  go_enter Tryz.func43, Tryz.ntmps43
  go_wp2_with (first | (go_at_call 73; go_must (refine (Tryz.Builder_Grow_fresh (w.heap.size + 1) (w.heap.size + 1) t.bytes _ (Nat.le_refl _) (heap_alloc_new2 _ _ _) (by simp) (by omega)).mono ?_; rintro e w1 ⟨rfl, hB1, hb1⟩; have c1 := below_blk hb1 (by omega) (blk_alloc (heap_alloc_new _ _)); have z0 := cell_of (j := 0) c1; have z1 := cell_of (j := 1) c1; have z2 := cell_of (j := 2) c1; have z3 := cell_of (j := 3) c1; have z4 := cell_of (j := 4) c1; have hw1 := Lib.hid ((below2 w _ _).trans (hb1.mono (by omega))); have hs1 := hb1.size)) | (go_at_call 74; go_must (refine (HW.out w1 (w.heap.size + 1) (w.heap.size + 1) hw1.out (by omega) (Lib.BuilderAtF.of hB1)).mono ?_; rintro e w2 ⟨rfl, hB2, hb2⟩)) | (go_at_call 75; go_must (refine (Tryz.Builder_String_any_f (w.heap.size + 1) (w.heap.size + 1) t.text _ (.inr hB2) (by have := hB2.lt; omega)).mono ?_; rintro e w3 ⟨rfl, _, hb3⟩)))
  go_ret
  exact ⟨rfl, hw1.out.trans ((hb2.mono (by omega)).trans (hb3.mono (by omega)))⟩
end Go.Proofs.YtjncmmnbdabjnaaGreatDoor
