/- The program's numerals. The reference model reads whole texts as expressions. The reference model: the head of an expression; l2Parse by cases. The reference model: the names bound in a part; counting. -/
import Derived.Test.YtjncmmnbdabjnaaGreatDoorNumSM
import Derived.Test.YtjncmmnbdabjnaaGreatDoorShelf
import Derived.Lib.SmallJoins
import Derived.Deep.QuietTactic
import Derived.BigQuiet
import Derived.Test.YtjncmmnbdabjnaaGreatDoorSpec2b
import Derived.Deep.RegionWith
import Derived.Test.YtjncmmnbdabjnaaGreatDoorB3
import Derived.Test.YtjncmmnbdabjnaaGreatDoorS1z
namespace Go.Proofs.YtjncmmnbdabjnaaGreatDoor
open Go.RowKit
set_option maxRecDepth 8000
set_option linter.unusedSimpArgs false
set_option linter.unusedVariables false
set_option maxHeartbeats 1000000 in
theorem isDigits_c (s : ByteArray) (hs : s.size ≤ 1048576) (w : World) : Calls Tryz.prog 100 #[.string s] w fun e w' => e = .returned (.bool (Lib.decFrom 0 s.data.toList).isSome) ∧ w' = w := by
  obtain ⟨R, hR⟩ : ∃ R, R = (Lib.decFrom 0 s.data.toList).isSome := ⟨_, rfl⟩
  rw [← hR]
  have HR := Lib.hid hR
  clear hR
  go_enter Tryz.func100, Tryz.ntmps100
  go_wp2_with fail
  go_loop [6] (fun i => ∃ k : Nat, k ≤ s.size ∧ i = .int .i64 k ∧ Hid (∃ m, Lib.decFrom 0 (s.data.toList.take k) = some m)) (fun i => s.size - (intOf i).toNat)
  case atStart => exact ⟨0, Nat.zero_le _, rfl, Lib.hid ⟨0, rfl⟩⟩
  case round =>
    obtain ⟨k, hk, rfl, hm⟩ := hrel
    by_cases hlt : k < s.size
    · have hbk : s.data.toList[k]? = some s[k] := by rw [List.getElem?_eq_getElem (by simpa using hlt)]; rfl
      have hk0 : (0 : Int) ≤ (k : Int) := by omega
      obtain ⟨b, hb⟩ : ∃ b, b = s[k] := ⟨_, rfl⟩
      by_cases hdg : 48 ≤ b.toNat ∧ b.toNat ≤ 57
      · have hdv : Lib.digitVal s[k] = some (b.toNat - 48) := by rw [← hb]; simp [Lib.digitVal, hdg]
        have HS : Hid (∃ m, Lib.decFrom 0 (s.data.toList.take (k + 1)) = some m) := Lib.hid (by obtain ⟨m, h⟩ := hm.out; exact ⟨_, Lib.decFrom_take _ k 0 m _ _ h hbk hdv⟩)
        have hd1 : ¬ ((b.toNat : Int) < 48) := by omega
        have hd2 : ¬ ((57 : Int) < b.toNat) := by omega
        have hb8 : s[k] = b := hb.symm
        clear hb hbk hdv
        go_wp2_with fail
        exact ⟨⟨k + 1, by omega, by go_num, HS⟩, by simp [intOf]; omega⟩
      · have hdv : Lib.digitVal s[k] = none := by rw [← hb]; simp only [Lib.digitVal]; rw [if_neg hdg]
        have HNN := Lib.hid (decFrom_bad s.data.toList 0 k _ hbk hdv)
        have hb8 : s[k] = b := hb.symm
        clear hb hbk hdv
        by_cases hd1 : ((b.toNat : Int) < 48)
        · go_wp2_with fail
          go_ret
          exact ⟨ret_bool (by rw [HR.out, HNN.out]; rfl), rfl⟩
        · have hd2 : (57 : Int) < b.toNat := by omega
          go_wp2_with fail
          go_ret
          exact ⟨ret_bool (by rw [HR.out, HNN.out]; rfl), rfl⟩
    · have : k = s.size := by omega
      subst this
      have hm' := hm.out
      rw [← size_data, List.take_length] at hm'
      have HM := Lib.hid hm'
      clear hm'
      go_wp2_with fail
      go_ret
      exact ⟨ret_bool (by obtain ⟨m, h⟩ := HM.out; rw [HR.out, h]; rfl), rfl⟩
theorem trim_c (l : List UInt8) (w : World) : Calls Tryz.prog 162 #[.string (bs l), .string ⟨#[45]⟩] w fun e w' => e = .returned (.string (bs (digitsOf l))) ∧ w' = w :=
  (Tryz.strings_TrimPrefix (bs l) ⟨#[45]⟩ w).mono fun e w' ⟨h1, h2⟩ => ⟨by rw [h1, ← trim_minus]; rfl, h2⟩
theorem below_bytes (w : World) (e : TypeId) (s : ByteArray) : Below w.heap.size w (Lib.bytesWorld w e s) := Go.Joins.below_bytesWorld _ _ _ _ (Nat.le_refl _)
set_option maxHeartbeats 2000000 in
theorem readNumeral_c (l : List UInt8) (hl : l.length ≤ 1048576) (w : World) : Calls Tryz.prog 147 #[.string (bs l)] w fun e w' => NumPost (numOf l) e ∧ Below w.heap.size w w' := by
  obtain ⟨R, hR⟩ : ∃ R, R = numOf l := ⟨_, rfl⟩
  rw [← hR]
  have HR := Lib.hid hR
  clear hR
  by_cases h0 : l = [48]
  · subst h0
    have HN := Lib.hid numOf_zero
    rw [show bs [48] = ⟨#[48]⟩ from rfl]
    go_enter Tryz.func147, Tryz.ntmps147
    go_wp2_with fail
    go_ret2
    exact ⟨by rw [HR.out, HN.out]; rfl, Below.refl _ _⟩
  have hz1 : ((bs l).toList == [48]) = false := by rw [bs_toList]; simpa using h0
  have hz2 : ¬ (bs l).toList = [48] := by rw [bs_toList]; exact h0
  have HT := Lib.hid (trim_c l)
  have hdl := digitsOf_len l
  obtain ⟨D, hD⟩ : ∃ D, D = bs (digitsOf l) := ⟨_, rfl⟩
  have hDs : D.size = (digitsOf l).length := by rw [hD, bs_size]
  have hDl : D.data.toList = digitsOf l := by rw [hD, bs_data]
  rw [← hD] at HT
  have HDl := Lib.hid hDl
  have ID := Lib.hid (isDigits_c D (by omega))
  by_cases hin : 1 ≤ D.size ∧ D.size ≤ 3
  · have hD0 : 0 < D.size := by omega
    have hD0' : (0 : Int) < (D.size : Int) := by omega
    have hn1 : ¬ ((D.size : Int) < 1) := by omega
    have hn3 : ¬ ((3 : Int) < (D.size : Int)) := by omega
    by_cases h48 : D[0] = 48
    · have hh : ((D[0].toNat : Int) == 48) = true := by rw [h48]; rfl
      have HN := Lib.hid (numOf_no h0 (fun q => q.2.2 (by rw [← hDl, List.head?_eq_getElem?, List.getElem?_eq_getElem (by rw [hDl]; omega)]; exact congrArg some h48)))
      clear h48 hDs hDl hD hdl
      go_enter Tryz.func147, Tryz.ntmps147
      go_wp2_with (go_at_call 162; go_must (refine (HT.out _).mono ?_; rintro e w1 ⟨rfl, rfl⟩))
      go_ret2
      exact ⟨by rw [HR.out, HN.out]; rfl, Below.refl _ _⟩
    · have hh : ((D[0].toNat : Int) == 48) = false := by simp only [beq_eq_false_iff_ne, ne_eq]; intro q; exact h48 (UInt8.toNat_inj.1 (by have : (48 : UInt8).toNat = 48 := rfl; omega))
      have HN := Lib.hid (numOf_yes h0 ⟨by omega, by omega, fun q => h48 (by rw [← hDl, List.head?_eq_getElem?, List.getElem?_eq_getElem (by rw [hDl]; omega)] at q; exact Option.some.inj q)⟩)
      cases hdc : Lib.decFrom 0 (digitsOf l) with
      | none =>
        unfold Hid at ID HN
        rw [hDl, hdc] at ID
        rw [hdc] at HN
        have ID := Lib.hid ID
        have HN := Lib.hid HN
        clear h48 hDs hDl hD hdl hdc
        go_enter Tryz.func147, Tryz.ntmps147
        go_wp2_with (first | (go_at_call 162; go_must (refine (HT.out _).mono ?_; rintro e w1 ⟨rfl, rfl⟩)) | (go_at_call 100; go_must (refine (ID.out _).mono ?_; rintro e w2 ⟨rfl, rfl⟩)))
        go_ret2
        exact ⟨by rw [HR.out, HN.out]; rfl, Below.refl _ _⟩
      | some m =>
        have AT := Lib.hid (fun W => Tryz.strconv_Atoi (bs l) (signOf l * (m : Int)) (by rw [bs_size]; omega) (atoi_num h0 (by intro q; have q' : digitsOf l = [] := q; have : D.size = 0 := (by rw [hDs, q']; rfl); omega) hdc) W)
        unfold Hid at ID HN
        rw [hDl, hdc] at ID
        rw [hdc] at HN
        have ID := Lib.hid ID
        have HN := Lib.hid HN
        obtain ⟨v, hv⟩ : ∃ v, v = signOf l * (m : Int) := ⟨_, rfl⟩
        rw [← hv] at AT
        have HV := Lib.hid hv
        clear h48 hDs hDl hD hdl hdc hv
        go_enter Tryz.func147, Tryz.ntmps147
        go_wp2_with (first | (go_at_call 162; go_must (refine (HT.out _).mono ?_; rintro e w1 ⟨rfl, rfl⟩)) | (go_at_call 100; go_must (refine (ID.out _).mono ?_; rintro e w2 ⟨rfl, rfl⟩)) | (go_at_call 163; go_must (refine (AT.out _).mono ?_; rintro e w3 ⟨rfl, tt, rfl⟩)))
        go_quiet (fail)
        go_wp2_with fail
        go_ret2
        exact ⟨by rw [HR.out, HN.out, HV.out]; rfl, (below_bytes _ _ _).trans ⟨rfl, rfl, rfl, Nat.le_refl _, fun _ _ => rfl⟩⟩
  · have hn : (D.size : Int) < 1 ∨ (3 : Int) < (D.size : Int) := by omega
    have HN := Lib.hid (numOf_no h0 (fun q => hin ⟨by omega, by omega⟩))
    clear hDs hDl hD hdl
    rcases hn with hn | hn
    · go_enter Tryz.func147, Tryz.ntmps147
      go_wp2_with (go_at_call 162; go_must (refine (HT.out _).mono ?_; rintro e w1 ⟨rfl, rfl⟩))
      go_ret2
      exact ⟨by rw [HR.out, HN.out]; rfl, Below.refl _ _⟩
    · have hn1 : ¬ ((D.size : Int) < 1) := by omega
      go_enter Tryz.func147, Tryz.ntmps147
      go_wp2_with (go_at_call 162; go_must (refine (HT.out _).mono ?_; rintro e w1 ⟨rfl, rfl⟩))
      go_ret2
      exact ⟨by rw [HR.out, HN.out]; rfl, Below.refl _ _⟩
theorem numPost_shape (r : Option Int) : ∃ x z, ∀ e, NumPost r e → e = .returned (.tuple #[.int .i64 x, .bool z]) := ⟨_, _, fun e h => h⟩
end Go.Proofs.YtjncmmnbdabjnaaGreatDoor
namespace Go.Proofs.YtjncmmnbdabjnaaGreatDoor
open Go.RowKit
set_option maxRecDepth 8000
set_option linter.unusedSimpArgs false
set_option linter.unusedVariables false
/-- The tree of an expression within the limits. -/
def parseE (l : List UInt8) : Option Tr :=
  match parse l with
  | none => none
  | some t => if isEx t = true ∧ t.size ≤ 120 then some t else none
theorem parseE_none {l : List UInt8} (h : parse l = none) : parseE l = none := by simp [parseE, h]
theorem parseE_bad {l : List UInt8} {t : Tr} (h : parse l = some t) (hb : isEx t = false) : parseE l = none := by simp [parseE, h, hb]
theorem parseE_long {l : List UInt8} {t : Tr} (h : parse l = some t) (hb : ¬ t.size ≤ 120) : parseE l = none := by simp [parseE, h, hb]
theorem parseE_some {l : List UInt8} {t : Tr} (h : parse l = some t) (hb : isEx t = true) (hs : t.size ≤ 120) : parseE l = some t := by simp [parseE, h, hb, hs]
theorem parseE_got {l : List UInt8} {t : Tr} (h : parseE l = some t) : parse l = some t ∧ isEx t = true ∧ t.size ≤ 120 := by
  unfold parseE at h
  cases hp : parse l with
  | none => simp [hp] at h
  | some t2 =>
    simp only [hp] at h
    split at h
    · rename_i hq
      simp only [Option.some.injEq] at h
      subst h
      exact ⟨rfl, hq⟩
    · simp at h
theorem readEx_parseE (l : List UInt8) : (readEx l).isSome = (parseE l).isSome := by
  cases hp : parse l with
  | none => rw [readEx_none hp, parseE_none hp]; rfl
  | some t =>
    rw [readEx_some hp]
    by_cases hs : t.size ≤ 120
    · rw [if_pos hs]
      cases hv : isEx t with
      | true => rw [parseE_some hp hv hs]; exact hv
      | false => rw [parseE_bad hp hv]; exact hv
    · rw [if_neg hs, parseE_long hp hs]; rfl
theorem set2 {w W : World} (h : Below w.heap.size w W) (v u : Value) : Below w.heap.size w ((W.setCell ⟨w.heap.size, 0, none⟩ v).setCell ⟨w.heap.size, 1, none⟩ u) := (h.setCell (Nat.le_refl _) v).setCell (Nat.le_refl _) u
theorem fv_lenS {w : World} {ok : Nat → Prop} : ∀ {t : Tr} {p : Option Addr} {n c : Nat}, FV nS w ok t (nS t (.slice p n c)) → n ≤ maxLen
  | .atom a, p, n, c, h => by
    simp only [FV, nS] at h
    simp at h
    omega
  | .list ts, p, n, c, h => by
    simp only [FV] at h
    obtain ⟨r, off, cap, xs, hh, _, h3, h4, _⟩ := h
    simp [nS] at hh
    omega
set_option maxHeartbeats 2000000 in
theorem l2Parse_c (s : ByteArray) (hs : s.size ≤ 1048576) (w : World) :
    Calls Tryz.prog 51 #[.string s] w fun e w' => ParsePost w.heap.size (parseE s.data.toList) e w' ∧ Below w.heap.size w w' := by
  cases hp : parse s.data.toList with
  | none =>
    have HD := Lib.hid (parseE_none hp)
    have C : Hid (∀ W, Calls Tryz.prog 86 #[.string s] W fun e w' => (∃ a p n c, e = .returned (.tuple #[.agg #[.string a, .slice p n c], .bool false]) ∧ n ≤ maxLen) ∧ Below W.heap.size W w') := Lib.hid (fun W => (l1Parse_c s hs W).mono fun e w' ⟨h1, h2⟩ => ⟨by rw [hp] at h1; exact h1, h2⟩)
    clear hp
    go_enter Tryz.func51, Tryz.ntmps51
    go_wp2_with (go_at_call 86; go_must (refine (C.out _).mono ?_; rintro e w1 ⟨⟨a, p, n, c, rfl, hn⟩, hb1⟩; have y0 := below_blk hb1 (by simp) (heap_alloc_new _ _); have z0 := cell_of (j := 0) y0; have z1 := cell_of (j := 1) y0; have f0 := free_of (j := 0) y0; have f1 := free_of (j := 1) y0; have hs1 := hb1.size; have hs4 : w.heap.size < w1.heap.size := (by simp at hs1; omega)))
    go_region_with (fail)
    all_goals
      go_wp2_with fail
      refine bodyPost_ret (v := .tuple #[.agg #[.string a, .slice p n c], .bool false]) (by simp [results, Tryz.results51, go_sem, z0, z1, hs4]) rfl ⟨by rw [HD.out]; exact ⟨_, _, _, _, rfl, hn⟩, ?_⟩
      have hw1 : Below w.heap.size w w1 := (below1 w _).trans (hb1.mono (by simp))
      have h2 := set2 hw1 (.string a) (.slice p n c)
      exact (h2.alloc h2.size _).drew
  | some t =>
    have hg := parse_got hp
    have hwf := hg.1
    have hbt : t.bytes ≤ 12000 := by have := hg.2; omega
    have C : Hid (∀ W, Calls Tryz.prog 86 #[.string s] W fun e w' => (∃ p n c, e = .returned (.tuple #[.agg #[.string (bs (atomOf t)), .slice p n c], .bool true]) ∧ FV nS w' (fun k => W.heap.size ≤ k ∧ k < w'.heap.size) t (nS t (.slice p n c))) ∧ Below W.heap.size W w') := Lib.hid (fun W => (l1Parse_c s hs W).mono fun e w' ⟨h1, h2⟩ => ⟨by rw [hp] at h1; exact h1, h2⟩)
    have CV : Hid (∀ (w1 W : World) (B : Nat) p n c, FV nS w1 (fun k => B ≤ k ∧ k < w1.heap.size) t (nS t (.slice p n c)) → Below w1.heap.size w1 W → Calls Tryz.prog 87 #[.agg #[.string (bs (atomOf t)), .slice p n c]] W fun e w' => e = .returned (.bool (isEx t)) ∧ Below W.heap.size W w') :=
      Lib.hid (fun w1 W B p n c hv hW => l2Valid_c (t.depth + 1) t (nS t (.slice p n c)) _ W (by omega) hwf hbt (hv.below hW (fun k hk => hk.2)) (fun k hk => Nat.lt_of_lt_of_le hk.2 hW.size))
    have CS : Hid (∀ (w1 W : World) (B : Nat) p n c, FV nS w1 (fun k => B ≤ k ∧ k < w1.heap.size) t (nS t (.slice p n c)) → Below w1.heap.size w1 W → Calls Tryz.prog 88 #[.agg #[.string (bs (atomOf t)), .slice p n c]] W fun e w' => e = .returned (.int .i64 t.size) ∧ Below W.heap.size W w') :=
      Lib.hid (fun w1 W B p n c hv hW => l1Size_c (t.depth + 1) t (nS t (.slice p n c)) _ W (by omega) hwf (by omega) (hv.below hW (fun k hk => hk.2)) (fun k hk => Nat.lt_of_lt_of_le hk.2 hW.size))
    have hst : t.size ≤ 12000 := by have := (size_le t hwf).1; omega
    clear hg hbt
    cases hx : isEx t with
    | false =>
      have HD := Lib.hid (parseE_bad hp hx)
      rw [hx] at CV
      clear hp hx hwf hst
      go_enter Tryz.func51, Tryz.ntmps51
      go_wp2_with (go_at_call 86; go_must (refine (C.out _).mono ?_; rintro e w1 ⟨⟨p, n, c, rfl, hv⟩, hb1⟩; have y0 := below_blk hb1 (by simp) (heap_alloc_new _ _); have z0 := cell_of (j := 0) y0; have z1 := cell_of (j := 1) y0; have f0 := free_of (j := 0) y0; have f1 := free_of (j := 1) y0; have hs1 := hb1.size; have hs4 : w.heap.size < w1.heap.size := (by simp at hs1; omega)))
      go_region_with (first | (go_at_call 87; refine (CV.out _ _ _ _ _ _ hv (((Below.refl _ _).alloc (Nat.le_refl _) _).drew)).mono ?_; rintro e w2 ⟨rfl, hb2⟩; have hk2 := (((Below.refl w1.heap.size w1).alloc (Nat.le_refl _) _).drew).trans (hb2.mono (by simp)); have y2 := below_blk hk2 hs4 y0; have x2 := below_blk hb2 (by simp) (heap_alloc_new _ _); have p0 := cell_of (j := 0) y2; have p1 := cell_of (j := 1) y2; have q0 := free_of (j := 0) y2; have q1 := free_of (j := 1) y2; have u0 := cell_of (j := 0) x2; have u1 := cell_of (j := 1) x2; have hs5 : w.heap.size < w2.heap.size := (by have := hk2.size; omega)) | (go_at_call 88; refine (CS.out _ _ _ _ _ _ hv hk2).mono ?_; rintro e w3 ⟨rfl, hb3⟩; have hk3 := hk2.trans (hb3.mono hk2.size); have y3 := below_blk hk3 hs4 y0; have x3 := below_blk hb3 (lt_of_block x2) x2; have p0 := cell_of (j := 0) y3; have p1 := cell_of (j := 1) y3; have q0 := free_of (j := 0) y3; have q1 := free_of (j := 1) y3; have u0 := cell_of (j := 0) x3; have u1 := cell_of (j := 1) x3; have hs6 : w.heap.size < w3.heap.size := (by have := hk3.size; omega)))
      all_goals
        go_wp2_with fail
        refine bodyPost_ret (v := .tuple #[.agg #[.string (bs (atomOf t)), .slice p n c], .bool false]) (by simp [results, Tryz.results51, go_sem, p0, p1, hs4, hs5]) rfl ⟨?_, ?_⟩
        · rw [HD.out]; exact ⟨_, _, _, _, rfl, fv_lenS hv⟩
        · have hw1 : Below w.heap.size w w1 := (below1 w _).trans (hb1.mono (by simp))
          exact set2 (hw1.trans (hk2.mono hw1.size)) _ _
    | true =>
      rw [hx] at CV
      by_cases hz : t.size ≤ 120
      · have HD := Lib.hid (parseE_some hp hx hz)
        have hz2 : (t.size : Int) ≤ 120 := by omega
        clear hp hx hwf
        go_enter Tryz.func51, Tryz.ntmps51
        go_wp2_with (go_at_call 86; go_must (refine (C.out _).mono ?_; rintro e w1 ⟨⟨p, n, c, rfl, hv⟩, hb1⟩; have y0 := below_blk hb1 (by simp) (heap_alloc_new _ _); have z0 := cell_of (j := 0) y0; have z1 := cell_of (j := 1) y0; have f0 := free_of (j := 0) y0; have f1 := free_of (j := 1) y0; have hs1 := hb1.size; have hs4 : w.heap.size < w1.heap.size := (by simp at hs1; omega)))
        go_region_with (first | (go_at_call 87; refine (CV.out _ _ _ _ _ _ hv (((Below.refl _ _).alloc (Nat.le_refl _) _).drew)).mono ?_; rintro e w2 ⟨rfl, hb2⟩; have hk2 := (((Below.refl w1.heap.size w1).alloc (Nat.le_refl _) _).drew).trans (hb2.mono (by simp)); have y2 := below_blk hk2 hs4 y0; have x2 := below_blk hb2 (by simp) (heap_alloc_new _ _); have p0 := cell_of (j := 0) y2; have p1 := cell_of (j := 1) y2; have q0 := free_of (j := 0) y2; have q1 := free_of (j := 1) y2; have u0 := cell_of (j := 0) x2; have u1 := cell_of (j := 1) x2; have hs5 : w.heap.size < w2.heap.size := (by have := hk2.size; omega)) | (go_at_call 88; refine (CS.out _ _ _ _ _ _ hv hk2).mono ?_; rintro e w3 ⟨rfl, hb3⟩; have hk3 := hk2.trans (hb3.mono hk2.size); have y3 := below_blk hk3 hs4 y0; have x3 := below_blk hb3 (lt_of_block x2) x2; have p0 := cell_of (j := 0) y3; have p1 := cell_of (j := 1) y3; have q0 := free_of (j := 0) y3; have q1 := free_of (j := 1) y3; have u0 := cell_of (j := 0) x3; have u1 := cell_of (j := 1) x3; have hs6 : w.heap.size < w3.heap.size := (by have := hk3.size; omega)))
        all_goals
          go_wp2_with fail
          refine bodyPost_ret (v := .tuple #[.agg #[.string (bs (atomOf t)), .slice p n c], .bool true]) (by simp [results, Tryz.results51, go_sem, p0, p1, hs4, hs5, hs6]) rfl ⟨?_, ?_⟩
          · rw [HD.out]
            refine ⟨p, n, c, rfl, FV.move (fun k hk => ?_) (fun k hk => ?_) _ _ hv⟩
            · have := hk3.size; simp at hk ⊢; omega
            · rw [blk_set_other _ (by simp at hk ⊢; omega), blk_set_other _ (by simp at hk ⊢; omega)]; exact hk3.block k hk.2
          · have hw1 : Below w.heap.size w w1 := (below1 w _).trans (hb1.mono (by simp))
            exact set2 (hw1.trans (hk3.mono hw1.size)) _ _
      · have HD := Lib.hid (parseE_long hp hz)
        have hz2 : ¬ (t.size : Int) ≤ 120 := by omega
        clear hp hx hwf
        go_enter Tryz.func51, Tryz.ntmps51
        go_wp2_with (go_at_call 86; go_must (refine (C.out _).mono ?_; rintro e w1 ⟨⟨p, n, c, rfl, hv⟩, hb1⟩; have y0 := below_blk hb1 (by simp) (heap_alloc_new _ _); have z0 := cell_of (j := 0) y0; have z1 := cell_of (j := 1) y0; have f0 := free_of (j := 0) y0; have f1 := free_of (j := 1) y0; have hs1 := hb1.size; have hs4 : w.heap.size < w1.heap.size := (by simp at hs1; omega)))
        go_region_with (first | (go_at_call 87; refine (CV.out _ _ _ _ _ _ hv (((Below.refl _ _).alloc (Nat.le_refl _) _).drew)).mono ?_; rintro e w2 ⟨rfl, hb2⟩; have hk2 := (((Below.refl w1.heap.size w1).alloc (Nat.le_refl _) _).drew).trans (hb2.mono (by simp)); have y2 := below_blk hk2 hs4 y0; have x2 := below_blk hb2 (by simp) (heap_alloc_new _ _); have p0 := cell_of (j := 0) y2; have p1 := cell_of (j := 1) y2; have q0 := free_of (j := 0) y2; have q1 := free_of (j := 1) y2; have u0 := cell_of (j := 0) x2; have u1 := cell_of (j := 1) x2; have hs5 : w.heap.size < w2.heap.size := (by have := hk2.size; omega)) | (go_at_call 88; refine (CS.out _ _ _ _ _ _ hv hk2).mono ?_; rintro e w3 ⟨rfl, hb3⟩; have hk3 := hk2.trans (hb3.mono hk2.size); have y3 := below_blk hk3 hs4 y0; have x3 := below_blk hb3 (lt_of_block x2) x2; have p0 := cell_of (j := 0) y3; have p1 := cell_of (j := 1) y3; have q0 := free_of (j := 0) y3; have q1 := free_of (j := 1) y3; have u0 := cell_of (j := 0) x3; have u1 := cell_of (j := 1) x3; have hs6 : w.heap.size < w3.heap.size := (by have := hk3.size; omega)))
        all_goals
          go_wp2_with fail
          refine bodyPost_ret (v := .tuple #[.agg #[.string (bs (atomOf t)), .slice p n c], .bool false]) (by simp [results, Tryz.results51, go_sem, p0, p1, hs4, hs5, hs6]; omega) rfl ⟨?_, ?_⟩
          · rw [HD.out]; exact ⟨_, _, _, _, rfl, fv_lenS hv⟩
          · have hw1 : Below w.heap.size w w1 := (below1 w _).trans (hb1.mono (by simp))
            exact set2 (hw1.trans (hk3.mono hw1.size)) _ _
theorem parsePostE_shape {B : Nat} {res : Option Tr} {e : Ending} {w' : World} (h : ParsePost B res e w') : ∃ a p n c, e = .returned (.tuple #[.agg #[.string a, .slice p n c], .bool res.isSome]) := parsePost_shape h
set_option maxHeartbeats 400000 in
theorem specExprValid_c (s : ByteArray) (hs : s.size ≤ 1048576) (w : World) :
    Calls Tryz.prog 122 #[.string s] w fun e w' => e = .returned (.bool (parseE s.data.toList).isSome) ∧ Below w.heap.size w w' := by
  go_enter Tryz.func122, Tryz.ntmps122
  go_wp2_with (go_at_call 51; go_must (refine (l2Parse_c s hs _).mono ?_; rintro e w1 ⟨hp, hb1⟩; obtain ⟨a, p, n, c, rfl⟩ := parsePost_shape hp; clear hp))
  go_ret
  exact ⟨rfl, hb1.alloc hb1.size _⟩
end Go.Proofs.YtjncmmnbdabjnaaGreatDoor
namespace Go.Proofs.YtjncmmnbdabjnaaGreatDoor
open Go.RowKit
set_option maxRecDepth 8000
set_option linter.unusedSimpArgs false
set_option linter.unusedVariables false
theorem l2Parse_none {s : ByteArray} (hs : s.size ≤ 1048576) (hp : parseE s.data.toList = none) (W : World) : Calls Tryz.prog 51 #[.string s] W fun e w' => (∃ a p n c, e = .returned (.tuple #[.agg #[.string a, .slice p n c], .bool false]) ∧ n ≤ maxLen) ∧ Below W.heap.size W w' :=
  (l2Parse_c s hs W).mono fun e w' ⟨h1, h2⟩ => ⟨by rw [hp] at h1; exact h1, h2⟩
theorem l2Parse_some {s : ByteArray} (hs : s.size ≤ 1048576) {t : Tr} (hp : parseE s.data.toList = some t) (W : World) : Calls Tryz.prog 51 #[.string s] W fun e w' => (∃ p n c, e = .returned (.tuple #[.agg #[.string (bs (atomOf t)), .slice p n c], .bool true]) ∧ FV nS w' (fun k => W.heap.size ≤ k ∧ k < w'.heap.size) t (nS t (.slice p n c))) ∧ Below W.heap.size W w' :=
  (l2Parse_c s hs W).mono fun e w' ⟨h1, h2⟩ => ⟨by rw [hp] at h1; exact h1, h2⟩
/-- The head of the expression that is a text. -/
def headE (l : List UInt8) : List UInt8 := match parseE l with | none => [] | some t => headT t
theorem headE_none {l : List UInt8} (h : parseE l = none) : headE l = [] := by simp [headE, h]
theorem headE_some {l : List UInt8} {t : Tr} (h : parseE l = some t) : headE l = headT t := by simp [headE, h]
theorem asEx_wfl {ts : List Tr} (h : (Tr.list ts).wf) : ∃ a b, ts = a :: b := by
  cases ts with
  | nil => simp [Tr.wf] at h
  | cons a b => exact ⟨a, b, rfl⟩
end Go.Proofs.YtjncmmnbdabjnaaGreatDoor
namespace Go.Proofs.YtjncmmnbdabjnaaGreatDoor
open Go.RowKit
set_option linter.unusedSimpArgs false
set_option linter.unusedVariables false
theorem strS_made {w : World} {b : Nat} {l : List (List UInt8)} {t : TypeId} (h : w.heap[b]? = some (.cells (l.map strV).toArray t (0, 0))) (c : Nat) (hl : l.length ≤ 1000000) : StrS w (.slice (some ⟨b, 0, none⟩) l.length c) l :=
  ⟨_, c, rfl, by omega, fun _ => ⟨b, 0, rfl, fun j v hj => by rw [Nat.zero_add, cell_of h]; simpa using hj⟩⟩
theorem made_fresh (w : World) {n c : Nat} : ∀ k, (Value.slice (some ⟨w.heap.size + 1, 0, none⟩) n c).ownBlock = some k → w.heap.size < k := fun k hk => by simp [Value.ownBlock] at hk; omega
theorem kids_bound {h : Tr} {ps : List Tr} {x : Ex} {a : Nat} (V : KidView h ps x a) {j : Nat} (hj : j < (kidsE x).length) : a + j < (h :: ps).length := by
  have := V.len
  simp only [List.length_cons]; omega
set_option maxHeartbeats 1000000 in
theorem l2Binds_c (h : Tr) (ps : List Tr) (x : Ex) (a j : Nat) (V : KidView h ps x a) (hj : j < (kidsE x).length) (cs : List Value) (ok : Nat → Prop) (w : World) (hv : FV nS w ok (.list (h :: ps)) cs) (hok : ∀ k, ok k → k < w.heap.size) :
    Calls Tryz.prog 98 #[.agg cs.toArray, .int .i64 (a + j : Nat)] w fun e w' => (∃ v, e = .returned v ∧ StrS w' v (bindE x j) ∧ ∀ k, v.ownBlock = some k → w.heap.size < k) ∧ Below w.heap.size w w' := by
  have h0 := V.bind j hj
  have hkb := kids_bound V hj
  rw [← h0]
  clear h0
  have hV := V.two
  clear V hj
  generalize a + j = k at *
  simp only [FV] at hv
  obtain ⟨r, off, cap, xs, rfl, h2, h3, h4, h5, h6⟩ := hv
  have hrlt := hok r h2
  have e0 : w.cell? ⟨r, off, none⟩ = some (.string (bs (atomOf h))) := by
    obtain ⟨p, m, c, _, q, _⟩ := kid_S h6 h5 0 (by simp)
    simpa using q
  obtain ⟨L, hL⟩ : ∃ L, L = (h :: ps).length := ⟨_, rfl⟩
  rw [← hL] at h3 hkb
  have hLm : L ≤ 9223372036854775807 := by have := maxLen_le h4; omega
  by_cases hlet : atomOf h = kLet
  · have hps := hV.1 hlet
    have hL2 : 2 < L := by rw [hL]; simp only [List.length_cons]; omega
    have e1 : w.cell? ⟨r, off + 2, none⟩ = some (.string (bs (atomOf (ps.getD 0 default)))) := by
      obtain ⟨p, m, c, _, q, _⟩ := kid_S h6 h5 1 (by simp only [List.length_cons]; omega)
      match ps, hps, q with
      | b :: l, _, q => simpa using q
    have s1 : ((bs (atomOf h)).toList == [108, 101, 116]) = true := by rw [bs_toList, hlet]; rfl
    by_cases h3k : k = 3
    · have HT := Lib.hid (show bindT h ps k = [atomOf (ps.getD 0 default)] by simp [bindT, hlet, h3k])
      subst h3k
      generalize atomOf (ps.getD 0 default) = x0 at *
      generalize bindT h ps 3 = T at *
      generalize atomOf h = hd0 at *
      simp only [nS, atomOf, ← hL]
      clear hL hV hlet hps h6 h5
      go_enter Tryz.func98, Tryz.ntmps98
      go_wp2_with fail
      go_ret
      refine ⟨⟨_, rfl, ?_, made_fresh w⟩, below2 _ _ _⟩
      rw [HT.out]
      exact strS_made (l := [x0]) (heap_alloc_new2 _ _ _) _ (by simp)
    · have HT := Lib.hid (show bindT h ps k = [] by simp [bindT, hlet, h3k, kLet, kFun])
      have s2 : ((bs (atomOf h)).toList == [102, 117, 110]) = false := by rw [bs_toList, hlet]; rfl
      have h3i : ((k : Int) == 3) = false := by simp; omega
      generalize bindT h ps k = T at *
      generalize atomOf h = hd0 at *
      simp only [nS, atomOf, ← hL]
      clear hL hV hlet hps h6 h5 e1
      go_enter Tryz.func98, Tryz.ntmps98
      go_wp2_with fail
      go_ret
      refine ⟨⟨_, rfl, ?_, made_fresh w⟩, below2 _ _ _⟩
      rw [HT.out]
      exact strS_made (l := []) (heap_alloc_new2 _ _ _) _ (by simp)
  have s1 : ((bs (atomOf h)).toList == [108, 101, 116]) = false := by rw [bs_toList]; simpa [kLet] using hlet
  by_cases hfun : atomOf h = kFun
  · have hps := hV.2 hfun
    have hL2 : 2 < L := by rw [hL]; simp only [List.length_cons]; omega
    have e1 : w.cell? ⟨r, off + 2, none⟩ = some (.string (bs (atomOf (ps.getD 0 default)))) := by
      obtain ⟨p, m, c, _, q, _⟩ := kid_S h6 h5 1 (by simp only [List.length_cons]; omega)
      match ps, hps, q with
      | b :: l, _, q => simpa using q
    have e2 : w.cell? ⟨r, off + 4, none⟩ = some (.string (bs (atomOf (ps.getD 1 default)))) := by
      obtain ⟨p, m, c, _, q, _⟩ := kid_S h6 h5 2 (by simp only [List.length_cons]; omega)
      match ps, hps, q with
      | b :: b2 :: l, _, q => simpa using q
    have s2 : ((bs (atomOf h)).toList == [102, 117, 110]) = true := by rw [bs_toList, hfun]; rfl
    have HT := Lib.hid (show bindT h ps k = [atomOf (ps.getD 0 default), atomOf (ps.getD 1 default)] by simp [bindT, hlet, hfun, kFun, kLet])
    generalize atomOf (ps.getD 0 default) = x0 at *
    generalize atomOf (ps.getD 1 default) = x1 at *
    generalize bindT h ps k = T at *
    generalize atomOf h = hd0 at *
    simp only [nS, atomOf, ← hL]
    clear hL hV hlet hfun hps h6 h5
    go_enter Tryz.func98, Tryz.ntmps98
    go_wp2_with fail
    go_region_with (fail)
    all_goals
      go_wp2_with fail
      go_ret
      refine ⟨⟨_, rfl, ?_, made_fresh w⟩, ?_⟩
      · rw [HT.out]
        exact strS_made (l := [x0, x1]) (heap_alloc_new2 _ _ _) _ (by simp)
      · exact (below2 _ _ _).drew
  have s2 : ((bs (atomOf h)).toList == [102, 117, 110]) = false := by rw [bs_toList]; simpa [kFun] using hfun
  have HT := Lib.hid (show bindT h ps k = [] by simp [bindT, hlet, hfun])
  generalize bindT h ps k = T at *
  generalize atomOf h = hd0 at *
  simp only [nS, atomOf, ← hL]
  clear hL hV hlet hfun h6 h5
  go_enter Tryz.func98, Tryz.ntmps98
  go_wp2_with fail
  go_ret
  refine ⟨⟨_, rfl, ?_, made_fresh w⟩, below2 _ _ _⟩
  rw [HT.out]
  exact strS_made (l := []) (heap_alloc_new2 _ _ _) _ (by simp)
end Go.Proofs.YtjncmmnbdabjnaaGreatDoor
