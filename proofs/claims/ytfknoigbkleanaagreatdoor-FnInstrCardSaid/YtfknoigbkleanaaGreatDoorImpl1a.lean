/- The program's reader of forms. -/
import Derived.Test.YtfknoigbkleanaaGreatDoorProg
import Derived.Test.YtfknoigbkleanaaGreatDoorB1
import Derived.Deep.QuietTactic
import Derived.BigQuiet
import Derived.StillTailTactics
import Derived.Deep.LoopGhost
namespace Go.Proofs.YtfknoigbkleanaaGreatDoor
open Go.RowKit
set_option maxRecDepth 8000
set_option linter.unusedSimpArgs false
set_option linter.unusedVariables false
theorem isAB_iff2 (b : UInt8) : isAB b = true ↔ ((97 ≤ (b.toNat : Int) ∧ (b.toNat : Int) ≤ 122) ∨ (48 ≤ (b.toNat : Int) ∧ (b.toNat : Int) ≤ 57) ∨ (b.toNat : Int) = 43 ∨ (b.toNat : Int) = 45 ∨ (b.toNat : Int) = 42 ∨ (b.toNat : Int) = 62) := by
  simp [isAB]; omega
set_option maxHeartbeats 400000 in
theorem isAtomByte_c (b : UInt8) (w : World) : Calls Tryz.prog 187 #[.int .u8 b.toNat] w fun e w' => e = .returned (.bool (isAB b)) ∧ w' = w := by
  go_enter Tryz.func187, Tryz.ntmps187
  go_wp2
  all_goals go_ret; exact ⟨ret_bool (by simp only [beq_iff_eq, beq_eq_false_iff_ne, ne_eq] at *; rw [Bool.eq_iff_iff, isAB_iff2]; simp; try omega), rfl⟩

/-- The reader's block. -/
def RB (w : World) (rb : Nat) (s : ByteArray) (i : Nat) : Prop := w.heap[rb]? = some (.cells #[.string s, .int .i64 i] 120 (0, 0))

set_option maxHeartbeats 400000 in
theorem take_no (s : ByteArray) (hs : s.size ≤ 12000) (rb i : Nat) (b : UInt8) (w : World) (hr : RB w rb s i) (hi : i ≤ s.size) (hb : ∀ h : i < s.size, s[i] ≠ b) :
    Calls Tryz.prog 157 #[.pointer (some ⟨rb, 0, none⟩), .int .u8 b.toNat] w fun e w' => e = .returned (.bool false) ∧ ∃ n, w' = w.drewN n := by
  have c0 := cell_of (j := 0) hr
  have c1 := cell_of (j := 1) hr
  by_cases hlt : i < s.size
  · have hne : ((s[i].toNat : Int) == (b.toNat : Int)) = false := by simp only [beq_eq_false_iff_ne, ne_eq]; intro h'; exact hb hlt (UInt8.toNat_inj.1 (by omega))
    have hne' : ((s[i].toNat : Int) != (b.toNat : Int)) = true := by simp [bne, hne]
    have he : ((i : Int) == (s.size : Int)) = false := by simp; omega
    go_enter Tryz.func157, Tryz.ntmps157
    go_wp2_with fail
    go_quiet (fail)
    go_wp2_with fail
    go_ret
    exact ⟨rfl, nq, rfl⟩
  · have he : ((i : Int) == (s.size : Int)) = true := by simp; omega
    go_enter Tryz.func157, Tryz.ntmps157
    go_wp2_with fail
    go_quiet (fail)
    go_wp2_with fail
    go_ret
    exact ⟨rfl, nq, rfl⟩

theorem RB.drewN {w : World} {rb : Nat} {s : ByteArray} {i : Nat} (h : RB w rb s i) (n : Nat) : RB (w.drewN n) rb s i := h
theorem grownBy_refl (w : World) (row : Option Nat) : w.grownBy w row := ⟨rfl, rfl, rfl, Nat.le_refl _, fun _ _ _ => rfl⟩
theorem grownBy_drewN (w : World) (n : Nat) (row : Option Nat) : w.grownBy (w.drewN n) row := ⟨rfl, rfl, rfl, Nat.le_refl _, fun _ _ _ => rfl⟩
theorem grownBy_trans {a b c : World} {row : Option Nat} (h : a.grownBy b row) (k : b.grownBy c row) : a.grownBy c row :=
  ⟨k.os.trans h.os, k.tape.trans h.tape, k.output.trans h.output, Nat.le_trans h.size k.size, fun i hi hne => (k.block i (Nat.lt_of_lt_of_le hi h.size) hne).trans (h.block i hi hne)⟩
theorem grownBy_below {a b : World} (h : Below a.heap.size a b) (row : Option Nat) : a.grownBy b row := ⟨h.os, h.tape, h.output, h.size, fun i hi _ => h.block i hi⟩
theorem grownBy_alloc {a b : World} {row : Option Nat} (h : a.grownBy b row) (o : Obj) : a.grownBy (b.alloc o) row := grownBy_trans h (grownBy_below (below1 b o) row)
theorem grownBy_set {a b : World} {rb : Nat} (h : a.grownBy b (some rb)) (j : Nat) (v : Value) : a.grownBy (b.setCell ⟨rb, j, none⟩ v) (some rb) :=
  grownBy_trans h ⟨rfl, rfl, rfl, by simp, fun k _ hne => Below.heap_setCell _ _ _ _ (fun e => hne (by simp [e]))⟩
/-- A store into a block that is new. -/
theorem grownBy_set_new {a b : World} {row : Option Nat} (h : a.grownBy b row) {p : Addr} (hp : a.heap.size ≤ p.block) (v : Value) : a.grownBy (b.setCell p v) row :=
  ⟨h.os, h.tape, h.output, by simpa using h.size, fun k hk hne => (Below.heap_setCell _ _ _ _ (by omega)).trans (h.block k hk hne)⟩
theorem RB.set {w : World} {rb : Nat} {s : ByteArray} {i : Nat} (h : RB w rb s i) (j : Nat) : RB (w.setCell ⟨rb, 1, none⟩ (.int .i64 j)) rb s j := blk_set h _
theorem RB.setNew {w : World} {rb : Nat} {s : ByteArray} {i : Nat} (h : RB w rb s i) {b : Nat} (hb : rb ≠ b) (j : Nat) (v : Value) : RB (w.setCell ⟨b, j, none⟩ v) rb s i := by unfold RB; rw [blk_set_other _ (by simpa using hb)]; exact h
theorem RB.alloc {w : World} {rb : Nat} {s : ByteArray} {i : Nat} (h : RB w rb s i) (o : Obj) : RB (w.alloc o) rb s i := blk_alloc h
theorem RB.lt {w : World} {rb : Nat} {s : ByteArray} {i : Nat} (h : RB w rb s i) : rb < w.heap.size := lt_of_block h
theorem RB.below {w w' : World} {rb : Nat} {s : ByteArray} {i : Nat} (h : RB w rb s i) (hb : Below w.heap.size w w') : RB w' rb s i := below_blk hb h.lt h

set_option maxHeartbeats 400000 in
theorem take_yes (s : ByteArray) (hs : s.size ≤ 12000) (rb i : Nat) (b : UInt8) (w : World) (hr : RB w rb s i) (hi : i < s.size) (hb : s[i] = b) :
    Calls Tryz.prog 157 #[.pointer (some ⟨rb, 0, none⟩), .int .u8 b.toNat] w fun e w' => e = .returned (.bool true) ∧ RB w' rb s (i + 1) ∧ w.grownBy w' (some rb) ∧ w'.heap.size = w.heap.size := by
  have c0 := cell_of (j := 0) hr
  have c1 := cell_of (j := 1) hr
  have f1 := free_of (j := 1) hr
  have hne : ((s[i].toNat : Int) == (b.toNat : Int)) = true := by simp [hb]
  have hne' : ((s[i].toNat : Int) != (b.toNat : Int)) = false := by simp [hb]
  have he : ((i : Int) == (s.size : Int)) = false := by simp; omega
  have HB := Lib.hid hb
  clear hb
  go_enter Tryz.func157, Tryz.ntmps157
  go_wp2_with fail
  go_quiet (fail)
  go_wp2_with fail
  go_ret
  refine ⟨rfl, ?_, ?_, by simp⟩
  · exact (hr.drewN nq).set (i + 1)
  · exact grownBy_set (grownBy_drewN _ _ _) _ _

/-- An atom: what the reader makes of it. -/
def AtomPost (rb : Nat) (s : ByteArray) (i : Nat) (res : Option (Tr × List UInt8)) (e : Ending) (w' : World) : Prop :=
  match res with
  | none => e = .returned (.tuple #[.agg #[.string ⟨#[]⟩, .slice none 0 0, .int .i64 0, .int .i64 0, .int .i64 0], .bool false]) ∧ RB w' rb s i
  | some (t, r) => e = .returned (.tuple #[.agg (nI t (.slice none 0 0)).toArray, .bool true]) ∧ RB w' rb s (s.size - r.length)

set_option maxHeartbeats 400000 in
theorem newAtom_c (s : ByteArray) (w : World) (hs : s.size ≤ 12000) :
    Calls Tryz.prog 143 #[.string s] w fun e w' => e = .returned (.agg #[.string s, .slice none 0 0, .int .i64 s.size, .int .i64 1, .int .i64 0]) ∧ Below w.heap.size w w' := by
  go_enter Tryz.func143, Tryz.ntmps143
  go_wp2
  exact bodyPost_ret (v := .agg #[.string s, .slice none 0 0, .int .i64 s.size, .int .i64 1, .int .i64 0]) (by simp [results, Tryz.results143, go_sem]) rfl ⟨rfl, below1 _ _⟩

theorem atomPost_of {rb : Nat} {s : ByteArray} {i p : Nat} {w' : World} (hps : p ≤ s.size) (hip : i ≤ p) (hpi : ¬ p = i)
    (HR : readAtom (s.data.toList.drop i) = if p = i then none else some (.atom ((s.data.toList.drop i).take (p - i)), s.data.toList.drop p)) (hrb : RB w' rb s p) :
    AtomPost rb s i (readAtom (s.data.toList.drop i)) (.returned (.tuple #[.agg #[.string (s.extract i p), .slice none 0 0, .int .i64 ((p - i : Nat) : Int), .int .i64 1, .int .i64 0], .bool true])) w' := by
  rw [HR, if_neg hpi]
  have hl : ((s.data.toList.drop i).take (p - i)).length = p - i := by rw [List.length_take, List.length_drop, size_data]; omega
  have hl2 : (s.data.toList.drop p).length = s.size - p := by rw [List.length_drop, size_data]
  refine ⟨by simp only [nI, atomOf, Tr.bytes, Tr.size, Tr.depth, hl, extract_bs]; rfl, ?_⟩
  rw [hl2, show s.size - (s.size - p) = p from by omega]
  exact hrb

set_option maxHeartbeats 1000000 in
theorem atom_c (s : ByteArray) (hs : s.size ≤ 12000) (rb i : Nat) (w : World) (hr : RB w rb s i) (hi : i ≤ s.size) :
    Calls Tryz.prog 159 #[.pointer (some ⟨rb, 0, none⟩)] w fun e w' => AtomPost rb s i (readAtom (s.data.toList.drop i)) e w' ∧ w.grownBy w' (some rb) := by
  have c0 := cell_of (j := 0) hr
  have c1 := cell_of (j := 1) hr
  have hlt := hr.lt
  have hfr := free_of (j := 1) hr
  go_enter Tryz.func159, Tryz.ntmps159
  go_wp2_with fail
  go_loopg [] (s.size - i) (fun m wr => ∃ p : Nat, m + p = s.size ∧ Scanp s.data.toList i p ∧ RB wr rb s p ∧ w.grownBy wr (some rb) ∧ w.heap.size + 1 ≤ wr.heap.size ∧ wr.heap[w.heap.size]? = some (.cells #[.string ⟨#[]⟩, .slice none 0 0, .int .i64 0, .int .i64 0, .int .i64 0] 56 (0, 0)))
  case atStart => exact ⟨i, by omega, Scanp.zero _ _ (by simpa using hi), hr.alloc _, grownBy_alloc (grownBy_refl _ _) _, by simp, heap_alloc_new _ _⟩
  case round =>
    obtain ⟨p, hm, hsc, hrb, hg, hsz, hb0⟩ := hrel
    have c0 := cell_of (j := 0) hrb
    have c1 := cell_of (j := 1) hrb
    have f1 := free_of (j := 1) hrb
    have b0 := cell_of (j := 0) hb0
    have b1 := cell_of (j := 1) hb0
    have b2 := cell_of (j := 2) hb0
    have b3 := cell_of (j := 3) hb0
    have b4 := cell_of (j := 4) hb0
    have g0 := free_of (j := 0) hb0
    have g1 := free_of (j := 1) hb0
    have g2 := free_of (j := 2) hb0
    have g3 := free_of (j := 3) hb0
    have g4 := free_of (j := 4) hb0
    have HG := Lib.hid hg
    clear hg
    have hip := hsc.le.1
    by_cases hjl : p < s.size
    · have hd : decide (p < s.size) = true := by simpa using hjl
      cases hb : isAB s[p] with
      | true =>
        have HS := Lib.hid (hsc.succ hjl hb)
        go_wp2_with fail
        go_quiet ((go_at_call 187; exact Calls.quiet_of_same (isAtomByte_c _ _)))
        go_wp2_with fail
        go_roundg (gk - 1)
        case measure => omega
        case rel => exact ⟨p + 1, by omega, HS.out, (hrb.drewN nq).set (p + 1), grownBy_set (grownBy_trans HG.out (grownBy_drewN _ _ _)) _ _, by simpa using hsz, by rw [blk_set_other _ (by simp; omega)]; exact hb0⟩
      | false =>
        have HR := Lib.hid (hsc.done (fun _ => hb))
        by_cases hpi : p = i
        · subst hpi
          have he : ((p : Int) == (p : Int)) = true := by simp
          go_wp2_with fail
          go_quiet ((go_at_call 187; exact Calls.quiet_of_same (isAtomByte_c _ _)))
          go_wp2_with fail
          exact bodyPost_ret (v := .tuple #[.agg #[.string ⟨#[]⟩, .slice none 0 0, .int .i64 0, .int .i64 0, .int .i64 0], .bool false]) (by simp [results, Tryz.results159, go_sem, b0, b1, b2, b3, b4]) rfl
            (by rw [HR.out, if_pos trivial]; exact ⟨⟨rfl, (((((hrb.drewN nq).setNew (by omega) _ _).setNew (by omega) _ _).setNew (by omega) _ _).setNew (by omega) _ _).setNew (by omega) _ _⟩,
              grownBy_set_new (grownBy_set_new (grownBy_set_new (grownBy_set_new (grownBy_set_new (grownBy_trans HG.out (grownBy_drewN _ _ _)) (by simp) _) (by simp) _) (by simp) _) (by simp) _) (by simp) _⟩)
        · have he : ((p : Int) == (i : Int)) = false := by simp; omega
          go_wp2_with fail
          go_quiet ((go_at_call 187; exact Calls.quiet_of_same (isAtomByte_c _ _)))
          go_wp2_with fail
          have hrb2 : RB (wr.drewN nq) rb s p := hrb
          have hb2 : (wr.drewN nq).heap[w.heap.size]? = some (.cells #[.string ⟨#[]⟩, .slice none 0 0, .int .i64 0, .int .i64 0, .int .i64 0] 56 (0, 0)) := hb0
          have HG2 := Lib.hid (grownBy_trans HG.out (grownBy_drewN wr nq (some rb)))
          have hsz2 : w.heap.size + 1 ≤ (wr.drewN nq).heap.size := hsz
          clear c0 c1 f1 b0 b1 b2 b3 b4 g0 g1 g2 g3 g4 hrb hb0 HG hsz
          generalize wr.drewN nq = wx at *
          have c0 := cell_of (j := 0) hrb2
          have c1 := cell_of (j := 1) hrb2
          have hps : p ≤ s.size := Nat.le_of_lt hjl
          go_still_tail 10, (by kernel_rfl)
          have hrb3 : RB wx.drew rb s p := hrb2
          have hb3 : wx.drew.heap[w.heap.size]? = some (.cells #[.string ⟨#[]⟩, .slice none 0 0, .int .i64 0, .int .i64 0, .int .i64 0] 56 (0, 0)) := hb2
          have HG3 := Lib.hid (grownBy_trans HG2.out (grownBy_drewN wx 1 (some rb)))
          have hsz3 : w.heap.size + 1 ≤ wx.drew.heap.size := hsz2
          change wpList _ _ _ _ _ wx.drew
          change Hid (w.grownBy wx.drew (some rb)) at HG3
          clear hrb2 hb2 HG2 hsz2 c0 c1
          generalize wx.drew = wy at *
          go_wp2_with (go_at_call 143; go_must (refine (newAtom_c _ _ (by rw [extract_bs, bs_size]; simp; omega)).mono ?_; rintro e w' ⟨rfl, hbl⟩; have hrb4 := hrb3.below hbl; have hb4 := below_blk hbl (by omega) hb3; have b0 := cell_of (j := 0) hb4; have b1 := cell_of (j := 1) hb4; have b2 := cell_of (j := 2) hb4; have b3 := cell_of (j := 3) hb4; have b4 := cell_of (j := 4) hb4; have g0 := free_of (j := 0) hb4; have g1 := free_of (j := 1) hb4; have g2 := free_of (j := 2) hb4; have g3 := free_of (j := 3) hb4; have g4 := free_of (j := 4) hb4; have hsz4 := hbl.size))
          refine bodyPost_ret (v := .tuple #[.agg #[.string (s.extract i p), .slice none 0 0, .int .i64 ((p - i : Nat) : Int), .int .i64 1, .int .i64 0], .bool true]) (by simp [results, Tryz.results159, go_sem, b0, b1, b2, b3, b4]) rfl ⟨?_, ?_⟩
          · exact atomPost_of hps hip hpi HR.out (((((hrb4.setNew (by omega) _ _).setNew (by omega) _ _).setNew (by omega) _ _).setNew (by omega) _ _).setNew (by omega) _ _)
          · exact grownBy_set_new (grownBy_set_new (grownBy_set_new (grownBy_set_new (grownBy_set_new (grownBy_trans HG3.out (grownBy_below hbl _)) (by simp) _) (by simp) _) (by simp) _) (by simp) _) (by simp) _
    · have hd : decide (p < s.size) = false := by simpa using hjl
      have HR := Lib.hid (hsc.done (fun h => absurd (by simpa using h) hjl))
      by_cases hpi : p = i
      · subst hpi
        have he : ((p : Int) == (p : Int)) = true := by simp
        go_wp2_with fail
        go_quiet (fail)
        go_wp2_with fail
        exact bodyPost_ret (v := .tuple #[.agg #[.string ⟨#[]⟩, .slice none 0 0, .int .i64 0, .int .i64 0, .int .i64 0], .bool false]) (by simp [results, Tryz.results159, go_sem, b0, b1, b2, b3, b4]) rfl
          (by rw [HR.out, if_pos trivial]; exact ⟨⟨rfl, (((((hrb.drewN nq).setNew (by omega) _ _).setNew (by omega) _ _).setNew (by omega) _ _).setNew (by omega) _ _).setNew (by omega) _ _⟩,
            grownBy_set_new (grownBy_set_new (grownBy_set_new (grownBy_set_new (grownBy_set_new (grownBy_trans HG.out (grownBy_drewN _ _ _)) (by simp) _) (by simp) _) (by simp) _) (by simp) _) (by simp) _⟩)
      · have he : ((p : Int) == (i : Int)) = false := by simp; omega
        go_wp2_with fail
        go_quiet (fail)
        go_wp2_with fail
        have hrb2 : RB (wr.drewN nq) rb s p := hrb
        have hb2 : (wr.drewN nq).heap[w.heap.size]? = some (.cells #[.string ⟨#[]⟩, .slice none 0 0, .int .i64 0, .int .i64 0, .int .i64 0] 56 (0, 0)) := hb0
        have HG2 := Lib.hid (grownBy_trans HG.out (grownBy_drewN wr nq (some rb)))
        have hsz2 : w.heap.size + 1 ≤ (wr.drewN nq).heap.size := hsz
        clear c0 c1 f1 b0 b1 b2 b3 b4 g0 g1 g2 g3 g4 hrb hb0 HG hsz
        generalize wr.drewN nq = wx at *
        have c0 := cell_of (j := 0) hrb2
        have c1 := cell_of (j := 1) hrb2
        have hps : p ≤ s.size := hsc.le.2
        go_still_tail 10, (by kernel_rfl)
        have hrb3 : RB wx.drew rb s p := hrb2
        have hb3 : wx.drew.heap[w.heap.size]? = some (.cells #[.string ⟨#[]⟩, .slice none 0 0, .int .i64 0, .int .i64 0, .int .i64 0] 56 (0, 0)) := hb2
        have HG3 := Lib.hid (grownBy_trans HG2.out (grownBy_drewN wx 1 (some rb)))
        have hsz3 : w.heap.size + 1 ≤ wx.drew.heap.size := hsz2
        change wpList _ _ _ _ _ wx.drew
        change Hid (w.grownBy wx.drew (some rb)) at HG3
        clear hrb2 hb2 HG2 hsz2 c0 c1
        generalize wx.drew = wy at *
        go_wp2_with (go_at_call 143; go_must (refine (newAtom_c _ _ (by rw [extract_bs, bs_size]; simp; omega)).mono ?_; rintro e w' ⟨rfl, hbl⟩; have hrb4 := hrb3.below hbl; have hb4 := below_blk hbl (by omega) hb3; have b0 := cell_of (j := 0) hb4; have b1 := cell_of (j := 1) hb4; have b2 := cell_of (j := 2) hb4; have b3 := cell_of (j := 3) hb4; have b4 := cell_of (j := 4) hb4; have g0 := free_of (j := 0) hb4; have g1 := free_of (j := 1) hb4; have g2 := free_of (j := 2) hb4; have g3 := free_of (j := 3) hb4; have g4 := free_of (j := 4) hb4; have hsz4 := hbl.size))
        refine bodyPost_ret (v := .tuple #[.agg #[.string (s.extract i p), .slice none 0 0, .int .i64 ((p - i : Nat) : Int), .int .i64 1, .int .i64 0], .bool true]) (by simp [results, Tryz.results159, go_sem, b0, b1, b2, b3, b4]) rfl ⟨?_, ?_⟩
        · exact atomPost_of hps hip hpi HR.out (((((hrb4.setNew (by omega) _ _).setNew (by omega) _ _).setNew (by omega) _ _).setNew (by omega) _ _).setNew (by omega) _ _)
        · exact grownBy_set_new (grownBy_set_new (grownBy_set_new (grownBy_set_new (grownBy_set_new (grownBy_trans HG3.out (grownBy_below hbl _)) (by simp) _) (by simp) _) (by simp) _) (by simp) _) (by simp) _
end Go.Proofs.YtfknoigbkleanaaGreatDoor
