/- The program's reader of forms. -/
import Derived.Test.YtjaaalojcdbcpaaGreatDoorProg
import Derived.Test.YtjaaalojcdbcpaaGreatDoorlB1
import Derived.Deep.QuietTactic
import Derived.BigQuiet
import Derived.StillTailTactics
import Derived.Deep.LoopGhost
set_option maxHeartbeats 20000000
set_option linter.unusedVariables false
set_option linter.unusedSimpArgs false
namespace Go.Proofs.YtjaaalojcdbcpaaGreatDoor
open Go.RowKit Go.Proofs.Tryz
set_option maxRecDepth 8000
theorem isAB_iff2 (b : UInt8) : J3 b = true ↔ ((97 ≤ (b.toNat : Int) ∧ (b.toNat : Int) ≤ 122) ∨ (48 ≤ (b.toNat : Int) ∧ (b.toNat : Int) ≤ 57) ∨ (b.toNat : Int) = 43 ∨ (b.toNat : Int) = 45 ∨ (b.toNat : Int) = 42 ∨ (b.toNat : Int) = 62) := by
 simp [J3]; omega
theorem Z1q (b : UInt8) (w : World) : Calls prog 154 #[.int .u8 b.toNat] w fun e w' => e = .returned (.bool (J3 b)) ∧ w' = w := by
 go_enter func154, ntmps154
 go_wp2
 all_goals go_ret; exact ⟨Zf (by simp only [beq_iff_eq, beq_eq_false_iff_ne, ne_eq] at *; rw [Bool.eq_iff_iff, isAB_iff2]; simp; try omega), rfl⟩
def RB (w : World) (rb : Nat) (s : ByteArray) (i : Nat) : Prop := w.heap[rb]? = some (.cells #[.string s, .int .i64 i] 101 (0, 0))
theorem take_no (s : ByteArray) (hs : s.size ≤ 12000) (rb i : Nat) (b : UInt8) (w : World) (hr : RB w rb s i) (hi : i ≤ s.size) (hb : ∀ h : i < s.size, s[i] ≠ b) :
 Calls prog 126 #[.pointer (some ⟨rb, 0, none⟩), .int .u8 b.toNat] w fun e w' => e = .returned (.bool false) ∧ ∃ n, w' = w.drewN n := by
 obtain ⟨c0, c1⟩ := Zh hr
 by_cases hlt : i < s.size
 · have hne : ((s[i].toNat : Int) == (b.toNat : Int)) = false := by simp only [beq_eq_false_iff_ne, ne_eq]; intro h'; exact hb hlt (UInt8.toNat_inj.1 (by omega))
   have hne' : ((s[i].toNat : Int) != (b.toNat : Int)) = true := by simp [bne, hne]
   have he : ((i : Int) == (s.size : Int)) = false := by simp; omega
   go_enter func126, ntmps126
   go_wp2_with fail
   go_quiet (fail)
   go_wp2_with fail
   go_ret
   exact ⟨rfl, nq, rfl⟩
 · have he : ((i : Int) == (s.size : Int)) = true := by simp; omega
   go_enter func126, ntmps126
   go_wp2_with fail
   go_quiet (fail)
   go_wp2_with fail
   go_ret
   exact ⟨rfl, nq, rfl⟩
theorem RB.drewN {w : World} {rb : Nat} {s : ByteArray} {i : Nat} (h : RB w rb s i) (n : Nat) : RB (w.drewN n) rb s i := h
theorem V5 (w : World) (row : Option Nat) : w.grownBy w row := ⟨rfl, rfl, rfl, Nat.le_refl _, fun _ _ _ => rfl⟩
theorem Xo (w : World) (n : Nat) (row : Option Nat) : w.grownBy (w.drewN n) row := ⟨rfl, rfl, rfl, Nat.le_refl _, fun _ _ _ => rfl⟩
theorem Zr {a b c : World} {row : Option Nat} (h : a.grownBy b row) (k : b.grownBy c row) : a.grownBy c row :=
 ⟨k.os.trans h.os, k.tape.trans h.tape, k.output.trans h.output, Nat.le_trans h.size k.size, fun i hi hne => (k.block i (Nat.lt_of_lt_of_le hi h.size) hne).trans (h.block i hi hne)⟩
theorem Vs {a b : World} (h : Below a.heap.size a b) (row : Option Nat) : a.grownBy b row := ⟨h.os, h.tape, h.output, h.size, fun i hi _ => h.block i hi⟩
theorem Yx {a b : World} {row : Option Nat} (h : a.grownBy b row) (o : Obj) : a.grownBy (b.alloc o) row := Zr h (Vs (Z5 b o) row)
theorem Z5z {a b : World} {rb : Nat} (h : a.grownBy b (some rb)) (j : Nat) (v : Value) : a.grownBy (b.setCell ⟨rb, j, none⟩ v) (some rb) :=
 Zr h ⟨rfl, rfl, rfl, by simp, fun k _ hne => Below.heap_setCell _ _ _ _ (fun e => hne (by simp [e]))⟩
theorem Zc {a b : World} {row : Option Nat} (h : a.grownBy b row) {p : Addr} (hp : a.heap.size ≤ p.block) (v : Value) : a.grownBy (b.setCell p v) row :=
 ⟨h.os, h.tape, h.output, by simpa using h.size, fun k hk hne => (Below.heap_setCell _ _ _ _ (by omega)).trans (h.block k hk hne)⟩
theorem RB.set {w : World} {rb : Nat} {s : ByteArray} {i : Nat} (h : RB w rb s i) (j : Nat) : RB (w.setCell ⟨rb, 1, none⟩ (.int .i64 j)) rb s j := Yu h _
theorem RB.setNew {w : World} {rb : Nat} {s : ByteArray} {i : Nat} (h : RB w rb s i) {b : Nat} (hb : rb ≠ b) (j : Nat) (v : Value) : RB (w.setCell ⟨b, j, none⟩ v) rb s i := by unfold RB; rw [Z3 _ (by simpa using hb)]; exact h
theorem RB.alloc {w : World} {rb : Nat} {s : ByteArray} {i : Nat} (h : RB w rb s i) (o : Obj) : RB (w.alloc o) rb s i := Z8 h
theorem RB.lt {w : World} {rb : Nat} {s : ByteArray} {i : Nat} (h : RB w rb s i) : rb < w.heap.size := lt_of_block h
theorem RB.below {w w' : World} {rb : Nat} {s : ByteArray} {i : Nat} (h : RB w rb s i) (hb : Below w.heap.size w w') : RB w' rb s i := Z2 hb h.lt h
theorem take_yes (s : ByteArray) (hs : s.size ≤ 12000) (rb i : Nat) (b : UInt8) (w : World) (hr : RB w rb s i) (hi : i < s.size) (hb : s[i] = b) :
 Calls prog 126 #[.pointer (some ⟨rb, 0, none⟩), .int .u8 b.toNat] w fun e w' => e = .returned (.bool true) ∧ RB w' rb s (i + 1) ∧ w.grownBy w' (some rb) ∧ w'.heap.size = w.heap.size := by
 obtain ⟨c0, c1⟩ := Zh hr
 have f1 := Yf (j := 1) hr
 have hne : ((s[i].toNat : Int) == (b.toNat : Int)) = true := by simp [hb]
 have hne' : ((s[i].toNat : Int) != (b.toNat : Int)) = false := by simp [hb]
 have he : ((i : Int) == (s.size : Int)) = false := by simp; omega
 have HB := H_ hb
 clear hb
 go_enter func126, ntmps126
 go_wp2_with fail
 go_quiet (fail)
 go_wp2_with fail
 go_ret
 refine ⟨rfl, ?_, ?_, by simp⟩
 · exact (hr.drewN nq).set (i + 1)
 · exact Z5z (Xo _ _ _) _ _
def Z89 (rb : Nat) (s : ByteArray) (i : Nat) (res : Option (Tr × List UInt8)) (e : Ending) (w' : World) : Prop :=
 match res with
 | none => e = .returned (.tuple #[.agg #[.string ⟨#[]⟩, .slice none 0 0, .int .i64 0, .int .i64 0, .int .i64 0], .bool false]) ∧ RB w' rb s i
 | some (t, r) => e = .returned (.tuple #[.agg (nI t (.slice none 0 0)).toArray, .bool true]) ∧ RB w' rb s (s.size - r.length)
theorem Z5d (s : ByteArray) (w : World) (hs : s.size ≤ 12000) :
 Calls prog 113 #[.string s] w fun e w' => e = .returned (.agg #[.string s, .slice none 0 0, .int .i64 s.size, .int .i64 1, .int .i64 0]) ∧ Below w.heap.size w w' := by
 go_enter func113, ntmps113
 go_wp2
 exact bodyPost_ret (v := .agg #[.string s, .slice none 0 0, .int .i64 s.size, .int .i64 1, .int .i64 0]) (by simp [results, results113, go_sem]) rfl ⟨rfl, Z5 _ _⟩
theorem Z68 {rb : Nat} {s : ByteArray} {i p : Nat} {w' : World} (hps : p ≤ s.size) (hip : i ≤ p) (hpi : ¬ p = i)
 (HR : Xz (s.data.toList.drop i) = if p = i then none else some (.atom ((s.data.toList.drop i).take (p - i)), s.data.toList.drop p)) (hrb : RB w' rb s p) :
 Z89 rb s i (Xz (s.data.toList.drop i)) (.returned (.tuple #[.agg #[.string (s.extract i p), .slice none 0 0, .int .i64 ((p - i : Nat) : Int), .int .i64 1, .int .i64 0], .bool true])) w' := by
 rw [HR, if_neg hpi]
 have hl : ((s.data.toList.drop i).take (p - i)).length = p - i := by rw [List.length_take, List.length_drop, Q2]; omega
 have hl2 : (s.data.toList.drop p).length = s.size - p := by rw [List.length_drop, Q2]
 refine ⟨by simp only [nI, Z1, Tr.bytes, Tr.size, Tr.depth, hl, Kq]; rfl, ?_⟩
 rw [hl2, show s.size - (s.size - p) = p from by omega]
 exact hrb
theorem atom_c (s : ByteArray) (hs : s.size ≤ 12000) (rb i : Nat) (w : World) (hr : RB w rb s i) (hi : i ≤ s.size) :
 Calls prog 128 #[.pointer (some ⟨rb, 0, none⟩)] w fun e w' => Z89 rb s i (Xz (s.data.toList.drop i)) e w' ∧ w.grownBy w' (some rb) := by
 obtain ⟨c0, c1⟩ := Zh hr
 have hlt := hr.lt
 have hfr := Yf (j := 1) hr
 go_enter func128, ntmps128
 go_wp2_with fail
 go_loopg [] (s.size - i) (fun m wr => ∃ p : Nat, m + p = s.size ∧ Z2v s.data.toList i p ∧ RB wr rb s p ∧ w.grownBy wr (some rb) ∧ w.heap.size + 1 ≤ wr.heap.size ∧ wr.heap[w.heap.size]? = some (.cells #[.string ⟨#[]⟩, .slice none 0 0, .int .i64 0, .int .i64 0, .int .i64 0] 65 (0, 0)))
 case atStart => exact ⟨i, by omega, Z2v.zero _ _ (by simpa using hi), hr.alloc _, Yx (V5 _ _) _, by simp, heap_alloc_new _ _⟩
 case round =>
  obtain ⟨p, hm, hsc, hrb, hg, hsz, hb0⟩ := hrel
  obtain ⟨c0, c1⟩ := Zh hrb
  have f1 := Yf (j := 1) hrb
  obtain ⟨b0, b1, b2, b3, b4⟩ := Yo hb0
  obtain ⟨g0, g1, g2, g3, g4⟩ := Q7 hb0
  have HG := H_ hg
  clear hg
  have hip := hsc.le.1
  by_cases hjl : p < s.size
  · have hd : decide (p < s.size) = true := by simpa using hjl
    cases hb : J3 s[p] with
    | true =>
      have HS := H_ (hsc.succ hjl hb)
      go_wp2_with fail
      go_quiet ((go_at_call 154; exact Calls.quiet_of_same (Z1q _ _)))
      go_wp2_with fail
      go_roundg (gk - 1)
      case measure => omega
      case rel => exact ⟨p + 1, by omega, HS.out, (hrb.drewN nq).set (p + 1), Z5z (Zr HG.out (Xo _ _ _)) _ _, by simpa using hsz, by rw [Z3 _ (by simp; omega)]; exact hb0⟩
    | false =>
      have HR := H_ (hsc.done (fun _ => hb))
      by_cases hpi : p = i
      · subst hpi
        have he : ((p : Int) == (p : Int)) = true := by simp
        go_wp2_with fail
        go_quiet ((go_at_call 154; exact Calls.quiet_of_same (Z1q _ _)))
        go_wp2_with fail
        exact bodyPost_ret (v := .tuple #[.agg #[.string ⟨#[]⟩, .slice none 0 0, .int .i64 0, .int .i64 0, .int .i64 0], .bool false]) (by simp [results, results128, go_sem, b0, b1, b2, b3, b4]) rfl
         (by rw [HR.out, if_pos trivial]; exact ⟨⟨rfl, (((((hrb.drewN nq).setNew (by omega) _ _).setNew (by omega) _ _).setNew (by omega) _ _).setNew (by omega) _ _).setNew (by omega) _ _⟩,
           Zc (Zc (Zc (Zc (Zc (Zr HG.out (Xo _ _ _)) (by simp) _) (by simp) _) (by simp) _) (by simp) _) (by simp) _⟩)
      · have he : ((p : Int) == (i : Int)) = false := by simp; omega
        go_wp2_with fail
        go_quiet ((go_at_call 154; exact Calls.quiet_of_same (Z1q _ _)))
        go_wp2_with fail
        have hrb2 : RB (wr.drewN nq) rb s p := hrb
        have hb2 : (wr.drewN nq).heap[w.heap.size]? = some (.cells #[.string ⟨#[]⟩, .slice none 0 0, .int .i64 0, .int .i64 0, .int .i64 0] 65 (0, 0)) := hb0
        have HG2 := H_ (Zr HG.out (Xo wr nq (some rb)))
        have hsz2 : w.heap.size + 1 ≤ (wr.drewN nq).heap.size := hsz
        clear c0 c1 f1 b0 b1 b2 b3 b4 g0 g1 g2 g3 g4 hrb hb0 HG hsz
        generalize wr.drewN nq = wx at *
        obtain ⟨c0, c1⟩ := Zh hrb2
        have hps : p ≤ s.size := Nat.le_of_lt hjl
        go_still_tail 10, (by kernel_rfl)
        have hrb3 : RB wx.drew rb s p := hrb2
        have hb3 : wx.drew.heap[w.heap.size]? = some (.cells #[.string ⟨#[]⟩, .slice none 0 0, .int .i64 0, .int .i64 0, .int .i64 0] 65 (0, 0)) := hb2
        have HG3 := H_ (Zr HG2.out (Xo wx 1 (some rb)))
        have hsz3 : w.heap.size + 1 ≤ wx.drew.heap.size := hsz2
        change wpList _ _ _ _ _ wx.drew
        change Hid (w.grownBy wx.drew (some rb)) at HG3
        clear hrb2 hb2 HG2 hsz2 c0 c1
        generalize wx.drew = wy at *
        go_wp2_with (go_at_call 113; go_must (refine (Z5d _ _ (by rw [Kq, Y0]; simp; omega)).mono ?_; rintro e w' ⟨rfl, hbl⟩; have hrb4 := hrb3.below hbl; have hb4 := Z2 hbl (by omega) hb3; obtain ⟨b0, b1, b2, b3, b4⟩ := Yo hb4; obtain ⟨g0, g1, g2, g3, g4⟩ := Q7 hb4; have hsz4 := hbl.size))
        refine bodyPost_ret (v := .tuple #[.agg #[.string (s.extract i p), .slice none 0 0, .int .i64 ((p - i : Nat) : Int), .int .i64 1, .int .i64 0], .bool true]) (by simp [results, results128, go_sem, b0, b1, b2, b3, b4]) rfl ⟨?_, ?_⟩
        · exact Z68 hps hip hpi HR.out (((((hrb4.setNew (by omega) _ _).setNew (by omega) _ _).setNew (by omega) _ _).setNew (by omega) _ _).setNew (by omega) _ _)
        · exact Zc (Zc (Zc (Zc (Zc (Zr HG3.out (Vs hbl _)) (by simp) _) (by simp) _) (by simp) _) (by simp) _) (by simp) _
  · have hd : decide (p < s.size) = false := by simpa using hjl
    have HR := H_ (hsc.done (fun h => absurd (by simpa using h) hjl))
    by_cases hpi : p = i
    · subst hpi
      have he : ((p : Int) == (p : Int)) = true := by simp
      go_wp2_with fail
      go_quiet (fail)
      go_wp2_with fail
      exact bodyPost_ret (v := .tuple #[.agg #[.string ⟨#[]⟩, .slice none 0 0, .int .i64 0, .int .i64 0, .int .i64 0], .bool false]) (by simp [results, results128, go_sem, b0, b1, b2, b3, b4]) rfl
       (by rw [HR.out, if_pos trivial]; exact ⟨⟨rfl, (((((hrb.drewN nq).setNew (by omega) _ _).setNew (by omega) _ _).setNew (by omega) _ _).setNew (by omega) _ _).setNew (by omega) _ _⟩,
         Zc (Zc (Zc (Zc (Zc (Zr HG.out (Xo _ _ _)) (by simp) _) (by simp) _) (by simp) _) (by simp) _) (by simp) _⟩)
    · have he : ((p : Int) == (i : Int)) = false := by simp; omega
      go_wp2_with fail
      go_quiet (fail)
      go_wp2_with fail
      have hrb2 : RB (wr.drewN nq) rb s p := hrb
      have hb2 : (wr.drewN nq).heap[w.heap.size]? = some (.cells #[.string ⟨#[]⟩, .slice none 0 0, .int .i64 0, .int .i64 0, .int .i64 0] 65 (0, 0)) := hb0
      have HG2 := H_ (Zr HG.out (Xo wr nq (some rb)))
      have hsz2 : w.heap.size + 1 ≤ (wr.drewN nq).heap.size := hsz
      clear c0 c1 f1 b0 b1 b2 b3 b4 g0 g1 g2 g3 g4 hrb hb0 HG hsz
      generalize wr.drewN nq = wx at *
      obtain ⟨c0, c1⟩ := Zh hrb2
      have hps : p ≤ s.size := hsc.le.2
      go_still_tail 10, (by kernel_rfl)
      have hrb3 : RB wx.drew rb s p := hrb2
      have hb3 : wx.drew.heap[w.heap.size]? = some (.cells #[.string ⟨#[]⟩, .slice none 0 0, .int .i64 0, .int .i64 0, .int .i64 0] 65 (0, 0)) := hb2
      have HG3 := H_ (Zr HG2.out (Xo wx 1 (some rb)))
      have hsz3 : w.heap.size + 1 ≤ wx.drew.heap.size := hsz2
      change wpList _ _ _ _ _ wx.drew
      change Hid (w.grownBy wx.drew (some rb)) at HG3
      clear hrb2 hb2 HG2 hsz2 c0 c1
      generalize wx.drew = wy at *
      go_wp2_with (go_at_call 113; go_must (refine (Z5d _ _ (by rw [Kq, Y0]; simp; omega)).mono ?_; rintro e w' ⟨rfl, hbl⟩; have hrb4 := hrb3.below hbl; have hb4 := Z2 hbl (by omega) hb3; obtain ⟨b0, b1, b2, b3, b4⟩ := Yo hb4; obtain ⟨g0, g1, g2, g3, g4⟩ := Q7 hb4; have hsz4 := hbl.size))
      refine bodyPost_ret (v := .tuple #[.agg #[.string (s.extract i p), .slice none 0 0, .int .i64 ((p - i : Nat) : Int), .int .i64 1, .int .i64 0], .bool true]) (by simp [results, results128, go_sem, b0, b1, b2, b3, b4]) rfl ⟨?_, ?_⟩
      · exact Z68 hps hip hpi HR.out (((((hrb4.setNew (by omega) _ _).setNew (by omega) _ _).setNew (by omega) _ _).setNew (by omega) _ _).setNew (by omega) _ _)
      · exact Zc (Zc (Zc (Zc (Zc (Zr HG3.out (Vs hbl _)) (by simp) _) (by simp) _) (by simp) _) (by simp) _) (by simp) _
end Go.Proofs.YtjaaalojcdbcpaaGreatDoor
