/- The helpers of the laws on arguments that are slices of strings: their size, their copy. The reference's look-up in an environment. The reference's draws: a small expression of a type. A set of texts: a map to bools of the call's own. The program's atoms. FormAtoms of the reference model and of the program. -/
import Derived.Test.YtmgepnacjgbfhaaGreatDoorsBuildM
import Derived.OwnWalk
import Derived.Deep.LoopGhost
import Derived.Test.YtmgepnacjgbfhaaGreatDoorsPureT
import Derived.Test.YtmgepnacjgbfhaaGreatDoorsNumIM
import Derived.Test.YtmgepnacjgbfhaaGreatDoorsS1z
import Derived.Test.YtmgepnacjgbfhaaGreatDoorsDrawEM
import Derived.Maps.Own
import Derived.Maps.OwnOps
import Derived.Maps.Views
import Derived.Test.YtmgepnacjgbfhaaGreatDoorsImpl1jM
namespace Go.Proofs.YtmgepnacjgbfhaaGreatDoor
open Go.RowKit Go.Proofs.Tryz
set_option maxRecDepth 8000
set_option maxHeartbeats 20000000
set_option linter.unusedVariables false
set_option linter.unusedSimpArgs false
def lens : List (List UInt8) → Nat
 | [] => 0
 | x :: l => x.length + lens l
def leftS (l : List (List UInt8)) (left : Nat) : Int := if l.length + lens l ≤ left then ((left - (l.length + lens l) : Nat) : Int) else -1
def cpRow (l : List (List UInt8)) (k : Nat) : List Value := (l.take k).map Ye ++ List.replicate (l.length - k) (.string ⟨#[]⟩)
def CopyS (B : Nat) (l : List (List UInt8)) (e : Ending) (w' : World) : Prop := ∃ v, e = .returned v ∧ Zo w' v l ∧ (∀ k, v.ownBlock = some k → B ≤ k ∧ k < w'.heap.size)
theorem Zo.below {w w' : World} {v : Value} {l : List (List UInt8)} (h : Zo w v l) (hb : Below w.heap.size w w') : Zo w' v l := by
 obtain ⟨p, c, rfl, h1, h2⟩ := h
 refine ⟨p, c, rfl, h1, fun hne => ?_⟩
 obtain ⟨r, off, rfl, h3⟩ := h2 hne
 refine ⟨r, off, rfl, h3.move (hb.block r ?_)⟩
 have h0 : 0 < l.length := List.length_pos_iff.2 hne
 exact World.block_lt_of_cell? w ⟨r, off + 0, none⟩ (Zo.cell h3 h0)
theorem l3Look_c (v1 v2 : Value) (ns : List Nm) (ts : List (List UInt8)) (s : Nm) (w : World) (h1 : Zo w v1 ns) (h2 : Zo w v2 ts) (hl : ns.length = ts.length) (hsz : ns.length ≤ 1000000) :
 Calls prog 53 #[v1, v2, .string (bs s)] w fun e w' => e = .returned (.string (bs (V6 ns ts s ns.length))) ∧ w' = w := by
 obtain ⟨R, hR⟩ : ∃ R, R = bs (V6 ns ts s ns.length) := ⟨_, rfl⟩
 rw [← hR]
 have HR := H_ hR
 obtain ⟨p1, c1, rfl, l1, hrow1⟩ := h1
 obtain ⟨p2, c2, rfl, l2, hrow2⟩ := h2
 have HS1 := H_ hrow1
 have HS2 := H_ hrow2
 have HL := H_ hl
 clear hR hrow1 hrow2 hl
 go_enter func53, ntmps53
 go_wp2_with fail
 go_loop [7] (fun i => ∃ (k : Nat) (n : Int), k ≤ ns.length ∧ i = .int .i64 n ∧ n + 1 = k ∧ Hid (V6 ns ts s ns.length = V6 ns ts s k)) (fun i => ((intOf i) + 1).toNat)
 case atStart => exact ⟨ns.length, _, Nat.le_refl _, rfl, by omega, H_ rfl⟩
 case round =>
  obtain ⟨k, n, hk, rfl, hn, hA⟩ := hrel
  cases k with
  | zero =>
    obtain rfl : n = -1 := by omega
    have HF := H_ (show R = bs [] by rw [HR.out, hA.out]; rfl)
    clear hA
    go_wp2_with fail
    go_ret
    exact ⟨by rw [HF.out]; rfl, rfl⟩
  | succ k =>
    obtain rfl : n = (k : Int) := by omega
    have hlt : k < ns.length := by omega
    have hlt2 : k < ts.length := by rw [← HL.out]; exact hlt
    obtain ⟨r, off, rfl, h3⟩ := HS1.out (by intro e; rw [e] at hlt; simp at hlt)
    obtain ⟨r2, off2, rfl, h4⟩ := HS2.out (by intro e; rw [e] at hlt2; simp at hlt2)
    have x1 : w.cell? ⟨r, off + k, none⟩ = some (.string (bs ns[k])) := Zo.cell h3 hlt
    have x2 : w.cell? ⟨r2, off2 + k, none⟩ = some (.string (bs ts[k])) := Zo.cell h4 hlt2
    have hk0 : (0 : Int) ≤ (k : Int) := by omega
    have hltI : (k : Int) < (ns.length : Int) := by omega
    have hltI2 : (k : Int) < (ts.length : Int) := by omega
    have HG := H_ (show V6 ns ts s (k + 1) = if ns[k] = s then ts[k] else V6 ns ts s k by simp [V6, hlt, hlt2])
    by_cases he : ns[k] = s
    · have hx2 : ((bs ns[k]).toList == (bs s).toList) = true := by rw [Z8, Z8]; simpa using he
      have hx3 : (bs ns[k]).toList = (bs s).toList := by rw [Z8, Z8]; exact he
      have HF := H_ (show R = bs ts[k] by rw [HR.out, hA.out, HG.out, if_pos he])
      generalize bs ns[k] = sa at *
      generalize bs ts[k] = sb at *
      clear hA HG he h3 h4
      go_wp2_with fail
      go_ret
      exact ⟨by rw [HF.out]; rfl, rfl⟩
    · have hx2 : ((bs ns[k]).toList == (bs s).toList) = false := by rw [Z8, Z8]; simpa using he
      have hx3 : ¬ (bs ns[k]).toList = (bs s).toList := by rw [Z8, Z8]; exact he
      have HF := H_ (show V6 ns ts s ns.length = V6 ns ts s k by rw [hA.out, HG.out, if_neg he])
      generalize bs ns[k] = sa at *
      generalize bs ts[k] = sb at *
      clear hA HG he h3 h4
      go_wp2_with fail
      exact ⟨⟨k, _, by omega, rfl, by omega, HF⟩, by first | (simp [intOf]; done) | (simp [intOf]; omega)⟩
def Z3j (r : Option (List UInt8)) (e : Ending) : Prop := e = .returned (.tuple #[.string (bs (r.getD [])), .bool r.isSome])
def OfC (s : ByteArray) : Prop := ∀ W : World, Calls prog 103 #[.string s] W fun e w' => (∃ (r : ByteArray) (z : Bool), e = .returned (.tuple #[.string r, .bool z]) ∧ r.size ≤ 12000) ∧ Below W.heap.size W w'
structure LfInv (w1 : World) (ns l : List Nm) (k : Nat) (v : Value) (wr : World) : Prop where
 own : wr.ownsRow w1.heap.size 9 1 v l.length (l.map Ye)
 below : Below w1.heap.size w1 wr
 len : l.length ≤ k
 mem : ∀ x ∈ l, x ∈ ns
theorem mem_snoc {ns l : List Nm} {x : Nm} (h : ∀ y ∈ l, y ∈ ns) (hx : x ∈ ns) : ∀ y ∈ l ++ [x], y ∈ ns := by
 intro y hy
 rcases List.mem_append.1 hy with h1 | h1
 · exact h y h1
 · simp only [List.mem_singleton] at h1
   subst h1
   exact hx
def numsL : List Nm := [[48], [49], [50], [51], [55], [45, 49], [52, 48, 48], [45, 57, 57, 57]]
theorem Z4q {q : Nat} {a : Option Addr} {L c p : Nat} {zs : List Int} {w : World} (v1 v2 : Value) (n : Nat) (s : ByteArray) (h : Rd w q a L c p zs) (hs : Sc w q v1 v2 n) (hn : n ≤ 1000) (hp : p ≤ 900000) (ho : OfC s) :
 Calls prog 71 #[.pointer (some ⟨q, 0, none⟩), .agg #[v1, v2], .string s] w fun e w' => Qt q a L c p zs 12000 3 w e w' := by
 obtain ⟨i0, hi0, hz0, hz1, hz2⟩ := info_parts Tryz.infoStrD
 obtain ⟨ns, ts, ⟨hs1, hb1⟩, ⟨hs2, hb2⟩, hl, hln, hmem⟩ := hs
 obtain ⟨p1, n1, c1, rfl⟩ := hs1.shape
 obtain ⟨p2, n2, c2, rfl⟩ := hs2.shape
 have hn1 : n1 = ns.length := by
  obtain ⟨_, _, e, -, -⟩ := hs1
  injection e
 subst hn1
 have hq0 : q < w.heap.size := lt_of_block h.blk
 have HL := H_ hl
 have HM := H_ hmem
 clear hb1 hb2 hl hmem
 go_enter func71, ntmps71
 go_wp2_with fail
 obtain ⟨w1, hw1⟩ : ∃ w1, w1 = w.alloc (.cells #[.slice p1 ns.length c1, .slice p2 n2 c2] 72) := ⟨_, rfl⟩
 have y1 : w1.heap[w.heap.size]? = some (.cells #[.slice p1 ns.length c1, .slice p2 n2 c2] 72 (0, 0)) := by rw [hw1]; exact heap_alloc_new _ _
 have hB1 : Below w.heap.size w w1 := by rw [hw1]; exact Z4 _ _
 have HW : Hid (w.heap.size < w1.heap.size) := H_ (by rw [hw1]; simp)
 have HS1 := H_ (Xv hs1 hB1)
 have HS2 := H_ (Xv hs2 hB1)
 have HR1 := H_ (h.below hB1)
 have HB1 := H_ hB1
 have HE : Hid ((w1.alloc (.cells #[] 9)).ownsRow w1.heap.size 9 1 (.slice (some ⟨w1.heap.size, 0, none⟩) 0 0) ([] : List Nm).length (([] : List Nm).map Ye)) := H_ (Z5a (heap_alloc_new w1 _) (Nat.le_refl _))
 try rw [← hw1]
 have hsz1 : (w.alloc (.cells #[.slice p1 ns.length c1, .slice p2 n2 c2] 72)).heap.size = w1.heap.size := by rw [hw1]
 clear hs1 hs2 h hB1
 go_loopw [7, 8] (fun v i wr => ∃ (k : Nat) (l : List Nm), k ≤ ns.length ∧ i = .int .i64 k ∧ Hid (LfInv w1 ns l k v wr)) (fun _ i _ => ns.length - (intOf i).toNat)
 case atStart => exact ⟨0, [], Nat.zero_le _, rfl, H_ ⟨by subst hw1; simpa using HE.out, by subst hw1; exact Z4 _ _, Nat.le_refl _, fun x hx => by simp at hx⟩⟩
 case round =>
  obtain ⟨k, l, hk, rfl, hI⟩ := hrel
  clear HE hw1 hsz1
  have hB := hI.out.below
  have y2 := Z1 hB (lt_of_block y1) y1
  obtain ⟨z0, z1⟩ := Zp y2
  have HO := H_ hI.out.own
  obtain ⟨p3, c3, rfl⟩ := Zv HO.out
  have hlk := hI.out.len
  have hkI : (0 : Int) ≤ (k : Int) := by omega
  by_cases hlt : k < ns.length
  · have hSr := Xv HS1.out hB
    have hSr2 := Xv HS2.out hB
    have CL : Hid (∀ W, Below wr.heap.size wr W → Calls prog 53 #[.slice p1 ns.length c1, .slice p2 n2 c2, .string (bs ns[k])] W fun e w' => e = .returned (.string (bs (V6 ns ts ns[k] ns.length))) ∧ w' = W) := H_ (fun W hW => l3Look_c _ _ ns ts ns[k] W (Xv hSr hW) (Xv hSr2 hW) HL.out (by omega))
    obtain ⟨p9, c9, he9, h91, h92⟩ := hSr
    simp only [Value.slice.injEq] at he9
    obtain ⟨rfl, -, rfl⟩ := he9
    obtain ⟨r, off, rfl, h93⟩ := h92 (fun e => by rw [e] at hlt; simp at hlt)
    have c0 : wr.cell? ⟨r, off + k, none⟩ = some (.string (bs ns[k])) := Zo.cell h93 hlt
    have HA : Hid (ns[k] ∈ ns) := H_ (List.getElem_mem hlt)
    have hltI : (k : Int) < (ns.length : Int) := by omega
    have hsz := hB.size
    generalize ns[k] = x at *
    generalize bs (V6 ns ts x ns.length) = R at *
    clear h91 h92 h93 hSr2
    by_cases he : R.toList = s.toList
    · have he2 : (R.toList == s.toList) = true := by simpa using he
      go_wp2_with fail
      go_region_with (first | (go_at_call 53; ((with_reducible refine (CL.out _ ?_).mono ?_); (· first | exact (Below.refl _ _).drew | exact Below.refl _ _ | assumption); rintro e w3 ⟨rfl, rfl⟩)) | fail)
      all_goals go_wp2_with (first | (at_builtin; go_must (refine Y4 _ rfl _ _ 23 rfl w1.heap.size 9 i0 underlying23 hi0 hz0 hz1 hz2 _ l rfl (HO.out.alloc _) _ [x] rfl (Z1g (l := [x]) (heap_alloc_new _ _) (by simp)) (by simp; omega) (by simp; omega) ?_; intro v3 w4 ho4 hg4 hv4)))
      all_goals exact ⟨⟨k + 1, l ++ [x], by omega, by go_num, H_ ⟨ho4, Z0g hB (by first | exact ((Below.refl _ _).alloc (Nat.le_refl _) _).drew | exact ((Below.refl _ _).drew).alloc (Nat.le_refl _) _ | exact (Below.refl _ _).alloc (Nat.le_refl _) _) hg4 (fun k hk => (Z63 HO.out hk).1), by simp; omega, mem_snoc hI.out.mem HA.out⟩⟩, by simp [intOf]; omega⟩
    · have he2 : (R.toList == s.toList) = false := by simpa using he
      go_wp2_with fail
      go_region_with (first | (go_at_call 53; ((with_reducible refine (CL.out _ ?_).mono ?_); (· first | exact (Below.refl _ _).drew | exact Below.refl _ _ | assumption); rintro e w3 ⟨rfl, rfl⟩)) | fail)
      all_goals go_wp2_with fail
      all_goals exact ⟨⟨k + 1, l, by omega, by go_num, H_ ⟨HO.out, by first | exact hB.drew | exact hB, by omega, hI.out.mem⟩⟩, by simp [intOf]; omega⟩
  · have : k = ns.length := by omega
    subst this
    have HRr := H_ ((HR1.out).below hB)
    have HOr : Hid (Only q w wr) := H_ ((Only.of HB1.out).trans (Only.of hB))
    have HLn : Hid (∀ x ∈ l, x.length ≤ 10) := H_ (fun x hx => HM.out x (hI.out.mem x hx))
    have hk1 : ¬ ((ns.length : Int) < (ns.length : Int)) := by omega
    by_cases hz : l = []
    · subst hz
      have hl0 : ([] : List Nm).length = 0 := rfl
      rw [hl0] at *
      clear hI HO
      have hRd := HRr.out
      have HOx := H_ (HOr.out)
      by_cases hw : s.toList = [105]
      · have hw2 : (s.toList == [105]) = true := by simpa using hw
        have C1 := H_ (Kp (l := numsL) (N := 4) hRd (by omega) (by decide) (by decide) (by decide))
        go_wp2_with fail
        refine (C1.out).mono ?_
        rintro e w5 ⟨s5, p5, rfl, b1, b2, hR5, ho5⟩
        go_wp2_with fail
        go_ret
        exact ⟨_, p5, rfl, by omega, by omega, hR5, HOx.out.trans ho5⟩
      · have hw2 : (s.toList == [105]) = false := by simpa using hw
        have C1 := H_ (ho wr)
        go_wp2_with fail
        refine (C1.out).mono ?_
        rintro e w5 ⟨⟨r5, z5, rfl, hr5⟩, hb5⟩
        have HR5 := H_ (hRd.below hb5)
        have HO5 := H_ (HOx.out.next hb5)
        cases z5
        · go_wp2_with fail
          go_ret
          exact ⟨_, _, rfl, by rw [bsz]; simp, by omega, HR5.out, HO5.out⟩
        · go_wp2_with fail
          go_ret
          exact ⟨_, _, rfl, by omega, by omega, HR5.out, HO5.out⟩
    · have hpos : 0 < l.length := List.length_pos_iff.2 hz
      have hposI : (0 : Int) < (l.length : Int) := by omega
      have CP := H_ (Jh (n := 4) HRr.out (by omega) (by omega))
      go_wp2_with fail
      refine (CP.out).mono ?_
      rintro e w2 ⟨⟨r, rfl, hr0, hr1⟩, hR2, ho2⟩
      by_cases h0 : r = 0
      · subst h0
        have hRd := hR2
        have HOx := H_ (HOr.out.trans ho2)
        by_cases hw : s.toList = [105]
        · have hw2 : (s.toList == [105]) = true := by simpa using hw
          have C1 := H_ (Kp (l := numsL) (N := 4) hRd (by omega) (by decide) (by decide) (by decide))
          go_wp2_with fail
          refine (C1.out).mono ?_
          rintro e w5 ⟨s5, p5, rfl, b1, b2, hR5, ho5⟩
          go_wp2_with fail
          go_ret
          exact ⟨_, p5, rfl, by omega, by omega, hR5, HOx.out.trans ho5⟩
        · have hw2 : (s.toList == [105]) = false := by simpa using hw
          have C1 := H_ (ho w2)
          go_wp2_with fail
          refine (C1.out).mono ?_
          rintro e w5 ⟨⟨r5, z5, rfl, hr5⟩, hb5⟩
          have HR5 := H_ (hRd.below hb5)
          have HO5 := H_ (HOx.out.next hb5)
          cases z5
          · go_wp2_with fail
            go_ret
            exact ⟨_, _, rfl, by rw [bsz]; simp, by omega, HR5.out, HO5.out⟩
          · go_wp2_with fail
            go_ret
            exact ⟨_, _, rfl, by omega, by omega, HR5.out, HO5.out⟩
      · have hrp : 0 < r := by omega
        have CP2 := H_ (Jh (n := (l.length : Int)) hR2 (by omega) (by omega))
        have hrow := V5 HO.out (by omega)
        obtain ⟨p9, c9, he9, h91, h92⟩ := hrow
        simp only [Value.slice.injEq] at he9
        obtain ⟨rfl, -, rfl⟩ := he9
        obtain ⟨rr, off, rfl, h93⟩ := h92 hz
        have hrr := Z63 HO.out (k := rr) rfl
        have HX : Hid (∀ j (hj : j < l.length), wr.cell? ⟨rr, off + j, none⟩ = some (.string (bs l[j]))) := H_ (fun j hj => Zo.cell h93 hj)
        have hqr : rr ≠ q := by have := HW.out; omega
        clear h91 h92 h93
        go_wp2_with fail
        refine (CP2.out).mono ?_
        rintro e w3 ⟨⟨k3, rfl, hk30, hk31⟩, hR3, ho3⟩
        obtain ⟨j, rfl⟩ : ∃ j : Nat, k3 = (j : Int) := ⟨k3.toNat, by omega⟩
        have hj : j < l.length := by omega
        have x0 : w3.cell? ⟨rr, off + j, none⟩ = some (.string (bs l[j])) := by rw [(ho2.trans ho3).cell (p := ⟨rr, off + j, none⟩) hrr.2 hqr]; exact HX.out j hj
        have hjI : (j : Int) < (l.length : Int) := by omega
        have hs : (bs l[j]).size ≤ 10 := by rw [Y1]; exact HLn.out _ (List.getElem_mem hj)
        have HR3 := H_ hR3
        have HO3 := H_ ((HOr.out.trans ho2).trans ho3)
        generalize bs l[j] = S at *
        clear HX HLn hI HO
        go_wp2_with fail
        go_ret
        exact ⟨S, _, rfl, by omega, by omega, HR3.out, HO3.out⟩
end Go.Proofs.YtmgepnacjgbfhaaGreatDoor
namespace Go.Proofs.YtmgepnacjgbfhaaGreatDoor
open Go.RowKit Go.Maps Go.Proofs.Tryz
set_option maxRecDepth 8000
set_option maxHeartbeats 20000000
set_option linter.unusedVariables false
set_option linter.unusedSimpArgs false
def Z0a (w : World) (b : Nat) (l : List (List UInt8)) (D : DataW Unit) : Prop :=
 w.ownsMap prog 9 (plainElem prog 4) b l.length D ∧ IsMap D ∧ ∀ x : List UInt8, D.atKey (.string x) (.lit (.bool false)) = .lit (.bool (decide (x ∈ l)))
theorem Z0a.made (w : World) : Z0a (w.alloc (.map #[] 0)) w.heap.size [] (.map []) :=
 ⟨World.ownsMap_made _ _ _ _, isMap_empty, fun x => rfl⟩
theorem Z0a.lt {w : World} {b : Nat} {l : List (List UInt8)} {D : DataW Unit} (h : Z0a w b l D) : b < w.heap.size := h.1.lt
theorem Z0a.kept {w w' : World} {b : Nat} {l : List (List UInt8)} {D : DataW Unit} {row : Option Nat} (h : Z0a w b l D) (hg : w.grownBy w' row) (hne : some b ≠ row) : Z0a w' b l D := ⟨h.1.kept hg hne, h.2⟩
theorem gB_below6 {a b : World} (h : Below a.heap.size a b) (row : Option Nat) : a.grownBy b row := ⟨h.os, h.tape, h.output, h.size, fun i hi _ => h.block i hi⟩
theorem Z0a.below {w w' : World} {b : Nat} {l : List (List UInt8)} {D : DataW Unit} (h : Z0a w b l D) (hb : Below w.heap.size w w') : Z0a w' b l D := h.kept (gB_below6 hb none) (by simp)
theorem Z0a.add {w : World} {b : Nat} {l : List (List UInt8)} {D : DataW Unit} (h : Z0a w b l D) (x : List UInt8) {w' : World} (k : w'.ownsMap prog 9 (plainElem prog 4) b (l.length + 1) (D.put (.string x) (.lit (.bool true)))) : Z0a w' b (l ++ [x]) (D.put (.string x) (.lit (.bool true))) := by
 refine ⟨by simpa using k, h.2.1.put _ _, fun y => ?_⟩
 by_cases e : y = x
 · subst e
   rw [atKey_put_same h.2.1 (by trivial)]
   simp
 · rw [atKey_put_other (by intro q; simp only [Lit.string.injEq] at q; exact e q), h.2.2 y]
   simp [e]
structure Two (w w' : World) (row : Option Nat) (b : Nat) : Prop where
 os : w'.os = w.os
 tape : w'.tape = w.tape
 output : w'.output = w.output
 size : w.heap.size ≤ w'.heap.size
 block : ∀ i, i < w.heap.size → row ≠ some i → i ≠ b → w'.heap[i]? = w.heap[i]?
theorem Two.of {w w' : World} {row : Option Nat} (h : w.grownBy w' row) (b : Nat) : Two w w' row b := ⟨h.os, h.tape, h.output, h.size, fun i hi hne _ => h.block i hi (fun e => hne e.symm)⟩
theorem Two.below {w w' : World} (h : Below w.heap.size w w') (row : Option Nat) (b : Nat) : Two w w' row b := Two.of (gB_below6 h row) b
theorem Two.trans {a c d : World} {row : Option Nat} {b : Nat} (h : Two a c row b) (k : Two c d row b) : Two a d row b :=
 ⟨k.os.trans h.os, k.tape.trans h.tape, k.output.trans h.output, Nat.le_trans h.size k.size, fun i hi h1 h2 => (k.block i (Nat.lt_of_lt_of_le hi h.size) h1 h2).trans (h.block i hi h1 h2)⟩
theorem Two.next {a c d : World} {v v' : Value} {b : Nat} (h : Two a c v.ownBlock b) (hv : v'.ownBlock = v.ownBlock ∨ ∀ q, v'.ownBlock = some q → a.heap.size ≤ q) (k : Two c d v'.ownBlock b) : Two a d v.ownBlock b :=
 ⟨k.os.trans h.os, k.tape.trans h.tape, k.output.trans h.output, Nat.le_trans h.size k.size, fun i hi h1 h2 => (k.block i (Nat.lt_of_lt_of_le hi h.size) (by
   rcases hv with hv | hv
   · rw [hv]; exact h1
   · intro e; have := hv i e; omega) h2).trans (h.block i hi h1 h2)⟩
end Go.Proofs.YtmgepnacjgbfhaaGreatDoor
namespace Go.Proofs.YtmgepnacjgbfhaaGreatDoor
open Go.RowKit Go.Maps Go.WideMaps Go.Proofs.Tryz
set_option maxRecDepth 8000
set_option maxHeartbeats 20000000
set_option linter.unusedVariables false
set_option linter.unusedSimpArgs false
def AtPostI (B N b : Nat) (v : Value) (l' : List (List UInt8)) (w : World) (e : Ending) (w' : World) : Prop :=
 ∃ v' D', e = .returned v' ∧ w'.ownsRow B 9 1 v' l'.length (l'.map Ye) ∧ Z0a w' b l' D' ∧ Two w w' v.ownBlock b ∧ (v'.ownBlock = v.ownBlock ∨ ∀ q, v'.ownBlock = some q → N ≤ q)
theorem fv_twoA {nd : Tr → Value → List Value} {w1 : World} {N : Nat} {t : Tr} {cs : List Value} (hv : FV nd w1 (fun k => N ≤ k ∧ k < w1.heap.size) t cs) (o o' : Obj) : FV nd ((w1.alloc o).alloc o') (fun k => k < w1.heap.size) t cs :=
 FV.wide (hv.below (((Below.refl w1.heap.size w1).alloc (Nat.le_refl _) o).alloc (by simp) o') (fun k hk => hk.2)) (fun k hk => hk.2)
theorem le_two (w1 : World) (o o' : Obj) : w1.heap.size ≤ ((w1.alloc o).alloc o').heap.size := by simp; omega
theorem made_rowA (w1 : World) (o : Obj) : ((w1.alloc o).alloc (.cells #[] 9)).ownsRow w1.heap.size 9 1 (.slice (some ⟨w1.heap.size + 1, 0, none⟩) 0 0) 0 [] := by
 have := World.ownsRow_made (w1.alloc o) #[] 0 (base := w1.heap.size) (e := 9) (size := 1) (by simp) (by decide) rfl
 simpa using this
theorem Z5t (s : ByteArray) (hs : s.size ≤ 1048576) (w : World) :
 Calls prog 35 #[.string s] w fun e w' => PartsPost w.heap.size (Vk s.data.toList) e w' ∧ Below w.heap.size w w' := by
 cases hp : Zt s.data.toList with
 | none =>
   have C := H_ (Vg hs hp)
   have HP := H_ (atomsOf_none hp)
   clear hp
   go_enter func35, ntmps35
   go_wp2_with (go_at_call 48; go_must (refine (C.out _).mono ?_; rintro e w1 ⟨⟨a, p, n, c, rfl, hn⟩, hb1⟩; have hn' := Zx hn))
   go_ret2
   exact ⟨⟨_, by rw [HP.out]; rfl, by rw [HP.out]; exact made_none hb1⟩, (hb1.alloc hb1.size _).alloc (by have := hb1.size; simp; omega) _⟩
 | some t =>
   have C := H_ (Qk hs hp)
   have hg := Yn hp
   have HP := H_ (atomsOf_some hp)
   have hsz := (Q2 t hg.1).1
   have hb := hg.2.1
   have HA : Hid (∀ (W : World) (p : Option Addr) (n c : Nat) (B : Nat) (v : Value), FV nS W (fun k => k < B) t (nS t (.slice p n c)) → B ≤ W.heap.size → W.ownsRow B 9 1 v 0 [] → Calls prog 68 #[.agg #[.string (bs (Z0 t)), .slice p n c], v] W fun e w' => AtPost B W.heap.size v (Xs t []) W e w') :=
    H_ (fun W p n c B v h1 h2 h3 => Z5e (t.depth + 1) t _ B [] v W (by omega) hg.1 (by simp; omega) h1 h2 h3)
   clear hp hg hsz hb
   go_enter func35, ntmps35
   go_wp2_with (first | (go_at_call 48; go_must (refine (C.out _).mono ?_; rintro e w1 ⟨⟨p, n, c, rfl, hv⟩, hb1⟩; have CA := H_ (fun o => HA.out ((w1.alloc o).alloc (.cells #[] 9)) p n c w1.heap.size (.slice (some ⟨w1.heap.size + 1, 0, none⟩) 0 0) (fv_twoA hv o _) (le_two w1 o _) (made_rowA w1 o)))) | (go_at_call 68; go_must (refine (CA.out _).mono ?_; rintro e w2 ⟨v2, rfl, ho2, hg2, hvv2⟩)))
   go_ret2
   have hs1 := hb1.size
   refine ⟨⟨_, by rw [HP.out]; rfl, by rw [HP.out]; exact Vn ho2 hs1⟩, ?_⟩
   exact (((hb1.alloc hs1 _).alloc (by simp; omega) _).grown hg2 (by simp; omega) (fun q hq => by simp [Value.ownBlock] at hq; omega))
end Go.Proofs.YtmgepnacjgbfhaaGreatDoor
