/- The helpers of the laws on arguments that are slices of strings: their size, their copy. The reference's look-up in an environment. The reference's draws: a small expression of a type. The program's orders. The program reads types; its answers that are numbers and bools. The program reads 'fun'. The program's answers that are numbers and bools; the walks of the laws on them. -/
import Derived.Test.YtjaaalojcdbcpaaGreatDoorlAsrAM
import Derived.OwnWalk
import Derived.Deep.LoopGhost
import Derived.Test.YtjaaalojcdbcpaaGreatDoorlPureT
import Derived.Test.YtjaaalojcdbcpaaGreatDoorlSpec2aM
import Derived.Test.YtjaaalojcdbcpaaGreatDoorlS1z
import Derived.Test.YtjaaalojcdbcpaaGreatDoorlNumIM
import Derived.Test.YtjaaalojcdbcpaaGreatDoorlI1y
import Derived.Deep.RegionHeld3
import Derived.Test.YtjaaalojcdbcpaaGreatDoorlI2a
import Derived.Test.YtjaaalojcdbcpaaGreatDoorlB1
import Derived.BigRegion
import Derived.Deep.CutRange
set_option maxHeartbeats 20000000
set_option linter.unusedVariables false
set_option linter.unusedSimpArgs false
namespace Go.Proofs.YtjaaalojcdbcpaaGreatDoor
open Go.RowKit Go.Proofs.Tryz
set_option maxRecDepth 8000
def lens : List (List UInt8) → Nat
 | [] => 0
 | x :: l => x.length + lens l
def leftS (l : List (List UInt8)) (left : Nat) : Int := if l.length + lens l ≤ left then ((left - (l.length + lens l) : Nat) : Int) else -1
def cpRow (l : List (List UInt8)) (k : Nat) : List Value := (l.take k).map Y3 ++ List.replicate (l.length - k) (.string ⟨#[]⟩)
def CopyS (B : Nat) (l : List (List UInt8)) (e : Ending) (w' : World) : Prop := ∃ v, e = .returned v ∧ Zw w' v l ∧ (∀ k, v.ownBlock = some k → B ≤ k ∧ k < w'.heap.size)
theorem Zw.below {w w' : World} {v : Value} {l : List (List UInt8)} (h : Zw w v l) (hb : Below w.heap.size w w') : Zw w' v l := by
 obtain ⟨p, c, rfl, h1, h2⟩ := h
 refine ⟨p, c, rfl, h1, fun hne => ?_⟩
 obtain ⟨r, off, rfl, h3⟩ := h2 hne
 refine ⟨r, off, rfl, h3.move (hb.block r ?_)⟩
 have h0 : 0 < l.length := List.length_pos_iff.2 hne
 exact World.block_lt_of_cell? w ⟨r, off + 0, none⟩ (Zw.cell h3 h0)
theorem l3Look_c (v1 v2 : Value) (ns : List Nm) (ts : List (List UInt8)) (s : Nm) (w : World) (h1 : Zw w v1 ns) (h2 : Zw w v2 ts) (hl : ns.length = ts.length) (hsz : ns.length ≤ 1000000) :
 Calls prog 137 #[v1, v2, .string (bs s)] w fun e w' => e = .returned (.string (bs (Z20 ns ts s ns.length))) ∧ w' = w := by
 obtain ⟨R, hR⟩ : ∃ R, R = bs (Z20 ns ts s ns.length) := ⟨_, rfl⟩
 rw [← hR]
 have HR := H_ hR
 obtain ⟨p1, c1, rfl, l1, hrow1⟩ := h1
 obtain ⟨p2, c2, rfl, l2, hrow2⟩ := h2
 have HS1 := H_ hrow1
 have HS2 := H_ hrow2
 have HL := H_ hl
 clear hR hrow1 hrow2 hl
 go_enter func137, ntmps137
 go_wp2_with fail
 go_loop [7] (fun i => ∃ (k : Nat) (n : Int), k ≤ ns.length ∧ i = .int .i64 n ∧ n + 1 = k ∧ Hid (Z20 ns ts s ns.length = Z20 ns ts s k)) (fun i => ((intOf i) + 1).toNat)
 case atStart => exact ⟨ns.length, _, Nat.le_refl _, rfl, by omega, H_ rfl⟩
 case round =>
  obtain ⟨k, n, hk, rfl, hn, hA⟩ := hrel
  cases k with
  | zero =>
    obtain rfl : n = -1 := by omega
    have HF := H_ (show R = bs [] by rw [HR.out, hA.out]; rfl)
    clear hA
    go_wp2_with fail
    go_ret
    exact ⟨by rw [HF.out]; rfl, rfl⟩
  | succ k =>
    obtain rfl : n = (k : Int) := by omega
    have hlt : k < ns.length := by omega
    have hlt2 : k < ts.length := by rw [← HL.out]; exact hlt
    obtain ⟨r, off, rfl, h3⟩ := HS1.out (by intro e; rw [e] at hlt; simp at hlt)
    obtain ⟨r2, off2, rfl, h4⟩ := HS2.out (by intro e; rw [e] at hlt2; simp at hlt2)
    have x1 : w.cell? ⟨r, off + k, none⟩ = some (.string (bs ns[k])) := Zw.cell h3 hlt
    have x2 : w.cell? ⟨r2, off2 + k, none⟩ = some (.string (bs ts[k])) := Zw.cell h4 hlt2
    have hk0 : (0 : Int) ≤ (k : Int) := by omega
    have hltI : (k : Int) < (ns.length : Int) := by omega
    have hltI2 : (k : Int) < (ts.length : Int) := by omega
    have HG := H_ (show Z20 ns ts s (k + 1) = if ns[k] = s then ts[k] else Z20 ns ts s k by simp [Z20, hlt, hlt2])
    by_cases he : ns[k] = s
    · have hx2 : ((bs ns[k]).toList == (bs s).toList) = true := by rw [Z9, Z9]; simpa using he
      have hx3 : (bs ns[k]).toList = (bs s).toList := by rw [Z9, Z9]; exact he
      have HF := H_ (show R = bs ts[k] by rw [HR.out, hA.out, HG.out, if_pos he])
      generalize bs ns[k] = sa at *
      generalize bs ts[k] = sb at *
      clear hA HG he h3 h4
      go_wp2_with fail
      go_ret
      exact ⟨by rw [HF.out]; rfl, rfl⟩
    · have hx2 : ((bs ns[k]).toList == (bs s).toList) = false := by rw [Z9, Z9]; simpa using he
      have hx3 : ¬ (bs ns[k]).toList = (bs s).toList := by rw [Z9, Z9]; exact he
      have HF := H_ (show Z20 ns ts s ns.length = Z20 ns ts s k by rw [hA.out, HG.out, if_neg he])
      generalize bs ns[k] = sa at *
      generalize bs ts[k] = sb at *
      clear hA HG he h3 h4
      go_wp2_with fail
      exact ⟨⟨k, _, by omega, rfl, by omega, HF⟩, by first | (simp [intOf]; done) | (simp [intOf]; omega)⟩
def LkPost (r : Option (List UInt8)) (e : Ending) : Prop := e = .returned (.tuple #[.string (bs (r.getD [])), .bool r.isSome])
def OfC (s : ByteArray) : Prop := ∀ W : World, Calls prog 138 #[.string s] W fun e w' => (∃ (r : ByteArray) (z : Bool), e = .returned (.tuple #[.string r, .bool z]) ∧ r.size ≤ 12000) ∧ Below W.heap.size W w'
structure LfInv (w1 : World) (ns l : List Nm) (k : Nat) (v : Value) (wr : World) : Prop where
 own : wr.ownsRow w1.heap.size 9 1 v l.length (l.map Y3)
 below : Below w1.heap.size w1 wr
 len : l.length ≤ k
 mem : ∀ x ∈ l, x ∈ ns
theorem mem_snoc {ns l : List Nm} {x : Nm} (h : ∀ y ∈ l, y ∈ ns) (hx : x ∈ ns) : ∀ y ∈ l ++ [x], y ∈ ns := by
 intro y hy
 rcases List.mem_append.1 hy with h1 | h1
 · exact h y h1
 · simp only [List.mem_singleton] at h1
   subst h1
   exact hx
def numsL : List Nm := [[48], [49], [50], [51], [55], [45, 49], [52, 48, 48], [45, 57, 57, 57]]
theorem Z5e {q : Nat} {a : Option Addr} {L c p : Nat} {zs : List Int} {w : World} (v1 v2 : Value) (n : Nat) (s : ByteArray) (h : Rd w q a L c p zs) (hs : Sc w q v1 v2 n) (hn : n ≤ 1000) (hp : p ≤ 900000) (ho : OfC s) :
 Calls prog 88 #[.pointer (some ⟨q, 0, none⟩), .agg #[v1, v2], .string s] w fun e w' => Ql q a L c p zs 12000 3 w e w' := by
 obtain ⟨i0, hi0, hz0, hz1, hz2⟩ := info_parts Tryz.infoStrD
 obtain ⟨ns, ts, ⟨hs1, hb1⟩, ⟨hs2, hb2⟩, hl, hln, hmem⟩ := hs
 obtain ⟨p1, n1, c1, rfl⟩ := hs1.shape
 obtain ⟨p2, n2, c2, rfl⟩ := hs2.shape
 have hn1 : n1 = ns.length := by
  obtain ⟨_, _, e, -, -⟩ := hs1
  injection e
 subst hn1
 have hq0 : q < w.heap.size := lt_of_block h.blk
 have HL := H_ hl
 have HM := H_ hmem
 clear hb1 hb2 hl hmem
 go_enter func88, ntmps88
 go_wp2_with fail
 obtain ⟨w1, hw1⟩ : ∃ w1, w1 = w.alloc (.cells #[.slice p1 ns.length c1, .slice p2 n2 c2] 78) := ⟨_, rfl⟩
 have y1 : w1.heap[w.heap.size]? = some (.cells #[.slice p1 ns.length c1, .slice p2 n2 c2] 78 (0, 0)) := by rw [hw1]; exact heap_alloc_new _ _
 have hB1 : Below w.heap.size w w1 := by rw [hw1]; exact Z5 _ _
 have HW : Hid (w.heap.size < w1.heap.size) := H_ (by rw [hw1]; simp)
 have HS1 := H_ (J7 hs1 hB1)
 have HS2 := H_ (J7 hs2 hB1)
 have HR1 := H_ (h.below hB1)
 have HB1 := H_ hB1
 have HE : Hid ((w1.alloc (.cells #[] 9)).ownsRow w1.heap.size 9 1 (.slice (some ⟨w1.heap.size, 0, none⟩) 0 0) ([] : List Nm).length (([] : List Nm).map Y3)) := H_ (Z5x (heap_alloc_new w1 _) (Nat.le_refl _))
 try rw [← hw1]
 have hsz1 : (w.alloc (.cells #[.slice p1 ns.length c1, .slice p2 n2 c2] 78)).heap.size = w1.heap.size := by rw [hw1]
 clear hs1 hs2 h hB1
 go_loopw [7, 8] (fun v i wr => ∃ (k : Nat) (l : List Nm), k ≤ ns.length ∧ i = .int .i64 k ∧ Hid (LfInv w1 ns l k v wr)) (fun _ i _ => ns.length - (intOf i).toNat)
 case atStart => exact ⟨0, [], Nat.zero_le _, rfl, H_ ⟨by subst hw1; simpa using HE.out, by subst hw1; exact Z5 _ _, Nat.le_refl _, fun x hx => by simp at hx⟩⟩
 case round =>
  obtain ⟨k, l, hk, rfl, hI⟩ := hrel
  clear HE hw1 hsz1
  have hB := hI.out.below
  have y2 := Z2 hB (lt_of_block y1) y1
  obtain ⟨z0, z1⟩ := Zh y2
  have HO := H_ hI.out.own
  obtain ⟨p3, c3, rfl⟩ := Zn HO.out
  have hlk := hI.out.len
  have hkI : (0 : Int) ≤ (k : Int) := by omega
  by_cases hlt : k < ns.length
  · have hSr := J7 HS1.out hB
    have hSr2 := J7 HS2.out hB
    have CL : Hid (∀ W, Below wr.heap.size wr W → Calls prog 137 #[.slice p1 ns.length c1, .slice p2 n2 c2, .string (bs ns[k])] W fun e w' => e = .returned (.string (bs (Z20 ns ts ns[k] ns.length))) ∧ w' = W) := H_ (fun W hW => l3Look_c _ _ ns ts ns[k] W (J7 hSr hW) (J7 hSr2 hW) HL.out (by omega))
    obtain ⟨p9, c9, he9, h91, h92⟩ := hSr
    simp only [Value.slice.injEq] at he9
    obtain ⟨rfl, -, rfl⟩ := he9
    obtain ⟨r, off, rfl, h93⟩ := h92 (fun e => by rw [e] at hlt; simp at hlt)
    have c0 : wr.cell? ⟨r, off + k, none⟩ = some (.string (bs ns[k])) := Zw.cell h93 hlt
    have HA : Hid (ns[k] ∈ ns) := H_ (List.getElem_mem hlt)
    have hltI : (k : Int) < (ns.length : Int) := by omega
    have hsz := hB.size
    generalize ns[k] = x at *
    generalize bs (Z20 ns ts x ns.length) = R at *
    clear h91 h92 h93 hSr2
    by_cases he : R.toList = s.toList
    · have he2 : (R.toList == s.toList) = true := by simpa using he
      go_wp2_with fail
      go_region_with (first | (go_at_call 137; ((with_reducible refine (CL.out _ ?_).mono ?_); (· first | exact (Below.refl _ _).drew | exact Below.refl _ _ | assumption); rintro e w3 ⟨rfl, rfl⟩)) | fail)
      all_goals go_wp2_with (first | (at_builtin; go_must (refine Y9 _ rfl _ _ 28 rfl w1.heap.size 9 i0 underlying28 hi0 hz0 hz1 hz2 _ l rfl (HO.out.alloc _) _ [x] rfl (Z55 (l := [x]) (heap_alloc_new _ _) (by simp)) (by simp; omega) (by simp; omega) ?_; intro v3 w4 ho4 hg4 hv4)))
      all_goals exact ⟨⟨k + 1, l ++ [x], by omega, by go_num, H_ ⟨ho4, Z12 hB (by first | exact ((Below.refl _ _).alloc (Nat.le_refl _) _).drew | exact ((Below.refl _ _).drew).alloc (Nat.le_refl _) _ | exact (Below.refl _ _).alloc (Nat.le_refl _) _) hg4 (fun k hk => (Z6m HO.out hk).1), by simp; omega, mem_snoc hI.out.mem HA.out⟩⟩, by simp [intOf]; omega⟩
    · have he2 : (R.toList == s.toList) = false := by simpa using he
      go_wp2_with fail
      go_region_with (first | (go_at_call 137; ((with_reducible refine (CL.out _ ?_).mono ?_); (· first | exact (Below.refl _ _).drew | exact Below.refl _ _ | assumption); rintro e w3 ⟨rfl, rfl⟩)) | fail)
      all_goals go_wp2_with fail
      all_goals exact ⟨⟨k + 1, l, by omega, by go_num, H_ ⟨HO.out, by first | exact hB.drew | exact hB, by omega, hI.out.mem⟩⟩, by simp [intOf]; omega⟩
  · have : k = ns.length := by omega
    subst this
    have HRr := H_ ((HR1.out).below hB)
    have HOr : Hid (Only q w wr) := H_ ((Only.of HB1.out).trans (Only.of hB))
    have HLn : Hid (∀ x ∈ l, x.length ≤ 10) := H_ (fun x hx => HM.out x (hI.out.mem x hx))
    have hk1 : ¬ ((ns.length : Int) < (ns.length : Int)) := by omega
    by_cases hz : l = []
    · subst hz
      have hl0 : ([] : List Nm).length = 0 := rfl
      rw [hl0] at *
      clear hI HO
      have hRd := HRr.out
      have HOx := H_ (HOr.out)
      by_cases hw : s.toList = [105]
      · have hw2 : (s.toList == [105]) = true := by simpa using hw
        have C1 := H_ (Kp (l := numsL) (N := 4) hRd (by omega) (by decide) (by decide) (by decide))
        go_wp2_with fail
        refine (C1.out).mono ?_
        rintro e w5 ⟨s5, p5, rfl, b1, b2, hR5, ho5⟩
        go_wp2_with fail
        go_ret
        exact ⟨_, p5, rfl, by omega, by omega, hR5, HOx.out.trans ho5⟩
      · have hw2 : (s.toList == [105]) = false := by simpa using hw
        have C1 := H_ (ho wr)
        go_wp2_with fail
        refine (C1.out).mono ?_
        rintro e w5 ⟨⟨r5, z5, rfl, hr5⟩, hb5⟩
        have HR5 := H_ (hRd.below hb5)
        have HO5 := H_ (HOx.out.next hb5)
        cases z5
        · go_wp2_with fail
          go_ret
          exact ⟨_, _, rfl, by rw [bsz]; simp, by omega, HR5.out, HO5.out⟩
        · go_wp2_with fail
          go_ret
          exact ⟨_, _, rfl, by omega, by omega, HR5.out, HO5.out⟩
    · have hpos : 0 < l.length := List.length_pos_iff.2 hz
      have hposI : (0 : Int) < (l.length : Int) := by omega
      have CP := H_ (K6 (n := 4) HRr.out (by omega) (by omega))
      go_wp2_with fail
      refine (CP.out).mono ?_
      rintro e w2 ⟨⟨r, rfl, hr0, hr1⟩, hR2, ho2⟩
      by_cases h0 : r = 0
      · subst h0
        have hRd := hR2
        have HOx := H_ (HOr.out.trans ho2)
        by_cases hw : s.toList = [105]
        · have hw2 : (s.toList == [105]) = true := by simpa using hw
          have C1 := H_ (Kp (l := numsL) (N := 4) hRd (by omega) (by decide) (by decide) (by decide))
          go_wp2_with fail
          refine (C1.out).mono ?_
          rintro e w5 ⟨s5, p5, rfl, b1, b2, hR5, ho5⟩
          go_wp2_with fail
          go_ret
          exact ⟨_, p5, rfl, by omega, by omega, hR5, HOx.out.trans ho5⟩
        · have hw2 : (s.toList == [105]) = false := by simpa using hw
          have C1 := H_ (ho w2)
          go_wp2_with fail
          refine (C1.out).mono ?_
          rintro e w5 ⟨⟨r5, z5, rfl, hr5⟩, hb5⟩
          have HR5 := H_ (hRd.below hb5)
          have HO5 := H_ (HOx.out.next hb5)
          cases z5
          · go_wp2_with fail
            go_ret
            exact ⟨_, _, rfl, by rw [bsz]; simp, by omega, HR5.out, HO5.out⟩
          · go_wp2_with fail
            go_ret
            exact ⟨_, _, rfl, by omega, by omega, HR5.out, HO5.out⟩
      · have hrp : 0 < r := by omega
        have CP2 := H_ (K6 (n := (l.length : Int)) hR2 (by omega) (by omega))
        have hrow := Z0t HO.out (by omega)
        obtain ⟨p9, c9, he9, h91, h92⟩ := hrow
        simp only [Value.slice.injEq] at he9
        obtain ⟨rfl, -, rfl⟩ := he9
        obtain ⟨rr, off, rfl, h93⟩ := h92 hz
        have hrr := Z6m HO.out (k := rr) rfl
        have HX : Hid (∀ j (hj : j < l.length), wr.cell? ⟨rr, off + j, none⟩ = some (.string (bs l[j]))) := H_ (fun j hj => Zw.cell h93 hj)
        have hqr : rr ≠ q := by have := HW.out; omega
        clear h91 h92 h93
        go_wp2_with fail
        refine (CP2.out).mono ?_
        rintro e w3 ⟨⟨k3, rfl, hk30, hk31⟩, hR3, ho3⟩
        obtain ⟨j, rfl⟩ : ∃ j : Nat, k3 = (j : Int) := ⟨k3.toNat, by omega⟩
        have hj : j < l.length := by omega
        have x0 : w3.cell? ⟨rr, off + j, none⟩ = some (.string (bs l[j])) := by rw [(ho2.trans ho3).cell (p := ⟨rr, off + j, none⟩) hrr.2 hqr]; exact HX.out j hj
        have hjI : (j : Int) < (l.length : Int) := by omega
        have hs : (bs l[j]).size ≤ 10 := by rw [Y0]; exact HLn.out _ (List.getElem_mem hj)
        have HR3 := H_ hR3
        have HO3 := H_ ((HOr.out.trans ho2).trans ho3)
        generalize bs l[j] = S at *
        clear HX HLn hI HO
        go_wp2_with fail
        go_ret
        exact ⟨S, _, rfl, by omega, by omega, HR3.out, HO3.out⟩
theorem Z3j {s : ByteArray} (hs : s.size ≤ 1048576) (hp : Zt s.data.toList = none) (W : World) : Calls prog 40 #[.string s] W fun e w' => e = .returned (.tuple #[.agg #[.string ⟨#[]⟩, .slice none 0 0, .int .i64 0, .int .i64 0, .int .i64 0], .bool false]) ∧ Below W.heap.size W w' :=
 (Z75 s hs W).mono fun e w' ⟨h1, h2⟩ => ⟨by rw [hp] at h1; exact h1, h2⟩
theorem Z3i {s : ByteArray} (hs : s.size ≤ 1048576) {t : Tr} (hp : Zt s.data.toList = some t) (W : World) : Calls prog 40 #[.string s] W fun e w' => (∃ p n c, e = .returned (.tuple #[.agg #[.string (bs (Z1 t)), .slice p n c, .int .i64 t.bytes, .int .i64 t.size, .int .i64 t.depth], .bool true]) ∧ FV nI w' (fun k => W.heap.size ≤ k ∧ k < w'.heap.size) t (nI t (.slice p n c))) ∧ Below W.heap.size W w' :=
 (Z75 s hs W).mono fun e w' ⟨h1, h2⟩ => ⟨by rw [hp] at h1; exact h1, h2⟩
def TyPost (B : Nat) (res : Option Tr) (e : Ending) (w' : World) : Prop :=
 match res with
 | none => e = .returned (.tuple #[.agg #[.string ⟨#[]⟩, .slice none 0 0, .int .i64 0, .int .i64 0, .int .i64 0], .bool false])
 | some t => ∃ p n c, e = .returned (.tuple #[.agg #[.string (bs (Z1 t)), .slice p n c, .int .i64 t.bytes, .int .i64 t.size, .int .i64 t.depth], .bool true]) ∧ FV nI w' (fun k => B ≤ k ∧ k < w'.heap.size) t (nI t (.slice p n c))
theorem Z21 (t : Tr) (p : Option Addr) (n c : Nat) (ok : Nat → Prop) (w : World) (hwf : t.wf) (hsz : t.size ≤ 1000000000) (hv : FV nI w ok t (nI t (.slice p n c))) (hok : ∀ k, ok k → k < w.heap.size) :
 Calls prog 129 #[.agg #[.string (bs (Z1 t)), .slice p n c, .int .i64 t.bytes, .int .i64 t.size, .int .i64 t.depth]] w fun e w' => e = .returned (.bool (Q1 t && decide (t.size ≤ 16))) ∧ Below w.heap.size w w' := by
 have T : Hid (Calls prog 155 #[.agg #[.string (bs (Z1 t)), .slice p n c, .int .i64 t.bytes, .int .i64 t.size, .int .i64 t.depth]] (w.alloc (.cells #[.string (bs (Z1 t)), .slice p n c, .int .i64 t.bytes, .int .i64 t.size, .int .i64 t.depth] 65)) fun e w' => e = .returned (.bool (Q1 t)) ∧ Below (w.heap.size + 1) (w.alloc (.cells #[.string (bs (Z1 t)), .slice p n c, .int .i64 t.bytes, .int .i64 t.size, .int .i64 t.depth] 65)) w') :=
  H_ ((Z7q (t.depth + 1) t p n c ok _ (by omega) hwf (hv.below (Z5 w _) hok) (fun k hk => by have := hok k hk; simp; omega)).mono fun e w' ⟨h1, h2⟩ => ⟨h1, by simpa using h2⟩)
 by_cases h16 : t.size ≤ 16
 · have hd : decide ((t.size : Int) ≤ 16) = true := by simp; omega
   have HF : Hid ((Q1 t && decide (t.size ≤ 16)) = Q1 t) := H_ (by simp [h16])
   clear hv
   go_enter func129, ntmps129
   go_wp2_with (go_at_call 155; go_must (refine T.out.mono ?_; rintro e w2 ⟨rfl, hb2⟩))
   go_ret
   exact ⟨by rw [HF.out]; rfl, (Z5 w _).trans (hb2.mono (by omega))⟩
 · have hd : decide ((t.size : Int) ≤ 16) = false := by simp; omega
   have HF : Hid ((Q1 t && decide (t.size ≤ 16)) = false) := H_ (by simp; omega)
   clear hv T
   go_enter func129, ntmps129
   go_wp2_with fail
   go_ret
   exact ⟨by rw [HF.out]; rfl, Z5 w _⟩
theorem asFun_bad (p : Option Addr) (m c : Nat) (hm : m ≠ 5) (hm2 : m ≤ 1000000000) (w : World) :
 Calls prog 119 #[.slice p m c] w fun e w' => e = .returned (.tuple #[.nilIface, .bool false]) ∧ Below w.heap.size w w' := by
 have hl' : ((m : Int) == 5) = false := by simp; omega
 have hl2 : ¬ (m : Int) = 5 := by omega
 go_enter func119, ntmps119
 go_wp2_with fail
 go_ret2
 exact ⟨rfl, Below.refl _ _⟩
theorem kid_I {w : World} {ok : Nat → Prop} {ts : List Tr} {xs : List Value} {r off : Nat} (h6 : FVs nI w ok ts xs) (h5 : Yv w r off xs) (i : Nat) (hi : i < ts.length) :
 ∃ p m c, FV nI w ok ts[i] (nI ts[i] (.slice p m c)) ∧ (w.cell? ⟨r, off + i * 5, none⟩ = some (.string (bs (Z1 ts[i]))) ∧ w.cell? ⟨r, off + i * 5 + 1, none⟩ = some (.slice p m c) ∧ w.cell? ⟨r, off + i * 5 + 2, none⟩ = some (.int .i64 ts[i].bytes) ∧ w.cell? ⟨r, off + i * 5 + 3, none⟩ = some (.int .i64 ts[i].size) ∧ w.cell? ⟨r, off + i * 5 + 4, none⟩ = some (.int .i64 ts[i].depth)) := by
 obtain ⟨cs, g1, g2⟩ := FVs.get Z44 h6 h5 i hi
 obtain ⟨p, pn, pc, rfl⟩ := g1.node
 exact ⟨p, pn, pc, g1, g2 0 _ rfl, g2 1 _ rfl, g2 2 _ rfl, g2 3 _ rfl, g2 4 _ rfl⟩
theorem asFun_c (n : Nat) (ih : Z2w n) (f x A B b : Tr) (c : Nat) (ok : Nat → Prop) (w : World) (r off : Nat) (xs : List Value) (hdb : b.depth < n) (hwA : A.wf) (hwB : B.wf) (hwb : b.wf) (hbf : f.bytes ≤ 12000) (hbx : x.bytes ≤ 12000) (hbA : A.bytes ≤ 12000) (hbB : B.bytes ≤ 12000) (hbb : b.bytes ≤ 12000)
 (h5 : Yv w r off xs) (h6 : FVs nI w ok [f, x, A, B, b] xs) (hrlt : r < w.heap.size) (hok : ∀ k, ok k → k < w.heap.size) (hc : 5 ≤ c) (hc2 : c ≤ maxLen) :
 Calls prog 119 #[.slice (some ⟨r, off, none⟩) 5 c] w fun e w' => Zu ok (Xc [f, x, A, B, b]) e w' ∧ Below w.heap.size w w' := by
 have hc3 := Yl hc2
 obtain ⟨p0, n0, q0, v0, e00, -⟩ := kid_I h6 h5 0 (by simp)
 obtain ⟨p1, n1, q1, v1, e10, -⟩ := kid_I h6 h5 1 (by simp)
 obtain ⟨p2, n2, q2, v2, e20, e21, e22, e23, e24⟩ := kid_I h6 h5 2 (by simp)
 obtain ⟨p3, n3, q3, v3, e30, e31, e32, e33, e34⟩ := kid_I h6 h5 3 (by simp)
 obtain ⟨p4, n4, q4, v4, e40, e41, e42, e43, e44⟩ := kid_I h6 h5 4 (by simp)
 simp only [Nat.reduceMul, Nat.zero_mul, Nat.add_zero, List.getElem_cons_zero, List.getElem_cons_succ] at v2 v3 v4 e00 e10 e20 e21 e22 e23 e24 e30 e31 e32 e33 e34 e40 e41 e42 e43 e44
 clear v0 v1
 go_enter func119, ntmps119
 go_wp2_with fail
 go_cut [4, 5, 6, 7] from 13 to 26 (fun t4 t5 t6 t7 W => t4 = .string (bs (Z1 f)) ∧ t5 = .string (bs (Z1 x)) ∧ ∃ b6 b7, t6 = .pointer (some ⟨b6, 0, none⟩) ∧ t7 = .pointer (some ⟨b7, 0, none⟩) ∧ W.heap[b6]? = some (.cells #[.string (bs (Z1 A)), .slice p2 n2 q2, .int .i64 A.bytes, .int .i64 A.size, .int .i64 A.depth] 65 (0, 0)) ∧ W.heap[b7]? = some (.cells #[.string (bs (Z1 B)), .slice p3 n3 q3, .int .i64 B.bytes, .int .i64 B.size, .int .i64 B.depth] 65 (0, 0)) ∧ Hid (Below w.heap.size w W))
 case first =>
  clear ih h5 h6 v2 v3 v4
  go_big_region
  all_goals
   go_wp2_with fail
   go_meet
   first
    | exact ⟨rfl, rfl, _, _, rfl, rfl, Z8 (heap_alloc_new _ _), Za _ _ _, H_ (Zl w _ _).drew⟩
    | exact ⟨rfl, rfl, _, _, rfl, rfl, Za _ _ _, Z8 (heap_alloc_new _ _), H_ (Zl w _ _).drew⟩
 case rest =>
 obtain ⟨rfl, rfl, b6, b7, rfl, rfl, y6, y7, HB⟩ := hcut
 have hlf : (Z1 f).length ≤ 1048576 := by have := Z2t f; omega
 have hlx : (Z1 x).length ≤ 1048576 := by have := Z2t x; omega
 have hsA := (Q9 A hwA).1
 have hsB := (Q9 B hwB).1
 have CNf : Hid (∀ W, Calls prog 49 #[.string (bs (Z1 f))] W fun e w' => e = .returned (.bool (Yg (Z1 f))) ∧ w' = W) := H_ (fun W => Z38 _ hlf W)
 have CNx : Hid (∀ W, Calls prog 49 #[.string (bs (Z1 x))] W fun e w' => e = .returned (.bool (Yg (Z1 x))) ∧ w' = W) := H_ (fun W => Z38 _ hlx W)
 have CTA : Hid (∀ W, Below w.heap.size w W → Calls prog 129 #[.agg #[.string (bs (Z1 A)), .slice p2 n2 q2, .int .i64 A.bytes, .int .i64 A.size, .int .i64 A.depth]] W fun e w' => e = .returned (.bool (X5 A)) ∧ Below W.heap.size W w') := H_ (fun W hW => Z21 A p2 n2 q2 ok W hwA (by omega) (v2.below hW hok) (Kw hok hW))
 have CTB : Hid (∀ W, Below w.heap.size w W → Calls prog 129 #[.agg #[.string (bs (Z1 B)), .slice p3 n3 q3, .int .i64 B.bytes, .int .i64 B.size, .int .i64 B.depth]] W fun e w' => e = .returned (.bool (X5 B)) ∧ Below W.heap.size W w') := H_ (fun W hW => Z21 B p3 n3 q3 ok W hwB (by omega) (v3.below hW hok) (Kw hok hW))
 have heq : ((bs (Z1 f)).toList == (bs (Z1 x)).toList) = (Z1 f == Z1 x) := by rw [Z9, Z9]
 have HE := H_ (fun (W : World) (h : Below w.heap.size w W) j => h.cell (p := ⟨r, off + 20 + j, none⟩) hrlt)
 clear e00 e10 e20 e21 e22 e23 e24 e30 e31 e32 e33 e34 hlf hlx hsA hsB
 obtain ⟨s60, s61, s62, s63, s64⟩ := Yo y6
 obtain ⟨s70, s71, s72, s73, s74⟩ := Yo y7
 cases hf : Yg (Z1 f) with
 | false =>
   rw [hf] at CNf
   have HA := H_ (show Xc [f, x, A, B, b] = none by simp [Xc, hf])
   clear ih hf
   go_wp2_with (first | (go_at_call 49; (with_reducible refine (CNf.out _).mono ?_); rintro e w1 ⟨rfl, rfl⟩) | (go_at_call 49; (with_reducible refine (CNx.out _).mono ?_); rintro e w2 ⟨rfl, rfl⟩))
   go_ret2
   exact ⟨Zu.nil HA.out, HB.out⟩
 | true =>
 rw [hf] at CNf
 cases hx : Yg (Z1 x) with
 | false =>
   rw [hx] at CNx
   have HA := H_ (show Xc [f, x, A, B, b] = none by simp [Xc, hf, hx])
   clear ih hf hx
   go_wp2_with (first | (go_at_call 49; (with_reducible refine (CNf.out _).mono ?_); rintro e w1 ⟨rfl, rfl⟩) | (go_at_call 49; (with_reducible refine (CNx.out _).mono ?_); rintro e w2 ⟨rfl, rfl⟩))
   go_ret2
   exact ⟨Zu.nil HA.out, HB.out⟩
 | true =>
 rw [hx] at CNx
 cases hq : (Z1 f == Z1 x) with
 | true =>
   rw [hq] at heq
   have HA := H_ (show Xc [f, x, A, B, b] = none by simp [Xc, hf, hx, hq])
   clear ih hf hx hq
   go_wp2_with (first | (go_at_call 49; (with_reducible refine (CNf.out _).mono ?_); rintro e w1 ⟨rfl, rfl⟩) | (go_at_call 49; (with_reducible refine (CNx.out _).mono ?_); rintro e w2 ⟨rfl, rfl⟩))
   go_ret2
   exact ⟨Zu.nil HA.out, HB.out⟩
 | false =>
 rw [hq] at heq
 cases ha : X5 A with
 | false =>
   rw [ha] at CTA
   have HA := H_ (show Xc [f, x, A, B, b] = none by simp [Xc, hf, hx, hq, ha])
   clear ih hf hx hq ha
   go_wp2_with (first | (go_at_call 49; (with_reducible refine (CNf.out _).mono ?_); rintro e w1 ⟨rfl, rfl⟩) | (go_at_call 49; (with_reducible refine (CNx.out _).mono ?_); rintro e w2 ⟨rfl, rfl⟩) | (go_at_call 129; (with_reducible refine (CTA.out _ HB.out).mono ?_); rintro e w3 ⟨rfl, hb3⟩; have hw3 := HB.out.trans (hb3.mono HB.out.size); have Y6 := Z2 hb3 (lt_of_block y6) y6; have Y7 := Z2 hb3 (lt_of_block y7) y7; obtain ⟨m70, m71, m72, m73, m74⟩ := Yo Y7))
   go_ret2
   exact ⟨Zu.nil HA.out, hw3⟩
 | true =>
 rw [ha] at CTA
 cases hb : X5 B with
 | false =>
   rw [hb] at CTB
   have HA := H_ (show Xc [f, x, A, B, b] = none by simp [Xc, hf, hx, hq, ha, hb])
   clear ih hf hx hq ha hb
   go_wp2_with (first | (go_at_call 49; (with_reducible refine (CNf.out _).mono ?_); rintro e w1 ⟨rfl, rfl⟩) | (go_at_call 49; (with_reducible refine (CNx.out _).mono ?_); rintro e w2 ⟨rfl, rfl⟩) | (go_at_call 129; (with_reducible refine (CTA.out _ HB.out).mono ?_); rintro e w3 ⟨rfl, hb3⟩; have hw3 := HB.out.trans (hb3.mono HB.out.size); have Y6 := Z2 hb3 (lt_of_block y6) y6; have Y7 := Z2 hb3 (lt_of_block y7) y7; obtain ⟨m70, m71, m72, m73, m74⟩ := Yo Y7) | (go_at_call 129; refine (CTB.out _ hw3).mono ?_; rintro e w4 ⟨rfl, hb4⟩; have hw4 := hw3.trans (hb4.mono hw3.size); have Z6 := Z2 hb4 (lt_of_block Y6) Y6; have Z7 := Z2 hb4 (lt_of_block Y7) Y7; have k0 := (HE.out _ hw4 0).trans e40; have k1 := (HE.out _ hw4 1).trans e41; have k2 := (HE.out _ hw4 2).trans e42; have k3 := (HE.out _ hw4 3).trans e43; have k4 := (HE.out _ hw4 4).trans e44; simp only [Nat.add_zero] at k0))
   go_ret2
   exact ⟨Zu.nil HA.out, hw4⟩
 | true =>
 rw [hb] at CTB
 cases he : Zy b with
 | none =>
   have CE := Z3c ih hdb hwb hbb v4 hok he
   have HA := H_ (show Xc [f, x, A, B, b] = none by simp [Xc, hf, hx, hq, ha, hb, he])
   clear ih hf hx hq ha hb he
   go_wp2_with (first | (go_at_call 49; (with_reducible refine (CNf.out _).mono ?_); rintro e w1 ⟨rfl, rfl⟩) | (go_at_call 49; (with_reducible refine (CNx.out _).mono ?_); rintro e w2 ⟨rfl, rfl⟩) | (go_at_call 129; (with_reducible refine (CTA.out _ HB.out).mono ?_); rintro e w3 ⟨rfl, hb3⟩; have hw3 := HB.out.trans (hb3.mono HB.out.size); have Y6 := Z2 hb3 (lt_of_block y6) y6; have Y7 := Z2 hb3 (lt_of_block y7) y7; obtain ⟨m70, m71, m72, m73, m74⟩ := Yo Y7) | (go_at_call 129; refine (CTB.out _ hw3).mono ?_; rintro e w4 ⟨rfl, hb4⟩; have hw4 := hw3.trans (hb4.mono hw3.size); have Z6 := Z2 hb4 (lt_of_block Y6) Y6; have Z7 := Z2 hb4 (lt_of_block Y7) Y7; have k0 := (HE.out _ hw4 0).trans e40; have k1 := (HE.out _ hw4 1).trans e41; have k2 := (HE.out _ hw4 2).trans e42; have k3 := (HE.out _ hw4 3).trans e43; have k4 := (HE.out _ hw4 4).trans e44; simp only [Nat.add_zero] at k0) | (go_at_call 70; refine (CE.out _ hw4).mono ?_; (rintro e w5 ⟨(rfl | ⟨T5, u5, rfl⟩), hb5⟩) <;> (have X6 := Z2 hb5 (lt_of_block Z6) Z6; have X7 := Z2 hb5 (lt_of_block Z7) Z7; obtain ⟨g60, g61, g62, g63, g64⟩ := Yo X6; obtain ⟨g70, g71, g72, g73, g74⟩ := Yo X7)))
   all_goals
    go_ret2
    exact ⟨Zu.none HA.out _ _, hw4.trans (hb5.mono hw4.size)⟩
 | some eb =>
   have CE := Z3b ih hdb hwb hbb v4 hok he
   have HA := H_ (show Xc [f, x, A, B, b] = some (.func (Z1 f) (Z1 x) A B eb) by simp [Xc, hf, hx, hq, ha, hb, he])
   clear ih hf hx hq ha hb he
   go_wp2_with (first | (go_at_call 49; (with_reducible refine (CNf.out _).mono ?_); rintro e w1 ⟨rfl, rfl⟩) | (go_at_call 49; (with_reducible refine (CNx.out _).mono ?_); rintro e w2 ⟨rfl, rfl⟩) | (go_at_call 129; (with_reducible refine (CTA.out _ HB.out).mono ?_); rintro e w3 ⟨rfl, hb3⟩; have hw3 := HB.out.trans (hb3.mono HB.out.size); have Y6 := Z2 hb3 (lt_of_block y6) y6; have Y7 := Z2 hb3 (lt_of_block y7) y7; obtain ⟨m70, m71, m72, m73, m74⟩ := Yo Y7) | (go_at_call 129; refine (CTB.out _ hw3).mono ?_; rintro e w4 ⟨rfl, hb4⟩; have hw4 := hw3.trans (hb4.mono hw3.size); have Z6 := Z2 hb4 (lt_of_block Y6) Y6; have Z7 := Z2 hb4 (lt_of_block Y7) Y7; have k0 := (HE.out _ hw4 0).trans e40; have k1 := (HE.out _ hw4 1).trans e41; have k2 := (HE.out _ hw4 2).trans e42; have k3 := (HE.out _ hw4 3).trans e43; have k4 := (HE.out _ hw4 4).trans e44; simp only [Nat.add_zero] at k0) | (go_at_call 70; refine (CE.out _ hw4).mono ?_; rintro e w5 ⟨⟨v5, rfl, hev5⟩, hb5⟩; obtain ⟨T5, u5, rfl⟩ := hev5.iface; have X6 := Z2 hb5 (lt_of_block Z6) Z6; have X7 := Z2 hb5 (lt_of_block Z7) Z7; obtain ⟨g60, g61, g62, g63, g64⟩ := Yo X6; obtain ⟨g70, g71, g72, g73, g74⟩ := Yo X7))
   go_ret2
   have hw5 := hw4.trans (hb5.mono hw4.size)
   exact ⟨Zu.some HA.out ⟨_, _, _, _, _, _, _, rfl, v2.below hw5 hok, v3.below hw5 hok, hev5⟩, hw5⟩
theorem Jq (s : ByteArray) (hs : s.size ≤ 1048576) (w : World) :
 Calls prog 16 #[.string s] w fun e w' => e = .returned (.int .i64 (Xf s.data.toList)) ∧ Below w.heap.size w w' := by
 cases hp : Zt s.data.toList with
 | none =>
   have C := H_ (Z3j hs hp)
   have HD := H_ (show Xf s.data.toList = -1 from by simp [Xf, hp])
   clear hp
   go_enter func16, ntmps16
   go_wp2_with (go_at_call 40; go_must (refine (C.out _).mono ?_; rintro e w1 ⟨rfl, hb1⟩))
   go_ret
   exact ⟨Z30 HD.out.symm, hb1.alloc hb1.size _⟩
 | some t =>
   have C := H_ (Z3i hs hp)
   have HD := H_ (show Xf s.data.toList = (t.size : Int) from by simp [Xf, hp])
   clear hp
   go_enter func16, ntmps16
   go_wp2_with (go_at_call 40; go_must (refine (C.out _).mono ?_; rintro e w1 ⟨⟨p, n, c, rfl, hv⟩, hb1⟩))
   go_ret
   exact ⟨Z30 HD.out.symm, hb1.alloc hb1.size _⟩
end Go.Proofs.YtjaaalojcdbcpaaGreatDoor
