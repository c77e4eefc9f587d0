/- The helpers of the laws on arguments that are slices of strings: their size, their copy. The reference's look-up in an environment. The reference's draws: a small expression of a type. The reference model: the head of an expression; l2Parse by cases. The reference model: the names bound in a part; counting. The reference model counts free places. The reference model's free names. -/
import Derived.Test.YtfknoigbkleanaaGreatDoorxNumIM
import Derived.OwnWalk
import Derived.Deep.LoopGhost
import Derived.Test.YtfknoigbkleanaaGreatDoorxPureT
import Derived.Test.YtfknoigbkleanaaGreatDoorxSpec2aM
import Derived.Test.YtfknoigbkleanaaGreatDoorxS1z
import Derived.Test.YtfknoigbkleanaaGreatDoorxIp1M
import Derived.Test.YtfknoigbkleanaaGreatDoorxSpec2cM
import Derived.Test.YtfknoigbkleanaaGreatDoorxB3
import Derived.Test.YtfknoigbkleanaaGreatDoorxImpl2ma
import Derived.Deep.RegionHeldLaw
namespace Go.Proofs.YtfknoigbkleanaaGreatDoor
open Go.RowKit Go.Proofs.Tryz
set_option maxRecDepth 8000
set_option maxHeartbeats 20000000
set_option linter.unusedVariables false
set_option linter.unusedSimpArgs false
def lens : List (List UInt8) → Nat
 | [] => 0
 | x :: l => x.length + lens l
def leftS (l : List (List UInt8)) (left : Nat) : Int := if l.length + lens l ≤ left then ((left - (l.length + lens l) : Nat) : Int) else -1
def cpRow (l : List (List UInt8)) (k : Nat) : List Value := (l.take k).map Yc ++ List.replicate (l.length - k) (.string ⟨#[]⟩)
def CopyS (B : Nat) (l : List (List UInt8)) (e : Ending) (w' : World) : Prop := ∃ v, e = .returned v ∧ Zl w' v l ∧ (∀ k, v.ownBlock = some k → B ≤ k ∧ k < w'.heap.size)
theorem Zl.below {w w' : World} {v : Value} {l : List (List UInt8)} (h : Zl w v l) (hb : Below w.heap.size w w') : Zl w' v l := by
 obtain ⟨p, c, rfl, h1, h2⟩ := h
 refine ⟨p, c, rfl, h1, fun hne => ?_⟩
 obtain ⟨r, off, rfl, h3⟩ := h2 hne
 refine ⟨r, off, rfl, h3.move (hb.block r ?_)⟩
 have h0 : 0 < l.length := List.length_pos_iff.2 hne
 exact World.block_lt_of_cell? w ⟨r, off + 0, none⟩ (Zl.cell h3 h0)
theorem l3Look_c (v1 v2 : Value) (ns : List Nm) (ts : List (List UInt8)) (s : Nm) (w : World) (h1 : Zl w v1 ns) (h2 : Zl w v2 ts) (hl : ns.length = ts.length) (hsz : ns.length ≤ 1000000) :
 Calls prog 99 #[v1, v2, .string (bs s)] w fun e w' => e = .returned (.string (bs (Ve ns ts s ns.length))) ∧ w' = w := by
 obtain ⟨R, hR⟩ : ∃ R, R = bs (Ve ns ts s ns.length) := ⟨_, rfl⟩
 rw [← hR]
 have HR := H_ hR
 obtain ⟨p1, c1, rfl, l1, hrow1⟩ := h1
 obtain ⟨p2, c2, rfl, l2, hrow2⟩ := h2
 have HS1 := H_ hrow1
 have HS2 := H_ hrow2
 have HL := H_ hl
 clear hR hrow1 hrow2 hl
 go_enter func99, ntmps99
 go_wp2_with fail
 go_loop [7] (fun i => ∃ (k : Nat) (n : Int), k ≤ ns.length ∧ i = .int .i64 n ∧ n + 1 = k ∧ Hid (Ve ns ts s ns.length = Ve ns ts s k)) (fun i => ((intOf i) + 1).toNat)
 case atStart => exact ⟨ns.length, _, Nat.le_refl _, rfl, by omega, H_ rfl⟩
 case round =>
  obtain ⟨k, n, hk, rfl, hn, hA⟩ := hrel
  cases k with
  | zero =>
    obtain rfl : n = -1 := by omega
    have HF := H_ (show R = bs [] by rw [HR.out, hA.out]; rfl)
    clear hA
    go_wp2_with fail
    go_ret
    exact ⟨by rw [HF.out]; rfl, rfl⟩
  | succ k =>
    obtain rfl : n = (k : Int) := by omega
    have hlt : k < ns.length := by omega
    have hlt2 : k < ts.length := by rw [← HL.out]; exact hlt
    obtain ⟨r, off, rfl, h3⟩ := HS1.out (by intro e; rw [e] at hlt; simp at hlt)
    obtain ⟨r2, off2, rfl, h4⟩ := HS2.out (by intro e; rw [e] at hlt2; simp at hlt2)
    have x1 : w.cell? ⟨r, off + k, none⟩ = some (.string (bs ns[k])) := Zl.cell h3 hlt
    have x2 : w.cell? ⟨r2, off2 + k, none⟩ = some (.string (bs ts[k])) := Zl.cell h4 hlt2
    have hk0 : (0 : Int) ≤ (k : Int) := by omega
    have hltI : (k : Int) < (ns.length : Int) := by omega
    have hltI2 : (k : Int) < (ts.length : Int) := by omega
    have HG := H_ (show Ve ns ts s (k + 1) = if ns[k] = s then ts[k] else Ve ns ts s k by simp [Ve, hlt, hlt2])
    by_cases he : ns[k] = s
    · have hx2 : ((bs ns[k]).toList == (bs s).toList) = true := by rw [Z5, Z5]; simpa using he
      have hx3 : (bs ns[k]).toList = (bs s).toList := by rw [Z5, Z5]; exact he
      have HF := H_ (show R = bs ts[k] by rw [HR.out, hA.out, HG.out, if_pos he])
      generalize bs ns[k] = sa at *
      generalize bs ts[k] = sb at *
      clear hA HG he h3 h4
      go_wp2_with fail
      go_ret
      exact ⟨by rw [HF.out]; rfl, rfl⟩
    · have hx2 : ((bs ns[k]).toList == (bs s).toList) = false := by rw [Z5, Z5]; simpa using he
      have hx3 : ¬ (bs ns[k]).toList = (bs s).toList := by rw [Z5, Z5]; exact he
      have HF := H_ (show Ve ns ts s ns.length = Ve ns ts s k by rw [hA.out, HG.out, if_neg he])
      generalize bs ns[k] = sa at *
      generalize bs ts[k] = sb at *
      clear hA HG he h3 h4
      go_wp2_with fail
      exact ⟨⟨k, _, by omega, rfl, by omega, HF⟩, by first | (simp [intOf]; done) | (simp [intOf]; omega)⟩
def Z5b (r : Option (List UInt8)) (e : Ending) : Prop := e = .returned (.tuple #[.string (bs (r.getD [])), .bool r.isSome])
def OfC (s : ByteArray) : Prop := ∀ W : World, Calls prog 28 #[.string s] W fun e w' => (∃ (r : ByteArray) (z : Bool), e = .returned (.tuple #[.string r, .bool z]) ∧ r.size ≤ 12000) ∧ Below W.heap.size W w'
structure LfInv (w1 : World) (ns l : List Nm) (k : Nat) (v : Value) (wr : World) : Prop where
 own : wr.ownsRow w1.heap.size 9 1 v l.length (l.map Yc)
 below : Below w1.heap.size w1 wr
 len : l.length ≤ k
 mem : ∀ x ∈ l, x ∈ ns
theorem mem_snoc {ns l : List Nm} {x : Nm} (h : ∀ y ∈ l, y ∈ ns) (hx : x ∈ ns) : ∀ y ∈ l ++ [x], y ∈ ns := by
 intro y hy
 rcases List.mem_append.1 hy with h1 | h1
 · exact h y h1
 · simp only [List.mem_singleton] at h1
   subst h1
   exact hx
def numsL : List Nm := [[48], [49], [50], [51], [55], [45, 49], [52, 48, 48], [45, 57, 57, 57]]
theorem Z50 {q : Nat} {a : Option Addr} {L c p : Nat} {zs : List Int} {w : World} (v1 v2 : Value) (n : Nat) (s : ByteArray) (h : Rd w q a L c p zs) (hs : Sc w q v1 v2 n) (hn : n ≤ 1000) (hp : p ≤ 900000) (ho : OfC s) :
 Calls prog 133 #[.pointer (some ⟨q, 0, none⟩), .agg #[v1, v2], .string s] w fun e w' => J1 q a L c p zs 12000 3 w e w' := by
 obtain ⟨i0, hi0, hz0, hz1, hz2⟩ := info_parts Tryz.infoStrD
 obtain ⟨ns, ts, ⟨hs1, hb1⟩, ⟨hs2, hb2⟩, hl, hln, hmem⟩ := hs
 obtain ⟨p1, n1, c1, rfl⟩ := hs1.shape
 obtain ⟨p2, n2, c2, rfl⟩ := hs2.shape
 have hn1 : n1 = ns.length := by
  obtain ⟨_, _, e, -, -⟩ := hs1
  injection e
 subst hn1
 have hq0 : q < w.heap.size := lt_of_block h.blk
 have HL := H_ hl
 have HM := H_ hmem
 clear hb1 hb2 hl hmem
 go_enter func133, ntmps133
 go_wp2_with fail
 obtain ⟨w1, hw1⟩ : ∃ w1, w1 = w.alloc (.cells #[.slice p1 ns.length c1, .slice p2 n2 c2] 89) := ⟨_, rfl⟩
 have y1 : w1.heap[w.heap.size]? = some (.cells #[.slice p1 ns.length c1, .slice p2 n2 c2] 89 (0, 0)) := by rw [hw1]; exact heap_alloc_new _ _
 have hB1 : Below w.heap.size w w1 := by rw [hw1]; exact Z4 _ _
 have HW : Hid (w.heap.size < w1.heap.size) := H_ (by rw [hw1]; simp)
 have HS1 := H_ (Yw hs1 hB1)
 have HS2 := H_ (Yw hs2 hB1)
 have HR1 := H_ (h.below hB1)
 have HB1 := H_ hB1
 have HE : Hid ((w1.alloc (.cells #[] 9)).ownsRow w1.heap.size 9 1 (.slice (some ⟨w1.heap.size, 0, none⟩) 0 0) ([] : List Nm).length (([] : List Nm).map Yc)) := H_ (Jn (heap_alloc_new w1 _) (Nat.le_refl _))
 try rw [← hw1]
 have hsz1 : (w.alloc (.cells #[.slice p1 ns.length c1, .slice p2 n2 c2] 89)).heap.size = w1.heap.size := by rw [hw1]
 clear hs1 hs2 h hB1
 go_loopw [7, 8] (fun v i wr => ∃ (k : Nat) (l : List Nm), k ≤ ns.length ∧ i = .int .i64 k ∧ Hid (LfInv w1 ns l k v wr)) (fun _ i _ => ns.length - (intOf i).toNat)
 case atStart => exact ⟨0, [], Nat.zero_le _, rfl, H_ ⟨by subst hw1; simpa using HE.out, by subst hw1; exact Z4 _ _, Nat.le_refl _, fun x hx => by simp at hx⟩⟩
 case round =>
  obtain ⟨k, l, hk, rfl, hI⟩ := hrel
  clear HE hw1 hsz1
  have hB := hI.out.below
  have y2 := Z1 hB (lt_of_block y1) y1
  obtain ⟨z0, z1⟩ := Zq y2
  have HO := H_ hI.out.own
  obtain ⟨p3, c3, rfl⟩ := Zw HO.out
  have hlk := hI.out.len
  have hkI : (0 : Int) ≤ (k : Int) := by omega
  by_cases hlt : k < ns.length
  · have hSr := Yw HS1.out hB
    have hSr2 := Yw HS2.out hB
    have CL : Hid (∀ W, Below wr.heap.size wr W → Calls prog 99 #[.slice p1 ns.length c1, .slice p2 n2 c2, .string (bs ns[k])] W fun e w' => e = .returned (.string (bs (Ve ns ts ns[k] ns.length))) ∧ w' = W) := H_ (fun W hW => l3Look_c _ _ ns ts ns[k] W (Yw hSr hW) (Yw hSr2 hW) HL.out (by omega))
    obtain ⟨p9, c9, he9, h91, h92⟩ := hSr
    simp only [Value.slice.injEq] at he9
    obtain ⟨rfl, -, rfl⟩ := he9
    obtain ⟨r, off, rfl, h93⟩ := h92 (fun e => by rw [e] at hlt; simp at hlt)
    have c0 : wr.cell? ⟨r, off + k, none⟩ = some (.string (bs ns[k])) := Zl.cell h93 hlt
    have HA : Hid (ns[k] ∈ ns) := H_ (List.getElem_mem hlt)
    have hltI : (k : Int) < (ns.length : Int) := by omega
    have hsz := hB.size
    generalize ns[k] = x at *
    generalize bs (Ve ns ts x ns.length) = R at *
    clear h91 h92 h93 hSr2
    by_cases he : R.toList = s.toList
    · have he2 : (R.toList == s.toList) = true := by simpa using he
      go_wp2_with fail
      go_region_with (first | (go_at_call 99; ((with_reducible refine (CL.out _ ?_).mono ?_); (· first | exact (Below.refl _ _).drew | exact Below.refl _ _ | assumption); rintro e w3 ⟨rfl, rfl⟩)) | fail)
      all_goals go_wp2_with (first | (at_builtin; go_must (refine Zk _ rfl _ _ 23 rfl w1.heap.size 9 i0 underlying23 hi0 hz0 hz1 hz2 _ l rfl (HO.out.alloc _) _ [x] rfl (Z1n (l := [x]) (heap_alloc_new _ _) (by simp)) (by simp; omega) (by simp; omega) ?_; intro v3 w4 ho4 hg4 hv4)))
      all_goals exact ⟨⟨k + 1, l ++ [x], by omega, by go_num, H_ ⟨ho4, Xh hB (by first | exact ((Below.refl _ _).alloc (Nat.le_refl _) _).drew | exact ((Below.refl _ _).drew).alloc (Nat.le_refl _) _ | exact (Below.refl _ _).alloc (Nat.le_refl _) _) hg4 (fun k hk => (Kc HO.out hk).1), by simp; omega, mem_snoc hI.out.mem HA.out⟩⟩, by simp [intOf]; omega⟩
    · have he2 : (R.toList == s.toList) = false := by simpa using he
      go_wp2_with fail
      go_region_with (first | (go_at_call 99; ((with_reducible refine (CL.out _ ?_).mono ?_); (· first | exact (Below.refl _ _).drew | exact Below.refl _ _ | assumption); rintro e w3 ⟨rfl, rfl⟩)) | fail)
      all_goals go_wp2_with fail
      all_goals exact ⟨⟨k + 1, l, by omega, by go_num, H_ ⟨HO.out, by first | exact hB.drew | exact hB, by omega, hI.out.mem⟩⟩, by simp [intOf]; omega⟩
  · have : k = ns.length := by omega
    subst this
    have HRr := H_ ((HR1.out).below hB)
    have HOr : Hid (Only q w wr) := H_ ((Only.of HB1.out).trans (Only.of hB))
    have HLn : Hid (∀ x ∈ l, x.length ≤ 10) := H_ (fun x hx => HM.out x (hI.out.mem x hx))
    have hk1 : ¬ ((ns.length : Int) < (ns.length : Int)) := by omega
    by_cases hz : l = []
    · subst hz
      have hl0 : ([] : List Nm).length = 0 := rfl
      rw [hl0] at *
      clear hI HO
      have hRd := HRr.out
      have HOx := H_ (HOr.out)
      by_cases hw : s.toList = [105]
      · have hw2 : (s.toList == [105]) = true := by simpa using hw
        have C1 := H_ (V5 (l := numsL) (N := 4) hRd (by omega) (by decide) (by decide) (by decide))
        go_wp2_with fail
        refine (C1.out).mono ?_
        rintro e w5 ⟨s5, p5, rfl, b1, b2, hR5, ho5⟩
        go_wp2_with fail
        go_ret
        exact ⟨_, p5, rfl, by omega, by omega, hR5, HOx.out.trans ho5⟩
      · have hw2 : (s.toList == [105]) = false := by simpa using hw
        have C1 := H_ (ho wr)
        go_wp2_with fail
        refine (C1.out).mono ?_
        rintro e w5 ⟨⟨r5, z5, rfl, hr5⟩, hb5⟩
        have HR5 := H_ (hRd.below hb5)
        have HO5 := H_ (HOx.out.next hb5)
        cases z5
        · go_wp2_with fail
          go_ret
          exact ⟨_, _, rfl, by rw [bsz]; simp, by omega, HR5.out, HO5.out⟩
        · go_wp2_with fail
          go_ret
          exact ⟨_, _, rfl, by omega, by omega, HR5.out, HO5.out⟩
    · have hpos : 0 < l.length := List.length_pos_iff.2 hz
      have hposI : (0 : Int) < (l.length : Int) := by omega
      have CP := H_ (Jm (n := 4) HRr.out (by omega) (by omega))
      go_wp2_with fail
      refine (CP.out).mono ?_
      rintro e w2 ⟨⟨r, rfl, hr0, hr1⟩, hR2, ho2⟩
      by_cases h0 : r = 0
      · subst h0
        have hRd := hR2
        have HOx := H_ (HOr.out.trans ho2)
        by_cases hw : s.toList = [105]
        · have hw2 : (s.toList == [105]) = true := by simpa using hw
          have C1 := H_ (V5 (l := numsL) (N := 4) hRd (by omega) (by decide) (by decide) (by decide))
          go_wp2_with fail
          refine (C1.out).mono ?_
          rintro e w5 ⟨s5, p5, rfl, b1, b2, hR5, ho5⟩
          go_wp2_with fail
          go_ret
          exact ⟨_, p5, rfl, by omega, by omega, hR5, HOx.out.trans ho5⟩
        · have hw2 : (s.toList == [105]) = false := by simpa using hw
          have C1 := H_ (ho w2)
          go_wp2_with fail
          refine (C1.out).mono ?_
          rintro e w5 ⟨⟨r5, z5, rfl, hr5⟩, hb5⟩
          have HR5 := H_ (hRd.below hb5)
          have HO5 := H_ (HOx.out.next hb5)
          cases z5
          · go_wp2_with fail
            go_ret
            exact ⟨_, _, rfl, by rw [bsz]; simp, by omega, HR5.out, HO5.out⟩
          · go_wp2_with fail
            go_ret
            exact ⟨_, _, rfl, by omega, by omega, HR5.out, HO5.out⟩
      · have hrp : 0 < r := by omega
        have CP2 := H_ (Jm (n := (l.length : Int)) hR2 (by omega) (by omega))
        have hrow := Qs HO.out (by omega)
        obtain ⟨p9, c9, he9, h91, h92⟩ := hrow
        simp only [Value.slice.injEq] at he9
        obtain ⟨rfl, -, rfl⟩ := he9
        obtain ⟨rr, off, rfl, h93⟩ := h92 hz
        have hrr := Kc HO.out (k := rr) rfl
        have HX : Hid (∀ j (hj : j < l.length), wr.cell? ⟨rr, off + j, none⟩ = some (.string (bs l[j]))) := H_ (fun j hj => Zl.cell h93 hj)
        have hqr : rr ≠ q := by have := HW.out; omega
        clear h91 h92 h93
        go_wp2_with fail
        refine (CP2.out).mono ?_
        rintro e w3 ⟨⟨k3, rfl, hk30, hk31⟩, hR3, ho3⟩
        obtain ⟨j, rfl⟩ : ∃ j : Nat, k3 = (j : Int) := ⟨k3.toNat, by omega⟩
        have hj : j < l.length := by omega
        have x0 : w3.cell? ⟨rr, off + j, none⟩ = some (.string (bs l[j])) := by rw [(ho2.trans ho3).cell (p := ⟨rr, off + j, none⟩) hrr.2 hqr]; exact HX.out j hj
        have hjI : (j : Int) < (l.length : Int) := by omega
        have hs : (bs l[j]).size ≤ 10 := by rw [Y3]; exact HLn.out _ (List.getElem_mem hj)
        have HR3 := H_ hR3
        have HO3 := H_ ((HOr.out.trans ho2).trans ho3)
        generalize bs l[j] = S at *
        clear HX HLn hI HO
        go_wp2_with fail
        go_ret
        exact ⟨S, _, rfl, by omega, by omega, HR3.out, HO3.out⟩
theorem l2Parse_none {s : ByteArray} (hs : s.size ≤ 1048576) (hp : Qp s.data.toList = none) (W : World) : Calls prog 49 #[.string s] W fun e w' => (∃ a p n c, e = .returned (.tuple #[.agg #[.string a, .slice p n c], .bool false]) ∧ n ≤ maxLen) ∧ Below W.heap.size W w' :=
 (Z51 s hs W).mono fun e w' ⟨h1, h2⟩ => ⟨by rw [hp] at h1; exact h1, h2⟩
theorem l2Parse_some {s : ByteArray} (hs : s.size ≤ 1048576) {t : Tr} (hp : Qp s.data.toList = some t) (W : World) : Calls prog 49 #[.string s] W fun e w' => (∃ p n c, e = .returned (.tuple #[.agg #[.string (bs (Z0 t)), .slice p n c], .bool true]) ∧ FV nS w' (fun k => W.heap.size ≤ k ∧ k < w'.heap.size) t (nS t (.slice p n c))) ∧ Below W.heap.size W w' :=
 (Z51 s hs W).mono fun e w' ⟨h1, h2⟩ => ⟨by rw [hp] at h1; exact h1, h2⟩
def headE (l : List UInt8) : List UInt8 := match Qp l with | none => [] | some t => headT t
theorem strS_made {w : World} {b : Nat} {l : List (List UInt8)} {t : TypeId} (h : w.heap[b]? = some (.cells (l.map Yc).toArray t (0, 0))) (c : Nat) (hl : l.length ≤ 1000000) : Zl w (.slice (some ⟨b, 0, none⟩) l.length c) l :=
 ⟨_, c, rfl, by omega, fun _ => ⟨b, 0, rfl, fun j v hj => by rw [Nat.zero_add, Z2 h]; simpa using hj⟩⟩
theorem Z79 {h : Tr} {ps : List Tr} {x : Ex} {a : Nat} (V : KidView h ps x a) {j : Nat} (hj : j < (Zd x).length) : a + j < (h :: ps).length := by
 have := V.len
 simp only [List.length_cons]; omega
def cntE (l n : List UInt8) : Int := match Yf l with | none => -1 | some x => if Yi n = true then ((Zj x).count n : Nat) else -1
theorem readEx_asEx' {l : List UInt8} {t : Tr} (h : Qp l = some t) : ∃ x, Yf l = some x ∧ Ye t = some x := by
 obtain ⟨h1, h2, h3⟩ := Z6x h
 rw [J9 h1, if_pos h3]
 unfold Jz at h2
 cases hx : Ye t with
 | none => rw [hx] at h2; cases h2
 | some x => exact ⟨x, rfl, rfl⟩
theorem readEx_none2 {l : List UInt8} (h : Qp l = none) : Yf l = none := by
 have := readEx_parseE l
 rw [h] at this
 cases hx : Yf l with
 | none => rfl
 | some x => rw [hx] at this; cases this
def FrS (n : Nat) : Prop := ∀ (t : Tr) (x : Ex) (cs : List Value) (B : Nat) (l bnd : List Nm) (v vb : Value) (w : World), t.depth < n → t.wf → t.bytes ≤ 12000 → l.length + t.size ≤ 100000 → bnd.length + 2 * t.depth ≤ 100000 → Ye t = some x → FV nS w (fun k => k < B) t cs → B ≤ w.heap.size →
    w.ownsRow B 9 1 v l.length (l.map Yc) → Zl w vb bnd → (∀ k, vb.ownBlock = some k → v.ownBlock ≠ some k ∧ k < w.heap.size) →
    Calls prog 156 #[.agg cs.toArray, vb, v] w fun e w' => Z7p B w.heap.size v (addF bnd l (Zj x)) w e w'
theorem Qx {w w' : World} {v : Value} {l : List Nm} (h : Zl w v l) (hb : Below w.heap.size w w') : Zl w' v l := by
 obtain ⟨p, c, rfl, h1, h2⟩ := h
 refine ⟨p, c, rfl, h1, fun hne => ?_⟩
 obtain ⟨r, off, rfl, h3⟩ := h2 hne
 refine ⟨r, off, rfl, h3.move (hb.block r ?_)⟩
 cases l with
 | nil => exact absurd rfl hne
 | cons x l =>
   have hc := h3 0 (Yc x) (by simp)
   by_cases hr : r < w.heap.size
   · exact hr
   · simp [World.cell?, Array.getElem?_eq_none (Nat.le_of_not_lt hr)] at hc
def accF (x : Ex) (bnd l : List Nm) (j : Nat) : List Nm := addF bnd l (Y2 (Yd x) 0 ((Zd x).take j))
theorem owns_empty {W : World} {b base : Nat} (h : W.heap[b]? = some (.cells #[] 9 (0, 0))) (hb : base ≤ b) : W.ownsRow base 9 1 (.slice (some ⟨b, 0, none⟩) 0 0) ([] : List Nm).length (([] : List Nm).map Yc) := ⟨rfl, .inr ⟨b, 0, _, rfl, hb, h, Nat.le_refl _, Nat.zero_le _, rfl, rfl⟩⟩
end Go.Proofs.YtfknoigbkleanaaGreatDoor
