/- The reference model's names and heads. The helpers of the laws on arguments that are slices of strings: their size, their copy. The reference's look-up in an environment. strings.Builder at this cut: what a used builder's writers do. -/
import Derived.Test.YtfknoigbkleanaaGreatDoorqNumIM
import Derived.Test.YtfknoigbkleanaaGreatDoorqB3
import Derived.OwnWalk
import Derived.Deep.LoopGhost
import Derived.Test.YtfknoigbkleanaaGreatDoorqPureT
import Derived.Test.YtfknoigbkleanaaGreatDoorqS1z
import Derived.Test.YtfknoigbkleanaaGreatDoorqShelf
import Derived.Test.YtfknoigbkleanaaGreatDoorqB1
import Derived.Lib.FrozenHead2
import Derived.Lib.OthersKept
namespace Go.Proofs.YtfknoigbkleanaaGreatDoor
open Go.RowKit Go.Proofs.Tryz
set_option maxRecDepth 8000
set_option maxHeartbeats 20000000
set_option linter.unusedVariables false
set_option linter.unusedSimpArgs false
theorem isNm_len {l : List UInt8} (h : ¬ (1 ≤ l.length ∧ l.length ≤ 4)) : Yr l = false := by
 cases l with
 | nil => rfl
 | cons b r =>
   simp only [Yr, List.length_cons] at h ⊢
   have : decide (r.length ≤ 3) = false := by simp; omega
   simp [this]
theorem Z93 {l : List UInt8} {b : UInt8} (hb : l[0]? = some b) (h : ¬ (97 ≤ b.toNat ∧ b.toNat ≤ 122)) : Yr l = false := by
 cases l with
 | nil => rfl
 | cons c r =>
   simp only [List.getElem?_cons_zero, Option.some.injEq] at hb
   subst hb
   have : (decide (97 ≤ c.toNat) && decide (c.toNat ≤ 122)) = false := by
    rw [Bool.and_eq_false_iff]
    by_cases h1 : 97 ≤ c.toNat
    · right; simp; omega
    · left; simp; omega
   simp [Yr, this]
theorem isNm_rest {l : List UInt8} {b : UInt8} (hb : l[0]? = some b) (hl : l.length ≤ 4) (h : 97 ≤ b.toNat ∧ b.toNat ≤ 122) : Yr l = (Lib.decFrom 0 (l.drop 1)).isSome := by
 cases l with
 | nil => simp at hb
 | cons c r =>
   simp only [List.getElem?_cons_zero, Option.some.injEq] at hb
   subst hb
   simp only [List.length_cons] at hl
   simp [Yr, h.1, h.2, show r.length ≤ 3 by omega]
theorem first_of (s : ByteArray) (h : 0 < s.size) : s.data.toList[0]? = some s[0] := by rw [List.getElem?_eq_getElem (by simpa using h)]; rfl
theorem l2Name_c (s : ByteArray) (hs : s.size ≤ 1048576) (w : World) : Calls prog 76 #[.string s] w fun e w' => e = .returned (.bool (Yr s.data.toList)) ∧ w' = w := by
 obtain ⟨R, hR⟩ : ∃ R, R = Yr s.data.toList := ⟨_, rfl⟩
 rw [← hR]
 have HR := H_ hR
 clear hR
 by_cases hin : 1 ≤ s.size ∧ s.size ≤ 4
 · have hin2 : decide ((1 : Int) ≤ (s.size : Int) ∧ (s.size : Int) ≤ 4) = true := by simp; omega
   have h0 : 0 < s.size := by omega
   have h4 : s.size ≤ 4 := hin.2
   have h0' : (0 : Int) < (s.size : Int) := by omega
   have hf := first_of s h0
   obtain ⟨b, hb⟩ : ∃ b, b = s[0] := ⟨_, rfl⟩
   rw [← hb] at hf
   have hb8 : s[0] = b := hb.symm
   by_cases hlet : 97 ≤ b.toNat ∧ b.toNat ≤ 122
   · have HN := H_ (isNm_rest hf (by simpa using h4) hlet)
     have hd1 : ¬ ((b.toNat : Int) < 97) := by omega
     have hd2 : ¬ ((122 : Int) < b.toNat) := by omega
     clear hin hf hb hlet
     go_enter func76, ntmps76
     go_wp2_with (go_at_call 126; go_must (refine (Z2s _ _ _ _).mono ?_; rintro e w1 ⟨rfl, rfl⟩; rw [hin2]))
     go_loop [3] (fun i => ∃ k : Nat, 1 ≤ k ∧ k ≤ s.size ∧ i = .int .i64 k ∧ Hid (∃ m, Lib.decFrom 0 ((s.data.toList.drop 1).take (k - 1)) = some m)) (fun i => s.size - (intOf i).toNat)
     case atStart => exact ⟨1, Nat.le_refl _, by omega, rfl, H_ ⟨0, rfl⟩⟩
     case round =>
      obtain ⟨k, hk1, hk, rfl, hm⟩ := hrel
      by_cases hlt : k < s.size
      · have hbk : (s.data.toList.drop 1)[k - 1]? = some s[k] := by rw [List.getElem?_drop, show 1 + (k - 1) = k by omega, List.getElem?_eq_getElem (by simpa using hlt)]; rfl
        have hk0 : (0 : Int) ≤ (k : Int) := by omega
        obtain ⟨c, hc⟩ : ∃ c, c = s[k] := ⟨_, rfl⟩
        by_cases hdg : 48 ≤ c.toNat ∧ c.toNat ≤ 57
        · have hdv : Lib.digitVal s[k] = some (c.toNat - 48) := by rw [← hc]; simp [Lib.digitVal, hdg]
          have HS : Hid (∃ m, Lib.decFrom 0 ((s.data.toList.drop 1).take (k + 1 - 1)) = some m) := H_ (by obtain ⟨m, h⟩ := hm.out; rw [show k + 1 - 1 = k - 1 + 1 by omega]; exact ⟨_, Lib.decFrom_take _ (k - 1) 0 m _ _ h hbk hdv⟩)
          have hd3 : ¬ ((c.toNat : Int) < 48) := by omega
          have hd4 : ¬ ((57 : Int) < c.toNat) := by omega
          have hc8 : s[k] = c := hc.symm
          clear hc hbk hdv
          go_wp2_with fail
          exact ⟨⟨k + 1, by omega, by omega, by go_num, HS⟩, by simp [intOf]; omega⟩
        · have hdv : Lib.digitVal s[k] = none := by rw [← hc]; simp only [Lib.digitVal]; rw [if_neg hdg]
          have HNN := H_ (Ji (s.data.toList.drop 1) 0 (k - 1) _ hbk hdv)
          have hc8 : s[k] = c := hc.symm
          clear hc hbk hdv
          by_cases hd3 : ((c.toNat : Int) < 48)
          · go_wp2_with fail
            go_ret
            exact ⟨Zh (by rw [HR.out, HN.out, HNN.out]; rfl), rfl⟩
          · have hd4 : (57 : Int) < c.toNat := by omega
            go_wp2_with fail
            go_ret
            exact ⟨Zh (by rw [HR.out, HN.out, HNN.out]; rfl), rfl⟩
      · have : k = s.size := by omega
        subst this
        have hm' := hm.out
        rw [List.take_of_length_le (by simp)] at hm'
        have HM := H_ hm'
        clear hm'
        go_wp2_with fail
        go_ret
        exact ⟨Zh (by obtain ⟨m, h⟩ := HM.out; rw [HR.out, HN.out, h]; rfl), rfl⟩
   · have HN := H_ (Z93 hf hlet)
     clear hin hf hb
     by_cases hd1 : ((b.toNat : Int) < 97)
     · go_enter func76, ntmps76
       go_wp2_with (go_at_call 126; go_must (refine (Z2s _ _ _ _).mono ?_; rintro e w1 ⟨rfl, rfl⟩; rw [hin2]))
       go_ret
       exact ⟨Zh (by rw [HR.out, HN.out]), rfl⟩
     · have hd2 : (122 : Int) < b.toNat := by omega
       go_enter func76, ntmps76
       go_wp2_with (go_at_call 126; go_must (refine (Z2s _ _ _ _).mono ?_; rintro e w1 ⟨rfl, rfl⟩; rw [hin2]))
       go_ret
       exact ⟨Zh (by rw [HR.out, HN.out]), rfl⟩
 · have hin2 : decide ((1 : Int) ≤ (s.size : Int) ∧ (s.size : Int) ≤ 4) = false := by simp; omega
   have HN := H_ (isNm_len (l := s.data.toList) (by simpa using hin))
   clear hin
   go_enter func76, ntmps76
   go_wp2_with (go_at_call 126; go_must (refine (Z2s _ _ _ _).mono ?_; rintro e w1 ⟨rfl, rfl⟩; rw [hin2]))
   go_ret
   exact ⟨Zh (by rw [HR.out, HN.out]), rfl⟩
theorem Z0x (l : List UInt8) (hl : l.length ≤ 1048576) (w : World) : Calls prog 76 #[.string (bs l)] w fun e w' => e = .returned (.bool (Yr l)) ∧ w' = w := by
 have := l2Name_c (bs l) (by rw [Yf]; exact hl) w
 rw [Xy] at this
 exact this
theorem l2Kids_c (l : List UInt8) (w : World) : Calls prog 109 #[.string (bs l)] w fun e w' => e = .returned (.tuple #[.int .i64 ((Yq l).1 : Int), .int .i64 ((Yq l).2 : Int)]) ∧ w' = w := by
 by_cases h0 : l = [43]
 · subst h0
   have HN := H_ (show Yq [43] = (1, 3) by decide)
   rw [show bs [43] = ⟨#[43]⟩ from rfl]
   go_enter func109, ntmps109
   go_wp2_with fail
   go_ret2
   exact ⟨by rw [HN.out]; rfl, rfl⟩
 have e0 : ((bs l).toList == [43]) = false := by rw [Z5]; simpa using h0
 by_cases h1 : l = [45]
 · subst h1
   have HN := H_ (show Yq [45] = (1, 3) by decide)
   clear e0 h0
   rw [show bs [45] = ⟨#[45]⟩ from rfl]
   go_enter func109, ntmps109
   go_wp2_with fail
   go_ret2
   exact ⟨by rw [HN.out]; rfl, rfl⟩
 have e1 : ((bs l).toList == [45]) = false := by rw [Z5]; simpa using h1
 by_cases h2 : l = [42]
 · subst h2
   have HN := H_ (show Yq [42] = (1, 3) by decide)
   clear e0 h0 e1 h1
   rw [show bs [42] = ⟨#[42]⟩ from rfl]
   go_enter func109, ntmps109
   go_wp2_with fail
   go_ret2
   exact ⟨by rw [HN.out]; rfl, rfl⟩
 have e2 : ((bs l).toList == [42]) = false := by rw [Z5]; simpa using h2
 by_cases h3 : l = [99, 97, 108, 108]
 · subst h3
   have HN := H_ (show Yq [99, 97, 108, 108] = (1, 3) by decide)
   clear e0 h0 e1 h1 e2 h2
   rw [show bs [99, 97, 108, 108] = ⟨#[99, 97, 108, 108]⟩ from rfl]
   go_enter func109, ntmps109
   go_wp2_with fail
   go_ret2
   exact ⟨by rw [HN.out]; rfl, rfl⟩
 have e3 : ((bs l).toList == [99, 97, 108, 108]) = false := by rw [Z5]; simpa using h3
 by_cases h4 : l = [112, 97, 105, 114]
 · subst h4
   have HN := H_ (show Yq [112, 97, 105, 114] = (1, 3) by decide)
   clear e0 h0 e1 h1 e2 h2 e3 h3
   rw [show bs [112, 97, 105, 114] = ⟨#[112, 97, 105, 114]⟩ from rfl]
   go_enter func109, ntmps109
   go_wp2_with fail
   go_ret2
   exact ⟨by rw [HN.out]; rfl, rfl⟩
 have e4 : ((bs l).toList == [112, 97, 105, 114]) = false := by rw [Z5]; simpa using h4
 by_cases h5 : l = [105, 102]
 · subst h5
   have HN := H_ (show Yq [105, 102] = (1, 4) by decide)
   clear e0 h0 e1 h1 e2 h2 e3 h3 e4 h4
   rw [show bs [105, 102] = ⟨#[105, 102]⟩ from rfl]
   go_enter func109, ntmps109
   go_wp2_with fail
   go_ret2
   exact ⟨by rw [HN.out]; rfl, rfl⟩
 have e5 : ((bs l).toList == [105, 102]) = false := by rw [Z5]; simpa using h5
 by_cases h6 : l = [108, 101, 116]
 · subst h6
   have HN := H_ (show Yq [108, 101, 116] = (2, 4) by decide)
   clear e0 h0 e1 h1 e2 h2 e3 h3 e4 h4 e5 h5
   rw [show bs [108, 101, 116] = ⟨#[108, 101, 116]⟩ from rfl]
   go_enter func109, ntmps109
   go_wp2_with fail
   go_ret2
   exact ⟨by rw [HN.out]; rfl, rfl⟩
 have e6 : ((bs l).toList == [108, 101, 116]) = false := by rw [Z5]; simpa using h6
 by_cases h7 : l = [102, 117, 110]
 · subst h7
   have HN := H_ (show Yq [102, 117, 110] = (5, 6) by decide)
   clear e0 h0 e1 h1 e2 h2 e3 h3 e4 h4 e5 h5 e6 h6
   rw [show bs [102, 117, 110] = ⟨#[102, 117, 110]⟩ from rfl]
   go_enter func109, ntmps109
   go_wp2_with fail
   go_ret2
   exact ⟨by rw [HN.out]; rfl, rfl⟩
 have e7 : ((bs l).toList == [102, 117, 110]) = false := by rw [Z5]; simpa using h7
 by_cases h8 : l = [102, 115, 116]
 · subst h8
   have HN := H_ (show Yq [102, 115, 116] = (1, 2) by decide)
   clear e0 h0 e1 h1 e2 h2 e3 h3 e4 h4 e5 h5 e6 h6 e7 h7
   rw [show bs [102, 115, 116] = ⟨#[102, 115, 116]⟩ from rfl]
   go_enter func109, ntmps109
   go_wp2_with fail
   go_ret2
   exact ⟨by rw [HN.out]; rfl, rfl⟩
 have e8 : ((bs l).toList == [102, 115, 116]) = false := by rw [Z5]; simpa using h8
 by_cases h9 : l = [115, 110, 100]
 · subst h9
   have HN := H_ (show Yq [115, 110, 100] = (1, 2) by decide)
   clear e0 h0 e1 h1 e2 h2 e3 h3 e4 h4 e5 h5 e6 h6 e7 h7 e8 h8
   rw [show bs [115, 110, 100] = ⟨#[115, 110, 100]⟩ from rfl]
   go_enter func109, ntmps109
   go_wp2_with fail
   go_ret2
   exact ⟨by rw [HN.out]; rfl, rfl⟩
 have e9 : ((bs l).toList == [115, 110, 100]) = false := by rw [Z5]; simpa using h9
 have HN : Hid (Yq l = (0, 0)) := H_ (by simp [Yq, kIf, Q3, Q1, h0, h1, h2, h3, h4, h5, h6, h7, h8, h9])
 clear h0 h1 h2 h3 h4 h5 h6 h7 h8 h9
 go_enter func109, ntmps109
 go_wp2_with fail
 go_ret2
 exact ⟨by rw [HN.out]; rfl, rfl⟩
def lens : List (List UInt8) → Nat
 | [] => 0
 | x :: l => x.length + lens l
def leftS (l : List (List UInt8)) (left : Nat) : Int := if l.length + lens l ≤ left then ((left - (l.length + lens l) : Nat) : Int) else -1
def cpRow (l : List (List UInt8)) (k : Nat) : List Value := (l.take k).map Yj ++ List.replicate (l.length - k) (.string ⟨#[]⟩)
def CopyS (B : Nat) (l : List (List UInt8)) (e : Ending) (w' : World) : Prop := ∃ v, e = .returned v ∧ Zn w' v l ∧ (∀ k, v.ownBlock = some k → B ≤ k ∧ k < w'.heap.size)
theorem Zn.below {w w' : World} {v : Value} {l : List (List UInt8)} (h : Zn w v l) (hb : Below w.heap.size w w') : Zn w' v l := by
 obtain ⟨p, c, rfl, h1, h2⟩ := h
 refine ⟨p, c, rfl, h1, fun hne => ?_⟩
 obtain ⟨r, off, rfl, h3⟩ := h2 hne
 refine ⟨r, off, rfl, h3.move (hb.block r ?_)⟩
 have h0 : 0 < l.length := List.length_pos_iff.2 hne
 exact World.block_lt_of_cell? w ⟨r, off + 0, none⟩ (Zn.cell h3 h0)
theorem l3Look_c (v1 v2 : Value) (ns : List Nm) (ts : List (List UInt8)) (s : Nm) (w : World) (h1 : Zn w v1 ns) (h2 : Zn w v2 ts) (hl : ns.length = ts.length) (hsz : ns.length ≤ 1000000) :
 Calls prog 99 #[v1, v2, .string (bs s)] w fun e w' => e = .returned (.string (bs (Z0d ns ts s ns.length))) ∧ w' = w := by
 obtain ⟨R, hR⟩ : ∃ R, R = bs (Z0d ns ts s ns.length) := ⟨_, rfl⟩
 rw [← hR]
 have HR := H_ hR
 obtain ⟨p1, c1, rfl, l1, hrow1⟩ := h1
 obtain ⟨p2, c2, rfl, l2, hrow2⟩ := h2
 have HS1 := H_ hrow1
 have HS2 := H_ hrow2
 have HL := H_ hl
 clear hR hrow1 hrow2 hl
 go_enter func99, ntmps99
 go_wp2_with fail
 go_loop [7] (fun i => ∃ (k : Nat) (n : Int), k ≤ ns.length ∧ i = .int .i64 n ∧ n + 1 = k ∧ Hid (Z0d ns ts s ns.length = Z0d ns ts s k)) (fun i => ((intOf i) + 1).toNat)
 case atStart => exact ⟨ns.length, _, Nat.le_refl _, rfl, by omega, H_ rfl⟩
 case round =>
  obtain ⟨k, n, hk, rfl, hn, hA⟩ := hrel
  cases k with
  | zero =>
    obtain rfl : n = -1 := by omega
    have HF := H_ (show R = bs [] by rw [HR.out, hA.out]; rfl)
    clear hA
    go_wp2_with fail
    go_ret
    exact ⟨by rw [HF.out]; rfl, rfl⟩
  | succ k =>
    obtain rfl : n = (k : Int) := by omega
    have hlt : k < ns.length := by omega
    have hlt2 : k < ts.length := by rw [← HL.out]; exact hlt
    obtain ⟨r, off, rfl, h3⟩ := HS1.out (by intro e; rw [e] at hlt; simp at hlt)
    obtain ⟨r2, off2, rfl, h4⟩ := HS2.out (by intro e; rw [e] at hlt2; simp at hlt2)
    have x1 : w.cell? ⟨r, off + k, none⟩ = some (.string (bs ns[k])) := Zn.cell h3 hlt
    have x2 : w.cell? ⟨r2, off2 + k, none⟩ = some (.string (bs ts[k])) := Zn.cell h4 hlt2
    have hk0 : (0 : Int) ≤ (k : Int) := by omega
    have hltI : (k : Int) < (ns.length : Int) := by omega
    have hltI2 : (k : Int) < (ts.length : Int) := by omega
    have HG := H_ (show Z0d ns ts s (k + 1) = if ns[k] = s then ts[k] else Z0d ns ts s k by simp [Z0d, hlt, hlt2])
    by_cases he : ns[k] = s
    · have hx2 : ((bs ns[k]).toList == (bs s).toList) = true := by rw [Z5, Z5]; simpa using he
      have hx3 : (bs ns[k]).toList = (bs s).toList := by rw [Z5, Z5]; exact he
      have HF := H_ (show R = bs ts[k] by rw [HR.out, hA.out, HG.out, if_pos he])
      generalize bs ns[k] = sa at *
      generalize bs ts[k] = sb at *
      clear hA HG he h3 h4
      go_wp2_with fail
      go_ret
      exact ⟨by rw [HF.out]; rfl, rfl⟩
    · have hx2 : ((bs ns[k]).toList == (bs s).toList) = false := by rw [Z5, Z5]; simpa using he
      have hx3 : ¬ (bs ns[k]).toList = (bs s).toList := by rw [Z5, Z5]; exact he
      have HF := H_ (show Z0d ns ts s ns.length = Z0d ns ts s k by rw [hA.out, HG.out, if_neg he])
      generalize bs ns[k] = sa at *
      generalize bs ts[k] = sb at *
      clear hA HG he h3 h4
      go_wp2_with fail
      exact ⟨⟨k, _, by omega, rfl, by omega, HF⟩, by first | (simp [intOf]; done) | (simp [intOf]; omega)⟩
def Z5j (r : Option (List UInt8)) (e : Ending) : Prop := e = .returned (.tuple #[.string (bs (r.getD [])), .bool r.isSome])
theorem Tryz.infoByte : (prog.info? 5).map (fun i => (i.zero, i.size, i.bytes)) = some (some (.int .u8 0), 1, 1) := by kernel_rfl
def Bld (B b : Nat) (l : List UInt8) (w : World) : Prop := Lib.BuilderAtF 107 5 B b (.pointer (some ⟨b, 0, none⟩)) (Lib.byteCells l) w
theorem Bld.blk {B b : Nat} {l : List UInt8} {w : World} (h : Bld B b l w) : B ≤ b ∧ ∃ p n c, w.heap[b]? = some (.cells #[.pointer (some ⟨b, 0, none⟩), .slice p n c] 107 (0, 0)) := by
 obtain ⟨hB, v, hb, hown, hne⟩ := h
 rcases hown.2 with ⟨rfl, _⟩ | ⟨g, cap, cur, fz, rfl, _⟩
 · exact ⟨hB, _, _, _, hb⟩
 · exact ⟨hB, _, _, _, hb⟩
theorem Tryz.sizeBuilder : (prog.info? 107).map (fun i => i.size) = some 2 := by kernel_rfl
theorem bld_slice {w : World} {B e n : Nat} {v : Value} {xs : List Value} (h : w.ownsRowF B e 1 v (n + 1) xs) : ∃ g cap, v = .slice (some ⟨g, 0, none⟩) (n + 1) cap := by
 rcases h.2 with ⟨_, h0⟩ | ⟨g, cap, cur, fz, hv, _⟩
 · omega
 · exact ⟨g, cap, hv⟩
theorem bld_slice2 {w : World} {B e n : Nat} {v : Value} {xs : List Value} (h : w.ownsRowF B e 1 v n xs) : ∃ g n' cap, v = .slice g n' cap := by
 rcases h.2 with ⟨hv, _⟩ | ⟨g, cap, cur, fz, hv, _⟩
 · exact ⟨_, _, _, hv⟩
 · exact ⟨_, _, _, hv⟩
theorem Z7a (b : Nat) (p : Value) (w : World) (hb : w.heap[b]? = some (.cells #[.pointer (some ⟨b, 0, none⟩), p] 107 (0, 0))) :
 Calls prog 144 #[.pointer (some ⟨b, 0, none⟩)] w fun e w' => e = .returned (.tuple #[]) ∧ w = w' := by
 have c0 := Z3 (j := 0) hb
 go_enter func144, ntmps144
 go_wp2_with fail
 obtain ⟨j, hj, _⟩ := Option.map_eq_some_iff.1 Tryz.sizeBuilder
 rw [Lib.run_neq_ptr_same w _ underlying105 hj]
 go_wp2_with fail
 go_end0
 exact ⟨rfl, rfl⟩
theorem Z7e (B b : Nat) (l : List UInt8) (c : UInt8) (x : Int) (hx : x = c.toNat) (w : World) (h : Bld B b l w) (hlen : l.length + 1 ≤ 140737488355328) (hBw : B ≤ w.heap.size) :
 Calls prog 147 #[.pointer (some ⟨b, 0, none⟩), .int .u8 x] w fun e w' => e = .returned .nilIface ∧ Bld B b (l ++ [c]) w' ∧ Below B w w' ∧ Lib.OthersKept 5 (some b) w w' := by
 subst hx
 obtain ⟨i0, hi, hz0, hz1, hz2⟩ := info_parts Tryz.infoByte
 obtain ⟨hB, v, hbk, hown, hne⟩ := h
 have hll : (Lib.byteCells l).length = l.length := by simp [Lib.byteCells]
 rw [hll] at hown
 obtain ⟨p, n, cc, rfl⟩ : ∃ p n cc, v = .slice p n cc := by
  rcases hown.2 with ⟨hv, _⟩ | ⟨g, cap, cur, fz, hv, _⟩
  · exact ⟨_, _, _, hv⟩
  · exact ⟨_, _, _, hv⟩
 have hlt := lt_of_block hbk
 obtain ⟨c0, c1⟩ := Zm hbk
 have HO := H_ hown
 have HNE := H_ hne
 clear hown hne hll
 go_enter func147, ntmps147
 go_wp2_with (first | (go_at_call 144; go_must (refine (Z7a b _ _ hbk).mono ?_; rintro e w1 ⟨rfl, rfl⟩)) | (at_builtin; go_must (refine wpList_append_ownF _ rfl _ _ 22 rfl B 5 i0 (.int .u8 0) 1 1 underlying22 hi hz0 hz1 hz2 rfl (by decide) _ _ _ rfl (HO.out.alloc _) ⟨w.heap.size, 0, none⟩ 1 1 [.int .u8 c.toNat] rfl rfl (Xn (heap_alloc_new _ _)) (by intro u hu; simp at hu; subst hu; rfl) (by unfold maxLen; omega) (by omega) (by simp; omega) ?_; intro v' w2 hown' hgrow _; have hb2 := Xl hgrow (Z8 hbk) HNE.out; obtain ⟨g, cap, rfl⟩ := bld_slice hown'; obtain ⟨d0, d1⟩ := Zm hb2; have f1 := Xo (j := 1) hb2)))
 go_ret
 refine ⟨rfl, ?_, ?_, ?_⟩
 · exact Lib.BuilderAtF.put hB hb2 (bs' := Lib.byteCells (l ++ [c])) (by simpa [Lib.byteCells] using hown') (by decide)
 · exact (((Below.refl B w).alloc hBw _).grown hgrow (by simp; omega) (fun k hk => (HO.out.lt k hk).1)).setCell (p := ⟨b, 1, none⟩) hB _
 · exact (((Lib.OthersKept.refl _ _ _).alloc _).grown hgrow (Lib.ownsRowF_kind (HO.out.alloc _))).setCell ⟨b, 1, none⟩ rfl _
theorem WriteString_c (B b : Nat) (l s : List UInt8) (w : World) (h : Bld B b l w) (hlen : l.length + s.length ≤ 140737488355328) (hBw : B ≤ w.heap.size) :
 Calls prog 146 #[.pointer (some ⟨b, 0, none⟩), .string (bs s)] w fun e w' => e = .returned (.tuple #[.int .i64 s.length, .nilIface]) ∧ Bld B b (l ++ s) w' ∧ Below B w w' ∧ Lib.OthersKept 5 (some b) w w' := by
 obtain ⟨i0, hi, hz0, hz1, hz2⟩ := info_parts Tryz.infoByte
 obtain ⟨hB, v, hbk, hown, hne⟩ := h
 have hll : (Lib.byteCells l).length = l.length := by simp [Lib.byteCells]
 rw [hll] at hown
 obtain ⟨p, n, cc, rfl⟩ : ∃ p n cc, v = .slice p n cc := by
  rcases hown.2 with ⟨hv, _⟩ | ⟨g, cap, cur, fz, hv, _⟩
  · exact ⟨_, _, _, hv⟩
  · exact ⟨_, _, _, hv⟩
 have hlt := lt_of_block hbk
 obtain ⟨c0, c1⟩ := Zm hbk
 have HO := H_ hown
 have HNE := H_ hne
 have hbs := Yf s
 have HBS := H_ hbs
 have hl2 : l.length + (bs s).size ≤ 140737488355328 := by rw [hbs]; exact hlen
 clear hown hne hll hbs
 go_enter func146, ntmps146
 go_wp2_with (first | (go_at_call 144; go_must (refine (Z7a b _ _ hbk).mono ?_; rintro e w1 ⟨rfl, rfl⟩)) | (at_builtin; go_must (refine Lib.wpList_append_own_stringF _ rfl _ _ 22 9 rfl B 5 i0 underlying22 underlying9 hi hz0 hz1 hz2 _ _ _ rfl HO.out (bs s) rfl (by unfold maxLen; omega) hl2 hBw ?_; intro v' w2 hown' hgrow _; have hb2 := Xl hgrow hbk HNE.out; obtain ⟨g, n2, cap, rfl⟩ := bld_slice2 hown'; obtain ⟨d0, d1⟩ := Zm hb2; have f1 := Xo (j := 1) hb2)))
 go_ret2
 refine ⟨rfl, ?_, ?_, ?_⟩
 · exact Lib.BuilderAtF.put hB hb2 (bs' := Lib.byteCells (l ++ s)) (by have h3 := HBS.out; rw [h3] at hown'; simpa [Lib.byteCells, Lib.strCells, bs] using hown') (by decide)
 · exact ((Below.refl B w).grown hgrow hBw (fun k hk => (HO.out.lt k hk).1)).setCell (p := ⟨b, 1, none⟩) hB _
 · exact ((Lib.OthersKept.refl _ _ _).grown hgrow (Lib.ownsRowF_kind HO.out)).setCell ⟨b, 1, none⟩ rfl _
end Go.Proofs.YtfknoigbkleanaaGreatDoor
