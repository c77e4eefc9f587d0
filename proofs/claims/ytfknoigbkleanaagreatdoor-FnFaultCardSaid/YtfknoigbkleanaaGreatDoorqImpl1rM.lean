/- The reference: decimals. A set of texts: a map to bools of the call's own. The program's atoms. FormAtoms of the reference model and of the program. -/
import Derived.Test.YtfknoigbkleanaaGreatDoorqDraw3
import Derived.Test.YtfknoigbkleanaaGreatDoorqPureT
import Derived.Test.YtfknoigbkleanaaGreatDoorqNumIM
import Derived.Deep.RegionHeld3
import Derived.Test.YtfknoigbkleanaaGreatDoorqS1z
import Derived.Maps.Own
import Derived.Maps.OwnOps
import Derived.Maps.Views
import Derived.Test.YtfknoigbkleanaaGreatDoorqImpl2vM
import Derived.Test.YtfknoigbkleanaaGreatDoorqImpl2dM
namespace Go.Proofs.YtfknoigbkleanaaGreatDoor
open Go.RowKit Go.Proofs.Tryz
set_option maxRecDepth 8000
set_option maxHeartbeats 20000000
set_option linter.unusedVariables false
set_option linter.unusedSimpArgs false
theorem dig_one (n : Int) (h0 : 0 ≤ n) (h1 : n < 10) : strOfNums [48 + n] = bs [UInt8.ofNat (48 + n.toNat)] := by
 simp only [strOfNums, List.map_cons, List.map_nil, bs]
 rw [show (48 + n).toNat = 48 + n.toNat from by omega]
theorem Z3z (W : World) (b : Nat) (x : Int) (h : W.heap[b]? = some (.cells #[.int .u8 x] 5 (0, 0))) : (convert 22 9 (.slice (some ⟨b, 0, none⟩) 1 1)).run prog W = .ok (.string (strOfNums [x])) W := by
 refine run_convert_bytes_arg (P := prog) W 22 5 underlying22 underlying5 b 0 1 1 [x] rfl (fun i hi => ?_) 9 underlying9
 obtain rfl : i = 0 := by omega
 rw [Z3 h]; simp
theorem Z7y : ∀ (n : Nat), n ≤ 1000000 → (Lib.decDigits n).length ≤ 100 := fun n hn => by
 have h : ∀ (k n : Nat), n < 10 ^ k → (Lib.decDigits n).length ≤ k + 1 := by
  intro k
  induction k with
  | zero => intro n h; rw [Lib.decDigits, dif_pos (by simp at h; omega)]; simp
  | succ k ih =>
    intro n h
    rw [Lib.decDigits]
    split
    · simp
    · have := ih (n / 10) (by rw [Nat.pow_succ] at h; omega)
      simp; omega
 have := h 7 n (by omega)
 omega
theorem l6Dec_c : ∀ (f n : Nat), n < f → n ≤ 1000000 → ∀ w : World, Calls prog 163 #[.int .i64 (n : Int)] w fun e w' => e = .returned (.string (bs (Lib.decDigits n))) ∧ Below w.heap.size w w'
 | 0, n, hf, hn, w => by omega
 | f + 1, n, hf, hn, w => by
   by_cases h : n < 10
   · rw [Lib.decDigits_one h]
     have HD := H_ (show strOfNums [48 + (n : Int)] = bs [UInt8.ofNat (48 + n)] from dig_one n (by omega) (by omega))
     have hconv := Z3z (w.alloc (.cells #[.int .u8 (48 + (n : Int))] 5)) w.heap.size (48 + (n : Int)) (heap_alloc_new w _)
     go_enter func163, ntmps163
     go_wp2_with fail
     go_ret
     exact ⟨by rw [← HD.out]; rfl, Z4 _ _⟩
   · have C := H_ (fun W => l6Dec_c f (n / 10) (by omega) (by omega) W)
     have e1 : ((n / 10 : Nat) : Int) = (n : Int) / 10 := by omega
     rw [e1] at C
     have HD := H_ (show bs (Lib.decDigits n) = bs (Lib.decDigits (n / 10)) ++ strOfNums [48 + (n : Int) % 10] by
      rw [Lib.decDigits, dif_neg h, dig_one _ (by omega) (by omega), Q0, show ((n : Int) % 10).toNat = n % 10 by omega])
     rw [HD.out]
     have hs1 : (strOfNums [48 + (n : Int) % 10]).size = 1 := strOfNums_size _
     have hlen : (bs (Lib.decDigits (n / 10))).size ≤ 100 := by rw [Yf]; exact Z7y _ (by omega)
     obtain ⟨D, hD⟩ : ∃ q, q = bs (Lib.decDigits (n / 10)) := ⟨_, rfl⟩
     rw [← hD] at C hlen ⊢
     obtain ⟨S1, hS1⟩ : ∃ q, q = strOfNums [48 + (n : Int) % 10] := ⟨_, rfl⟩
     have hm : 0 ≤ (n : Int) % 10 ∧ (n : Int) % 10 < 10 := by omega
     have hq : 0 ≤ (n : Int) / 10 ∧ (n : Int) / 10 ≤ 100000 := by omega
     have h10 : ¬ (n : Int) < 10 := by omega
     have w1 : IntKind.i64.wrap ((n : Int) / 10) = (n : Int) / 10 := by rw [IntKind.wrap_i64]; omega
     have w2 : (n : Int).tmod 10 = (n : Int) % 10 := Int.tmod_eq_emod_of_nonneg (by omega)
     have w3 : IntKind.i64.wrap (48 + (n : Int) % 10) = 48 + (n : Int) % 10 := by rw [IntKind.wrap_i64]; omega
     have w4 : IntKind.u8.wrap (48 + (n : Int) % 10) = 48 + (n : Int) % 10 := by rw [IntKind.wrap_u8]; omega
     have hcA : ∀ W : World, (convert 22 9 (.slice (some ⟨W.heap.size, 0, none⟩) 1 1)).run prog (W.alloc (.cells #[.int .u8 (48 + (n : Int) % 10)] 5)) = .ok (.string S1) (W.alloc (.cells #[.int .u8 (48 + (n : Int) % 10)] 5)) := fun W => by rw [hS1]; exact Z3z _ _ _ (heap_alloc_new W _)
     have hcC : (convert 22 9 (.slice (some ⟨w.heap.size, 0, none⟩) 1 1)).run prog (w.alloc (.cells #[.int .u8 (48 + (n : Int) % 10)] 5)).drew = .ok (.string S1) (w.alloc (.cells #[.int .u8 (48 + (n : Int) % 10)] 5)).drew := by rw [hS1]; exact Z3z _ _ _ (heap_alloc_new w _)
     have hcD : (convert 22 9 (.slice (some ⟨w.heap.size, 0, none⟩) 1 1)).run prog (w.drew.alloc (.cells #[.int .u8 (48 + (n : Int) % 10)] 5)) = .ok (.string S1) (w.drew.alloc (.cells #[.int .u8 (48 + (n : Int) % 10)] 5)) := by rw [hS1]; exact Z3z _ _ _ (heap_alloc_new w _)
     have HS1 := H_ hS1
     rw [← hS1] at hs1 ⊢
     clear hS1
     have gq1 : ¬ (9223372036854775807 : Nat) < D.size + S1.size := by omega
     have gq2 : ¬ (9223372036854775807 : Nat) < D.size + 1 := by omega
     clear HD hD
     have K : Hid (∀ W, Below w.heap.size w W → (fun W => Below w.heap.size w W ∧ True) W) := H_ (fun W hW => ⟨hW, trivial⟩)
     have S0 := H_ (K.out _ ((Below.refl _ w).drew))
     go_enter func163, ntmps163
     go_wp2_with fail
     first | (go_region_with (first | (go_at_call 163; (with_reducible refine (C.out _).mono ?_); rintro e w2 ⟨rfl, hb2⟩; first | (have hcB : (convert 22 9 (.slice (some ⟨w.heap.size, 0, none⟩) 1 1)).run prog w2 = .ok (.string S1) w2 := (by rw [HS1.out]; exact Z3z _ _ _ (Z1 hb2 (lt_of_block (heap_alloc_new w _)) (heap_alloc_new w _)))) | (have hcE : ∀ (W : World), (convert 22 9 (.slice (some ⟨W.heap.size, 0, none⟩) 1 1)).run prog (W.alloc (.cells #[.int .u8 (48 + (n : Int) % 10)] 5)) = .ok (.string S1) (W.alloc (.cells #[.int .u8 (48 + (n : Int) % 10)] 5)) := hcA)))) | fail
     all_goals
      go_wp2_with fail
      go_ret
      first
       | exact ⟨rfl, (Z4 w _).trans (hb2.mono (by simp))⟩
       | exact ⟨rfl, Below.trans (Z4 w _).drew (hb2.mono (by simp))⟩
       | exact ⟨rfl, hb2.alloc hb2.size _⟩
       | exact ⟨rfl, (show Below w.heap.size w w2 from ⟨hb2.os, hb2.tape, hb2.output, hb2.size, hb2.block⟩).alloc hb2.size _⟩
       | exact ⟨rfl, ⟨hb2.os, hb2.tape, hb2.output, hb2.size, hb2.block⟩⟩
theorem l6Dec_any (n : Int) (h1 : -1000 ≤ n) (h2 : n ≤ 1000) (w : World) : Calls prog 163 #[.int .i64 n] w fun e w' => (∃ s : ByteArray, e = .returned (.string s) ∧ s.size ≤ 1000) ∧ Below w.heap.size w w' := by
 by_cases hn : 0 ≤ n
 · obtain ⟨m, rfl⟩ : ∃ m : Nat, n = (m : Int) := ⟨n.toNat, by omega⟩
   exact (l6Dec_c (m + 1) m (by omega) (by omega) w).mono fun e w' ⟨h3, h4⟩ => ⟨⟨_, h3, by rw [Yf]; have := Z7y m (by omega); omega⟩, h4⟩
 · obtain ⟨m, hm⟩ : ∃ m : Nat, -n = (m : Int) := ⟨(-n).toNat, by omega⟩
   have C := H_ (fun W => l6Dec_c (m + 1) m (by omega) (by omega) W)
   unfold Hid at C
   rw [← hm] at C
   have C := H_ C
   have hlen : (bs (Lib.decDigits m)).size ≤ 100 := by rw [Yf]; exact Z7y m (by omega)
   have k1 : IntKind.i64.wrap (-n) = -n := by rw [IntKind.wrap_i64]; omega
   have k2 : ¬ n < -9223372036854775807 := by omega
   have k3 : n < 0 := by omega
   clear hm
   generalize bs (Lib.decDigits m) = D at *
   go_enter func163, ntmps163
   go_wp2_with fail
   refine (C.out _).mono ?_
   rintro e w2 ⟨rfl, hb2⟩
   go_wp2_with fail
   go_ret
   exact ⟨⟨_, rfl, by have y : (⟨#[45]⟩ : ByteArray).size = 1 := rfl; simp; omega⟩, hb2⟩
end Go.Proofs.YtfknoigbkleanaaGreatDoor
namespace Go.Proofs.YtfknoigbkleanaaGreatDoor
open Go.RowKit Go.Maps Go.Proofs.Tryz
set_option maxRecDepth 8000
set_option maxHeartbeats 20000000
set_option linter.unusedVariables false
set_option linter.unusedSimpArgs false
def Z1p (w : World) (b : Nat) (l : List (List UInt8)) (D : DataW Unit) : Prop :=
 w.ownsMap prog 9 (plainElem prog 4) b l.length D ∧ IsMap D ∧ ∀ x : List UInt8, D.atKey (.string x) (.lit (.bool false)) = .lit (.bool (decide (x ∈ l)))
theorem Z1p.made (w : World) : Z1p (w.alloc (.map #[] 0)) w.heap.size [] (.map []) :=
 ⟨World.ownsMap_made _ _ _ _, isMap_empty, fun x => rfl⟩
theorem Z1p.lt {w : World} {b : Nat} {l : List (List UInt8)} {D : DataW Unit} (h : Z1p w b l D) : b < w.heap.size := h.1.lt
theorem Z1p.kept {w w' : World} {b : Nat} {l : List (List UInt8)} {D : DataW Unit} {row : Option Nat} (h : Z1p w b l D) (hg : w.grownBy w' row) (hne : some b ≠ row) : Z1p w' b l D := ⟨h.1.kept hg hne, h.2⟩
theorem gB_below6 {a b : World} (h : Below a.heap.size a b) (row : Option Nat) : a.grownBy b row := ⟨h.os, h.tape, h.output, h.size, fun i hi _ => h.block i hi⟩
theorem Z1p.below {w w' : World} {b : Nat} {l : List (List UInt8)} {D : DataW Unit} (h : Z1p w b l D) (hb : Below w.heap.size w w') : Z1p w' b l D := h.kept (gB_below6 hb none) (by simp)
theorem Z1p.add {w : World} {b : Nat} {l : List (List UInt8)} {D : DataW Unit} (h : Z1p w b l D) (x : List UInt8) {w' : World} (k : w'.ownsMap prog 9 (plainElem prog 4) b (l.length + 1) (D.put (.string x) (.lit (.bool true)))) : Z1p w' b (l ++ [x]) (D.put (.string x) (.lit (.bool true))) := by
 refine ⟨by simpa using k, h.2.1.put _ _, fun y => ?_⟩
 by_cases e : y = x
 · subst e
   rw [atKey_put_same h.2.1 (by trivial)]
   simp
 · rw [atKey_put_other (by intro q; simp only [Lit.string.injEq] at q; exact e q), h.2.2 y]
   simp [e]
structure Two (w w' : World) (row : Option Nat) (b : Nat) : Prop where
 os : w'.os = w.os
 tape : w'.tape = w.tape
 output : w'.output = w.output
 size : w.heap.size ≤ w'.heap.size
 block : ∀ i, i < w.heap.size → row ≠ some i → i ≠ b → w'.heap[i]? = w.heap[i]?
theorem Two.of {w w' : World} {row : Option Nat} (h : w.grownBy w' row) (b : Nat) : Two w w' row b := ⟨h.os, h.tape, h.output, h.size, fun i hi hne _ => h.block i hi (fun e => hne e.symm)⟩
theorem Two.below {w w' : World} (h : Below w.heap.size w w') (row : Option Nat) (b : Nat) : Two w w' row b := Two.of (gB_below6 h row) b
theorem Two.trans {a c d : World} {row : Option Nat} {b : Nat} (h : Two a c row b) (k : Two c d row b) : Two a d row b :=
 ⟨k.os.trans h.os, k.tape.trans h.tape, k.output.trans h.output, Nat.le_trans h.size k.size, fun i hi h1 h2 => (k.block i (Nat.lt_of_lt_of_le hi h.size) h1 h2).trans (h.block i hi h1 h2)⟩
theorem Two.next {a c d : World} {v v' : Value} {b : Nat} (h : Two a c v.ownBlock b) (hv : v'.ownBlock = v.ownBlock ∨ ∀ q, v'.ownBlock = some q → a.heap.size ≤ q) (k : Two c d v'.ownBlock b) : Two a d v.ownBlock b :=
 ⟨k.os.trans h.os, k.tape.trans h.tape, k.output.trans h.output, Nat.le_trans h.size k.size, fun i hi h1 h2 => (k.block i (Nat.lt_of_lt_of_le hi h.size) (by
   rcases hv with hv | hv
   · rw [hv]; exact h1
   · intro e; have := hv i e; omega) h2).trans (h.block i hi h1 h2)⟩
end Go.Proofs.YtfknoigbkleanaaGreatDoor
namespace Go.Proofs.YtfknoigbkleanaaGreatDoor
open Go.RowKit Go.Maps Go.WideMaps Go.Proofs.Tryz
set_option maxRecDepth 8000
set_option maxHeartbeats 20000000
set_option linter.unusedVariables false
set_option linter.unusedSimpArgs false
def AtPostI (B N b : Nat) (v : Value) (l' : List (List UInt8)) (w : World) (e : Ending) (w' : World) : Prop :=
 ∃ v' D', e = .returned v' ∧ w'.ownsRow B 9 1 v' l'.length (l'.map Yj) ∧ Z1p w' b l' D' ∧ Two w w' v.ownBlock b ∧ (v'.ownBlock = v.ownBlock ∨ ∀ q, v'.ownBlock = some q → N ≤ q)
theorem fv_twoA {nd : Tr → Value → List Value} {w1 : World} {N : Nat} {t : Tr} {cs : List Value} (hv : FV nd w1 (fun k => N ≤ k ∧ k < w1.heap.size) t cs) (o o' : Obj) : FV nd ((w1.alloc o).alloc o') (fun k => k < w1.heap.size) t cs :=
 FV.wide (hv.below (((Below.refl w1.heap.size w1).alloc (Nat.le_refl _) o).alloc (by simp) o') (fun k hk => hk.2)) (fun k hk => hk.2)
theorem le_two (w1 : World) (o o' : Obj) : w1.heap.size ≤ ((w1.alloc o).alloc o').heap.size := by simp; omega
theorem made_rowA (w1 : World) (o : Obj) : ((w1.alloc o).alloc (.cells #[] 9)).ownsRow w1.heap.size 9 1 (.slice (some ⟨w1.heap.size + 1, 0, none⟩) 0 0) 0 [] := by
 have := World.ownsRow_made (w1.alloc o) #[] 0 (base := w1.heap.size) (e := 9) (size := 1) (by simp) (by decide) rfl
 simpa using this
theorem Z7h (s : ByteArray) (hs : s.size ≤ 1048576) (w : World) :
 Calls prog 83 #[.string s] w fun e w' => PartsPost w.heap.size (Z0t s.data.toList) e w' ∧ Below w.heap.size w w' := by
 cases hp : Zv s.data.toList with
 | none =>
   have C := H_ (Z0r hs hp)
   have HP := H_ (atomsOf_none hp)
   clear hp
   go_enter func83, ntmps83
   go_wp2_with (go_at_call 65; go_must (refine (C.out _).mono ?_; rintro e w1 ⟨⟨a, p, n, c, rfl, hn⟩, hb1⟩; have hn' := Zt hn))
   go_ret2
   exact ⟨⟨_, by rw [HP.out]; rfl, by rw [HP.out]; exact made_none hb1⟩, (hb1.alloc hb1.size _).alloc (by have := hb1.size; simp; omega) _⟩
 | some t =>
   have C := H_ (J2 hs hp)
   have hg := Yt hp
   have HP := H_ (atomsOf_some hp)
   have hsz := (Q8 t hg.1).1
   have hb := hg.2.1
   have HA : Hid (∀ (W : World) (p : Option Addr) (n c : Nat) (B : Nat) (v : Value), FV nS W (fun k => k < B) t (nS t (.slice p n c)) → B ≤ W.heap.size → W.ownsRow B 9 1 v 0 [] → Calls prog 130 #[.agg #[.string (bs (Z0 t)), .slice p n c], v] W fun e w' => Z20 B W.heap.size v (Q7 t []) W e w') :=
    H_ (fun W p n c B v h1 h2 h3 => Z72 (t.depth + 1) t _ B [] v W (by omega) hg.1 (by simp; omega) h1 h2 h3)
   clear hp hg hsz hb
   go_enter func83, ntmps83
   go_wp2_with (first | (go_at_call 65; go_must (refine (C.out _).mono ?_; rintro e w1 ⟨⟨p, n, c, rfl, hv⟩, hb1⟩; have CA := H_ (fun o => HA.out ((w1.alloc o).alloc (.cells #[] 9)) p n c w1.heap.size (.slice (some ⟨w1.heap.size + 1, 0, none⟩) 0 0) (fv_twoA hv o _) (le_two w1 o _) (made_rowA w1 o)))) | (go_at_call 130; go_must (refine (CA.out _).mono ?_; rintro e w2 ⟨v2, rfl, ho2, hg2, hvv2⟩)))
   go_ret2
   have hs1 := hb1.size
   refine ⟨⟨_, by rw [HP.out]; rfl, by rw [HP.out]; exact Z0w ho2 hs1⟩, ?_⟩
   exact (((hb1.alloc hs1 _).alloc (by simp; omega) _).grown hg2 (by simp; omega) (fun q hq => by simp [Value.ownBlock] at hq; omega))
end Go.Proofs.YtfknoigbkleanaaGreatDoor
