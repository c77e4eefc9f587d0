/- The reference: decimals. Atoms replaced by a form. Consequences of what forms and types are, for the general laws of chapter 1. What atoms stand in a form, before and after a replacement. -/
import Derived.Test.YtmgepnacjgbfhaaGreatDoorsDraw3
import Derived.Test.YtmgepnacjgbfhaaGreatDoorsPureT
import Derived.Test.YtmgepnacjgbfhaaGreatDoorsBuildM
import Derived.Deep.RegionHeld3
import Derived.Test.YtmgepnacjgbfhaaGreatDoorsB1
import Derived.Test.YtmgepnacjgbfhaaGreatDoorsB3
namespace Go.Proofs.YtmgepnacjgbfhaaGreatDoor
open Go.RowKit Go.Proofs.Tryz
set_option maxRecDepth 8000
set_option maxHeartbeats 20000000
set_option linter.unusedVariables false
set_option linter.unusedSimpArgs false
theorem dig_one (n : Int) (h0 : 0 ≤ n) (h1 : n < 10) : strOfNums [48 + n] = bs [UInt8.ofNat (48 + n.toNat)] := by
 simp only [strOfNums, List.map_cons, List.map_nil, bs]
 rw [show (48 + n).toNat = 48 + n.toNat from by omega]
theorem Z24 (W : World) (b : Nat) (x : Int) (h : W.heap[b]? = some (.cells #[.int .u8 x] 5 (0, 0))) : (convert 22 9 (.slice (some ⟨b, 0, none⟩) 1 1)).run prog W = .ok (.string (strOfNums [x])) W := by
 refine run_convert_bytes_arg (P := prog) W 22 5 underlying22 underlying5 b 0 1 1 [x] rfl (fun i hi => ?_) 9 underlying9
 obtain rfl : i = 0 := by omega
 rw [Z2 h]; simp
theorem dec_len : ∀ (n : Nat), n ≤ 1000000 → (Lib.decDigits n).length ≤ 100 := fun n hn => by
 have h : ∀ (k n : Nat), n < 10 ^ k → (Lib.decDigits n).length ≤ k + 1 := by
  intro k
  induction k with
  | zero => intro n h; rw [Lib.decDigits, dif_pos (by simp at h; omega)]; simp
  | succ k ih =>
    intro n h
    rw [Lib.decDigits]
    split
    · simp
    · have := ih (n / 10) (by rw [Nat.pow_succ] at h; omega)
      simp; omega
 have := h 7 n (by omega)
 omega
theorem l6Dec_c : ∀ (f n : Nat), n < f → n ≤ 1000000 → ∀ w : World, Calls prog 104 #[.int .i64 (n : Int)] w fun e w' => e = .returned (.string (bs (Lib.decDigits n))) ∧ Below w.heap.size w w'
 | 0, n, hf, hn, w => by omega
 | f + 1, n, hf, hn, w => by
   by_cases h : n < 10
   · rw [Lib.decDigits_one h]
     have HD := H_ (show strOfNums [48 + (n : Int)] = bs [UInt8.ofNat (48 + n)] from dig_one n (by omega) (by omega))
     have hconv := Z24 (w.alloc (.cells #[.int .u8 (48 + (n : Int))] 5)) w.heap.size (48 + (n : Int)) (heap_alloc_new w _)
     go_enter func104, ntmps104
     go_wp2_with fail
     go_ret
     exact ⟨by rw [← HD.out]; rfl, Z4 _ _⟩
   · have C := H_ (fun W => l6Dec_c f (n / 10) (by omega) (by omega) W)
     have e1 : ((n / 10 : Nat) : Int) = (n : Int) / 10 := by omega
     rw [e1] at C
     have HD := H_ (show bs (Lib.decDigits n) = bs (Lib.decDigits (n / 10)) ++ strOfNums [48 + (n : Int) % 10] by
      rw [Lib.decDigits, dif_neg h, dig_one _ (by omega) (by omega), Xr, show ((n : Int) % 10).toNat = n % 10 by omega])
     rw [HD.out]
     have hs1 : (strOfNums [48 + (n : Int) % 10]).size = 1 := strOfNums_size _
     have hlen : (bs (Lib.decDigits (n / 10))).size ≤ 100 := by rw [Y1]; exact dec_len _ (by omega)
     obtain ⟨D, hD⟩ : ∃ q, q = bs (Lib.decDigits (n / 10)) := ⟨_, rfl⟩
     rw [← hD] at C hlen ⊢
     obtain ⟨S1, hS1⟩ : ∃ q, q = strOfNums [48 + (n : Int) % 10] := ⟨_, rfl⟩
     have hm : 0 ≤ (n : Int) % 10 ∧ (n : Int) % 10 < 10 := by omega
     have hq : 0 ≤ (n : Int) / 10 ∧ (n : Int) / 10 ≤ 100000 := by omega
     have h10 : ¬ (n : Int) < 10 := by omega
     have w1 : IntKind.i64.wrap ((n : Int) / 10) = (n : Int) / 10 := by rw [IntKind.wrap_i64]; omega
     have w2 : (n : Int).tmod 10 = (n : Int) % 10 := Int.tmod_eq_emod_of_nonneg (by omega)
     have w3 : IntKind.i64.wrap (48 + (n : Int) % 10) = 48 + (n : Int) % 10 := by rw [IntKind.wrap_i64]; omega
     have w4 : IntKind.u8.wrap (48 + (n : Int) % 10) = 48 + (n : Int) % 10 := by rw [IntKind.wrap_u8]; omega
     have hcA : ∀ W : World, (convert 22 9 (.slice (some ⟨W.heap.size, 0, none⟩) 1 1)).run prog (W.alloc (.cells #[.int .u8 (48 + (n : Int) % 10)] 5)) = .ok (.string S1) (W.alloc (.cells #[.int .u8 (48 + (n : Int) % 10)] 5)) := fun W => by rw [hS1]; exact Z24 _ _ _ (heap_alloc_new W _)
     have hcC : (convert 22 9 (.slice (some ⟨w.heap.size, 0, none⟩) 1 1)).run prog (w.alloc (.cells #[.int .u8 (48 + (n : Int) % 10)] 5)).drew = .ok (.string S1) (w.alloc (.cells #[.int .u8 (48 + (n : Int) % 10)] 5)).drew := by rw [hS1]; exact Z24 _ _ _ (heap_alloc_new w _)
     have hcD : (convert 22 9 (.slice (some ⟨w.heap.size, 0, none⟩) 1 1)).run prog (w.drew.alloc (.cells #[.int .u8 (48 + (n : Int) % 10)] 5)) = .ok (.string S1) (w.drew.alloc (.cells #[.int .u8 (48 + (n : Int) % 10)] 5)) := by rw [hS1]; exact Z24 _ _ _ (heap_alloc_new w _)
     have HS1 := H_ hS1
     rw [← hS1] at hs1 ⊢
     clear hS1
     have gq1 : ¬ (9223372036854775807 : Nat) < D.size + S1.size := by omega
     have gq2 : ¬ (9223372036854775807 : Nat) < D.size + 1 := by omega
     clear HD hD
     have K : Hid (∀ W, Below w.heap.size w W → (fun W => Below w.heap.size w W ∧ True) W) := H_ (fun W hW => ⟨hW, trivial⟩)
     have S0 := H_ (K.out _ ((Below.refl _ w).drew))
     go_enter func104, ntmps104
     go_wp2_with fail
     first | (go_region_with (first | (go_at_call 104; (with_reducible refine (C.out _).mono ?_); rintro e w2 ⟨rfl, hb2⟩; first | (have hcB : (convert 22 9 (.slice (some ⟨w.heap.size, 0, none⟩) 1 1)).run prog w2 = .ok (.string S1) w2 := (by rw [HS1.out]; exact Z24 _ _ _ (Z1 hb2 (lt_of_block (heap_alloc_new w _)) (heap_alloc_new w _)))) | (have hcE : ∀ (W : World), (convert 22 9 (.slice (some ⟨W.heap.size, 0, none⟩) 1 1)).run prog (W.alloc (.cells #[.int .u8 (48 + (n : Int) % 10)] 5)) = .ok (.string S1) (W.alloc (.cells #[.int .u8 (48 + (n : Int) % 10)] 5)) := hcA)))) | fail
     all_goals
      go_wp2_with fail
      go_ret
      first
       | exact ⟨rfl, (Z4 w _).trans (hb2.mono (by simp))⟩
       | exact ⟨rfl, Below.trans (Z4 w _).drew (hb2.mono (by simp))⟩
       | exact ⟨rfl, hb2.alloc hb2.size _⟩
       | exact ⟨rfl, (show Below w.heap.size w w2 from ⟨hb2.os, hb2.tape, hb2.output, hb2.size, hb2.block⟩).alloc hb2.size _⟩
       | exact ⟨rfl, ⟨hb2.os, hb2.tape, hb2.output, hb2.size, hb2.block⟩⟩
theorem l6Dec_any (n : Int) (h1 : -1000 ≤ n) (h2 : n ≤ 1000) (w : World) : Calls prog 104 #[.int .i64 n] w fun e w' => (∃ s : ByteArray, e = .returned (.string s) ∧ s.size ≤ 1000) ∧ Below w.heap.size w w' := by
 by_cases hn : 0 ≤ n
 · obtain ⟨m, rfl⟩ : ∃ m : Nat, n = (m : Int) := ⟨n.toNat, by omega⟩
   exact (l6Dec_c (m + 1) m (by omega) (by omega) w).mono fun e w' ⟨h3, h4⟩ => ⟨⟨_, h3, by rw [Y1]; have := dec_len m (by omega); omega⟩, h4⟩
 · obtain ⟨m, hm⟩ : ∃ m : Nat, -n = (m : Int) := ⟨(-n).toNat, by omega⟩
   have C := H_ (fun W => l6Dec_c (m + 1) m (by omega) (by omega) W)
   unfold Hid at C
   rw [← hm] at C
   have C := H_ C
   have hlen : (bs (Lib.decDigits m)).size ≤ 100 := by rw [Y1]; exact dec_len m (by omega)
   have k1 : IntKind.i64.wrap (-n) = -n := by rw [IntKind.wrap_i64]; omega
   have k2 : ¬ n < -9223372036854775807 := by omega
   have k3 : n < 0 := by omega
   clear hm
   generalize bs (Lib.decDigits m) = D at *
   go_enter func104, ntmps104
   go_wp2_with fail
   refine (C.out _).mono ?_
   rintro e w2 ⟨rfl, hb2⟩
   go_wp2_with fail
   go_ret
   exact ⟨⟨_, rfl, by have y : (⟨#[45]⟩ : ByteArray).size = 1 := rfl; simp; omega⟩, hb2⟩
mutual
def Tr.subst (f : List UInt8 → Tr) : Tr → Tr
 | .atom x => f x
 | .list ts => .list (Jx f ts)
def Jx (f : List UInt8 → Tr) : List Tr → List Tr
 | [] => []
 | t :: ts => t.subst f :: Jx f ts
end
def rep (a : List UInt8) (b : Tr) (x : List UInt8) : Tr := if x = a then b else .atom x
def Qe (a : List UInt8) (b : Tr) (t : Tr) : Tr := t.subst (rep a b)
def Z2r (a : List UInt8) (b : Tr) (ts : List Tr) : List Tr := Jx (rep a b) ts
theorem Vt (f : List UInt8 → Tr) : ∀ ts : List Tr, Jx f ts = ts.map (Tr.subst f)
 | [] => rfl
 | t :: ts => by rw [Jx, List.map_cons, Vt f ts]
theorem Z3t (a : List UInt8) (b : Tr) (ts : List Tr) : (Z2r a b ts).length = ts.length := by rw [Z2r, Vt]; simp
theorem repls_take (a : List UInt8) (b : Tr) (ts : List Tr) (k : Nat) (h : k < ts.length) : Z2r a b (ts.take (k + 1)) = Z2r a b (ts.take k) ++ [Qe a b ts[k]] := by
 rw [Jw _ _ h, Z2r, Z2r, Vt, Vt, List.map_append]; rfl
theorem repl_atom_yes {a x : List UInt8} (b : Tr) (h : x = a) : Qe a b (Tr.atom x) = b := by rw [Qe, Tr.subst, rep, if_pos h]
theorem repl_atom_no {a x : List UInt8} (b : Tr) (h : ¬ x = a) : Qe a b (Tr.atom x) = .atom x := by rw [Qe, Tr.subst, rep, if_neg h]
theorem repl_list (a : List UInt8) (b : Tr) (ts : List Tr) : Qe a b (Tr.list ts) = .list (Z2r a b ts) := by rw [Qe, Tr.subst, Z2r]
mutual
theorem subst_wf {f : List UInt8 → Tr} (hf : ∀ x, (Tr.atom x).wf → (f x).wf) : ∀ t : Tr, t.wf → (t.subst f).wf
 | .atom x, h => by rw [Tr.subst]; exact hf x h
 | .list ts, h => by
   rw [Tr.subst]
   refine ⟨?_, substs_wf hf ts h.2⟩
   rw [Vt]; simpa using h.1
theorem substs_wf {f : List UInt8 → Tr} (hf : ∀ x, (Tr.atom x).wf → (f x).wf) : ∀ ts : List Tr, wfs ts → wfs (Jx f ts)
 | [], _ => trivial
 | t :: ts, h => ⟨subst_wf hf t h.1, substs_wf hf ts h.2⟩
end
mutual
theorem Z53 {f : List UInt8 → Tr} {m : Nat} (hm : 1 ≤ m) (hf : ∀ x, (Tr.atom x).wf → (f x).bytes ≤ m * x.length) : ∀ t : Tr, t.wf → (t.subst f).bytes ≤ m * t.bytes
 | .atom x, h => by rw [Tr.subst]; exact hf x h
 | .list ts, h => by
   have := Z3n hm hf ts h.2
   rw [Tr.subst]
   simp only [Tr.bytes, Nat.mul_add]; omega
theorem Z3n {f : List UInt8 → Tr} {m : Nat} (hm : 1 ≤ m) (hf : ∀ x, (Tr.atom x).wf → (f x).bytes ≤ m * x.length) : ∀ ts : List Tr, wfs ts → Zq (Jx f ts) ≤ m * Zq ts
 | [], _ => by simp [Jx, Zq]
 | t :: ts, h => by
   have h1 := Z53 hm hf t h.1
   have h2 := Z3n hm hf ts h.2
   simp only [Jx, Zq, Nat.mul_add]; omega
end
theorem repl_wf {a : List UInt8} {b : Tr} (hb : b.wf) (t : Tr) (h : t.wf) : (Qe a b t).wf := subst_wf (fun x hx => by unfold rep; split; exact hb; exact hx) t h
theorem rep_bytes {a : List UInt8} {b : Tr} {m : Nat} (hb : b.bytes ≤ m) (hm : 1 ≤ m) (x : List UInt8) (hx : (Tr.atom x).wf) : (rep a b x).bytes ≤ m * x.length := by
 have h1 : 1 ≤ x.length := by have := hx.1; cases x with | nil => exact absurd rfl this | cons c l => simp
 have h2 : m * 1 ≤ m * x.length := Nat.mul_le_mul_left m h1
 have h3 : 1 * x.length ≤ m * x.length := Nat.mul_le_mul_right _ hm
 unfold rep; split
 · omega
 · simp only [Tr.bytes]; omega
theorem repl_bytes {a : List UInt8} {b : Tr} {m : Nat} (hb : b.bytes ≤ m) (hm : 1 ≤ m) (t : Tr) (h : t.wf) : (Qe a b t).bytes ≤ m * t.bytes := Z53 hm (rep_bytes hb hm) t h
def Ko (s a y : List UInt8) : Option Tr :=
 match Zt s, Zt a, Zt y with
 | some t, some (.atom x), some b => if (Qe x b t).bytes ≤ 12000 ∧ (Qe x b t).depth ≤ 60 then some (Qe x b t) else none
 | _, _, _ => none
theorem replOf_1 {s : List UInt8} (a y : List UInt8) (h : Zt s = none) : Ko s a y = none := by simp [Ko, h]
theorem replOf_2 (s : List UInt8) {a : List UInt8} (y : List UInt8) (h : Zt a = none) : Ko s a y = none := by unfold Ko; rw [h]; cases Zt s <;> rfl
theorem replOf_3 (s a : List UInt8) {y : List UInt8} (h : Zt y = none) : Ko s a y = none := by
 unfold Ko; rw [h]
 cases Zt s with
 | none => rfl
 | some t => cases Zt a with
   | none => rfl
   | some x => cases x <;> rfl
theorem replOf_4 (s : List UInt8) {a : List UInt8} (y : List UInt8) {ts : List Tr} (h : Zt a = some (.list ts)) : Ko s a y = none := by
 unfold Ko; rw [h]; cases Zt s <;> rfl
theorem Z56 {s a y x : List UInt8} {t b : Tr} (h1 : Zt s = some t) (h2 : Zt a = some (.atom x)) (h3 : Zt y = some b) :
 Ko s a y = if (Qe x b t).bytes ≤ 12000 ∧ (Qe x b t).depth ≤ 60 then some (Qe x b t) else none := by simp [Ko, h1, h2, h3]
theorem atoms_range {l : List UInt8} {t : Tr} (h : Zt l = some t) : 1 ≤ (Xs t []).length ∧ (Xs t []).length ≤ t.size := by
 obtain ⟨h1, h2, h3, rfl⟩ := Yn h
 have h4 := atoms_len t [] h1
 refine ⟨?_, by simpa using h4.2⟩
 have h5 : ∀ (t : Tr) (l : List (List UInt8)), t.wf → 1 ≤ (Xs t l).length := by
  intro t
  induction t using Tr.rec (motive_2 := fun ts => ∀ (l : List (List UInt8)), wfs ts → ts ≠ [] → 1 ≤ (Q0 ts l).length) with
  | atom a =>
    intro l _
    rw [Z02]
    unfold Je
    split
    · rename_i h; exact List.length_pos_of_mem h
    · simp
  | list ts ih => intro l h; rw [Z19]; exact ih l h.2 h.1
  | nil => rename_i h; exact absurd rfl h
  | cons a ts ih1 ih2 =>
    rename_i l h _
    simp only [Q0]
    have h6 := ih1 l h.1
    have h7 := (Z18 ts (Xs a l) h.2).1
    omega
 exact h5 t [] h1
mutual
def occ (y : Nm) : Tr → Bool
 | .atom a => decide (y = a)
 | .list ts => Z3y y ts
def Z3y (y : Nm) : List Tr → Bool
 | [] => false
 | t :: ts => occ y t || Z3y y ts
end
mutual
theorem mem_atoms (y : Nm) : ∀ (t : Tr) (l : List Nm), y ∈ Xs t l ↔ y ∈ l ∨ occ y t = true
 | .atom a, l => by
   rw [Z02]
   unfold Je
   simp only [occ, decide_eq_true_eq]
   split
   · rename_i h
     constructor
     · exact .inl
     · rintro (h2 | rfl); exact h2; exact h
   · simp [List.mem_append]
 | .list ts, l => by rw [Z19, Z6r y ts l]; simp only [occ]
theorem Z6r (y : Nm) : ∀ (ts : List Tr) (l : List Nm), y ∈ Q0 ts l ↔ y ∈ l ∨ Z3y y ts = true
 | [], l => by simp [Q0, Z3y]
 | t :: ts, l => by simp only [Q0, Z6r y ts, mem_atoms y t, Z3y, Bool.or_eq_true, or_assoc]
end
mutual
theorem occ_subst (a : Nm) (b : Tr) : ∀ t : Tr, occ a (t.subst (rep a b)) = (occ a t && occ a b)
 | .atom x => by
   simp only [Tr.subst, rep, occ]
   by_cases h : x = a
   · rw [if_pos h]; simp [h]
   · rw [if_neg h]; simp only [occ]
     have : ¬ a = x := fun e => h e.symm
     simp [this]
 | .list ts => by simp only [Tr.subst, occ]; exact Z6p a b ts
theorem Z6p (a : Nm) (b : Tr) : ∀ ts : List Tr, Z3y a (Jx (rep a b) ts) = (Z3y a ts && occ a b)
 | [] => by simp [Jx, Z3y]
 | t :: ts => by simp only [Jx, Z3y, occ_subst a b t, Z6p a b ts, Bool.and_or_distrib_right]
end
mutual
theorem subst_out (a : Nm) (b : Tr) : ∀ t : Tr, occ a t = false → t.subst (rep a b) = t
 | .atom x, h => by
   simp only [occ, decide_eq_false_iff_not] at h
   simp only [Tr.subst, rep]
   rw [if_neg (fun e => h e.symm)]
 | .list ts, h => by simp only [occ] at h; simp only [Tr.subst]; rw [Z6a a b ts h]
theorem Z6a (a : Nm) (b : Tr) : ∀ ts : List Tr, Z3y a ts = false → Jx (rep a b) ts = ts
 | [], _ => rfl
 | t :: ts, h => by
   simp only [Z3y, Bool.or_eq_false_iff] at h
   simp only [Jx]
   rw [subst_out a b t h.1, Z6a a b ts h.2]
end
mutual
theorem occ_wf (y : Nm) : ∀ t : Tr, t.wf → occ y t = true → (Tr.atom y).wf ∧ y.length ≤ t.bytes
 | .atom a, h, ho => by
   simp only [occ, decide_eq_true_eq] at ho
   subst ho
   exact ⟨h, by simp [Tr.bytes]⟩
 | .list ts, h, ho => by
   simp only [occ] at ho
   obtain ⟨h1, h2⟩ := occs_wf y ts h.2 ho
   exact ⟨h1, by simp only [Tr.bytes]; omega⟩
theorem occs_wf (y : Nm) : ∀ ts : List Tr, wfs ts → Z3y y ts = true → (Tr.atom y).wf ∧ y.length ≤ Zq ts
 | [], _, h => by simp [Z3y] at h
 | t :: ts, h, ho => by
   simp only [Z3y, Bool.or_eq_true] at ho
   rcases ho with ho | ho
   · obtain ⟨h1, h2⟩ := occ_wf y t h.1 ho
     exact ⟨h1, by simp only [Zq]; omega⟩
   · obtain ⟨h1, h2⟩ := occs_wf y ts h.2 ho
     exact ⟨h1, by simp only [Zq]; omega⟩
end
theorem replOf_got {s a y : List UInt8} {T : Tr} (h : Ko s a y = some T) : ∃ t b, Zt s = some t ∧ Zt y = some b ∧ Zt T.text = some T ∧ (occ a T = (occ a t && occ a b)) ∧ (occ a t = false → T.text = s) := by
 cases h1 : Zt s with
 | none => rw [replOf_1 a y h1] at h; cases h
 | some t =>
   cases h2 : Zt a with
   | none => rw [replOf_2 s y h2] at h; cases h
   | some u =>
     cases u with
     | list us => rw [replOf_4 s y h2] at h; cases h
     | atom x =>
       cases h3 : Zt y with
       | none => rw [replOf_3 s a h3] at h; cases h
       | some b =>
         rw [Z56 h1 h2 h3] at h
         split at h
         · rename_i hb
           simp only [Option.some.injEq] at h
           subst h
           have hx : a = x := (Yn h2).2.2.2
           subst hx
           have gt := Yn h1
           have gb := Yn h3
           exact ⟨t, b, rfl, rfl, Jz (repl_wf gb.1 t gt.1) hb.1 hb.2, occ_subst a b t, fun ho => by rw [Qe, subst_out a b t ho]; exact gt.2.2.2.symm⟩
         · cases h
end Go.Proofs.YtmgepnacjgbfhaaGreatDoor
