/- The reference model: both types of a type with a head. The program writes a form as a text. The program's text of a form. A set of texts: a map to bools of the call's own. The program's atoms. FormAtoms of the reference model and of the program. -/
import Derived.Test.YtjaaalojcdbcpaaGreatDoorlS1z
import Derived.Deep.RegionHeld3
import Derived.Test.YtjaaalojcdbcpaaGreatDoorlLawBM
import Derived.Test.YtjaaalojcdbcpaaGreatDoorlAsrAM
import Derived.Maps.Own
import Derived.Maps.OwnOps
import Derived.Maps.Views
set_option maxHeartbeats 20000000
set_option linter.unusedVariables false
set_option linter.unusedSimpArgs false
namespace Go.Proofs.YtjaaalojcdbcpaaGreatDoor
open Go.RowKit Go.Proofs.Tryz
set_option maxRecDepth 8000
theorem fin_belowS {w w1 W : World} {p : Prop} (h : Below w.heap.size w w1) (k : Below w1.heap.size w1 W ∧ p) : Below w.heap.size w W := h.trans (k.1.mono h.size)
theorem l1Two_c (s : ByteArray) (hs : s.size ≤ 1048576) (hd : List UInt8) (w : World) :
 Calls prog 161 #[.string s, .string (bs hd)] w fun e w' => TwoPost (Kg hd s.data.toList) e ∧ Below w.heap.size w w' := by
 cases hp : Zt s.data.toList with
 | none =>
   have C := H_ (Z1n hs hp)
   have HR := H_ (Z72 hd (Z5u hp))
   clear hp
   go_enter func161, ntmps161
   go_wp2_with (go_at_call 64; go_must (refine (C.out _).mono ?_; rintro e w1 ⟨⟨a, p, n, c, rfl, hn⟩, hb1⟩))
   go_ret3
   exact ⟨by rw [HR.out]; rfl, hb1.alloc hb1.size _⟩
 | some t =>
   have C := H_ (Je hs hp)
   have hg := Yk hp
   have hR0 := Z5t hp
   clear hp
   have T : Hid (∀ (W : World) (p : Option Addr) (n c : Nat) (ok : Nat → Prop), FV nS W ok t (nS t (.slice p n c)) → (∀ k, ok k → k < W.heap.size) → Calls prog 109 #[.agg #[.string (bs (Z1 t)), .slice p n c]] W fun e w' => e = .returned (.bool (Q1 t && decide (t.size ≤ 16))) ∧ Below W.heap.size W w') :=
    H_ (fun W p n c ok h1 h2 => Z37 t p n c ok W hg.1 (by omega) h1 h2)
   cases hty : (Q1 t && decide (t.size ≤ 16)) with
   | false =>
     rw [hty] at T hR0
     have HR := H_ (Z72 hd hR0)
     go_enter func161, ntmps161
     go_wp2_with (first | (go_at_call 64; go_must (refine (C.out _).mono ?_; rintro e w1 ⟨⟨p, n, c, rfl, hv⟩, hb1⟩)) | (go_at_call 109; go_must (refine (T.out _ p n c (fun k => w.heap.size ≤ k ∧ k < w1.heap.size) (hv.below (Z5 _ _) (fun k hk => hk.2)) (fun k hk => by simp; omega)).mono ?_; rintro e w2 ⟨rfl, hb2⟩)))
     go_ret3
     exact ⟨by rw [HR.out]; rfl, (hb1.alloc hb1.size _).trans (hb2.mono (by have := hb1.size; simp; omega))⟩
   | true =>
     rw [hty] at T hR0
     have hR1 : Qk s.data.toList = some t := by rw [hR0]; rfl
     have hty1 : Q1 t = true := by simp only [Bool.and_eq_true] at hty; exact hty.1
     clear hR0 hty
     match t, hty1 with
     | .atom a, hty1 =>
       have HR := H_ (sides_atom hd hR1)
       have ha := V7 hg.1.1
       simp only [Z1] at C T
       go_enter func161, ntmps161
       go_wp2_with (first | (go_at_call 64; go_must (refine (C.out _).mono ?_; rintro e w1 ⟨⟨p, n, c, rfl, hv⟩, hb1⟩)) | (go_at_call 109; go_must (refine (T.out _ p n c (fun k => w.heap.size ≤ k ∧ k < w1.heap.size) (hv.below (Z5 _ _) (fun k hk => hk.2)) (fun k hk => by simp; omega)).mono ?_; rintro e w2 ⟨rfl, hb2⟩; have x0 := Z2 hb2 (by simp) (heap_alloc_new _ _); obtain ⟨t2, t3⟩ := Zh x0)))
       go_ret3
       exact ⟨by rw [HR.out]; rfl, (hb1.alloc hb1.size _).trans (hb2.mono (by have := hb1.size; simp; omega))⟩
     | .list ts, hty1 =>
       obtain ⟨x, a, b, rfl, hx, hta, htb⟩ := Z0d hty1
       have ha := Jl
       simp only [Z1] at C T
       have hwa : a.wf := hg.1.2.2.1
       have hwb : b.wf := hg.1.2.2.2.1
       have hdd := Z1t x a b
       have hbb := bytes3 x a b
       have LA : Hid (∀ (W : World) (p : Option Addr) (n c : Nat) (ok : Nat → Prop), FV nS W ok a (nS a (.slice p n c)) → (∀ k, ok k → k < W.heap.size) → Calls prog 31 #[.agg #[.string (bs (Z1 a)), .slice p n c]] W fun e w' => e = .returned (.string (bs a.text)) ∧ Below W.heap.size W w') :=
        H_ (fun W p n c ok h1 h2 => Z0k (a.depth + 1) a _ ok W (by omega) hwa (by omega) h1 h2)
       have LB : Hid (∀ (W : World) (p : Option Addr) (n c : Nat) (ok : Nat → Prop), FV nS W ok b (nS b (.slice p n c)) → (∀ k, ok k → k < W.heap.size) → Calls prog 31 #[.agg #[.string (bs (Z1 b)), .slice p n c]] W fun e w' => e = .returned (.string (bs b.text)) ∧ Below W.heap.size W w') :=
        H_ (fun W p n c ok h1 h2 => Z0k (b.depth + 1) b _ ok W (by omega) hwb (by omega) h1 h2)
       cases hxh : (Z1 x == hd) with
       | false =>
         have hx2 : ((bs (Z1 x)).toList == (bs hd).toList) = false := by rw [Z9, Z9]; exact hxh
         have HR := H_ (sides_no hd hR1 (by simpa using hxh))
         clear hxh hx
         go_enter func161, ntmps161
         go_wp2_with (first | (go_at_call 64; go_must (refine (C.out _).mono ?_; rintro e w1 ⟨⟨p, n, c, rfl, hv⟩, hb1⟩)) | (go_at_call 109; go_must (have hv' := hv.below (Z5 w1 (.cells #[.string (bs []), .slice p n c] 47)) (fun k hk => hk.2); refine (T.out _ p n c (fun k => w.heap.size ≤ k ∧ k < w1.heap.size) hv' (fun k hk => by simp; omega)).mono ?_; rintro e w2 ⟨rfl, hb2⟩; have hv2 := hv'.below hb2 (fun k hk => by simp; omega); have x0 := Z2 hb2 (by simp) (heap_alloc_new w1 (.cells #[.string (bs []), .slice p n c] 47)); obtain ⟨r, off, cap, xs, hh, h2, h3, h4, h5, h6⟩ := FV.list_cells hv2; have hh' := nS_inj _ _ _ hh; simp only [Value.slice.injEq] at hh'; obtain ⟨rfl, rfl, rfl⟩ := hh'; clear hh hv hv' hv2; obtain ⟨⟨p0, n0, q0, v0, r0⟩, ⟨p1, n1, q1, v1, r1⟩, ⟨p2, n2, q2, v2, r2⟩⟩ := FVs.three Jn h6 h5; have hr2 : r < w2.heap.size := (by have := hb2.size; simp at this; omega); have t1 : w2.cell? ⟨r, off, none⟩ = some (.string (bs (Z1 x))) := r0 0 _ rfl; obtain ⟨t2, t3⟩ := Zh x0; have v0 := FV.wide v0 (fun k hk => (by have := hb2.size; simp at this; omega : k < w2.heap.size)); have v1 := FV.wide v1 (fun k hk => (by have := hb2.size; simp at this; omega : k < w2.heap.size)); have v2 := FV.wide v2 (fun k hk => (by have := hb2.size; simp at this; omega : k < w2.heap.size)); have h3' := Yl h4)))
         go_ret3
         exact ⟨by rw [HR.out]; rfl, (hb1.alloc hb1.size _).trans (hb2.mono (by have := hb1.size; simp; omega))⟩
       | true =>
         have hx2 : ((bs (Z1 x)).toList == (bs hd).toList) = true := by rw [Z9, Z9]; exact hxh
         have HR := H_ (sides_yes hd hR1 (by simpa using hxh))
         clear hxh hx
         go_enter func161, ntmps161
         go_wp2_with (first | (go_at_call 64; go_must (refine (C.out _).mono ?_; rintro e w1 ⟨⟨p, n, c, rfl, hv⟩, hb1⟩)) | (go_at_call 109; go_must (have hv' := hv.below (Z5 w1 (.cells #[.string (bs []), .slice p n c] 47)) (fun k hk => hk.2); refine (T.out _ p n c (fun k => w.heap.size ≤ k ∧ k < w1.heap.size) hv' (fun k hk => by simp; omega)).mono ?_; rintro e w2 ⟨rfl, hb2⟩; have hv2 := hv'.below hb2 (fun k hk => by simp; omega); have x0 := Z2 hb2 (by simp) (heap_alloc_new w1 (.cells #[.string (bs []), .slice p n c] 47)); obtain ⟨r, off, cap, xs, hh, h2, h3, h4, h5, h6⟩ := FV.list_cells hv2; have hh' := nS_inj _ _ _ hh; simp only [Value.slice.injEq] at hh'; obtain ⟨rfl, rfl, rfl⟩ := hh'; clear hh hv hv' hv2; obtain ⟨⟨p0, n0, q0, v0, r0⟩, ⟨p1, n1, q1, v1, r1⟩, ⟨p2, n2, q2, v2, r2⟩⟩ := FVs.three Jn h6 h5; have hr2 : r < w2.heap.size := (by have := hb2.size; simp at this; omega); have t1 : w2.cell? ⟨r, off, none⟩ = some (.string (bs (Z1 x))) := r0 0 _ rfl; obtain ⟨t2, t3⟩ := Zh x0; have v0 := FV.wide v0 (fun k hk => (by have := hb2.size; simp at this; omega : k < w2.heap.size)); have v1 := FV.wide v1 (fun k hk => (by have := hb2.size; simp at this; omega : k < w2.heap.size)); have v2 := FV.wide v2 (fun k hk => (by have := hb2.size; simp at this; omega : k < w2.heap.size)); have h3' := Yl h4)))
         have HW2 : Hid (Below w.heap.size w w2) := H_ ((hb1.alloc hb1.size _).trans (hb2.mono (by have := hb1.size; simp; omega)))
         have hW2 := HW2.out.size
         have y1 := Z4 (j := 1) x0
         have K : Hid (∀ W, Below w2.heap.size w2 W → (fun W => Below w2.heap.size w2 W ∧ W.cell? ⟨w1.heap.size, 1, none⟩ = some (.slice (some ⟨r, off, none⟩) 3 c) ∧ (W.cell? ⟨r, off + 2, none⟩ = some (.string (bs (Z1 a))) ∧ W.cell? ⟨r, off + 2 + 1, none⟩ = some (.slice p1 n1 q1)) ∧ (W.cell? ⟨r, off + 4, none⟩ = some (.string (bs (Z1 b))) ∧ W.cell? ⟨r, off + 4 + 1, none⟩ = some (.slice p2 n2 q2))) W) :=
          H_ (fun W hW => ⟨hW, (hW.cell (p := ⟨w1.heap.size, 1, none⟩) (lt_of_block x0)).trans y1,
           ⟨(hW.cell (p := ⟨r, off + 2, none⟩) hr2).trans (r1 0 _ rfl), (hW.cell (p := ⟨r, off + 2 + 1, none⟩) hr2).trans (r1 1 _ rfl)⟩, (hW.cell (p := ⟨r, off + 4, none⟩) hr2).trans (r2 0 _ rfl), (hW.cell (p := ⟨r, off + 4 + 1, none⟩) hr2).trans (r2 1 _ rfl)⟩)
         have S0 := H_ (K.out _ ((Below.refl _ _).drew))
         have VA := H_ v1
         have VB := H_ v2
         clear y1 v0 v1 v2 r0 r1 r2 hb1 hb2 x0
         go_region_held3 (fun W => Below w2.heap.size w2 W ∧ W.cell? ⟨w1.heap.size, 1, none⟩ = some (.slice (some ⟨r, off, none⟩) 3 c) ∧ (W.cell? ⟨r, off + 2, none⟩ = some (.string (bs (Z1 a))) ∧ W.cell? ⟨r, off + 2 + 1, none⟩ = some (.slice p1 n1 q1)) ∧ (W.cell? ⟨r, off + 4, none⟩ = some (.string (bs (Z1 b))) ∧ W.cell? ⟨r, off + 4 + 1, none⟩ = some (.slice p2 n2 q2)))
          (first | exact S0.out | assumption)
          (first | (go_at_call 31; have hh := And.left (by assumption : Below w2.heap.size w2 _ ∧ _); first | ((with_reducible refine (LA.out _ p1 n1 q1 (fun k => k < w2.heap.size) (VA.out.below hh (fun k hk => hk)) (fun k hk => Nat.lt_of_lt_of_le hk hh.size)).mono ?_); rintro e w' ⟨rfl, hb9⟩; have hS2 := K.out _ (hh.trans (hb9.mono hh.size))) | ((with_reducible refine (LB.out _ p2 n2 q2 (fun k => k < w2.heap.size) (VB.out.below hh (fun k hk => hk)) (fun k hk => Nat.lt_of_lt_of_le hk hh.size)).mono ?_); rintro e w' ⟨rfl, hb9⟩; have hS2 := K.out _ (hh.trans (hb9.mono hh.size)))))
         all_goals
          go_wp2_with fail
          go_ret3
          exact ⟨by rw [HR.out]; rfl, fin_belowS HW2.out (by assumption)⟩
theorem Z6y : ∀ (ts : List Tr) (t : Tr), Xn (ts ++ [t]) = if ts = [] then t.text else Xn ts ++ 32 :: t.text
 | [], t => by simp [Xn]
 | [a], t => by simp [Xn]
 | a :: b :: ts, t => by
   have ih := Z6y (b :: ts) t
   simp only [List.cons_append, Xn] at ih ⊢
   rw [ih]; simp
def pre (ts : List Tr) (k : Nat) : List UInt8 := if k = 0 then [] else 40 :: Xn (ts.take k)
theorem pre_succ (ts : List Tr) (k : Nat) (h : k < ts.length) : pre ts (k + 1) = pre ts k ++ (if k = 0 then 40 else 32) :: ts[k].text := by
 unfold pre
 rw [if_neg (by omega), Ki _ _ h, Z6y]
 by_cases hk : k = 0
 · subst hk; simp
 · rw [if_neg hk, if_neg hk, if_neg (by intro e; rcases List.take_eq_nil_iff.1 e with h1 | h1; exact hk h1; subst h1; simp at h)]; simp
theorem pre_end (ts : List Tr) (h : ts ≠ []) : pre ts ts.length ++ [41] = (Tr.list ts).text := by
 unfold pre
 rw [if_neg (by intro e; exact h (List.eq_nil_of_length_eq_zero e)), List.take_length]; simp [Tr.text]
theorem wfs_take {ts : List Tr} (h : wfs ts) (k : Nat) : wfs (ts.take k) := by
 induction ts generalizing k with
 | nil => simp [wfs]
 | cons a ts ih => cases k with
   | zero => simp [wfs]
   | succ k => exact ⟨h.1, ih h.2 k⟩
theorem pre_length (ts : List Tr) (k : Nat) (hw : wfs ts) (hk : k ≤ ts.length) : (pre ts k).length ≤ Zi ts := by
 unfold pre
 by_cases h : k = 0
 · rw [if_pos h]; exact Nat.zero_le _
 · rw [if_neg h]
   have h1 := Z04 (ts.take k) (wfs_take hw k) (by intro e; rcases List.take_eq_nil_iff.1 e with h1 | h1; exact h h1; subst h1; simp at hk; exact h hk)
   have h2 := Jt ts k
   simp only [List.length_cons]; omega
theorem others_blk {w w' : World} {b k : Nat} {cs : Array Value} {T : TypeId} (h : Lib.OthersKept 5 (some b) w w') (hk : w.heap[k]? = some (.cells cs T (0, 0))) (hT : T ≠ 5) (hb : k ≠ b) : w'.heap[k]? = some (.cells cs T (0, 0)) :=
 h k _ hk (by simpa using hb) (fun c fz e => by simp only [Obj.cells.injEq] at e; exact hT e.2.1)
theorem Bld.alloc {B b : Nat} {l : List UInt8} {w : World} (h : Bld B b l w) (o : Obj) : Bld B b l (w.alloc o) := by
 obtain ⟨hB, v, hb, hown, hne⟩ := h
 exact ⟨hB, v, Z8 hb, hown.alloc o, hne⟩
theorem Bld.lt {B b : Nat} {l : List UInt8} {w : World} (h : Bld B b l w) : B ≤ b ∧ b < w.heap.size := by
 obtain ⟨hB, v, hb, _⟩ := h
 exact ⟨hB, lt_of_block hb⟩
theorem Bld.below {B b : Nat} {l : List UInt8} {w w' : World} (h : Bld B b l w) (hb : Below w.heap.size w w') : Bld B b l w' := by
 obtain ⟨hB, v, hb', hown, hne⟩ := h
 exact ⟨hB, v, Z2 hb (lt_of_block hb') hb', hown.kept (row := none) ⟨hb.os, hb.tape, hb.output, hb.size, fun k hk _ => hb.block k hk⟩ (by cases Value.ownBlock v <;> simp), hne⟩
theorem Z4p {w w' : World} (hb : Below w.heap.size w w') (e : TypeId) (b : Option Nat) : Lib.OthersKept e b w w' := by
 intro k o hk _ _
 rw [hb.block k (lt_of_block hk)]; exact hk
def WriteC (n : Nat) : Prop := ∀ (t : Tr) (p : Option Addr) (m c : Nat) (ok : Nat → Prop) (l : List UInt8) (B b : Nat) (w : World), t.depth < n → t.wf → FV nI w ok t (nI t (.slice p m c)) → (∀ k, ok k → k < B) → Bld B b l w → l.length + t.bytes ≤ 100000000000 →
    Calls prog 86 #[.agg #[.string (bs (Z1 t)), .slice p m c, .int .i64 t.bytes, .int .i64 t.size, .int .i64 t.depth], .pointer (some ⟨b, 0, none⟩)] w fun e w' => e = .returned (.tuple #[]) ∧ Bld B b (l ++ t.text) w' ∧ Below B w w' ∧ Lib.OthersKept 5 (some b) w w'
theorem write_atom (n : Nat) (a : List UInt8) (p : Option Addr) (m c : Nat) (ok : Nat → Prop) (l : List UInt8) (B b : Nat) (w : World) (hv : FV nI w ok (.atom a) (nI (.atom a) (.slice p m c))) (hB : Bld B b l w) (hl : l.length + (Tr.atom a).bytes ≤ 100000000000) :
 Calls prog 86 #[.agg #[.string (bs a), .slice p m c, .int .i64 (Tr.atom a).bytes, .int .i64 (Tr.atom a).size, .int .i64 (Tr.atom a).depth], .pointer (some ⟨b, 0, none⟩)] w fun e w' => e = .returned (.tuple #[]) ∧ Bld B b (l ++ (Tr.atom a).text) w' ∧ Below B w w' ∧ Lib.OthersKept 5 (some b) w w' := by
 simp only [FV] at hv
 have hh := Z45 _ _ _ hv
 simp only [Value.slice.injEq] at hh
 obtain ⟨rfl, rfl, rfl⟩ := hh
 clear hv
 have hlt := hB.lt
 simp only [Tr.bytes] at hl
 have HB := H_ hB
 clear hB
 go_enter func86, ntmps86
 go_wp2_with (first | (go_at_call 116; go_must (refine (Z48 _ _ _ _ _ _ _).mono ?_; rintro e w1 ⟨rfl, hb1⟩; have c1 := Z2 hb1 (by simp) (heap_alloc_new _ _); have d0 := Z4 (j := 0) c1; have hw1 := H_ ((Z5 w _).trans (hb1.mono (by simp))); have hs1 := hb1.size)) | (go_at_call 135; go_must (refine (WriteString_c B b l a w1 (HB.out.below hw1.out) (by omega) (by simp at hs1; omega)).mono ?_; rintro e w2 ⟨rfl, hB2, hb2, ho2⟩)))
 exact bodyPost_ret (v := .tuple #[]) (by simp [results, results86, go_sem]) rfl ⟨rfl, by simpa [Tr.text] using hB2, (hw1.out.mono (by omega)).trans hb2, (Z4p hw1.out _ _).trans ho2⟩
theorem write_list (n : Nat) (ih : WriteC n) (ts : List Tr) (p : Option Addr) (m c : Nat) (ok : Nat → Prop) (l : List UInt8) (B b : Nat) (w : World) (hd : (Tr.list ts).depth < n + 1) (hwf : (Tr.list ts).wf) (hv : FV nI w ok (.list ts) (nI (.list ts) (.slice p m c))) (hok : ∀ k, ok k → k < B) (hB : Bld B b l w) (hl : l.length + (Tr.list ts).bytes ≤ 100000000000) :
 Calls prog 86 #[.agg #[.string (bs []), .slice p m c, .int .i64 (Tr.list ts).bytes, .int .i64 (Tr.list ts).size, .int .i64 (Tr.list ts).depth], .pointer (some ⟨b, 0, none⟩)] w fun e w' => e = .returned (.tuple #[]) ∧ Bld B b (l ++ (Tr.list ts).text) w' ∧ Below B w w' ∧ Lib.OthersKept 5 (some b) w w' := by
 simp only [FV] at hv
 obtain ⟨r, off, cap, xs, hh, h2, h3, h4, h5, h6⟩ := hv
 have hh := Z45 _ _ _ hh
 simp only [Value.slice.injEq] at hh
 obtain ⟨rfl, rfl, rfl⟩ := hh
 have h3' := Yl h4
 have hrlt := hok r h2
 have hlt := hB.lt
 have hne : ts.length ≠ 0 := by intro e; exact hwf.1 (List.eq_nil_of_length_eq_zero e)
 have hlen := Xi ts
 have hE := H_ (pre_end ts hwf.1)
 have HB := H_ hB
 have HW := H_ hwf.2
 have HL : Hid (∀ k, k ≤ ts.length → (pre ts k).length ≤ Zi ts) := H_ (fun k hk => pre_length ts k hwf.2 hk)
 have IH := H_ ih
 simp only [Tr.bytes] at hl
 clear hB ih hwf
 go_enter func86, ntmps86
 go_wp2_with (go_at_call 116; go_must (refine (Jy _ _ _ _ hne _ _ _ _).mono ?_; rintro e w1 ⟨rfl, hb1⟩; have c1 := Z2 hb1 (by simp) (heap_alloc_new _ _); have d1 := Z4 (j := 1) c1; have hw1 := H_ ((Z5 w _).trans (hb1.mono (by simp))); have hs1 := hb1.size))
 clear c1 d1 hb1
 go_loopg [4, 16] ts.length (fun q v i wr => ∃ (k : Nat) (a : UInt8), q + k = ts.length ∧ i = .int .i64 k ∧ v = .int .u8 a.toNat ∧ Hid (a = if k = 0 then 40 else 32) ∧ Hid (Bld B b (l ++ pre ts k) wr) ∧ Hid (Below B w wr) ∧ Hid (Lib.OthersKept 5 (some b) w wr) ∧ w.heap.size ≤ wr.heap.size)
 case atStart => exact ⟨0, 40, by omega, rfl, rfl, H_ rfl, H_ (by simpa [pre] using HB.out.below hw1.out), H_ (hw1.out.mono (by omega)), H_ (Z4p hw1.out _ _), by simp at hs1; omega⟩
 case round =>
  obtain ⟨k, a, hq, rfl, rfl, ha, hBr, hbr, hor, hsz⟩ := hrel
  by_cases hk : k < ts.length
  · obtain ⟨cs, q1, q2⟩ := FVs.get Z44 h6 h5 k hk
    obtain ⟨pp, pn, pc, rfl⟩ := q1.node
    have e0 : wr.cell? ⟨r, off + k * 5, none⟩ = some (.string (bs (Z1 ts[k]))) := by rw [hbr.out.cell (by exact hrlt)]; exact q2 0 _ rfl
    have e1 : wr.cell? ⟨r, off + k * 5 + 1, none⟩ = some (.slice pp pn pc) := by rw [hbr.out.cell (by exact hrlt)]; exact q2 1 _ rfl
    have e2 : wr.cell? ⟨r, off + k * 5 + 2, none⟩ = some (.int .i64 ts[k].bytes) := by rw [hbr.out.cell (by exact hrlt)]; exact q2 2 _ rfl
    have e3 : wr.cell? ⟨r, off + k * 5 + 3, none⟩ = some (.int .i64 ts[k].size) := by rw [hbr.out.cell (by exact hrlt)]; exact q2 3 _ rfl
    have e4 : wr.cell? ⟨r, off + k * 5 + 4, none⟩ = some (.int .i64 ts[k].depth) := by rw [hbr.out.cell (by exact hrlt)]; exact q2 4 _ rfl
    have hp1 := HL.out k (by omega)
    have hp2 := HL.out (k + 1) (by omega)
    have hPS := H_ (pre_succ ts k hk)
    have hdk : ts[k].depth < n := by have := Xk hk; omega
    have hwk := H_ (Ji HW.out hk)
    have hlk : (l ++ pre ts k).length + 1 ≤ 140737488355328 := by simp; omega
    have hlk2 : (l ++ pre ts k ++ [a]).length + ts[k].bytes ≤ 100000000000 := by
     have h1 := congrArg List.length hPS.out
     simp only [List.length_append, List.length_cons, Y4 _ hwk.out] at h1 ⊢
     simp; omega
    have hBB : b ≠ wr.heap.size := by have := hBr.out.lt; omega
    have hBw : B ≤ wr.heap.size := by omega
    clear hp1 hp2
    go_wp2_with (first | (go_at_call 136; go_must (refine (Z69 B b _ a _ rfl _ (hBr.out.alloc _) hlk (by simp; omega)).mono ?_; rintro e w2 ⟨rfl, hB2, hb2, ho2⟩; have y0 := others_blk ho2 (heap_alloc_new _ _) (by decide) (by omega); obtain ⟨z0, z1, z2, z3, z4⟩ := Yo y0; have hs2 := hb2.size)) | (go_at_call 86; go_must (refine (IH.out ts[k] pp pn pc ok (l ++ pre ts k ++ [a]) B b w2 hdk hwk.out (FV.below q1 (hbr.out.trans (((Below.refl B wr).alloc (by omega) _).trans hb2)) hok) hok hB2 hlk2).mono ?_; rintro e w3 ⟨rfl, hB3, hb3, ho3⟩)))
    go_roundg (gk - 1)
    case measure => omega
    case rel =>
     refine ⟨k + 1, 32, by omega, by go_num, rfl, H_ (by rw [if_neg (by omega)]), H_ ?_, H_ (((hbr.out.alloc (by omega) _).trans hb2).trans hb3), H_ (((hor.out.alloc _).trans ho2).trans ho3), ?_⟩
     · rw [hPS.out, ← ha.out]; simpa using hB3
     · have := hb3.size; simp at hs2; omega
  · have : k = ts.length := by omega
    subst this
    have hp1 := HL.out ts.length (by omega)
    have hlk : (l ++ pre ts ts.length).length + 1 ≤ 140737488355328 := by simp; omega
    have hBw : B ≤ wr.heap.size := by omega
    go_wp2_with (go_at_call 136; go_must (refine (Z69 B b _ 41 _ rfl _ hBr.out hlk hBw).mono ?_; rintro e w2 ⟨rfl, hB2, hb2, ho2⟩))
    go_end0
    refine ⟨rfl, ?_, hbr.out.trans hb2, hor.out.trans ho2⟩
    rw [← hE.out, ← List.append_assoc]; exact hB2
theorem write_all : ∀ n, WriteC n
 | 0 => fun t _ _ _ _ _ _ _ _ h => by omega
 | n + 1 => fun t p m c ok l B b w hd hwf hv hok hB hl => by
   match t with
   | .atom a => exact write_atom n a p m c ok l B b w hv hB hl
   | .list ts => exact write_list n (write_all n) ts p m c ok l B b w hd hwf hv hok hB hl
theorem text_c (t : Tr) (p : Option Addr) (m c : Nat) (ok : Nat → Prop) (w : World) (hwf : t.wf) (hb : t.bytes ≤ 100000000000) (hv : FV nI w ok t (nI t (.slice p m c))) (hok : ∀ k, ok k → k < w.heap.size) :
 Calls prog 45 #[.agg #[.string (bs (Z1 t)), .slice p m c, .int .i64 t.bytes, .int .i64 t.size, .int .i64 t.depth]] w fun e w' => e = .returned (.string (bs t.text)) ∧ Below w.heap.size w w' := by
 have HW : Hid (∀ (W : World) (B b : Nat), Below w.heap.size w W → w.heap.size ≤ B → Bld B b [] W → Calls prog 86 #[.agg #[.string (bs (Z1 t)), .slice p m c, .int .i64 t.bytes, .int .i64 t.size, .int .i64 t.depth], .pointer (some ⟨b, 0, none⟩)] W fun e w' => e = .returned (.tuple #[]) ∧ Bld B b t.text w' ∧ Below B W w') :=
  H_ (fun W B b h1 h2 h3 => (write_all (t.depth + 1) t p m c ok [] B b W (by omega) hwf (hv.below h1 hok) (fun k hk => Nat.lt_of_lt_of_le (hok k hk) h2) h3 (by simpa using hb)).mono fun e w' ⟨k1, k2, k3, _⟩ => ⟨k1, by simpa using k2, k3⟩)
 have hs := (Q9 t hwf)
 have hd := Z4z t hwf
 clear hv hwf
 go_enter func45, ntmps45
 go_wp2_with (first | (go_at_call 85; go_must (refine (Tryz.Builder_Grow_fresh (w.heap.size + 1) (w.heap.size + 1) t.bytes _ (Nat.le_refl _) (Za _ _ _) (by simp) (by omega)).mono ?_; rintro e w1 ⟨rfl, hB1, hb1⟩; have c1 := Z2 hb1 (by omega) (Z8 (heap_alloc_new _ _)); obtain ⟨z0, z1, z2, z3, z4⟩ := Yo c1; have hw1 := H_ ((Zl w _ _).trans (hb1.mono (by omega))); have hs1 := hb1.size)) | (go_at_call 86; go_must (refine (HW.out w1 (w.heap.size + 1) (w.heap.size + 1) hw1.out (by omega) (Lib.BuilderAtF.of hB1)).mono ?_; rintro e w2 ⟨rfl, hB2, hb2⟩)) | (go_at_call 87; go_must (refine (Tryz.Builder_String_any_f (w.heap.size + 1) (w.heap.size + 1) t.text _ (.inr hB2) (by have := hB2.lt; omega)).mono ?_; rintro e w3 ⟨rfl, _, hb3⟩)))
 go_ret
 exact ⟨rfl, hw1.out.trans ((hb2.mono (by omega)).trans (hb3.mono (by omega)))⟩
end Go.Proofs.YtjaaalojcdbcpaaGreatDoor
namespace Go.Proofs.YtjaaalojcdbcpaaGreatDoor
open Go.RowKit Go.Maps Go.Proofs.Tryz
set_option maxRecDepth 8000
set_option maxHeartbeats 20000000
set_option linter.unusedVariables false
set_option linter.unusedSimpArgs false
def Z0y (w : World) (b : Nat) (l : List (List UInt8)) (D : DataW Unit) : Prop :=
 w.ownsMap prog 9 (plainElem prog 4) b l.length D ∧ IsMap D ∧ ∀ x : List UInt8, D.atKey (.string x) (.lit (.bool false)) = .lit (.bool (decide (x ∈ l)))
theorem Z0y.made (w : World) : Z0y (w.alloc (.map #[] 0)) w.heap.size [] (.map []) :=
 ⟨World.ownsMap_made _ _ _ _, isMap_empty, fun x => rfl⟩
theorem Z0y.lt {w : World} {b : Nat} {l : List (List UInt8)} {D : DataW Unit} (h : Z0y w b l D) : b < w.heap.size := h.1.lt
theorem Z0y.kept {w w' : World} {b : Nat} {l : List (List UInt8)} {D : DataW Unit} {row : Option Nat} (h : Z0y w b l D) (hg : w.grownBy w' row) (hne : some b ≠ row) : Z0y w' b l D := ⟨h.1.kept hg hne, h.2⟩
theorem gB_below6 {a b : World} (h : Below a.heap.size a b) (row : Option Nat) : a.grownBy b row := ⟨h.os, h.tape, h.output, h.size, fun i hi _ => h.block i hi⟩
theorem Z0y.below {w w' : World} {b : Nat} {l : List (List UInt8)} {D : DataW Unit} (h : Z0y w b l D) (hb : Below w.heap.size w w') : Z0y w' b l D := h.kept (gB_below6 hb none) (by simp)
theorem Z0y.add {w : World} {b : Nat} {l : List (List UInt8)} {D : DataW Unit} (h : Z0y w b l D) (x : List UInt8) {w' : World} (k : w'.ownsMap prog 9 (plainElem prog 4) b (l.length + 1) (D.put (.string x) (.lit (.bool true)))) : Z0y w' b (l ++ [x]) (D.put (.string x) (.lit (.bool true))) := by
 refine ⟨by simpa using k, h.2.1.put _ _, fun y => ?_⟩
 by_cases e : y = x
 · subst e
   rw [atKey_put_same h.2.1 (by trivial)]
   simp
 · rw [atKey_put_other (by intro q; simp only [Lit.string.injEq] at q; exact e q), h.2.2 y]
   simp [e]
structure Two (w w' : World) (row : Option Nat) (b : Nat) : Prop where
 os : w'.os = w.os
 tape : w'.tape = w.tape
 output : w'.output = w.output
 size : w.heap.size ≤ w'.heap.size
 block : ∀ i, i < w.heap.size → row ≠ some i → i ≠ b → w'.heap[i]? = w.heap[i]?
theorem Two.of {w w' : World} {row : Option Nat} (h : w.grownBy w' row) (b : Nat) : Two w w' row b := ⟨h.os, h.tape, h.output, h.size, fun i hi hne _ => h.block i hi (fun e => hne e.symm)⟩
theorem Two.below {w w' : World} (h : Below w.heap.size w w') (row : Option Nat) (b : Nat) : Two w w' row b := Two.of (gB_below6 h row) b
theorem Two.trans {a c d : World} {row : Option Nat} {b : Nat} (h : Two a c row b) (k : Two c d row b) : Two a d row b :=
 ⟨k.os.trans h.os, k.tape.trans h.tape, k.output.trans h.output, Nat.le_trans h.size k.size, fun i hi h1 h2 => (k.block i (Nat.lt_of_lt_of_le hi h.size) h1 h2).trans (h.block i hi h1 h2)⟩
theorem Two.next {a c d : World} {v v' : Value} {b : Nat} (h : Two a c v.ownBlock b) (hv : v'.ownBlock = v.ownBlock ∨ ∀ q, v'.ownBlock = some q → a.heap.size ≤ q) (k : Two c d v'.ownBlock b) : Two a d v.ownBlock b :=
 ⟨k.os.trans h.os, k.tape.trans h.tape, k.output.trans h.output, Nat.le_trans h.size k.size, fun i hi h1 h2 => (k.block i (Nat.lt_of_lt_of_le hi h.size) (by
   rcases hv with hv | hv
   · rw [hv]; exact h1
   · intro e; have := hv i e; omega) h2).trans (h.block i hi h1 h2)⟩
end Go.Proofs.YtjaaalojcdbcpaaGreatDoor
namespace Go.Proofs.YtjaaalojcdbcpaaGreatDoor
open Go.RowKit Go.Maps Go.WideMaps Go.Proofs.Tryz
set_option maxRecDepth 8000
set_option maxHeartbeats 20000000
set_option linter.unusedVariables false
set_option linter.unusedSimpArgs false
def AtPostI (B N b : Nat) (v : Value) (l' : List (List UInt8)) (w : World) (e : Ending) (w' : World) : Prop :=
 ∃ v' D', e = .returned v' ∧ w'.ownsRow B 9 1 v' l'.length (l'.map Y3) ∧ Z0y w' b l' D' ∧ Two w w' v.ownBlock b ∧ (v'.ownBlock = v.ownBlock ∨ ∀ q, v'.ownBlock = some q → N ≤ q)
theorem fv_twoA {nd : Tr → Value → List Value} {w1 : World} {N : Nat} {t : Tr} {cs : List Value} (hv : FV nd w1 (fun k => N ≤ k ∧ k < w1.heap.size) t cs) (o o' : Obj) : FV nd ((w1.alloc o).alloc o') (fun k => k < w1.heap.size) t cs :=
 FV.wide (hv.below (((Below.refl w1.heap.size w1).alloc (Nat.le_refl _) o).alloc (by simp) o') (fun k hk => hk.2)) (fun k hk => hk.2)
theorem le_two (w1 : World) (o o' : Obj) : w1.heap.size ≤ ((w1.alloc o).alloc o').heap.size := by simp; omega
theorem made_rowA (w1 : World) (o : Obj) : ((w1.alloc o).alloc (.cells #[] 9)).ownsRow w1.heap.size 9 1 (.slice (some ⟨w1.heap.size + 1, 0, none⟩) 0 0) 0 [] := by
 have := World.ownsRow_made (w1.alloc o) #[] 0 (base := w1.heap.size) (e := 9) (size := 1) (by simp) (by decide) rfl
 simpa using this
theorem Z6c (s : ByteArray) (hs : s.size ≤ 1048576) (w : World) :
 Calls prog 73 #[.string s] w fun e w' => Z5m w.heap.size (Z08 s.data.toList) e w' ∧ Below w.heap.size w w' := by
 cases hp : Zt s.data.toList with
 | none =>
   have C := H_ (Z1n hs hp)
   have HP := H_ (atomsOf_none hp)
   clear hp
   go_enter func73, ntmps73
   go_wp2_with (go_at_call 64; go_must (refine (C.out _).mono ?_; rintro e w1 ⟨⟨a, p, n, c, rfl, hn⟩, hb1⟩; have hn' := Yl hn))
   go_ret2
   exact ⟨⟨_, by rw [HP.out]; rfl, by rw [HP.out]; exact made_none hb1⟩, (hb1.alloc hb1.size _).alloc (by have := hb1.size; simp; omega) _⟩
 | some t =>
   have C := H_ (Je hs hp)
   have hg := Yk hp
   have HP := H_ (atomsOf_some hp)
   have hsz := (Q9 t hg.1).1
   have hb := hg.2.1
   have HA : Hid (∀ (W : World) (p : Option Addr) (n c : Nat) (B : Nat) (v : Value), FV nS W (fun k => k < B) t (nS t (.slice p n c)) → B ≤ W.heap.size → W.ownsRow B 9 1 v 0 [] → Calls prog 124 #[.agg #[.string (bs (Z1 t)), .slice p n c], v] W fun e w' => Z0q B W.heap.size v (Xu t []) W e w') :=
    H_ (fun W p n c B v h1 h2 h3 => Z5y (t.depth + 1) t _ B [] v W (by omega) hg.1 (by simp; omega) h1 h2 h3)
   clear hp hg hsz hb
   go_enter func73, ntmps73
   go_wp2_with (first | (go_at_call 64; go_must (refine (C.out _).mono ?_; rintro e w1 ⟨⟨p, n, c, rfl, hv⟩, hb1⟩; have CA := H_ (fun o => HA.out ((w1.alloc o).alloc (.cells #[] 9)) p n c w1.heap.size (.slice (some ⟨w1.heap.size + 1, 0, none⟩) 0 0) (fv_twoA hv o _) (le_two w1 o _) (made_rowA w1 o)))) | (go_at_call 124; go_must (refine (CA.out _).mono ?_; rintro e w2 ⟨v2, rfl, ho2, hg2, hvv2⟩)))
   go_ret2
   have hs1 := hb1.size
   refine ⟨⟨_, by rw [HP.out]; rfl, by rw [HP.out]; exact Vf ho2 hs1⟩, ?_⟩
   exact (((hb1.alloc hs1 _).alloc (by simp; omega) _).grown hg2 (by simp; omega) (fun q hq => by simp [Value.ownBlock] at hq; omega))
end Go.Proofs.YtjaaalojcdbcpaaGreatDoor
