/- The program's orders. The program reads types; its answers that are numbers and bools. The program writes a form as a text. The program's text of a form. -/
import Derived.Test.YtjaaalojcdbcpaaGreatDoorpI1y
import Derived.Deep.RegionHeld3
import Derived.Test.YtjaaalojcdbcpaaGreatDoorpBuild
set_option maxHeartbeats 20000000
set_option linter.unusedVariables false
set_option linter.unusedSimpArgs false
namespace Go.Proofs.YtjaaalojcdbcpaaGreatDoor
open Go.RowKit Go.Proofs.Tryz
set_option maxRecDepth 8000
theorem readForm_none {s : ByteArray} (hs : s.size ≤ 1048576) (hp : Yt s.data.toList = none) (W : World) : Calls prog 40 #[.string s] W fun e w' => e = .returned (.tuple #[.agg #[.string ⟨#[]⟩, .slice none 0 0, .int .i64 0, .int .i64 0, .int .i64 0], .bool false]) ∧ Below W.heap.size W w' :=
 (Z2f s hs W).mono fun e w' ⟨h1, h2⟩ => ⟨by rw [hp] at h1; exact h1, h2⟩
theorem readForm_some {s : ByteArray} (hs : s.size ≤ 1048576) {t : Tr} (hp : Yt s.data.toList = some t) (W : World) : Calls prog 40 #[.string s] W fun e w' => (∃ p n c, e = .returned (.tuple #[.agg #[.string (bs (Z1 t)), .slice p n c, .int .i64 t.bytes, .int .i64 t.size, .int .i64 t.depth], .bool true]) ∧ FV nI w' (fun k => W.heap.size ≤ k ∧ k < w'.heap.size) t (nI t (.slice p n c))) ∧ Below W.heap.size W w' :=
 (Z2f s hs W).mono fun e w' ⟨h1, h2⟩ => ⟨by rw [hp] at h1; exact h1, h2⟩
def TyPost (B : Nat) (res : Option Tr) (e : Ending) (w' : World) : Prop :=
 match res with
 | none => e = .returned (.tuple #[.agg #[.string ⟨#[]⟩, .slice none 0 0, .int .i64 0, .int .i64 0, .int .i64 0], .bool false])
 | some t => ∃ p n c, e = .returned (.tuple #[.agg #[.string (bs (Z1 t)), .slice p n c, .int .i64 t.bytes, .int .i64 t.size, .int .i64 t.depth], .bool true]) ∧ FV nI w' (fun k => B ≤ k ∧ k < w'.heap.size) t (nI t (.slice p n c))
theorem Kz (t : Tr) (p : Option Addr) (n c : Nat) (ok : Nat → Prop) (w : World) (hwf : t.wf) (hsz : t.size ≤ 1000000000) (hv : FV nI w ok t (nI t (.slice p n c))) (hok : ∀ k, ok k → k < w.heap.size) :
 Calls prog 129 #[.agg #[.string (bs (Z1 t)), .slice p n c, .int .i64 t.bytes, .int .i64 t.size, .int .i64 t.depth]] w fun e w' => e = .returned (.bool (Xs t && decide (t.size ≤ 16))) ∧ Below w.heap.size w w' := by
 have T : Hid (Calls prog 155 #[.agg #[.string (bs (Z1 t)), .slice p n c, .int .i64 t.bytes, .int .i64 t.size, .int .i64 t.depth]] (w.alloc (.cells #[.string (bs (Z1 t)), .slice p n c, .int .i64 t.bytes, .int .i64 t.size, .int .i64 t.depth] 65)) fun e w' => e = .returned (.bool (Xs t)) ∧ Below (w.heap.size + 1) (w.alloc (.cells #[.string (bs (Z1 t)), .slice p n c, .int .i64 t.bytes, .int .i64 t.size, .int .i64 t.depth] 65)) w') :=
  H_ ((Z2q (t.depth + 1) t p n c ok _ (by omega) hwf (hv.below (Z5 w _) hok) (fun k hk => by have := hok k hk; simp; omega)).mono fun e w' ⟨h1, h2⟩ => ⟨h1, by simpa using h2⟩)
 by_cases h16 : t.size ≤ 16
 · have hd : decide ((t.size : Int) ≤ 16) = true := by simp; omega
   have HF : Hid ((Xs t && decide (t.size ≤ 16)) = Xs t) := H_ (by simp [h16])
   clear hv
   go_enter func129, ntmps129
   go_wp2_with (go_at_call 155; go_must (refine T.out.mono ?_; rintro e w2 ⟨rfl, hb2⟩))
   go_ret
   exact ⟨by rw [HF.out]; rfl, (Z5 w _).trans (hb2.mono (by omega))⟩
 · have hd : decide ((t.size : Int) ≤ 16) = false := by simp; omega
   have HF : Hid ((Xs t && decide (t.size ≤ 16)) = false) := H_ (by simp; omega)
   clear hv T
   go_enter func129, ntmps129
   go_wp2_with fail
   go_ret
   exact ⟨by rw [HF.out]; rfl, Z5 w _⟩
theorem Z2d : ∀ (ts : List Tr) (t : Tr), X8 (ts ++ [t]) = if ts = [] then t.text else X8 ts ++ 32 :: t.text
 | [], t => by simp [X8]
 | [a], t => by simp [X8]
 | a :: b :: ts, t => by
   have ih := Z2d (b :: ts) t
   simp only [List.cons_append, X8] at ih ⊢
   rw [ih]; simp
def pre (ts : List Tr) (k : Nat) : List UInt8 := if k = 0 then [] else 40 :: X8 (ts.take k)
theorem pre_succ (ts : List Tr) (k : Nat) (h : k < ts.length) : pre ts (k + 1) = pre ts k ++ (if k = 0 then 40 else 32) :: ts[k].text := by
 unfold pre
 rw [if_neg (by omega), Jv _ _ h, Z2d]
 by_cases hk : k = 0
 · subst hk; simp
 · rw [if_neg hk, if_neg hk, if_neg (by intro e; rcases List.take_eq_nil_iff.1 e with h1 | h1; exact hk h1; subst h1; simp at h)]; simp
theorem pre_end (ts : List Tr) (h : ts ≠ []) : pre ts ts.length ++ [41] = (Tr.list ts).text := by
 unfold pre
 rw [if_neg (by intro e; exact h (List.eq_nil_of_length_eq_zero e)), List.take_length]; simp [Tr.text]
theorem wfs_take {ts : List Tr} (h : wfs ts) (k : Nat) : wfs (ts.take k) := by
 induction ts generalizing k with
 | nil => simp [wfs]
 | cons a ts ih => cases k with
   | zero => simp [wfs]
   | succ k => exact ⟨h.1, ih h.2 k⟩
theorem pre_length (ts : List Tr) (k : Nat) (hw : wfs ts) (hk : k ≤ ts.length) : (pre ts k).length ≤ Zk ts := by
 unfold pre
 by_cases h : k = 0
 · rw [if_pos h]; exact Nat.zero_le _
 · rw [if_neg h]
   have h1 := Js (ts.take k) (wfs_take hw k) (by intro e; rcases List.take_eq_nil_iff.1 e with h1 | h1; exact h h1; subst h1; simp at hk; exact h hk)
   have h2 := Qi ts k
   simp only [List.length_cons]; omega
theorem others_blk {w w' : World} {b k : Nat} {cs : Array Value} {T : TypeId} (h : Lib.OthersKept 5 (some b) w w') (hk : w.heap[k]? = some (.cells cs T (0, 0))) (hT : T ≠ 5) (hb : k ≠ b) : w'.heap[k]? = some (.cells cs T (0, 0)) :=
 h k _ hk (by simpa using hb) (fun c fz e => by simp only [Obj.cells.injEq] at e; exact hT e.2.1)
theorem Bld.alloc {B b : Nat} {l : List UInt8} {w : World} (h : Bld B b l w) (o : Obj) : Bld B b l (w.alloc o) := by
 obtain ⟨hB, v, hb, hown, hne⟩ := h
 exact ⟨hB, v, Zc hb, hown.alloc o, hne⟩
theorem Bld.lt {B b : Nat} {l : List UInt8} {w : World} (h : Bld B b l w) : B ≤ b ∧ b < w.heap.size := by
 obtain ⟨hB, v, hb, _⟩ := h
 exact ⟨hB, lt_of_block hb⟩
theorem Bld.below {B b : Nat} {l : List UInt8} {w w' : World} (h : Bld B b l w) (hb : Below w.heap.size w w') : Bld B b l w' := by
 obtain ⟨hB, v, hb', hown, hne⟩ := h
 exact ⟨hB, v, Z3 hb (lt_of_block hb') hb', hown.kept (row := none) ⟨hb.os, hb.tape, hb.output, hb.size, fun k hk _ => hb.block k hk⟩ (by cases Value.ownBlock v <;> simp), hne⟩
theorem Z0s {w w' : World} (hb : Below w.heap.size w w') (e : TypeId) (b : Option Nat) : Lib.OthersKept e b w w' := by
 intro k o hk _ _
 rw [hb.block k (lt_of_block hk)]; exact hk
def WriteC (n : Nat) : Prop := ∀ (t : Tr) (p : Option Addr) (m c : Nat) (ok : Nat → Prop) (l : List UInt8) (B b : Nat) (w : World), t.depth < n → t.wf → FV nI w ok t (nI t (.slice p m c)) → (∀ k, ok k → k < B) → Bld B b l w → l.length + t.bytes ≤ 100000000000 →
    Calls prog 86 #[.agg #[.string (bs (Z1 t)), .slice p m c, .int .i64 t.bytes, .int .i64 t.size, .int .i64 t.depth], .pointer (some ⟨b, 0, none⟩)] w fun e w' => e = .returned (.tuple #[]) ∧ Bld B b (l ++ t.text) w' ∧ Below B w w' ∧ Lib.OthersKept 5 (some b) w w'
theorem write_atom (n : Nat) (a : List UInt8) (p : Option Addr) (m c : Nat) (ok : Nat → Prop) (l : List UInt8) (B b : Nat) (w : World) (hv : FV nI w ok (.atom a) (nI (.atom a) (.slice p m c))) (hB : Bld B b l w) (hl : l.length + (Tr.atom a).bytes ≤ 100000000000) :
 Calls prog 86 #[.agg #[.string (bs a), .slice p m c, .int .i64 (Tr.atom a).bytes, .int .i64 (Tr.atom a).size, .int .i64 (Tr.atom a).depth], .pointer (some ⟨b, 0, none⟩)] w fun e w' => e = .returned (.tuple #[]) ∧ Bld B b (l ++ (Tr.atom a).text) w' ∧ Below B w w' ∧ Lib.OthersKept 5 (some b) w w' := by
 simp only [FV] at hv
 have hh := Z0h _ _ _ hv
 simp only [Value.slice.injEq] at hh
 obtain ⟨rfl, rfl, rfl⟩ := hh
 clear hv
 have hlt := hB.lt
 simp only [Tr.bytes] at hl
 have HB := H_ hB
 clear hB
 go_enter func86, ntmps86
 go_wp2_with (first | (go_at_call 116; go_must (refine (Z0k _ _ _ _ _ _ _).mono ?_; rintro e w1 ⟨rfl, hb1⟩; have c1 := Z3 hb1 (by simp) (heap_alloc_new _ _); have d0 := Z8 (j := 0) c1; have hw1 := H_ ((Z5 w _).trans (hb1.mono (by simp))); have hs1 := hb1.size)) | (go_at_call 135; go_must (refine (WriteString_c B b l a w1 (HB.out.below hw1.out) (by omega) (by simp at hs1; omega)).mono ?_; rintro e w2 ⟨rfl, hB2, hb2, ho2⟩)))
 exact bodyPost_ret (v := .tuple #[]) (by simp [results, results86, go_sem]) rfl ⟨rfl, by simpa [Tr.text] using hB2, (hw1.out.mono (by omega)).trans hb2, (Z0s hw1.out _ _).trans ho2⟩
theorem write_list (n : Nat) (ih : WriteC n) (ts : List Tr) (p : Option Addr) (m c : Nat) (ok : Nat → Prop) (l : List UInt8) (B b : Nat) (w : World) (hd : (Tr.list ts).depth < n + 1) (hwf : (Tr.list ts).wf) (hv : FV nI w ok (.list ts) (nI (.list ts) (.slice p m c))) (hok : ∀ k, ok k → k < B) (hB : Bld B b l w) (hl : l.length + (Tr.list ts).bytes ≤ 100000000000) :
 Calls prog 86 #[.agg #[.string (bs []), .slice p m c, .int .i64 (Tr.list ts).bytes, .int .i64 (Tr.list ts).size, .int .i64 (Tr.list ts).depth], .pointer (some ⟨b, 0, none⟩)] w fun e w' => e = .returned (.tuple #[]) ∧ Bld B b (l ++ (Tr.list ts).text) w' ∧ Below B w w' ∧ Lib.OthersKept 5 (some b) w w' := by
 simp only [FV] at hv
 obtain ⟨r, off, cap, xs, hh, h2, h3, h4, h5, h6⟩ := hv
 have hh := Z0h _ _ _ hh
 simp only [Value.slice.injEq] at hh
 obtain ⟨rfl, rfl, rfl⟩ := hh
 have h3' := Ym h4
 have hrlt := hok r h2
 have hlt := hB.lt
 have hne : ts.length ≠ 0 := by intro e; exact hwf.1 (List.eq_nil_of_length_eq_zero e)
 have hlen := Q3 ts
 have hE := H_ (pre_end ts hwf.1)
 have HB := H_ hB
 have HW := H_ hwf.2
 have HL : Hid (∀ k, k ≤ ts.length → (pre ts k).length ≤ Zk ts) := H_ (fun k hk => pre_length ts k hwf.2 hk)
 have IH := H_ ih
 simp only [Tr.bytes] at hl
 clear hB ih hwf
 go_enter func86, ntmps86
 go_wp2_with (go_at_call 116; go_must (refine (Ql _ _ _ _ hne _ _ _ _).mono ?_; rintro e w1 ⟨rfl, hb1⟩; have c1 := Z3 hb1 (by simp) (heap_alloc_new _ _); have d1 := Z8 (j := 1) c1; have hw1 := H_ ((Z5 w _).trans (hb1.mono (by simp))); have hs1 := hb1.size))
 clear c1 d1 hb1
 go_loopg [4, 16] ts.length (fun q v i wr => ∃ (k : Nat) (a : UInt8), q + k = ts.length ∧ i = .int .i64 k ∧ v = .int .u8 a.toNat ∧ Hid (a = if k = 0 then 40 else 32) ∧ Hid (Bld B b (l ++ pre ts k) wr) ∧ Hid (Below B w wr) ∧ Hid (Lib.OthersKept 5 (some b) w wr) ∧ w.heap.size ≤ wr.heap.size)
 case atStart => exact ⟨0, 40, by omega, rfl, rfl, H_ rfl, H_ (by simpa [pre] using HB.out.below hw1.out), H_ (hw1.out.mono (by omega)), H_ (Z0s hw1.out _ _), by simp at hs1; omega⟩
 case round =>
  obtain ⟨k, a, hq, rfl, rfl, ha, hBr, hbr, hor, hsz⟩ := hrel
  by_cases hk : k < ts.length
  · obtain ⟨cs, q1, q2⟩ := FVs.get Z0g h6 h5 k hk
    obtain ⟨pp, pn, pc, rfl⟩ := q1.node
    have e0 : wr.cell? ⟨r, off + k * 5, none⟩ = some (.string (bs (Z1 ts[k]))) := by rw [hbr.out.cell (by exact hrlt)]; exact q2 0 _ rfl
    have e1 : wr.cell? ⟨r, off + k * 5 + 1, none⟩ = some (.slice pp pn pc) := by rw [hbr.out.cell (by exact hrlt)]; exact q2 1 _ rfl
    have e2 : wr.cell? ⟨r, off + k * 5 + 2, none⟩ = some (.int .i64 ts[k].bytes) := by rw [hbr.out.cell (by exact hrlt)]; exact q2 2 _ rfl
    have e3 : wr.cell? ⟨r, off + k * 5 + 3, none⟩ = some (.int .i64 ts[k].size) := by rw [hbr.out.cell (by exact hrlt)]; exact q2 3 _ rfl
    have e4 : wr.cell? ⟨r, off + k * 5 + 4, none⟩ = some (.int .i64 ts[k].depth) := by rw [hbr.out.cell (by exact hrlt)]; exact q2 4 _ rfl
    have hp1 := HL.out k (by omega)
    have hp2 := HL.out (k + 1) (by omega)
    have hPS := H_ (pre_succ ts k hk)
    have hdk : ts[k].depth < n := by have := Xd hk; omega
    have hwk := H_ (Qq HW.out hk)
    have hlk : (l ++ pre ts k).length + 1 ≤ 140737488355328 := by simp; omega
    have hlk2 : (l ++ pre ts k ++ [a]).length + ts[k].bytes ≤ 100000000000 := by
     have h1 := congrArg List.length hPS.out
     simp only [List.length_append, List.length_cons, Xu _ hwk.out] at h1 ⊢
     simp; omega
    have hBB : b ≠ wr.heap.size := by have := hBr.out.lt; omega
    have hBw : B ≤ wr.heap.size := by omega
    clear hp1 hp2
    go_wp2_with (first | (go_at_call 136; go_must (refine (Z20 B b _ a _ rfl _ (hBr.out.alloc _) hlk (by simp; omega)).mono ?_; rintro e w2 ⟨rfl, hB2, hb2, ho2⟩; have y0 := others_blk ho2 (heap_alloc_new _ _) (by decide) (by omega); obtain ⟨z0, z1, z2, z3, z4⟩ := Y5 y0; have hs2 := hb2.size)) | (go_at_call 86; go_must (refine (IH.out ts[k] pp pn pc ok (l ++ pre ts k ++ [a]) B b w2 hdk hwk.out (FV.below q1 (hbr.out.trans (((Below.refl B wr).alloc (by omega) _).trans hb2)) hok) hok hB2 hlk2).mono ?_; rintro e w3 ⟨rfl, hB3, hb3, ho3⟩)))
    go_roundg (gk - 1)
    case measure => omega
    case rel =>
     refine ⟨k + 1, 32, by omega, by go_num, rfl, H_ (by rw [if_neg (by omega)]), H_ ?_, H_ (((hbr.out.alloc (by omega) _).trans hb2).trans hb3), H_ (((hor.out.alloc _).trans ho2).trans ho3), ?_⟩
     · rw [hPS.out, ← ha.out]; simpa using hB3
     · have := hb3.size; simp at hs2; omega
  · have : k = ts.length := by omega
    subst this
    have hp1 := HL.out ts.length (by omega)
    have hlk : (l ++ pre ts ts.length).length + 1 ≤ 140737488355328 := by simp; omega
    have hBw : B ≤ wr.heap.size := by omega
    go_wp2_with (go_at_call 136; go_must (refine (Z20 B b _ 41 _ rfl _ hBr.out hlk hBw).mono ?_; rintro e w2 ⟨rfl, hB2, hb2, ho2⟩))
    go_end0
    refine ⟨rfl, ?_, hbr.out.trans hb2, hor.out.trans ho2⟩
    rw [← hE.out, ← List.append_assoc]; exact hB2
theorem write_all : ∀ n, WriteC n
 | 0 => fun t _ _ _ _ _ _ _ _ h => by omega
 | n + 1 => fun t p m c ok l B b w hd hwf hv hok hB hl => by
   match t with
   | .atom a => exact write_atom n a p m c ok l B b w hv hB hl
   | .list ts => exact write_list n (write_all n) ts p m c ok l B b w hd hwf hv hok hB hl
theorem text_c (t : Tr) (p : Option Addr) (m c : Nat) (ok : Nat → Prop) (w : World) (hwf : t.wf) (hb : t.bytes ≤ 100000000000) (hv : FV nI w ok t (nI t (.slice p m c))) (hok : ∀ k, ok k → k < w.heap.size) :
 Calls prog 45 #[.agg #[.string (bs (Z1 t)), .slice p m c, .int .i64 t.bytes, .int .i64 t.size, .int .i64 t.depth]] w fun e w' => e = .returned (.string (bs t.text)) ∧ Below w.heap.size w w' := by
 have HW : Hid (∀ (W : World) (B b : Nat), Below w.heap.size w W → w.heap.size ≤ B → Bld B b [] W → Calls prog 86 #[.agg #[.string (bs (Z1 t)), .slice p m c, .int .i64 t.bytes, .int .i64 t.size, .int .i64 t.depth], .pointer (some ⟨b, 0, none⟩)] W fun e w' => e = .returned (.tuple #[]) ∧ Bld B b t.text w' ∧ Below B W w') :=
  H_ (fun W B b h1 h2 h3 => (write_all (t.depth + 1) t p m c ok [] B b W (by omega) hwf (hv.below h1 hok) (fun k hk => Nat.lt_of_lt_of_le (hok k hk) h2) h3 (by simpa using hb)).mono fun e w' ⟨k1, k2, k3, _⟩ => ⟨k1, by simpa using k2, k3⟩)
 have hs := (Xx t hwf)
 have hd := Z30 t hwf
 clear hv hwf
 go_enter func45, ntmps45
 go_wp2_with (first | (go_at_call 85; go_must (refine (Tryz.Builder_Grow_fresh (w.heap.size + 1) (w.heap.size + 1) t.bytes _ (Nat.le_refl _) (Zd _ _ _) (by simp) (by omega)).mono ?_; rintro e w1 ⟨rfl, hB1, hb1⟩; have c1 := Z3 hb1 (by omega) (Zc (heap_alloc_new _ _)); obtain ⟨z0, z1, z2, z3, z4⟩ := Y5 c1; have hw1 := H_ ((Zw w _ _).trans (hb1.mono (by omega))); have hs1 := hb1.size)) | (go_at_call 86; go_must (refine (HW.out w1 (w.heap.size + 1) (w.heap.size + 1) hw1.out (by omega) (Lib.BuilderAtF.of hB1)).mono ?_; rintro e w2 ⟨rfl, hB2, hb2⟩)) | (go_at_call 87; go_must (refine (Tryz.Builder_String_any_f (w.heap.size + 1) (w.heap.size + 1) t.text _ (.inr hB2) (by have := hB2.lt; omega)).mono ?_; rintro e w3 ⟨rfl, _, hb3⟩)))
 go_ret
 exact ⟨rfl, hw1.out.trans ((hb2.mono (by omega)).trans (hb3.mono (by omega)))⟩
end Go.Proofs.YtjaaalojcdbcpaaGreatDoor
