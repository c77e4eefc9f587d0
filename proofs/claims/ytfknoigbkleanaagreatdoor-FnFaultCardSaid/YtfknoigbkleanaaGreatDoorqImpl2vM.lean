/- The program writes a form as a text. The program's text of a form. The program: closed expressions, counting, free names. The program: free names of a text. The program: expressions as texts; the kids of a text. -/
import Derived.Test.YtfknoigbkleanaaGreatDoorqImpl2dM
import Derived.Test.YtfknoigbkleanaaGreatDoorqBuildM
import Derived.Test.YtfknoigbkleanaaGreatDoorqI2n
import Derived.Test.YtfknoigbkleanaaGreatDoorqS2f
import Derived.Test.YtfknoigbkleanaaGreatDoorqShelf
import Derived.Test.YtfknoigbkleanaaGreatDoorqImpl2u
namespace Go.Proofs.YtfknoigbkleanaaGreatDoor
open Go.RowKit Go.Proofs.Tryz
set_option maxRecDepth 8000
set_option maxHeartbeats 20000000
set_option linter.unusedVariables false
set_option linter.unusedSimpArgs false
theorem Z87 : ∀ (ts : List Tr) (t : Tr), Xp (ts ++ [t]) = if ts = [] then t.text else Xp ts ++ 32 :: t.text
 | [], t => by simp [Xp]
 | [a], t => by simp [Xp]
 | a :: b :: ts, t => by
   have ih := Z87 (b :: ts) t
   simp only [List.cons_append, Xp] at ih ⊢
   rw [ih]; simp
def pre (ts : List Tr) (k : Nat) : List UInt8 := if k = 0 then [] else 40 :: Xp (ts.take k)
theorem pre_succ (ts : List Tr) (k : Nat) (h : k < ts.length) : pre ts (k + 1) = pre ts k ++ (if k = 0 then 40 else 32) :: ts[k].text := by
 unfold pre
 rw [if_neg (by omega), Kv _ _ h, Z87]
 by_cases hk : k = 0
 · subst hk; simp
 · rw [if_neg hk, if_neg hk, if_neg (by intro e; rcases List.take_eq_nil_iff.1 e with h1 | h1; exact hk h1; subst h1; simp at h)]; simp
theorem pre_end (ts : List Tr) (h : ts ≠ []) : pre ts ts.length ++ [41] = (Tr.list ts).text := by
 unfold pre
 rw [if_neg (by intro e; exact h (List.eq_nil_of_length_eq_zero e)), List.take_length]; simp [Tr.text]
theorem wfs_take {ts : List Tr} (h : wfs ts) (k : Nat) : wfs (ts.take k) := by
 induction ts generalizing k with
 | nil => simp [wfs]
 | cons a ts ih => cases k with
   | zero => simp [wfs]
   | succ k => exact ⟨h.1, ih h.2 k⟩
theorem pre_length (ts : List Tr) (k : Nat) (hw : wfs ts) (hk : k ≤ ts.length) : (pre ts k).length ≤ Zk ts := by
 unfold pre
 by_cases h : k = 0
 · rw [if_pos h]; exact Nat.zero_le _
 · rw [if_neg h]
   have h1 := Z0p (ts.take k) (wfs_take hw k) (by intro e; rcases List.take_eq_nil_iff.1 e with h1 | h1; exact h h1; subst h1; simp at hk; exact h hk)
   have h2 := K9 ts k
   simp only [List.length_cons]; omega
theorem others_blk {w w' : World} {b k : Nat} {cs : Array Value} {T : TypeId} (h : Lib.OthersKept 5 (some b) w w') (hk : w.heap[k]? = some (.cells cs T (0, 0))) (hT : T ≠ 5) (hb : k ≠ b) : w'.heap[k]? = some (.cells cs T (0, 0)) :=
 h k _ hk (by simpa using hb) (fun c fz e => by simp only [Obj.cells.injEq] at e; exact hT e.2.1)
theorem Bld.alloc {B b : Nat} {l : List UInt8} {w : World} (h : Bld B b l w) (o : Obj) : Bld B b l (w.alloc o) := by
 obtain ⟨hB, v, hb, hown, hne⟩ := h
 exact ⟨hB, v, Z8 hb, hown.alloc o, hne⟩
theorem Bld.lt {B b : Nat} {l : List UInt8} {w : World} (h : Bld B b l w) : B ≤ b ∧ b < w.heap.size := by
 obtain ⟨hB, v, hb, _⟩ := h
 exact ⟨hB, lt_of_block hb⟩
theorem Bld.below {B b : Nat} {l : List UInt8} {w w' : World} (h : Bld B b l w) (hb : Below w.heap.size w w') : Bld B b l w' := by
 obtain ⟨hB, v, hb', hown, hne⟩ := h
 exact ⟨hB, v, Z1 hb (lt_of_block hb') hb', hown.kept (row := none) ⟨hb.os, hb.tape, hb.output, hb.size, fun k hk _ => hb.block k hk⟩ (by cases Value.ownBlock v <;> simp), hne⟩
theorem Z5x {w w' : World} (hb : Below w.heap.size w w') (e : TypeId) (b : Option Nat) : Lib.OthersKept e b w w' := by
 intro k o hk _ _
 rw [hb.block k (lt_of_block hk)]; exact hk
def WriteC (n : Nat) : Prop := ∀ (t : Tr) (p : Option Addr) (m c : Nat) (ok : Nat → Prop) (l : List UInt8) (B b : Nat) (w : World), t.depth < n → t.wf → FV nI w ok t (nI t (.slice p m c)) → (∀ k, ok k → k < B) → Bld B b l w → l.length + t.bytes ≤ 100000000000 →
    Calls prog 94 #[.agg #[.string (bs (Z0 t)), .slice p m c, .int .i64 t.bytes, .int .i64 t.size, .int .i64 t.depth], .pointer (some ⟨b, 0, none⟩)] w fun e w' => e = .returned (.tuple #[]) ∧ Bld B b (l ++ t.text) w' ∧ Below B w w' ∧ Lib.OthersKept 5 (some b) w w'
theorem write_atom (n : Nat) (a : List UInt8) (p : Option Addr) (m c : Nat) (ok : Nat → Prop) (l : List UInt8) (B b : Nat) (w : World) (hv : FV nI w ok (.atom a) (nI (.atom a) (.slice p m c))) (hB : Bld B b l w) (hl : l.length + (Tr.atom a).bytes ≤ 100000000000) :
 Calls prog 94 #[.agg #[.string (bs a), .slice p m c, .int .i64 (Tr.atom a).bytes, .int .i64 (Tr.atom a).size, .int .i64 (Tr.atom a).depth], .pointer (some ⟨b, 0, none⟩)] w fun e w' => e = .returned (.tuple #[]) ∧ Bld B b (l ++ (Tr.atom a).text) w' ∧ Below B w w' ∧ Lib.OthersKept 5 (some b) w w' := by
 simp only [FV] at hv
 have hh := Jz _ _ _ hv
 simp only [Value.slice.injEq] at hh
 obtain ⟨rfl, rfl, rfl⟩ := hh
 clear hv
 have hlt := hB.lt
 simp only [Tr.bytes] at hl
 have HB := H_ hB
 clear hB
 go_enter func94, ntmps94
 go_wp2_with (first | (go_at_call 73; go_must (refine (Z2z _ _ _ _ _ _ _).mono ?_; rintro e w1 ⟨rfl, hb1⟩; have c1 := Z1 hb1 (by simp) (heap_alloc_new _ _); have d0 := Z3 (j := 0) c1; have hw1 := H_ ((Z4 w _).trans (hb1.mono (by simp))); have hs1 := hb1.size)) | (go_at_call 146; go_must (refine (WriteString_c B b l a w1 (HB.out.below hw1.out) (by omega) (by simp at hs1; omega)).mono ?_; rintro e w2 ⟨rfl, hB2, hb2, ho2⟩)))
 exact bodyPost_ret (v := .tuple #[]) (by simp [results, results94, go_sem]) rfl ⟨rfl, by simpa [Tr.text] using hB2, (hw1.out.mono (by omega)).trans hb2, (Z5x hw1.out _ _).trans ho2⟩
theorem write_list (n : Nat) (ih : WriteC n) (ts : List Tr) (p : Option Addr) (m c : Nat) (ok : Nat → Prop) (l : List UInt8) (B b : Nat) (w : World) (hd : (Tr.list ts).depth < n + 1) (hwf : (Tr.list ts).wf) (hv : FV nI w ok (.list ts) (nI (.list ts) (.slice p m c))) (hok : ∀ k, ok k → k < B) (hB : Bld B b l w) (hl : l.length + (Tr.list ts).bytes ≤ 100000000000) :
 Calls prog 94 #[.agg #[.string (bs []), .slice p m c, .int .i64 (Tr.list ts).bytes, .int .i64 (Tr.list ts).size, .int .i64 (Tr.list ts).depth], .pointer (some ⟨b, 0, none⟩)] w fun e w' => e = .returned (.tuple #[]) ∧ Bld B b (l ++ (Tr.list ts).text) w' ∧ Below B w w' ∧ Lib.OthersKept 5 (some b) w w' := by
 simp only [FV] at hv
 obtain ⟨r, off, cap, xs, hh, h2, h3, h4, h5, h6⟩ := hv
 have hh := Jz _ _ _ hh
 simp only [Value.slice.injEq] at hh
 obtain ⟨rfl, rfl, rfl⟩ := hh
 have h3' := Zt h4
 have hrlt := hok r h2
 have hlt := hB.lt
 have hne : ts.length ≠ 0 := by intro e; exact hwf.1 (List.eq_nil_of_length_eq_zero e)
 have hlen := Xt ts
 have hE := H_ (pre_end ts hwf.1)
 have HB := H_ hB
 have HW := H_ hwf.2
 have HL : Hid (∀ k, k ≤ ts.length → (pre ts k).length ≤ Zk ts) := H_ (fun k hk => pre_length ts k hwf.2 hk)
 have IH := H_ ih
 simp only [Tr.bytes] at hl
 clear hB ih hwf
 go_enter func94, ntmps94
 go_wp2_with (go_at_call 73; go_must (refine (Jt _ _ _ _ hne _ _ _ _).mono ?_; rintro e w1 ⟨rfl, hb1⟩; have c1 := Z1 hb1 (by simp) (heap_alloc_new _ _); have d1 := Z3 (j := 1) c1; have hw1 := H_ ((Z4 w _).trans (hb1.mono (by simp))); have hs1 := hb1.size))
 clear c1 d1 hb1
 go_loopg [4, 16] ts.length (fun q v i wr => ∃ (k : Nat) (a : UInt8), q + k = ts.length ∧ i = .int .i64 k ∧ v = .int .u8 a.toNat ∧ Hid (a = if k = 0 then 40 else 32) ∧ Hid (Bld B b (l ++ pre ts k) wr) ∧ Hid (Below B w wr) ∧ Hid (Lib.OthersKept 5 (some b) w wr) ∧ w.heap.size ≤ wr.heap.size)
 case atStart => exact ⟨0, 40, by omega, rfl, rfl, H_ rfl, H_ (by simpa [pre] using HB.out.below hw1.out), H_ (hw1.out.mono (by omega)), H_ (Z5x hw1.out _ _), by simp at hs1; omega⟩
 case round =>
  obtain ⟨k, a, hq, rfl, rfl, ha, hBr, hbr, hor, hsz⟩ := hrel
  by_cases hk : k < ts.length
  · obtain ⟨cs, q1, q2⟩ := FVs.get Qc h6 h5 k hk
    obtain ⟨pp, pn, pc, rfl⟩ := q1.node
    have e0 : wr.cell? ⟨r, off + k * 5, none⟩ = some (.string (bs (Z0 ts[k]))) := by rw [hbr.out.cell (by exact hrlt)]; exact q2 0 _ rfl
    have e1 : wr.cell? ⟨r, off + k * 5 + 1, none⟩ = some (.slice pp pn pc) := by rw [hbr.out.cell (by exact hrlt)]; exact q2 1 _ rfl
    have e2 : wr.cell? ⟨r, off + k * 5 + 2, none⟩ = some (.int .i64 ts[k].bytes) := by rw [hbr.out.cell (by exact hrlt)]; exact q2 2 _ rfl
    have e3 : wr.cell? ⟨r, off + k * 5 + 3, none⟩ = some (.int .i64 ts[k].size) := by rw [hbr.out.cell (by exact hrlt)]; exact q2 3 _ rfl
    have e4 : wr.cell? ⟨r, off + k * 5 + 4, none⟩ = some (.int .i64 ts[k].depth) := by rw [hbr.out.cell (by exact hrlt)]; exact q2 4 _ rfl
    have hp1 := HL.out k (by omega)
    have hp2 := HL.out (k + 1) (by omega)
    have hPS := H_ (pre_succ ts k hk)
    have hdk : ts[k].depth < n := by have := Ym hk; omega
    have hwk := H_ (Xa HW.out hk)
    have hlk : (l ++ pre ts k).length + 1 ≤ 140737488355328 := by simp; omega
    have hlk2 : (l ++ pre ts k ++ [a]).length + ts[k].bytes ≤ 100000000000 := by
     have h1 := congrArg List.length hPS.out
     simp only [List.length_append, List.length_cons, Zw _ hwk.out] at h1 ⊢
     simp; omega
    have hBB : b ≠ wr.heap.size := by have := hBr.out.lt; omega
    have hBw : B ≤ wr.heap.size := by omega
    clear hp1 hp2
    go_wp2_with (first | (go_at_call 147; go_must (refine (Z7e B b _ a _ rfl _ (hBr.out.alloc _) hlk (by simp; omega)).mono ?_; rintro e w2 ⟨rfl, hB2, hb2, ho2⟩; have y0 := others_blk ho2 (heap_alloc_new _ _) (by decide) (by omega); obtain ⟨z0, z1, z2, z3, z4⟩ := Zb y0; have hs2 := hb2.size)) | (go_at_call 94; go_must (refine (IH.out ts[k] pp pn pc ok (l ++ pre ts k ++ [a]) B b w2 hdk hwk.out (FV.below q1 (hbr.out.trans (((Below.refl B wr).alloc (by omega) _).trans hb2)) hok) hok hB2 hlk2).mono ?_; rintro e w3 ⟨rfl, hB3, hb3, ho3⟩)))
    go_roundg (gk - 1)
    case measure => omega
    case rel =>
     refine ⟨k + 1, 32, by omega, by go_num, rfl, H_ (by rw [if_neg (by omega)]), H_ ?_, H_ (((hbr.out.alloc (by omega) _).trans hb2).trans hb3), H_ (((hor.out.alloc _).trans ho2).trans ho3), ?_⟩
     · rw [hPS.out, ← ha.out]; simpa using hB3
     · have := hb3.size; simp at hs2; omega
  · have : k = ts.length := by omega
    subst this
    have hp1 := HL.out ts.length (by omega)
    have hlk : (l ++ pre ts ts.length).length + 1 ≤ 140737488355328 := by simp; omega
    have hBw : B ≤ wr.heap.size := by omega
    go_wp2_with (go_at_call 147; go_must (refine (Z7e B b _ 41 _ rfl _ hBr.out hlk hBw).mono ?_; rintro e w2 ⟨rfl, hB2, hb2, ho2⟩))
    go_end0
    refine ⟨rfl, ?_, hbr.out.trans hb2, hor.out.trans ho2⟩
    rw [← hE.out, ← List.append_assoc]; exact hB2
theorem write_all : ∀ n, WriteC n
 | 0 => fun t _ _ _ _ _ _ _ _ h => by omega
 | n + 1 => fun t p m c ok l B b w hd hwf hv hok hB hl => by
   match t with
   | .atom a => exact write_atom n a p m c ok l B b w hv hB hl
   | .list ts => exact write_list n (write_all n) ts p m c ok l B b w hd hwf hv hok hB hl
theorem text_c (t : Tr) (p : Option Addr) (m c : Nat) (ok : Nat → Prop) (w : World) (hwf : t.wf) (hb : t.bytes ≤ 100000000000) (hv : FV nI w ok t (nI t (.slice p m c))) (hok : ∀ k, ok k → k < w.heap.size) :
 Calls prog 48 #[.agg #[.string (bs (Z0 t)), .slice p m c, .int .i64 t.bytes, .int .i64 t.size, .int .i64 t.depth]] w fun e w' => e = .returned (.string (bs t.text)) ∧ Below w.heap.size w w' := by
 have HW : Hid (∀ (W : World) (B b : Nat), Below w.heap.size w W → w.heap.size ≤ B → Bld B b [] W → Calls prog 94 #[.agg #[.string (bs (Z0 t)), .slice p m c, .int .i64 t.bytes, .int .i64 t.size, .int .i64 t.depth], .pointer (some ⟨b, 0, none⟩)] W fun e w' => e = .returned (.tuple #[]) ∧ Bld B b t.text w' ∧ Below B W w') :=
  H_ (fun W B b h1 h2 h3 => (write_all (t.depth + 1) t p m c ok [] B b W (by omega) hwf (hv.below h1 hok) (fun k hk => Nat.lt_of_lt_of_le (hok k hk) h2) h3 (by simpa using hb)).mono fun e w' ⟨k1, k2, k3, _⟩ => ⟨k1, by simpa using k2, k3⟩)
 have hs := (Q8 t hwf)
 have hd := Z2i t hwf
 clear hv hwf
 go_enter func48, ntmps48
 go_wp2_with (first | (go_at_call 93; go_must (refine (Tryz.Builder_Grow_fresh (w.heap.size + 1) (w.heap.size + 1) t.bytes _ (Nat.le_refl _) (Z9 _ _ _) (by simp) (by omega)).mono ?_; rintro e w1 ⟨rfl, hB1, hb1⟩; have c1 := Z1 hb1 (by omega) (Z8 (heap_alloc_new _ _)); obtain ⟨z0, z1, z2, z3, z4⟩ := Zb c1; have hw1 := H_ ((Zl w _ _).trans (hb1.mono (by omega))); have hs1 := hb1.size)) | (go_at_call 94; go_must (refine (HW.out w1 (w.heap.size + 1) (w.heap.size + 1) hw1.out (by omega) (Lib.BuilderAtF.of hB1)).mono ?_; rintro e w2 ⟨rfl, hB2, hb2⟩)) | (go_at_call 95; go_must (refine (Tryz.Builder_String_any_f (w.heap.size + 1) (w.heap.size + 1) t.text _ (.inr hB2) (by have := hB2.lt; omega)).mono ?_; rintro e w3 ⟨rfl, _, hb3⟩)))
 go_ret
 exact ⟨rfl, hw1.out.trans ((hb2.mono (by omega)).trans (hb3.mono (by omega)))⟩
def Z55 : List Ex → Nat
 | [] => 0
 | k :: ks => lvs k + Z55 ks
theorem sumL_snoc (e : Ex) : ∀ ks : List Ex, Z55 (ks ++ [e]) = Z55 ks + lvs e
 | [] => by simp [Z55]
 | k :: ks => by simp only [List.cons_append, Z55, sumL_snoc e ks]; omega
theorem lvs_kids : ∀ x : Ex, lvs x ≤ max 1 (Z55 (Zc x))
 | .name _ => by simp [lvs, Zc, Z55]
 | .num _ => by simp [lvs, Zc, Z55]
 | .two _ a b => by simp only [lvs, Zc, Z55]; omega
 | .one _ a => by simp only [lvs, Zc, Z55]; omega
 | .cond a b c => by simp only [lvs, Zc, Z55]; omega
 | .lete x e b => by simp only [lvs, Zc, Z55]; omega
 | .func f x _ _ e => by simp only [lvs, Zc, Z55]; omega
theorem lvs_le : ∀ (n : Nat) (t : Tr) (x : Ex), t.depth < n → t.wf → Y9 t = some x → lvs x ≤ t.size
 | 0, t, x, h, _, _ => by omega
 | n + 1, .atom a, x, _, _, h => by
   simp only [Y9, Qm] at h
   simp only [Tr.size]
   split at h
   · simp only [Option.some.injEq] at h; subst h; simp [lvs]
   · split at h
     · simp only [Option.some.injEq] at h; subst h; simp [lvs]
     · cases h
 | n + 1, .list [], x, _, hw, h => by simp [Tr.wf] at hw
 | n + 1, .list (h :: ps), x, hd, hw, e => by
   obtain ⟨a, V⟩ := Z7v e
   have hsp := size_pos (.list (h :: ps)) hw
   simp only [Tr.wf] at hw
   have hstep : ∀ j, j ≤ (Zc x).length → Z55 ((Zc x).take j) ≤ Yo ((h :: ps).take (a + j)) := by
    intro j
    induction j with
    | zero => intro _; simp [Z55]
    | succ j ih =>
      intro hj
      have hj' : j < (Zc x).length := by omega
      have hb := Z18 V hj'
      have h1 := ih (by omega)
      have h2 := V.kid j hj' hb
      have h3 := lvs_le n _ _ (by have := Ym hb; omega) (Xa hw.2 hb) h2
      have h5 := Ky (h :: ps) (a + j) hb
      rw [List.take_succ_eq_append_getElem hj', sumL_snoc, show a + (j + 1) = a + j + 1 by omega, h5]
      omega
   have h1 := hstep _ (Nat.le_refl _)
   rw [List.take_length] at h1
   have h2 := J4 (h :: ps) (a + (Zc x).length)
   have h3 := lvs_kids x
   simp only [Tr.size] at hsp ⊢
   omega
theorem Z5a {l : List UInt8} {x : Ex} (h : Yb l = some x) : lvs x ≤ 120 := by
 cases hp : Zv l with
 | none => rw [Z0a hp] at h; cases h
 | some t =>
   rw [Jh hp] at h
   split at h
   · rename_i hs
     have := lvs_le (t.depth + 1) t x (by omega) (Yt hp).1 h
     omega
   · cases h
def X4 (l : List UInt8) : Option Ex := (Yb l).filter (fun x => (Ze x).isEmpty)
theorem Z1i {l : List UInt8} (h : Yb l = none) : X4 l = none := by simp [X4, h]
theorem Z6b {l : List UInt8} {x : Ex} (h : Yb l = some x) (hf : Ze x ≠ []) : X4 l = none := by simp [X4, h, Option.filter, hf]
theorem Z0b {l : List UInt8} {x : Ex} (h : Yb l = some x) (hf : Ze x = []) : X4 l = some x := by simp [X4, h, Option.filter, hf]
theorem Vh (s : ByteArray) (hs : s.size ≤ 1048576) (w : World) :
 Calls prog 58 #[.string s] w fun e w' => Z9n w.heap.size (X4 s.data.toList) e w' ∧ Below w.heap.size w w' := by
 cases hp : Yb s.data.toList with
 | none =>
   have C := H_ (Z02 hs hp)
   have HR := H_ (Z1i hp)
   clear hp
   go_enter func58, ntmps58
   go_wp2_with (go_at_call 46; go_must (refine (C.out _).mono ?_; rintro e w1 ⟨⟨v, rfl⟩, hb1⟩))
   go_ret2
   exact ⟨by rw [HR.out]; exact .inl rfl, hb1⟩
 | some x =>
   have C := H_ (Z01 hs hp)
   have hl := Z5a hp
   have CF : Hid (∀ (w1 : World) (B : Nat) (v : Value), EV w1 (fun k => B ≤ k ∧ k < w1.heap.size) x v → Calls prog 102 #[v] w1 (Vo w1 (Ze x))) := H_ (fun w1 B v hv => Jc x v _ w1 (by omega) hv (fun k hk => hk.2))
   have hlen := Yu x
   by_cases hf : Ze x = []
   · have HR := H_ (Z0b hp hf)
     rw [hf] at CF
     clear hp hf
     go_enter func58, ntmps58
     go_wp2_with (first | (go_at_call 46; go_must (refine (C.out _).mono ?_; rintro e w1 ⟨⟨v, rfl, hv⟩, hb1⟩; obtain ⟨T, u, rfl⟩ := hv.iface)) | (go_at_call 102; go_must (refine (CF.out _ _ _ hv).mono ?_; rintro e w2 ⟨⟨v2, rfl, ho2⟩, hb2⟩; obtain ⟨p2, c2, rfl⟩ := Zs ho2; simp only [List.length_nil] at ho2)))
     go_ret2
     exact ⟨by rw [HR.out]; exact ⟨_, rfl, EV.move (fun k hk => ⟨hk.1, Nat.lt_of_lt_of_le hk.2 hb2.size⟩) (fun k hk => hb2.block k hk.2) _ _ hv⟩, hb1.trans (hb2.mono hb1.size)⟩
   · have HR := H_ (Z6b hp hf)
     have hpos : 0 < (Ze x).length := List.length_pos_iff.2 hf
     generalize Ze x = P at *
     clear hp hf
     go_enter func58, ntmps58
     go_wp2_with (first | (go_at_call 46; go_must (refine (C.out _).mono ?_; rintro e w1 ⟨⟨v, rfl, hv⟩, hb1⟩; obtain ⟨T, u, rfl⟩ := hv.iface)) | (go_at_call 102; go_must (refine (CF.out _ _ _ hv).mono ?_; rintro e w2 ⟨⟨v2, rfl, ho2⟩, hb2⟩; obtain ⟨p2, c2, rfl⟩ := Zs ho2)))
     go_ret2
     exact ⟨by rw [HR.out]; exact .inl rfl, hb1.trans (hb2.mono hb1.size)⟩
theorem Z2e (s : ByteArray) (hs : s.size ≤ 1048576) (w : World) :
 Calls prog 21 #[.string s] w fun e w' => e = .returned (.bool (X4 s.data.toList).isSome) ∧ Below w.heap.size w w' := by
 go_enter func21, ntmps21
 go_wp2_with (go_at_call 58; go_must (refine (Vh s hs _).mono ?_; rintro e w1 ⟨hp, hb1⟩; obtain ⟨x, rfl⟩ := Z0q hp; clear hp))
 go_ret
 exact ⟨rfl, hb1⟩
def Z1d (l : List UInt8) : Option (List Nm) := (Yb l).map (fun x => (Ze x).foldl Jr [])
theorem freeE_none {l : List UInt8} (h : Yb l = none) : Z1d l = none := by simp [Z1d, h]
theorem Z5f {l : List UInt8} {x : Ex} (h : Yb l = some x) : Z1d l = some ((Ze x).foldl Jr []) := by simp [Z1d, h]
theorem freeE_len {l : List UInt8} : ((Z1d l).getD []).length ≤ 120 := by
 cases h : Yb l with
 | none => simp [Z1d, h]
 | some x =>
   have h1 := Z5a h
   have h2 := Yu x
   have h3 := (Z11 (Ze x) []).2
   simp only [Z5f h, Option.getD_some, List.length_nil] at h3 ⊢
   omega
theorem nm_len {a : List UInt8} (h : Yr a = true) : a.length ≤ 4 := by
 cases a with
 | nil => simp
 | cons c r => simp only [Yr, Bool.and_eq_true, decide_eq_true_eq] at h; simp only [List.length_cons]; omega
def oksE : List Ex → Prop
 | [] => True
 | e :: es => Qg e ∧ oksE es
mutual
theorem Z63 : ∀ (t : Tr) (x : Ex), Y9 t = some x → Qg x
 | .atom a, x, h => by
   simp only [Y9, Qm] at h
   cases hn : Qo a with
   | some n => simp only [hn, Option.some.injEq] at h; subst h; exact numOf_range hn
   | none =>
     simp only [hn] at h
     split at h
     · rename_i hm; simp only [Option.some.injEq] at h; subst h; exact nm_len hm
     · cases h
 | .list [], x, h => by simp [Y9, Qu] at h
 | .list (h0 :: ps), x, h => by
   simp only [Y9, Qu] at h
   split at h
   · match ps, h with
     | [x0, e0, b0], h =>
       simp only [Q6] at h
       split at h
       · rename_i hx
         split at h
         · cases h
         · rename_i e' he
           split at h
           · cases h
           · rename_i b' hb
             simp only [Option.some.injEq] at h
             subst h
             exact ⟨nm_len hx, Z63 e0 e' he, Z63 b0 b' hb⟩
       · cases h
     | [], h => cases h
     | [_], h => cases h
     | [_, _], h => cases h
     | _ :: _ :: _ :: _ :: _, h => cases h
   · split at h
     · match ps, h with
       | [f0, x0, A0, B0, e0], h =>
         simp only [Xf] at h
         split at h
         · rename_i hx
           simp only [Bool.and_eq_true] at hx
           split at h
           · cases h
           · rename_i e' he
             simp only [Option.some.injEq] at h
             subst h
             exact ⟨nm_len hx.1.1.1.1, nm_len hx.1.1.1.2, Z63 e0 e' he⟩
         · cases h
       | [], h => cases h
       | [_], h => cases h
       | [_, _], h => cases h
       | [_, _, _], h => cases h
       | [_, _, _, _], h => cases h
       | _ :: _ :: _ :: _ :: _ :: _ :: _, h => cases h
     · cases hk : Yl ps with
       | none => simp [hk] at h
       | some es =>
         simp only [hk, Option.bind_some] at h
         have hp := kidsEx_ok ps es hk
         match es, h, hp with
         | [], h, hp => cases h
         | [a], h, hp =>
           simp only [Yc, Option.map_eq_some_iff] at h
           obtain ⟨o, ho, rfl⟩ := h
           exact hp.1
         | [a, b], h, hp =>
           simp only [Yc, Option.map_eq_some_iff] at h
           obtain ⟨o, ho, rfl⟩ := h
           exact ⟨hp.1, hp.2.1⟩
         | [a, b, c], h, hp =>
           simp only [Yc] at h
           split at h
           · simp only [Option.some.injEq] at h; subst h; exact ⟨hp.1, hp.2.1, hp.2.2.1⟩
           · cases h
         | _ :: _ :: _ :: _ :: _, h, hp => cases h
theorem kidsEx_ok : ∀ (ts : List Tr) (es : List Ex), Yl ts = some es → oksE es
 | [], es, h => by simp only [Yl, Option.some.injEq] at h; subst h; trivial
 | t :: ts, es, h => by
   simp only [Yl] at h
   split at h
   · cases h
   · rename_i e he
     split at h
     · cases h
     · rename_i es' hs
       simp only [Option.some.injEq] at h
       subst h
       exact ⟨Z63 t e he, kidsEx_ok ts es' hs⟩
end
theorem Z9h (x : Ex) (v : Value) (B : Nat) (w : World) (hn : Qg x) (hw : (Z2 x).wf) (hb : (Z2 x).bytes ≤ 500000000) (hv : EV w (fun k => k < B) x v) (hB : B ≤ w.heap.size) (hT : Tab w) :
 Calls prog 55 #[v] w fun e w' => e = .returned (.string (bs (Z2 x).text)) ∧ Below w.heap.size w w' := by
 obtain ⟨s, o1, o2, o3, -, -, -, -, hq⟩ := Zq (Z2 x)
 have C : Hid (Calls prog 106 #[v] w fun e w' => (∃ p m c, e = .returned (.agg #[.string s, .slice p m c, .int .i64 o1, .int .i64 o2, .int .i64 o3]) ∧ FV nI w' (fun k => k < B ∨ (w.heap.size ≤ k ∧ k < w'.heap.size)) (Z2 x) (nI (Z2 x) (.slice p m c))) ∧ Below w.heap.size w w') := H_ ((Jp x v B w hn hw hb hv hB hT).mono fun e w' ⟨⟨p, m, c, h1, h2⟩, h3⟩ => ⟨⟨p, m, c, by rw [h1, hq], h2⟩, h3⟩)
 have CT : Hid (∀ (w1 : World) p m c, FV nI w1 (fun k => k < B ∨ (w.heap.size ≤ k ∧ k < w1.heap.size)) (Z2 x) (nI (Z2 x) (.slice p m c)) → w.heap.size ≤ w1.heap.size → Calls prog 48 #[.agg #[.string s, .slice p m c, .int .i64 o1, .int .i64 o2, .int .i64 o3]] w1 fun e w' => e = .returned (.string (bs (Z2 x).text)) ∧ Below w1.heap.size w1 w') := H_ (fun w1 p m c hf hs => by
  have h := text_c (Z2 x) p m c _ w1 hw (by omega) hf (fun k hk => by omega)
  have e : (nI (Z2 x) (.slice p m c)).toArray = #[.string s, .slice p m c, .int .i64 o1, .int .i64 o2, .int .i64 o3] := by rw [hq]
  have e2 : (nI (Z2 x) (.slice p m c)).toArray = #[.string (bs (Z0 (Z2 x))), .slice p m c, .int .i64 (Z2 x).bytes, .int .i64 (Z2 x).size, .int .i64 (Z2 x).depth] := rfl
  rw [← e2, e] at h
  exact h)
 obtain ⟨T, u, rfl⟩ := hv.iface
 generalize bs (Z2 x).text = tx at *
 clear hn hw hb hv hT hq
 go_enter func55, ntmps55
 go_wp2_with (first | (go_at_call 106; go_must (refine (C.out).mono ?_; rintro e w1 ⟨⟨p, m, c, rfl, hf⟩, hb1⟩)) | (go_at_call 48; go_must (refine (CT.out _ _ _ _ hf hb1.size).mono ?_; rintro e w2 ⟨rfl, hb2⟩)))
 go_ret
 exact ⟨rfl, hb1.trans (hb2.mono hb1.size)⟩
def kidsTx (l : List UInt8) : Option (List Nm) := (Yb l).map (fun x => (Zc x).map (fun k => (Z2 k).text))
theorem Z6y {l : List UInt8} {x : Ex} (h : Yb l = some x) : (Z2 x).wf ∧ (Z2 x).bytes ≤ 12000 ∧ Qg x := by
 cases hp : Zv l with
 | none => rw [Z0a hp] at h; cases h
 | some t =>
   rw [Jh hp] at h
   split at h
   · have hg := Yt hp
     rw [Jd t x h]
     exact ⟨hg.1, hg.2.1, Z63 t x h⟩
   · cases h
def KidCT (w : World) (ks : List Ex) (kvs : List Value) : Prop := ∀ j (hj : j < ks.length), ∃ T u, kvs[j]? = some (.iface T u) ∧ ∀ W, Below w.heap.size w W → Calls prog 55 #[.iface T u] W fun e w' => e = .returned (.string (bs (Z2 ks[j]).text)) ∧ Below W.heap.size W w'
end Go.Proofs.YtfknoigbkleanaaGreatDoor
