/- The reference model's orders, and its functions that answer numbers and bools. The reference model's answers on types. The reference model's text of a form. The reference model's parts of a form. The reference model's atoms. -/
import Derived.Test.YtjaaalojcdbcpaaGreatDoorlS1y
import Derived.Test.YtjaaalojcdbcpaaGreatDoorlI1y
import Derived.Test.YtjaaalojcdbcpaaGreatDoorlAsrAM
import Derived.Test.YtjaaalojcdbcpaaGreatDoorlB3
import Derived.Test.YtjaaalojcdbcpaaGreatDoorlB1
import Derived.Deep.LoopGhost
set_option maxHeartbeats 20000000
set_option linter.unusedVariables false
set_option linter.unusedSimpArgs false
namespace Go.Proofs.YtjaaalojcdbcpaaGreatDoor
open Go.RowKit Go.Proofs.Tryz
set_option maxRecDepth 8000
theorem Z37 (t : Tr) (p : Option Addr) (m c : Nat) (ok : Nat → Prop) (w : World) (hwf : t.wf) (hb : t.bytes ≤ 1000000000) (hv : FV nS w ok t (nS t (.slice p m c))) (hok : ∀ k, ok k → k < w.heap.size) :
 Calls prog 109 #[.agg #[.string (bs (Z1 t)), .slice p m c]] w fun e w' => e = .returned (.bool (Q1 t && decide (t.size ≤ 16))) ∧ Below w.heap.size w w' := by
 have hs := (Q9 t hwf).1
 have C1 : Hid (∀ W, Below w.heap.size w W → Calls prog 149 #[.agg #[.string (bs (Z1 t)), .slice p m c]] W fun e w' => e = .returned (.bool (Q1 t)) ∧ Below W.heap.size W w') :=
  H_ (fun W hW => l1Type_c (t.depth + 1) t _ ok W (by omega) hwf (hv.below hW hok) (fun j hj => Nat.lt_of_lt_of_le (hok j hj) hW.size))
 have C2 : Hid (∀ W, Below w.heap.size w W → Calls prog 66 #[.agg #[.string (bs (Z1 t)), .slice p m c]] W fun e w' => e = .returned (.int .i64 t.size) ∧ Below W.heap.size W w') :=
  H_ (fun W hW => l1Size_c (t.depth + 1) t _ ok W (by omega) hwf hb (hv.below hW hok) (fun j hj => Nat.lt_of_lt_of_le (hok j hj) hW.size))
 clear hv
 cases ht : Q1 t with
 | false =>
   rw [ht] at C1
   go_enter func109, ntmps109
   go_wp2_with (go_at_call 149; go_must (refine (C1.out _ (Z5 _ _)).mono ?_; rintro e w1 ⟨rfl, hb1⟩))
   go_ret
   exact ⟨rfl, (Z5 w _).trans (hb1.mono (by simp))⟩
 | true =>
   rw [ht] at C1
   go_enter func109, ntmps109
   go_wp2_with (first | (go_at_call 149; go_must (refine (C1.out _ (Z5 _ _)).mono ?_; rintro e w1 ⟨rfl, hb1⟩; have hw1 := (Z5 w _).trans (hb1.mono (by simp)); have c1 := Z2 hb1 (by simp) (heap_alloc_new _ _); obtain ⟨d0, d1⟩ := Zh c1)) | (go_at_call 66; go_must (refine (C2.out _ hw1).mono ?_; rintro e w2 ⟨rfl, hb2⟩)))
   go_ret
   exact ⟨Zf (by rw [Bool.eq_iff_iff]; simp; omega), hw1.trans (hb2.mono hw1.size)⟩
theorem Z1n {s : ByteArray} (hs : s.size ≤ 1048576) (hp : Zt s.data.toList = none) (W : World) : Calls prog 64 #[.string s] W fun e w' => (∃ a p n c, e = .returned (.tuple #[.agg #[.string a, .slice p n c], .bool false]) ∧ n ≤ maxLen) ∧ Below W.heap.size W w' :=
 (Z0c s hs W).mono fun e w' ⟨h1, h2⟩ => ⟨by rw [hp] at h1; exact h1, h2⟩
theorem Je {s : ByteArray} (hs : s.size ≤ 1048576) {t : Tr} (hp : Zt s.data.toList = some t) (W : World) : Calls prog 64 #[.string s] W fun e w' => (∃ p n c, e = .returned (.tuple #[.agg #[.string (bs (Z1 t)), .slice p n c], .bool true]) ∧ FV nS w' (fun k => W.heap.size ≤ k ∧ k < w'.heap.size) t (nS t (.slice p n c))) ∧ Below W.heap.size W w' :=
 (Z0c s hs W).mono fun e w' ⟨h1, h2⟩ => ⟨by rw [hp] at h1; exact h1, h2⟩
theorem Z5o : ∀ (ts : List Tr) (t : Tr), Xn (ts ++ [t]) = if ts = [] then t.text else Xn ts ++ 32 :: t.text
 | [], t => by simp [Xn]
 | [a], t => by simp [Xn]
 | a :: b :: ts, t => by
   have ih := Z5o (b :: ts) t
   simp only [List.cons_append, Xn] at ih ⊢
   rw [ih]; simp
theorem wfs_takeS {ts : List Tr} (h : wfs ts) (k : Nat) : wfs (ts.take k) := by
 induction ts generalizing k with
 | nil => simp [wfs]
 | cons a ts ih => cases k with
   | zero => simp [wfs]
   | succ k => exact ⟨h.1, ih h.2 k⟩
def Z6f (ts : List Tr) (k : Nat) : List UInt8 := 40 :: Xn (ts.take k)
theorem preS_succ (ts : List Tr) (k : Nat) (h : k < ts.length) : Z6f ts (k + 1) = (if k = 0 then Z6f ts k else Z6f ts k ++ [32]) ++ ts[k].text := by
 unfold Z6f
 rw [Ki _ _ h, Z5o]
 by_cases hk : k = 0
 · subst hk; simp [Xn]
 · rw [if_neg hk, if_neg (by intro e; rcases List.take_eq_nil_iff.1 e with h1 | h1; exact hk h1; subst h1; simp at h)]; simp
theorem preS_end (ts : List Tr) : Z6f ts ts.length ++ [41] = (Tr.list ts).text := by
 unfold Z6f
 rw [List.take_length]; simp [Tr.text]
theorem preS_length (ts : List Tr) (k : Nat) (hw : wfs ts) : (Z6f ts k).length ≤ Zi ts + 1 := by
 unfold Z6f
 by_cases h : ts.take k = []
 · rw [h]; simp [Xn]
 · have h1 := Z04 (ts.take k) (wfs_takeS hw k) h
   have h2 := Jt ts k
   simp only [List.length_cons]; omega
theorem Z0k (n : Nat) : ∀ (t : Tr) (cs : List Value) (ok : Nat → Prop) (w : World), t.depth < n → t.wf → t.bytes ≤ 100000000000 → FV nS w ok t cs → (∀ k, ok k → k < w.heap.size) →
 Calls prog 31 #[.agg cs.toArray] w fun e w' => e = .returned (.string (bs t.text)) ∧ Below w.heap.size w w' := by
 induction n with
 | zero => intro t _ _ _ h; omega
 | succ n ih =>
   intro t cs ok w hd hwf hsz hv hok
   match t, hv with
   | .atom a, hv =>
     simp only [FV] at hv
     subst hv
     have ha := V7 hwf.1
     go_enter func31, ntmps31
     simp only [nS, Z1]
     go_wp2_with fail
     go_ret
     exact ⟨rfl, Z5 _ _⟩
   | .list ts, hv =>
     simp only [FV] at hv
     obtain ⟨r, off, cap, xs, rfl, h2, h3, h4, h5, h6⟩ := hv
     have ha := Jl
     have h3' : ts.length ≤ 9223372036854775807 := by have := Yl h4; omega
     have hrlt := hok r h2
     have HW := H_ hwf.2
     have HI := H_ ih
     simp only [Tr.bytes] at hsz
     have HL : Hid (∀ k, (Z6f ts k).length ≤ Zi ts + 1) := H_ (fun k => preS_length ts k hwf.2)
     clear ih hwf
     go_enter func31, ntmps31
     simp only [nS, Z1]
     go_wp2_with fail
     go_loopw [3, 4] (fun m i wr => ∃ k : Nat, k ≤ ts.length ∧ i = .int .i64 k ∧ m = .string (bs (Z6f ts k)) ∧ Below (w.heap.size + 1) (w.alloc (.cells #[.string (bs []), .slice (some ⟨r, off, none⟩) ts.length cap] 47)) wr) (fun _ i _ => ts.length - (intOf i).toNat)
     case atStart => exact ⟨0, Nat.zero_le _, rfl, by simp [Z6f, Xn, bs], Below.refl _ _⟩
     case round =>
      obtain ⟨k, hk, rfl, rfl, hb⟩ := hrel
      have c0 : wr.cell? ⟨w.heap.size, 1, none⟩ = some (.slice (some ⟨r, off, none⟩) ts.length cap) := by
       rw [hb.cell (p := ⟨w.heap.size, 1, none⟩) (by simp)]; simp
      have hbw : Below w.heap.size w wr := (Z5 w _).trans (hb.mono (by omega))
      have hl1 := HL.out k
      have hsz1 := Y0 (Z6f ts k)
      by_cases hlt : k < ts.length
      · obtain ⟨cs, g1, g2⟩ := FVs.get Jn h6 h5 k hlt
        obtain ⟨p, pn, pc, rfl⟩ := g1.node
        have e0 : wr.cell? ⟨r, off + k * 2, none⟩ = some (.string (bs (Z1 ts[k]))) := by rw [hbw.cell (by exact hrlt)]; exact g2 0 _ rfl
        have e1 : wr.cell? ⟨r, off + k * 2 + 1, none⟩ = some (.slice p pn pc) := by rw [hbw.cell (by exact hrlt)]; exact g2 1 _ rfl
        have hdk : ts[k].depth < n := by have := Xk hlt; omega
        have hbk := J5 hlt
        have hwk := Ji HW.out hlt
        have htl := Y4 _ hwk
        have hsz2 := Y0 ts[k].text
        have HS := H_ (preS_succ ts k hlt)
        have g1' := H_ (g1.below hbw hok)
        have hsz' := hbw.size
        simp only [Tr.bytes] at hbk
        have hbk2 : ts[k].text.length ≤ 100000000000 := by omega
        have hwk := H_ hwk
        have C : Hid (Calls prog 31 #[.agg #[.string (bs (Z1 ts[k])), .slice p pn pc]] wr fun e w' => e = .returned (.string (bs ts[k].text)) ∧ Below wr.heap.size wr w') :=
         H_ (HI.out ts[k] (nS ts[k] (.slice p pn pc)) ok _ hdk hwk.out (by omega) g1'.out (fun j hj => Nat.lt_of_lt_of_le (hok j hj) hsz'))
        clear htl hbk
        by_cases hk0 : k = 0
        · subst hk0
          simp only [Nat.zero_mul, Nat.add_zero] at e0 e1
          go_wp2_with (go_at_call 31; go_must (refine C.out.mono ?_; rintro e w' ⟨rfl, hb2⟩))
          go_roundw
          case rel => exact ⟨1, by omega, by go_num, by rw [HS.out, if_pos trivial, Xl], hb.trans (hb2.mono (by have := hb.size; simp at this; omega))⟩
          case measure => simp [intOf]; omega
        · have hkp : (0 : Int) < k := by omega
          go_wp2_with (go_at_call 31; go_must (refine C.out.mono ?_; rintro e w' ⟨rfl, hb2⟩))
          go_roundw
          case rel => exact ⟨k + 1, by omega, by go_num, by rw [HS.out, if_neg hk0, ← Xl, ← Xl]; rfl, hb.trans (hb2.mono (by have := hb.size; simp at this; omega))⟩
          case measure => simp [intOf]; omega
      · have : k = ts.length := by omega
        subst this
        go_wp2_with fail
        go_ret
        exact ⟨by rw [← preS_end, ← Xl]; rfl, hbw⟩
theorem Tryz.infoStr : (prog.info? 9).map (fun i => (i.zero, i.size, i.bytes)) = some (some (.string ⟨#[]⟩), 1, 16) := by kernel_rfl
def partsOf (l : List UInt8) : Option (List (List UInt8)) :=
 match Zt l with
 | some (.list ts) => some (ts.map Tr.text)
 | _ => none
def Z5m (B : Nat) (r : Option (List (List UInt8))) (e : Ending) (w' : World) : Prop :=
 ∃ v, e = .returned (.tuple #[v, .bool r.isSome]) ∧ w'.ownsRow B 9 1 v (r.getD []).length ((r.getD []).map Y3)
theorem Vf {w : World} {base B : Nat} {e : TypeId} {size : Nat} {v : Value} {n : Nat} {xs : List Value} (h : w.ownsRow base e size v n xs) (hB : B ≤ base) : w.ownsRow B e size v n xs := by
 refine ⟨h.1, ?_⟩
 rcases h.2 with h2 | ⟨g, cap, cur, hv, hb, hr⟩
 · exact .inl h2
 · exact .inr ⟨g, cap, cur, hv, by omega, hr⟩
theorem made_none {w w1 : World} {o : Obj} (hb1 : Below w.heap.size w w1) : ((w1.alloc o).alloc (.cells #[] 9)).ownsRow w.heap.size 9 1 (.slice (some ⟨w1.heap.size + 1, 0, none⟩) 0 0) 0 [] := by
 have := World.ownsRow_made (w1.alloc o) #[] 0 (base := w.heap.size) (e := 9) (size := 1) (by have := hb1.size; simp; omega) (by decide) rfl
 simpa using this
theorem Z7u (v : Value) (l : List (List UInt8)) (a : List UInt8) (w : World) (h : Zw w v l) :
 Calls prog 99 #[v, .string (bs a)] w fun e w' => e = .returned (.bool (decide (a ∈ l))) ∧ w' = w := by
 obtain ⟨p, c, rfl, h1, h2⟩ := h
 by_cases hz : l = []
 · subst hz
   clear h2
   go_enter func99, ntmps99
   go_wp2_with fail
   refine wp_loop_rounds 1 ?_
   rw [rounds_succ]
   go_wp2_with fail
   go_ret
   exact ⟨Zf (by simp), rfl⟩
 · obtain ⟨r, off, rfl, h3⟩ := h2 hz
   obtain ⟨F, hF⟩ : ∃ F, F = decide (a ∈ l) := ⟨_, rfl⟩
   rw [← hF]
   have HF := H_ hF
   clear h2 hF
   go_enter func99, ntmps99
   go_wp2_with fail
   go_loop [5] (fun i => ∃ k : Nat, k ≤ l.length ∧ i = .int .i64 k ∧ Hid (a ∉ l.take k)) (fun i => l.length - (intOf i).toNat)
   case atStart => exact ⟨0, Nat.zero_le _, rfl, H_ (by simp)⟩
   case round =>
    obtain ⟨k, hk, rfl, hno⟩ := hrel
    by_cases hlt : k < l.length
    · have c1 : w.cell? ⟨r, off + k, none⟩ = some (.string (bs l[k])) := Zw.cell h3 hlt
      have hk0 : (0 : Int) ≤ (k : Int) := by omega
      by_cases hx : l[k] = a
      · have hx2 : ((bs l[k]).toList == (bs a).toList) = true := by rw [Z9, Z9]; simpa using hx
        have hx3 : (bs l[k]).toList = (bs a).toList := by rw [Z9, Z9]; exact hx
        have HX := H_ hx
        obtain ⟨s, hs⟩ : ∃ s, s = bs l[k] := ⟨_, rfl⟩
        rw [← hs] at c1 hx2 hx3
        clear hx hs
        go_wp2_with fail
        go_ret
        exact ⟨Zf (by rw [HF.out]; symm; rw [decide_eq_true_eq, ← HX.out]; exact List.getElem_mem hlt), rfl⟩
      · have hx2 : ((bs l[k]).toList == (bs a).toList) = false := by rw [Z9, Z9]; simpa using hx
        have hx3 : ¬ (bs l[k]).toList = (bs a).toList := by rw [Z9, Z9]; exact hx
        have HX := H_ hx
        obtain ⟨s, hs⟩ : ∃ s, s = bs l[k] := ⟨_, rfl⟩
        rw [← hs] at c1 hx2 hx3
        clear hx hs
        go_wp2_with fail
        exact ⟨⟨k + 1, by omega, by go_num, H_ (by rw [List.take_succ_eq_append_getElem hlt]; simp only [List.mem_append, List.mem_singleton, not_or]; exact ⟨hno.out, fun e => HX.out e.symm⟩)⟩, by simp [intOf]; omega⟩
    · have : k = l.length := by omega
      subst this
      have hn := hno.out
      rw [List.take_length] at hn
      have HN := H_ hn
      clear hn
      go_wp2_with fail
      go_ret
      exact ⟨Zf (by rw [HF.out]; simp [HN.out]), rfl⟩
def Z0q (B N : Nat) (v : Value) (l' : List (List UInt8)) (w : World) (e : Ending) (w' : World) : Prop :=
 ∃ v', e = .returned v' ∧ w'.ownsRow B 9 1 v' l'.length (l'.map Y3) ∧ w.grownBy w' v.ownBlock ∧ (v'.ownBlock = v.ownBlock ∨ ∀ q, v'.ownBlock = some q → N ≤ q)
def AtS (n : Nat) : Prop := ∀ (t : Tr) (cs : List Value) (B : Nat) (l : List (List UInt8)) (v : Value) (w : World), t.depth < n → t.wf → l.length + t.size ≤ 1000000 → FV nS w (fun k => k < B) t cs → B ≤ w.heap.size → w.ownsRow B 9 1 v l.length (l.map Y3) →
    Calls prog 124 #[.agg cs.toArray, v] w fun e w' => Z0q B w.heap.size v (Xu t l) w e w'
theorem Yh {w : World} {B : Nat} {v : Value} {l : List (List UInt8)} (h : w.ownsRow B 9 1 v l.length (l.map Y3)) (hl : l.length ≤ 9223372036854775807) : Zw w v l := by
 rcases h.2 with ⟨rfl, h0⟩ | ⟨g, cap, cur, rfl, hb, hg, h1, h2, h3, h4⟩
 · exact ⟨none, 0, by rw [h0], hl, fun hne => absurd (List.eq_nil_of_length_eq_zero h0) hne⟩
 · exact ⟨_, cap, rfl, hl, fun _ => ⟨g, 0, rfl, X4 h⟩⟩
theorem Kc {w : World} (o : Obj) (row : Option Nat) : w.grownBy (w.alloc o) row := World.grownBy_alloc w o row
theorem Z1c {a b c : World} {row : Option Nat} (h : a.grownBy b row) (k : b.grownBy c row) : a.grownBy c row :=
 ⟨k.os.trans h.os, k.tape.trans h.tape, k.output.trans h.output, Nat.le_trans h.size k.size, fun i hi hne => (k.block i (Nat.lt_of_lt_of_le hi h.size) hne).trans (h.block i hi hne)⟩
theorem gB_next {a b c : World} {v v' : Value} (h : a.grownBy b v.ownBlock) (hv : v'.ownBlock = v.ownBlock ∨ ∀ q, v'.ownBlock = some q → a.heap.size ≤ q) (k : b.grownBy c v'.ownBlock) : a.grownBy c v.ownBlock :=
 ⟨k.os.trans h.os, k.tape.trans h.tape, k.output.trans h.output, Nat.le_trans h.size k.size, fun i hi hne => (k.block i (Nat.lt_of_lt_of_le hi h.size) (by
   rcases hv with hv | hv
   · rw [hv]; exact hne
   · intro e; have := hv i e.symm; omega)).trans (h.block i hi hne)⟩
theorem addA_yes {l : List (List UInt8)} {a : List UInt8} (h : a ∈ l) : Qj l a = l := by rw [Qj, if_pos h]
theorem addA_no {l : List (List UInt8)} {a : List UInt8} (h : a ∉ l) : Qj l a = l ++ [a] := by rw [Qj, if_neg h]
theorem l1Atoms_atom (a : List UInt8) (cs : List Value) (B : Nat) (l : List (List UInt8)) (v : Value) (w : World) (ha : a ≠ []) (hl : l.length ≤ 1000000) (hv : FV nS w (fun k => k < B) (.atom a) cs) (hB : B ≤ w.heap.size) (ho : w.ownsRow B 9 1 v l.length (l.map Y3)) :
 Calls prog 124 #[.agg cs.toArray, v] w fun e w' => Z0q B w.heap.size v (Xu (.atom a) l) w e w' := by
 simp only [FV] at hv
 subst hv
 have hne := V7 ha
 obtain ⟨p, c, rfl⟩ := Zn ho
 obtain ⟨i0, hi0, hz0, hz1, hz2⟩ := info_parts Tryz.infoStr
 have HS := H_ (fun W (hW : W.ownsRow B 9 1 (.slice p l.length c) l.length (l.map Y3)) => Z7u _ l a W (Yh hW (by omega)))
 by_cases hm : a ∈ l
 · have HR : Hid (Xu (.atom a) l = l) := H_ (by rw [Z0o, addA_yes hm])
   have hd : decide (a ∈ l) = true := by simpa using hm
   rw [hd] at HS
   clear hm hd
   simp only [nS, Z1]
   go_enter func124, ntmps124
   go_wp2_with (go_at_call 99; go_must (refine (HS.out _ (ho.alloc _)).mono ?_; rintro e w1 ⟨rfl, rfl⟩))
   go_ret
   exact ⟨_, rfl, by rw [HR.out]; exact ho.alloc _, Kc _ _, .inl rfl⟩
 · have HR : Hid (Xu (.atom a) l = l ++ [a]) := H_ (by rw [Z0o, addA_no hm])
   have hd : decide (a ∈ l) = false := by simpa using hm
   rw [hd] at HS
   clear hm hd
   simp only [nS, Z1]
   go_enter func124, ntmps124
   go_wp2_with (first | (go_at_call 99; go_must (refine (HS.out _ (ho.alloc _)).mono ?_; rintro e w1 ⟨rfl, rfl⟩)) | (at_builtin; go_must (refine Zm _ rfl _ _ 28 rfl B 9 i0 (.string ⟨#[]⟩) 1 16 underlying28 hi0 hz0 hz1 hz2 rfl (by decide) _ _ _ rfl ((ho.alloc _).alloc _) ⟨w.heap.size + 1, 0, none⟩ [.string (bs a)] rfl rfl (Xr (Za _ _ _)) (by intro u hu; simp at hu; subst hu; rfl) (by unfold maxLen; omega) (by omega) (by simp; omega) ?_; intro g' c' w5 hown' hgrow hgg)))
   go_ret
   refine ⟨_, rfl, by rw [HR.out]; simpa [Y3] using hown', Z1c (Z1c (Kc _ _) (Kc _ _)) hgrow, ?_⟩
   rcases hgg with hgg | hgg
   · exact .inl hgg.symm
   · exact .inr (fun q hq => by simp [Value.ownBlock] at hq; subst hq; rw [hgg]; simp; omega)
theorem l1Atoms_list (n : Nat) (ih : AtS n) (ts : List Tr) (cs : List Value) (B : Nat) (l : List (List UInt8)) (v : Value) (w : World) (hd : (Tr.list ts).depth < n + 1) (hwf : (Tr.list ts).wf) (hl : l.length + (Tr.list ts).size ≤ 1000000) (hv : FV nS w (fun k => k < B) (.list ts) cs) (hB : B ≤ w.heap.size) (ho : w.ownsRow B 9 1 v l.length (l.map Y3)) :
 Calls prog 124 #[.agg cs.toArray, v] w fun e w' => Z0q B w.heap.size v (Xu (.list ts) l) w e w' := by
 obtain ⟨r, off, cap, xs, rfl, h2, h3, h4, h5, h6⟩ := FV.list_cells hv
 obtain ⟨p, c, rfl⟩ := Zn ho
 have hemp := Jl
 have h3' := Yl h4
 have hlen := Xi ts
 have HR := H_ (Z1v ts l)
 have HW := H_ hwf.2
 have HI := H_ ih
 simp only [Tr.size] at hl
 have HL : Hid (∀ k, l.length ≤ (Q0 (ts.take k) l).length ∧ (Q0 (ts.take k) l).length ≤ l.length + Yd (ts.take k)) := H_ (fun k => Z6j ts l k hwf.2)
 simp only [nS, Z1]
 clear ih hv hwf
 go_enter func124, ntmps124
 go_wp2_with fail
 go_loopg [1, 5] ts.length (fun q v1 i wr => ∃ (k : Nat), q + k = ts.length ∧ i = .int .i64 k ∧ wr.heap[w.heap.size]? = some (.cells #[.string (bs []), .slice (some ⟨r, off, none⟩) ts.length cap] 47 (0, 0)) ∧
  Hid (wr.ownsRow B 9 1 v1 (Q0 (ts.take k) l).length ((Q0 (ts.take k) l).map Y3)) ∧ Hid (w.grownBy wr (Value.slice p l.length c).ownBlock) ∧ (v1.ownBlock = (Value.slice p l.length c).ownBlock ∨ ∀ q, v1.ownBlock = some q → w.heap.size + 1 ≤ q))
 case atStart => exact ⟨0, by omega, rfl, heap_alloc_new _ _, H_ (by simpa [Q0] using ho.alloc _), H_ (Kc _ _), .inl rfl⟩
 case round =>
  obtain ⟨k, hq, rfl, hb0, ho1, hg, hvv⟩ := hrel
  obtain ⟨p1, c1, rfl⟩ := Zn ho1.out
  have x1 := Z4 (j := 1) hb0
  have hN := lt_of_block hb0
  by_cases hlt : k < ts.length
  · obtain ⟨ds, g1, g2⟩ := FVs.get Jn h6 h5 k hlt
    obtain ⟨p2, n2, c2, rfl⟩ := g1.node
    have hown0 : ∀ q, (Value.slice p l.length c).ownBlock = some q → B ≤ q := fun q hq => (ho.lt q hq).1
    have hmv : ∀ q, q < B → wr.heap[q]? = w.heap[q]? := fun q hq => hg.out.block q (by omega) (fun e => by have := hown0 q e.symm; omega)
    have e0 : wr.cell? ⟨r, off + k * 2, none⟩ = some (.string (bs (Z1 ts[k]))) := by rw [World.cell?_of_block (w := w) (w' := wr) (a := ⟨r, off + k * 2, none⟩) (hmv r h2)]; exact g2 0 _ rfl
    have e1 : wr.cell? ⟨r, off + k * 2 + 1, none⟩ = some (.slice p2 n2 c2) := by rw [World.cell?_of_block (w := w) (w' := wr) (a := ⟨r, off + k * 2 + 1, none⟩) (hmv r h2)]; exact g2 1 _ rfl
    have hk0 : (0 : Int) ≤ (k : Int) := by omega
    have hdk : ts[k].depth < n := by have := Xk hlt; omega
    have hwk := Ji HW.out hlt
    have hl1 := HL.out k
    have hl2 := HL.out (k + 1)
    have hs1 := Km ts k hlt
    have hs2 := Qo ts (k + 1)
    have HX := H_ (atomss_take ts l k hlt)
    obtain ⟨L, hL⟩ : ∃ L, L = Q0 (ts.take k) l := ⟨_, rfl⟩
    rw [← hL] at ho1 hl1 HX hvv ⊢
    have C := H_ (HI.out ts[k] _ B L _ wr hdk hwk (by omega) (FV.move (fun k hk => hk) (fun k hk => hmv k hk) _ _ g1) (by have := hg.out.size; omega) ho1.out)
    obtain ⟨u, hu⟩ : ∃ u, u = bs (Z1 ts[k]) := ⟨_, rfl⟩
    have HN : Hid (nS ts[k] (.slice p2 n2 c2) = [.string u, .slice p2 n2 c2]) := H_ (by rw [hu]; rfl)
    rw [← hu] at e0
    unfold Hid at C HN
    rw [HN] at C
    have C := H_ C
    clear HN g1 g2 hwk hL hu hs1 hs2 hmv hown0
    go_wp2_with (go_at_call 124; go_must (refine C.out.mono ?_; rintro e w2 ⟨v2, rfl, ho2, hg2, hvv2⟩))
    go_roundg (gk - 1)
    case measure => omega
    case rel =>
     have hgz := hg.out.size
     refine ⟨k + 1, by omega, by go_num, ?_, H_ (by rw [HX.out]; exact ho2), H_ (gB_next hg.out (hvv.imp id (fun h q hq => by have := h q hq; omega)) hg2), ?_⟩
     · rw [hg2.block _ hN (fun e => by
        rcases hvv with h | h
        · have := ho.lt w.heap.size (by rw [← h]; exact e.symm); omega
        · have := h _ e.symm; omega)]
       exact hb0
     · rcases hvv2 with h | h
       · rw [h]; exact hvv
       · exact .inr (fun q hq => by have := h q hq; omega)
  · have : k = ts.length := by omega
    subst this
    have hown := ho1.out
    rw [List.take_length] at hown
    have HO := H_ hown
    have HLn := H_ (show ts.take ts.length = ts from List.take_length)
    go_wp2_with fail
    go_ret
    exact ⟨_, rfl, by rw [HR.out]; have h9 := HO.out; rw [← HLn.out] at h9 ⊢; simpa using h9, hg.out, hvv.imp id (fun h q hq => by have := h q hq; omega)⟩
theorem Z5y : ∀ n, AtS n
 | 0 => fun t _ _ _ _ _ h => by omega
 | n + 1 => fun t cs B l v w hd hwf hl hv hB ho => by
   match t, hd, hwf, hl, hv with
   | .atom a, hd, hwf, hl, hv => exact l1Atoms_atom a cs B l v w hwf.1 (by omega) hv hB ho
   | .list ts, hd, hwf, hl, hv => exact l1Atoms_list n (Z5y n) ts cs B l v w hd hwf hl hv hB ho
end Go.Proofs.YtjaaalojcdbcpaaGreatDoor
