/- The program: closed expressions, counting, free names. The program: free names of a text. The reference model: the free names of a text, and whether it is closed. -/
import Derived.Test.YtjaaalojcdbcpaaGreatDoorlSlotsM
import Derived.Test.YtjaaalojcdbcpaaGreatDoorlS2f
import Derived.Test.YtjaaalojcdbcpaaGreatDoorlShelf
set_option maxHeartbeats 20000000
set_option linter.unusedVariables false
set_option linter.unusedSimpArgs false
namespace Go.Proofs.YtjaaalojcdbcpaaGreatDoor
open Go.RowKit Go.Proofs.Tryz
set_option maxRecDepth 8000
def Z3v : List Ex → Nat
 | [] => 0
 | k :: ks => lvs k + Z3v ks
theorem sumL_snoc (e : Ex) : ∀ ks : List Ex, Z3v (ks ++ [e]) = Z3v ks + lvs e
 | [] => by simp [Z3v]
 | k :: ks => by simp only [List.cons_append, Z3v, sumL_snoc e ks]; omega
theorem lvs_kids : ∀ x : Ex, lvs x ≤ max 1 (Z3v (Zb x))
 | .name _ => by simp [lvs, Zb, Z3v]
 | .num _ => by simp [lvs, Zb, Z3v]
 | .two _ a b => by simp only [lvs, Zb, Z3v]; omega
 | .one _ a => by simp only [lvs, Zb, Z3v]; omega
 | .cond a b c => by simp only [lvs, Zb, Z3v]; omega
 | .lete x e b => by simp only [lvs, Zb, Z3v]; omega
 | .func f x _ _ e => by simp only [lvs, Zb, Z3v]; omega
theorem lvs_le : ∀ (n : Nat) (t : Tr) (x : Ex), t.depth < n → t.wf → Zy t = some x → lvs x ≤ t.size
 | 0, t, x, h, _, _ => by omega
 | n + 1, .atom a, x, _, _, h => by
   simp only [Zy, Q8] at h
   simp only [Tr.size]
   split at h
   · simp only [Option.some.injEq] at h; subst h; simp [lvs]
   · split at h
     · simp only [Option.some.injEq] at h; subst h; simp [lvs]
     · cases h
 | n + 1, .list [], x, _, hw, h => by simp [Tr.wf] at hw
 | n + 1, .list (h :: ps), x, hd, hw, e => by
   obtain ⟨a, V⟩ := Z07 e
   have hsp := size_pos (.list (h :: ps)) hw
   simp only [Tr.wf] at hw
   have hstep : ∀ j, j ≤ (Zb x).length → Z3v ((Zb x).take j) ≤ Yd ((h :: ps).take (a + j)) := by
    intro j
    induction j with
    | zero => intro _; simp [Z3v]
    | succ j ih =>
      intro hj
      have hj' : j < (Zb x).length := by omega
      have hb := Vh V hj'
      have h1 := ih (by omega)
      have h2 := V.kid j hj' hb
      have h3 := lvs_le n _ _ (by have := Xk hb; omega) (Ji hw.2 hb) h2
      have h5 := Km (h :: ps) (a + j) hb
      rw [List.take_succ_eq_append_getElem hj', sumL_snoc, show a + (j + 1) = a + j + 1 by omega, h5]
      omega
   have h1 := hstep _ (Nat.le_refl _)
   rw [List.take_length] at h1
   have h2 := Qo (h :: ps) (a + (Zb x).length)
   have h3 := lvs_kids x
   simp only [Tr.size] at hsp ⊢
   omega
theorem Kn {l : List UInt8} {x : Ex} (h : Zp l = some x) : lvs x ≤ 120 := by
 cases hp : Zt l with
 | none => rw [Kr hp] at h; cases h
 | some t =>
   rw [J8 hp] at h
   split at h
   · rename_i hs
     have := lvs_le (t.depth + 1) t x (by omega) (Yk hp).1 h
     omega
   · cases h
def Qr (l : List UInt8) : Option Ex := (Zp l).filter (fun x => (Ze x).isEmpty)
theorem Z5w {l : List UInt8} (h : Zp l = none) : Qr l = none := by simp [Qr, h]
theorem Z57 {l : List UInt8} {x : Ex} (h : Zp l = some x) (hf : Ze x ≠ []) : Qr l = none := by simp [Qr, h, Option.filter, hf]
theorem Z2b {l : List UInt8} {x : Ex} (h : Zp l = some x) (hf : Ze x = []) : Qr l = some x := by simp [Qr, h, Option.filter, hf]
theorem Z4l (s : ByteArray) (hs : s.size ≤ 1048576) (w : World) :
 Calls prog 50 #[.string s] w fun e w' => Z88 w.heap.size (Qr s.data.toList) e w' ∧ Below w.heap.size w w' := by
 cases hp : Zp s.data.toList with
 | none =>
   have C := H_ (Qq hs hp)
   have HR := H_ (Z5w hp)
   clear hp
   go_enter func50, ntmps50
   go_wp2_with (go_at_call 34; go_must (refine (C.out _).mono ?_; rintro e w1 ⟨⟨v, rfl⟩, hb1⟩))
   go_ret2
   exact ⟨by rw [HR.out]; exact .inl rfl, hb1⟩
 | some x =>
   have C := H_ (Qp hs hp)
   have hl := Kn hp
   have CF : Hid (∀ (w1 : World) (B : Nat) (v : Value), EV w1 (fun k => B ≤ k ∧ k < w1.heap.size) x v → Calls prog 57 #[v] w1 (K7 w1 (Ze x))) := H_ (fun w1 B v hv => Qu x v _ w1 (by omega) hv (fun k hk => hk.2))
   have hlen := Yj x
   by_cases hf : Ze x = []
   · have HR := H_ (Z2b hp hf)
     rw [hf] at CF
     clear hp hf
     go_enter func50, ntmps50
     go_wp2_with (first | (go_at_call 34; go_must (refine (C.out _).mono ?_; rintro e w1 ⟨⟨v, rfl, hv⟩, hb1⟩; obtain ⟨T, u, rfl⟩ := hv.iface)) | (go_at_call 57; go_must (refine (CF.out _ _ _ hv).mono ?_; rintro e w2 ⟨⟨v2, rfl, ho2⟩, hb2⟩; obtain ⟨p2, c2, rfl⟩ := Zn ho2; simp only [List.length_nil] at ho2)))
     go_ret2
     exact ⟨by rw [HR.out]; exact ⟨_, rfl, EV.move (fun k hk => ⟨hk.1, Nat.lt_of_lt_of_le hk.2 hb2.size⟩) (fun k hk => hb2.block k hk.2) _ _ hv⟩, hb1.trans (hb2.mono hb1.size)⟩
   · have HR := H_ (Z57 hp hf)
     have hpos : 0 < (Ze x).length := List.length_pos_iff.2 hf
     generalize Ze x = P at *
     clear hp hf
     go_enter func50, ntmps50
     go_wp2_with (first | (go_at_call 34; go_must (refine (C.out _).mono ?_; rintro e w1 ⟨⟨v, rfl, hv⟩, hb1⟩; obtain ⟨T, u, rfl⟩ := hv.iface)) | (go_at_call 57; go_must (refine (CF.out _ _ _ hv).mono ?_; rintro e w2 ⟨⟨v2, rfl, ho2⟩, hb2⟩; obtain ⟨p2, c2, rfl⟩ := Zn ho2)))
     go_ret2
     exact ⟨by rw [HR.out]; exact .inl rfl, hb1.trans (hb2.mono hb1.size)⟩
theorem Z22 (s n : ByteArray) (hs : s.size ≤ 1048576) (hn : n.size ≤ 1048576) (w : World) :
 Calls prog 23 #[.string s, .string n] w fun e w' => e = .returned (.int .i64 (cntE s.data.toList n.data.toList)) ∧ Below w.heap.size w w' := by
 have CN := H_ (Z7s n hn)
 cases hp : Zp s.data.toList with
 | none =>
   have C := H_ (Qq hs hp)
   rw [cntE_none hp]
   clear hp
   go_enter func23, ntmps23
   go_wp2_with (first | (go_at_call 34; go_must (refine (C.out _).mono ?_; rintro e w1 ⟨⟨v, rfl⟩, hb1⟩)) | (go_at_call 49; go_must (refine (CN.out _).mono ?_; rintro e w2 ⟨rfl, rfl⟩)))
   go_ret
   exact ⟨rfl, hb1⟩
 | some x =>
   have C := H_ (Qp hs hp)
   have hl := Kn hp
   cases hm : Yg n.data.toList with
   | false =>
     rw [cntE_no hm]
     unfold Hid at CN
     rw [hm] at CN
     have CN := H_ CN
     clear hp hm
     go_enter func23, ntmps23
     go_wp2_with (first | (go_at_call 34; go_must (refine (C.out _).mono ?_; rintro e w1 ⟨⟨v, rfl, hv⟩, hb1⟩; obtain ⟨T, u, rfl⟩ := hv.iface)) | (go_at_call 49; go_must (refine (CN.out _).mono ?_; rintro e w2 ⟨rfl, rfl⟩)))
     go_ret
     exact ⟨rfl, hb1⟩
   | true =>
     rw [Z5i hp hm]
     unfold Hid at CN
     rw [hm] at CN
     have CN := H_ CN
     have CF : Hid (∀ (w1 : World) (B : Nat) (v : Value), EV w1 (fun k => B ≤ k ∧ k < w1.heap.size) x v → Calls prog 57 #[v] w1 (K7 w1 (Ze x))) := H_ (fun w1 B v hv => Qu x v _ w1 (by omega) hv (fun k hk => hk.2))
     have hlen : (Ze x).length ≤ 120 := by have := Yj x; omega
     have hnb : ∀ l : List UInt8, ((bs l).toList == n.toList) = (l == n.data.toList) := fun l => by rw [Z9]; simp [ByteArray.toList_eq]
     generalize Ze x = P at *
     have HC : Hid (∀ j, (P.take j).count n.data.toList ≤ 120) := H_ (fun j => by have h1 := List.count_le_length (a := n.data.toList) (l := P.take j); simp only [List.length_take] at h1; omega)
     clear hp hm
     go_enter func23, ntmps23
     go_wp2_with (first | (go_at_call 34; go_must (refine (C.out _).mono ?_; rintro e w1 ⟨⟨v, rfl, hv⟩, hb1⟩; obtain ⟨T, u, rfl⟩ := hv.iface)) | (go_at_call 49; go_must (refine (CN.out _).mono ?_; rintro e w2 ⟨rfl, rfl⟩)) | (go_at_call 57; go_must (refine (CF.out _ _ _ hv).mono ?_; rintro e w2 ⟨⟨v2, rfl, ho2⟩, hb2⟩; obtain ⟨p2, c2, rfl⟩ := Zn ho2)))
     have hS := H_ (Yh ho2 (by omega))
     clear ho2
     go_loop [7, 25] (fun m i => ∃ j S : Nat, j ≤ P.length ∧ i = .int .i64 j ∧ m = .int .i64 S ∧ Hid (S = (P.take j).count n.data.toList)) (fun _ i => P.length - (intOf i).toNat)
     case atStart => exact ⟨0, 0, Nat.zero_le _, rfl, rfl, H_ (by simp)⟩
     case round =>
      obtain ⟨j, S, hj, rfl, rfl, hSS⟩ := hrel
      have hb0 := HC.out j
      rw [← hSS.out] at hb0
      by_cases hlt : j < P.length
      · obtain ⟨p9, c9, he9, h91, h92⟩ := id hS.out
        simp only [Value.slice.injEq] at he9
        obtain ⟨rfl, -, rfl⟩ := he9
        obtain ⟨r, off, rfl, h93⟩ := h92 (fun e => by rw [e] at hlt; simp at hlt)
        have c0 : w2.cell? ⟨r, off + j, none⟩ = some (.string (bs P[j])) := Zw.cell h93 hlt
        have hj0 : (0 : Int) ≤ (j : Int) := by omega
        have HA := H_ (show (P.take (j + 1)).count n.data.toList = (P.take j).count n.data.toList + if P[j] = n.data.toList then 1 else 0 by rw [List.take_succ_eq_append_getElem hlt, List.count_append, List.count_cons, List.count_nil]; by_cases e : P[j] = n.data.toList <;> simp [e])
        have hq := hnb P[j]
        generalize P[j] = a at *
        clear h91 h92 h93
        by_cases hm : a = n.data.toList
        · have hx2 : ((bs a).toList == n.toList) = true := by rw [hq]; simpa using hm
          have hx3 : (bs a).toList = n.toList := by simpa using hx2
          rw [if_pos hm] at HA
          generalize bs a = A at c0 hx2 hx3
          clear hq hm
          go_wp2_with fail
          exact ⟨⟨j + 1, S + 1, by omega, by go_num, by go_num, H_ (by rw [HA.out, ← hSS.out])⟩, by simp [intOf]; omega⟩
        · have hx2 : ((bs a).toList == n.toList) = false := by rw [hq]; simpa using hm
          have hx3 : ¬ (bs a).toList = n.toList := by simpa using hx2
          rw [if_neg hm] at HA
          generalize bs a = A at c0 hx2 hx3
          clear hq hm
          go_wp2_with fail
          exact ⟨⟨j + 1, S, by omega, by go_num, rfl, H_ (by rw [HA.out, ← hSS.out]; rfl)⟩, by simp [intOf]; omega⟩
      · have : j = P.length := by omega
        subst this
        have hF := hSS.out
        rw [List.take_length] at hF
        have HF := H_ hF
        clear hF hSS
        go_wp2_with fail
        go_ret
        exact ⟨Z30 (by rw [HF.out]), hb1.trans (hb2.mono hb1.size)⟩
theorem clone_c (s : ByteArray) (hs : s.size ≤ 281474976710656) (w : World) : Calls prog 39 #[.string s] w fun e w' => e = .returned (.string s) ∧ Below w.heap.size w w' := by
 have C := H_ (fun W => Tryz.stringslite_Clone s W hs)
 go_enter func39, ntmps39
 go_wp2_with (go_at_call 75; go_must (refine (C.out _).mono ?_; rintro e w1 ⟨rfl, hb1⟩))
 go_ret
 exact ⟨rfl, hb1⟩
def V9 (l : List UInt8) : Option (List Nm) := (Zp l).map (fun x => (Ze x).foldl Qj [])
theorem Z7z {l : List UInt8} (h : Zp l = none) : V9 l = none := by simp [V9, h]
theorem Vk {l : List UInt8} {x : Ex} (h : Zp l = some x) : V9 l = some ((Ze x).foldl Qj []) := by simp [V9, h]
theorem Z3a {l : List UInt8} : ((V9 l).getD []).length ≤ 120 := by
 cases h : Zp l with
 | none => simp [V9, h]
 | some x =>
   have h1 := Kn h
   have h2 := Yj x
   have h3 := (Vl (Ze x) []).2
   simp only [Vk h, Option.getD_some, List.length_nil] at h3 ⊢
   omega
theorem Z60 : ∀ (n : Nat) (t : Tr) (x : Ex), t.depth < n → t.wf → Zy t = some x → ∀ a ∈ Ze x, a.length ≤ 4
 | 0, t, x, h, _, _ => by omega
 | n + 1, .atom a, x, _, _, h => by
   simp only [Zy, Q8] at h
   split at h
   · simp only [Option.some.injEq] at h; subst h; simp [Ze]
   · split at h
     · rename_i hm
       simp only [Option.some.injEq] at h; subst h
       intro b hb
       simp only [Ze, List.mem_singleton] at hb
       subst hb
       cases b with
       | nil => simp
       | cons c r => simp only [Yg, Bool.and_eq_true, decide_eq_true_eq] at hm; simp only [List.length_cons]; omega
     · cases h
 | n + 1, .list [], x, _, hw, h => by simp [Tr.wf] at hw
 | n + 1, .list (h :: ps), x, hd, hw, e => by
   obtain ⟨a, V⟩ := Z07 e
   rw [Yp x V.nn]
   simp only [Tr.wf] at hw
   have hstep : ∀ j, j ≤ (Zb x).length → ∀ b ∈ Zv (Zo x) 0 ((Zb x).take j), b.length ≤ 4 := by
    intro j
    induction j with
    | zero => intro _; simp [Zv]
    | succ j ih =>
      intro hj b hb
      have hj' : j < (Zb x).length := by omega
      have hbd := Vh V hj'
      have h2 := V.kid j hj' hbd
      have h3 := Z60 n _ _ (by have := Xk hbd; omega) (Ji hw.2 hbd) h2
      rw [Xt _ _ _ hj', List.mem_append] at hb
      rcases hb with hb | hb
      · exact ih (by omega) b hb
      · exact h3 b (List.mem_filter.1 hb).1
   have h1 := hstep _ (Nat.le_refl _)
   rw [List.take_length] at h1
   exact h1
theorem foldA_mem (P : List Nm) : ∀ l : List Nm, ∀ a ∈ P.foldl Qj l, a ∈ l ∨ a ∈ P := by
 induction P with
 | nil => intro l a h; exact .inl h
 | cons b P ih =>
   intro l a h
   rcases ih (Qj l b) a h with h | h
   · unfold Qj at h
     split at h
     · exact .inl h
     · rcases List.mem_append.1 h with h | h
       · exact .inl h
       · exact .inr (by simp at h; simp [h])
   · exact .inr (List.mem_cons_of_mem _ h)
theorem readEx_short {l : List UInt8} {x : Ex} (h : Zp l = some x) : ∀ a ∈ (Ze x).foldl Qj [], a.length ≤ 4 := by
 cases hp : Zt l with
 | none => rw [Kr hp] at h; cases h
 | some t =>
   rw [J8 hp] at h
   split at h
   · intro a ha
     rcases foldA_mem _ _ a ha with h1 | h1
     · cases h1
     · exact Z60 (t.depth + 1) t x (by omega) (Yk hp).1 h a h1
   · cases h
theorem set_self (l : List Nm) (j : Nat) (h : j < l.length) : (l.map Y3).set j (Y3 l[j]) = l.map Y3 := by
 apply List.ext_getElem?
 intro i
 by_cases hi : i = j
 · subst hi; simp [h]
 · rw [List.getElem?_set_ne (fun e => hi e.symm)]
theorem Z2m (s : ByteArray) (hs : s.size ≤ 1048576) (w : World) :
 Calls prog 14 #[.string s] w fun e w' => Z5m w.heap.size (V9 s.data.toList) e w' ∧ Below w.heap.size w w' := by
 cases hp : Zp s.data.toList with
 | none =>
   have C := H_ (Qq hs hp)
   have HR := H_ (Z7z hp)
   clear hp
   go_enter func14, ntmps14
   go_wp2_with (go_at_call 34; go_must (refine (C.out _).mono ?_; rintro e w1 ⟨⟨v, rfl⟩, hb1⟩))
   go_ret2
   exact ⟨by rw [HR.out]; exact ⟨_, rfl, World.ownsRow_nil _ _ _ _⟩, hb1⟩
 | some x =>
   have C := H_ (Qp hs hp)
   have hl := Kn hp
   have HR := H_ (Vk hp)
   have HSh := H_ (readEx_short hp)
   have hlen : ((Ze x).foldl Qj []).length ≤ 120 := by have := Z3a (l := s.data.toList); rw [HR.out] at this; exact this
   have CF : Hid (∀ (w1 : World) (B : Nat) (v : Value), EV w1 (fun k => B ≤ k ∧ k < w1.heap.size) x v → Calls prog 38 #[v] w1 (K7 w1 ((Ze x).foldl Qj []))) := H_ (fun w1 B v hv => Z61 x v _ w1 (by omega) hv (fun k hk => hk.2))
   generalize (Ze x).foldl Qj [] = l at *
   clear hp
   go_enter func14, ntmps14
   go_wp2_with (first | (go_at_call 34; go_must (refine (C.out _).mono ?_; rintro e w1 ⟨⟨v, rfl, hv⟩, hb1⟩; obtain ⟨T, u, rfl⟩ := hv.iface)) | (go_at_call 38; go_must (refine (CF.out _ _ _ hv).mono ?_; rintro e w2 ⟨⟨v2, rfl, ho2⟩, hb2⟩; obtain ⟨p2, c2, rfl⟩ := Zn ho2)))
   have HO := H_ ho2
   have hb12 := hb1.trans (hb2.mono hb1.size)
   have hz12 := hb1.size
   clear ho2
   go_loopw [20] (fun i wr => ∃ j : Nat, j ≤ l.length ∧ i = .int .i64 j ∧ Hid (wr.ownsRow w1.heap.size 9 1 (.slice p2 l.length c2) l.length (l.map Y3)) ∧ Below w1.heap.size w1 wr) (fun i _ => l.length - (intOf i).toNat)
   case atStart => exact ⟨0, Nat.zero_le _, rfl, HO, hb2⟩
   case round =>
    obtain ⟨j, hj, rfl, hO, hb⟩ := hrel
    by_cases hlt : j < l.length
    · obtain ⟨g, hg⟩ : ∃ g, p2 = some ⟨g, 0, none⟩ := by
       rcases hO.out.2 with ⟨h0, h00⟩ | ⟨g, cap, cur, h0, _⟩
       · omega
       · simp only [Value.slice.injEq] at h0; exact ⟨g, h0.1⟩
      subst hg
      have hrow := X4 hO.out
      have c0 : wr.cell? ⟨g, j, none⟩ = some (.string (bs l[j])) := by have := Zw.cell hrow hlt; simpa using this
      have hsh := HSh.out l[j] (List.getElem_mem hlt)
      have CC := H_ (clone_c (bs l[j]) (by rw [Y0]; omega) wr)
      have HSet := H_ (set_self l j hlt)
      have hbg := (Yb hO.out (k := g) rfl)
      have hj0 : (0 : Int) ≤ (j : Int) := by omega
      have HX : Hid (∀ w3, Below wr.heap.size wr w3 → (w3.setCell ⟨g, j, none⟩ (.string (bs l[j]))).ownsRow w1.heap.size 9 1 (.slice (some ⟨g, 0, none⟩) l.length c2) l.length (l.map Y3) ∧ Below w1.heap.size w1 (w3.setCell ⟨g, j, none⟩ (.string (bs l[j]))) ∧ w3.frozen? ⟨g, j, none⟩ = false ∧ w3.cell? ⟨g, j, none⟩ = some (.string (bs l[j]))) := H_ (fun w3 h3 => by
       have h4 := Zx hO.out h3
       have h5 := h4.stored j (Y3 l[j])
       rw [HSet.out] at h5
       refine ⟨h5.1, (hb.trans (h3.mono hb.size)).setCell hbg.1 _, ?_, ?_⟩
       · rcases h4.2 with ⟨h0, _⟩ | ⟨g', cap, cur, h0, _, hgg, _⟩
         · cases h0
         · simp only [Value.slice.injEq, Option.some.injEq, Addr.mk.injEq] at h0
           obtain ⟨⟨rfl, _⟩, _⟩ := h0
           exact Yf hgg
       · have := Zw.cell (X4 h4) hlt; simpa using this)
      clear hrow hsh HSet HSh
      generalize l[j] = a at *
      go_wp2_with (go_at_call 39; go_must (refine (CC.out).mono ?_; rintro e w3 ⟨rfl, hb3⟩; obtain ⟨x1, x2, x3, x4⟩ := HX.out _ hb3; have X1 := H_ x1; clear x1))
      go_roundw
      case rel => exact ⟨j + 1, by omega, by go_num, X1, x2⟩
      case measure => simp [intOf]; omega
    · have : j = l.length := by omega
      subst this
      go_wp2_with fail
      go_ret2
      exact ⟨by rw [HR.out]; exact ⟨_, rfl, Vf hO.out hb1.size⟩, hb1.trans (hb.mono hb1.size)⟩
theorem Z71 (s : ByteArray) (hs : s.size ≤ 1048576) (w : World) :
 Calls prog 97 #[.string s] w fun e w' => Z5m w.heap.size (V9 s.data.toList) e w' ∧ Below w.heap.size w w' := by
 cases hp : Xv s.data.toList with
 | none =>
   have C := H_ (Z4t hs hp)
   have HR := H_ (Z7z (Z4j hp))
   clear hp
   go_enter func97, ntmps97
   go_wp2_with (go_at_call 29; go_must (refine (C.out _).mono ?_; rintro e w1 ⟨⟨a, p, m, c, rfl, hnl⟩, hb1⟩))
   go_ret2
   exact ⟨by rw [HR.out]; exact ⟨_, rfl, made_none hb1⟩, (hb1.alloc hb1.size _).alloc (by have := hb1.size; simp; omega) _⟩
 | some t =>
   have C := H_ (Z06 hs hp)
   obtain ⟨x, hx1, hx2⟩ := Z4k hp
   have hg := Yk (Ve hp).1
   have hst := (Q9 t hg.1).1
   have HR := H_ (Vk hx1)
   have CR : Hid (∀ (w1 : World) (B0 : Nat) p m c, FV nS w1 (fun k => B0 ≤ k ∧ k < w1.heap.size) t (nS t (.slice p m c)) → Calls prog 67 #[.agg #[.string (bs (Z1 t)), .slice p m c], .slice (some ⟨w1.heap.size + 1, 0, none⟩) 0 0, .slice (some ⟨w1.heap.size + 1 + 1, 0, none⟩) 0 0] (((w1.alloc (.cells #[.string (bs (Z1 t)), .slice p m c] 47)).alloc (.cells #[] 9)).alloc (.cells #[] 9)) fun e w' => Z0q w1.heap.size (w1.heap.size + 3) (.slice (some ⟨w1.heap.size + 1 + 1, 0, none⟩) 0 0) ((Ze x).foldl Qj []) (((w1.alloc (.cells #[.string (bs (Z1 t)), .slice p m c] 47)).alloc (.cells #[] 9)).alloc (.cells #[] 9)) e w') := H_ (fun w1 B0 p m c hv => by
    obtain ⟨W, hW⟩ : ∃ W, W = (((w1.alloc (.cells #[.string (bs (Z1 t)), .slice p m c] 47)).alloc (.cells #[] 9)).alloc (.cells #[] 9)) := ⟨_, rfl⟩
    have hbW : Below w1.heap.size w1 W := by rw [hW]; exact Qf _ _ _ _
    have hsW : W.heap.size = w1.heap.size + 3 := by rw [hW]; simp
    have hq1 : W.heap[w1.heap.size + 1]? = some (.cells #[] 9 (0, 0)) := by rw [hW]; exact Z8 (Za _ _ _)
    have hq2 : W.heap[w1.heap.size + 1 + 1]? = some (.cells #[] 9 (0, 0)) := by rw [hW]; have := Za (w1.alloc (.cells #[.string (bs (Z1 t)), .slice p m c] 47)) (.cells #[] 9) (.cells #[] 9); simpa using this
    rw [← hW]
    have h := Z46 (t.depth + 1) t x (nS t (.slice p m c)) w1.heap.size [] [] (.slice (some ⟨w1.heap.size + 1 + 1, 0, none⟩) 0 0) (.slice (some ⟨w1.heap.size + 1, 0, none⟩) 0 0) W (by omega) hg.1 (by have := hg.2; omega) (by have := hg.2; simp; omega) (by have := hg.2; simp; omega) hx2 ((FV.move (fun k hk => hk.2) (fun k hk => hbW.block k hk.2) _ _ hv)) (by omega) (Q5 hq2 (by omega)) ⟨_, 0, rfl, by simp, fun hne => absurd rfl hne⟩ (fun k hk => by simp [Value.ownBlock] at hk; subst hk; exact ⟨by simp [Value.ownBlock], by omega⟩)
    rw [hsW] at h
    have e : V8 [] [] (Ze x) = (Ze x).foldl Qj [] := by rw [V8, K5]
    rw [e] at h
    exact h)
   clear hp hx1 hx2 hst
   go_enter func97, ntmps97
   go_wp2_with (first | (go_at_call 29; go_must (refine (C.out _).mono ?_; rintro e w1 ⟨⟨p, m, c, rfl, hv⟩, hb1⟩)) | (go_at_call 67; go_must (refine (CR.out w1 _ p m c hv).mono ?_; rintro e w2 ⟨v2, rfl, ho2, hg2, hv2⟩)))
   go_ret2
   exact ⟨by rw [HR.out]; exact ⟨_, rfl, Vf ho2 hb1.size⟩, Ya hb1 (Qf _ _ _ _) hg2 (fun k hk => by simp [Value.ownBlock] at hk; have := hb1.size; omega)⟩
theorem closed_eq (l : List UInt8) : ((V9 l).isSome && decide (((V9 l).getD []).length = 0)) = (Qr l).isSome := by
 cases h : Zp l with
 | none => simp [V9, Qr, h]
 | some x =>
   rw [Vk h]
   by_cases hf : Ze x = []
   · rw [Z2b h hf, hf]; rfl
   · rw [Z57 h hf]
     have : (Ze x).foldl Qj [] ≠ [] := fun e => hf ((foldA_nil _).1 e)
     simp [this]
theorem Z14 (s : ByteArray) (hs : s.size ≤ 1048576) (w : World) :
 Calls prog 54 #[.string s] w fun e w' => e = .returned (.bool (Qr s.data.toList).isSome) ∧ Below w.heap.size w w' := by
 have C : Hid (∀ W, Calls prog 97 #[.string s] W fun e w' => (∃ p n c, e = .returned (.tuple #[.slice p n c, .bool (V9 s.data.toList).isSome]) ∧ n = ((V9 s.data.toList).getD []).length) ∧ Below W.heap.size W w') := H_ (fun W => (Z71 s hs W).mono fun e w' ⟨⟨v, h1, h2⟩, h3⟩ => by
  obtain ⟨p, c, rfl⟩ := Zn h2
  exact ⟨⟨p, _, c, h1, rfl⟩, h3⟩)
 have HE := H_ (closed_eq s.data.toList)
 have hn : ((V9 s.data.toList).getD []).length ≤ 120 := Z3a
 generalize ((V9 s.data.toList).getD []).length = N at *
 generalize (V9 s.data.toList).isSome = z at *
 cases z with
 | false =>
   go_enter func54, ntmps54
   go_wp2_with (go_at_call 97; go_must (refine (C.out _).mono ?_; rintro e w1 ⟨⟨p, n, c, rfl, rfl⟩, hb1⟩))
   go_ret
   exact ⟨Zf (by rw [← HE.out]; rfl), hb1⟩
 | true =>
   by_cases h0 : N = 0
   · subst h0
     go_enter func54, ntmps54
     go_wp2_with (go_at_call 97; go_must (refine (C.out _).mono ?_; rintro e w1 ⟨⟨p, n, c, rfl, rfl⟩, hb1⟩))
     go_ret
     exact ⟨Zf (by rw [← HE.out]; rfl), hb1⟩
   · have hz : ((N : Int) == 0) = false := by simp; omega
     have hz2 : ¬ (N : Int) = 0 := by omega
     go_enter func54, ntmps54
     go_wp2_with (go_at_call 97; go_must (refine (C.out _).mono ?_; rintro e w1 ⟨⟨p, n, c, rfl, rfl⟩, hb1⟩))
     go_ret
     exact ⟨Zf (by rw [← HE.out]; simp [h0]), hb1⟩
end Go.Proofs.YtjaaalojcdbcpaaGreatDoor
