/- The program: closed expressions, counting, free names. The program: free names of a text. The reference model: the free names of a text, and whether it is closed. -/
import Derived.Test.YtmgepnacjgbfhaaGreatDoorsS2fM
import Derived.Test.YtmgepnacjgbfhaaGreatDoorsShelf
namespace Go.Proofs.YtmgepnacjgbfhaaGreatDoor
open Go.RowKit Go.Proofs.Tryz
set_option maxRecDepth 8000
set_option maxHeartbeats 20000000
set_option linter.unusedVariables false
set_option linter.unusedSimpArgs false
def Z37 : List Ex → Nat
 | [] => 0
 | k :: ks => lvs k + Z37 ks
theorem sumL_snoc (e : Ex) : ∀ ks : List Ex, Z37 (ks ++ [e]) = Z37 ks + lvs e
 | [] => by simp [Z37]
 | k :: ks => by simp only [List.cons_append, Z37, sumL_snoc e ks]; omega
theorem lvs_kids : ∀ x : Ex, lvs x ≤ max 1 (Z37 (Zd x))
 | .name _ => by simp [lvs, Zd, Z37]
 | .num _ => by simp [lvs, Zd, Z37]
 | .two _ a b => by simp only [lvs, Zd, Z37]; omega
 | .one _ a => by simp only [lvs, Zd, Z37]; omega
 | .cond a b c => by simp only [lvs, Zd, Z37]; omega
 | .lete x e b => by simp only [lvs, Zd, Z37]; omega
 | .func f x _ _ e => by simp only [lvs, Zd, Z37]; omega
theorem lvs_le : ∀ (n : Nat) (t : Tr) (x : Ex), t.depth < n → t.wf → Yg t = some x → lvs x ≤ t.size
 | 0, t, x, h, _, _ => by omega
 | n + 1, .atom a, x, _, _, h => by
   simp only [Yg, Qs] at h
   simp only [Tr.size]
   split at h
   · simp only [Option.some.injEq] at h; subst h; simp [lvs]
   · split at h
     · simp only [Option.some.injEq] at h; subst h; simp [lvs]
     · cases h
 | n + 1, .list [], x, _, hw, h => by simp [Tr.wf] at hw
 | n + 1, .list (h :: ps), x, hd, hw, e => by
   obtain ⟨a, V⟩ := kidView e
   have hsp := size_pos (.list (h :: ps)) hw
   simp only [Tr.wf] at hw
   have hstep : ∀ j, j ≤ (Zd x).length → Z37 ((Zd x).take j) ≤ Xo ((h :: ps).take (a + j)) := by
    intro j
    induction j with
    | zero => intro _; simp [Z37]
    | succ j ih =>
      intro hj
      have hj' : j < (Zd x).length := by omega
      have hb := Z71 V hj'
      have h1 := ih (by omega)
      have h2 := V.kid j hj' hb
      have h3 := lvs_le n _ _ (by have := Xa hb; omega) (Xu hw.2 hb) h2
      have h5 := Z0u (h :: ps) (a + j) hb
      rw [List.take_succ_eq_append_getElem hj', sumL_snoc, show a + (j + 1) = a + j + 1 by omega, h5]
      omega
   have h1 := hstep _ (Nat.le_refl _)
   rw [List.take_length] at h1
   have h2 := Js (h :: ps) (a + (Zd x).length)
   have h3 := lvs_kids x
   simp only [Tr.size] at hsp ⊢
   omega
theorem Z3c {l : List UInt8} {x : Ex} (h : Yf l = some x) : lvs x ≤ 120 := by
 cases hp : Zt l with
 | none => rw [K9 hp] at h; cases h
 | some t =>
   rw [Qj hp] at h
   split at h
   · rename_i hs
     have := lvs_le (t.depth + 1) t x (by omega) (Yn hp).1 h
     omega
   · cases h
def Jm (l : List UInt8) : Option Ex := (Yf l).filter (fun x => (Zj x).isEmpty)
theorem Z59 {l : List UInt8} (h : Yf l = none) : Jm l = none := by simp [Jm, h]
theorem readCl_no {l : List UInt8} {x : Ex} (h : Yf l = some x) (hf : Zj x ≠ []) : Jm l = none := by simp [Jm, h, Option.filter, hf]
theorem Z1l {l : List UInt8} {x : Ex} (h : Yf l = some x) (hf : Zj x = []) : Jm l = some x := by simp [Jm, h, Option.filter, hf]
theorem Z3u (s : ByteArray) (hs : s.size ≤ 1048576) (w : World) :
 Calls prog 31 #[.string s] w fun e w' => Z7h w.heap.size (Jm s.data.toList) e w' ∧ Below w.heap.size w w' := by
 cases hp : Yf s.data.toList with
 | none =>
   have C := H_ (Ku hs hp)
   have HR := H_ (Z59 hp)
   clear hp
   go_enter func31, ntmps31
   go_wp2_with (go_at_call 18; go_must (refine (C.out _).mono ?_; rintro e w1 ⟨⟨v, rfl⟩, hb1⟩))
   go_ret2
   exact ⟨by rw [HR.out]; exact .inl rfl, hb1⟩
 | some x =>
   have C := H_ (Kt hs hp)
   have hl := Z3c hp
   have CF : Hid (∀ (w1 : World) (B : Nat) (v : Value), EV w1 (fun k => B ≤ k ∧ k < w1.heap.size) x v → Calls prog 57 #[v] w1 (K7 w1 (Zj x))) := H_ (fun w1 B v hv => Qz x v _ w1 (by omega) hv (fun k hk => hk.2))
   have hlen := Yp x
   by_cases hf : Zj x = []
   · have HR := H_ (Z1l hp hf)
     rw [hf] at CF
     clear hp hf
     go_enter func31, ntmps31
     go_wp2_with (first | (go_at_call 18; go_must (refine (C.out _).mono ?_; rintro e w1 ⟨⟨v, rfl, hv⟩, hb1⟩; obtain ⟨T, u, rfl⟩ := hv.iface)) | (go_at_call 57; go_must (refine (CF.out _ _ _ hv).mono ?_; rintro e w2 ⟨⟨v2, rfl, ho2⟩, hb2⟩; obtain ⟨p2, c2, rfl⟩ := Zv ho2; simp only [List.length_nil] at ho2)))
     go_ret2
     exact ⟨by rw [HR.out]; exact ⟨_, rfl, EV.move (fun k hk => ⟨hk.1, Nat.lt_of_lt_of_le hk.2 hb2.size⟩) (fun k hk => hb2.block k hk.2) _ _ hv⟩, hb1.trans (hb2.mono hb1.size)⟩
   · have HR := H_ (readCl_no hp hf)
     have hpos : 0 < (Zj x).length := List.length_pos_iff.2 hf
     generalize Zj x = P at *
     clear hp hf
     go_enter func31, ntmps31
     go_wp2_with (first | (go_at_call 18; go_must (refine (C.out _).mono ?_; rintro e w1 ⟨⟨v, rfl, hv⟩, hb1⟩; obtain ⟨T, u, rfl⟩ := hv.iface)) | (go_at_call 57; go_must (refine (CF.out _ _ _ hv).mono ?_; rintro e w2 ⟨⟨v2, rfl, ho2⟩, hb2⟩; obtain ⟨p2, c2, rfl⟩ := Zv ho2)))
     go_ret2
     exact ⟨by rw [HR.out]; exact .inl rfl, hb1.trans (hb2.mono hb1.size)⟩
theorem clone_c (s : ByteArray) (hs : s.size ≤ 281474976710656) (w : World) : Calls prog 25 #[.string s] w fun e w' => e = .returned (.string s) ∧ Below w.heap.size w w' := by
 have C := H_ (fun W => Tryz.stringslite_Clone s W hs)
 go_enter func25, ntmps25
 go_wp2_with (go_at_call 59; go_must (refine (C.out _).mono ?_; rintro e w1 ⟨rfl, hb1⟩))
 go_ret
 exact ⟨rfl, hb1⟩
def Z5j (l : List UInt8) : Option (List Nm) := (Yf l).map (fun x => (Zj x).foldl Je [])
theorem freeE_none {l : List UInt8} (h : Yf l = none) : Z5j l = none := by simp [Z5j, h]
theorem Z16 {l : List UInt8} {x : Ex} (h : Yf l = some x) : Z5j l = some ((Zj x).foldl Je []) := by simp [Z5j, h]
theorem freeE_len {l : List UInt8} : ((Z5j l).getD []).length ≤ 120 := by
 cases h : Yf l with
 | none => simp [Z5j, h]
 | some x =>
   have h1 := Z3c h
   have h2 := Yp x
   have h3 := (foldA_len (Zj x) []).2
   simp only [Z16 h, Option.getD_some, List.length_nil] at h3 ⊢
   omega
theorem Z5h : ∀ (n : Nat) (t : Tr) (x : Ex), t.depth < n → t.wf → Yg t = some x → ∀ a ∈ Zj x, a.length ≤ 4
 | 0, t, x, h, _, _ => by omega
 | n + 1, .atom a, x, _, _, h => by
   simp only [Yg, Qs] at h
   split at h
   · simp only [Option.some.injEq] at h; subst h; simp [Zj]
   · split at h
     · rename_i hm
       simp only [Option.some.injEq] at h; subst h
       intro b hb
       simp only [Zj, List.mem_singleton] at hb
       subst hb
       cases b with
       | nil => simp
       | cons c r => simp only [Yl, Bool.and_eq_true, decide_eq_true_eq] at hm; simp only [List.length_cons]; omega
     · cases h
 | n + 1, .list [], x, _, hw, h => by simp [Tr.wf] at hw
 | n + 1, .list (h :: ps), x, hd, hw, e => by
   obtain ⟨a, V⟩ := kidView e
   rw [Yx x V.nn]
   simp only [Tr.wf] at hw
   have hstep : ∀ j, j ≤ (Zd x).length → ∀ b ∈ Y0 (Yd x) 0 ((Zd x).take j), b.length ≤ 4 := by
    intro j
    induction j with
    | zero => intro _; simp [Y0]
    | succ j ih =>
      intro hj b hb
      have hj' : j < (Zd x).length := by omega
      have hbd := Z71 V hj'
      have h2 := V.kid j hj' hbd
      have h3 := Z5h n _ _ (by have := Xa hbd; omega) (Xu hw.2 hbd) h2
      rw [Ql _ _ _ hj', List.mem_append] at hb
      rcases hb with hb | hb
      · exact ih (by omega) b hb
      · exact h3 b (List.mem_filter.1 hb).1
   have h1 := hstep _ (Nat.le_refl _)
   rw [List.take_length] at h1
   exact h1
theorem foldA_mem (P : List Nm) : ∀ l : List Nm, ∀ a ∈ P.foldl Je l, a ∈ l ∨ a ∈ P := by
 induction P with
 | nil => intro l a h; exact .inl h
 | cons b P ih =>
   intro l a h
   rcases ih (Je l b) a h with h | h
   · unfold Je at h
     split at h
     · exact .inl h
     · rcases List.mem_append.1 h with h | h
       · exact .inl h
       · exact .inr (by simp at h; simp [h])
   · exact .inr (List.mem_cons_of_mem _ h)
theorem readEx_short {l : List UInt8} {x : Ex} (h : Yf l = some x) : ∀ a ∈ (Zj x).foldl Je [], a.length ≤ 4 := by
 cases hp : Zt l with
 | none => rw [K9 hp] at h; cases h
 | some t =>
   rw [Qj hp] at h
   split at h
   · intro a ha
     rcases foldA_mem _ _ a ha with h1 | h1
     · cases h1
     · exact Z5h (t.depth + 1) t x (by omega) (Yn hp).1 h a h1
   · cases h
theorem set_self (l : List Nm) (j : Nat) (h : j < l.length) : (l.map Ye).set j (Ye l[j]) = l.map Ye := by
 apply List.ext_getElem?
 intro i
 by_cases hi : i = j
 · subst hi; simp [h]
 · rw [List.getElem?_set_ne (fun e => hi e.symm)]
theorem Z76 (s : ByteArray) (hs : s.size ≤ 1048576) (w : World) :
 Calls prog 7 #[.string s] w fun e w' => PartsPost w.heap.size (Z5j s.data.toList) e w' ∧ Below w.heap.size w w' := by
 cases hp : Yf s.data.toList with
 | none =>
   have C := H_ (Ku hs hp)
   have HR := H_ (freeE_none hp)
   clear hp
   go_enter func7, ntmps7
   go_wp2_with (go_at_call 18; go_must (refine (C.out _).mono ?_; rintro e w1 ⟨⟨v, rfl⟩, hb1⟩))
   go_ret2
   exact ⟨by rw [HR.out]; exact ⟨_, rfl, World.ownsRow_nil _ _ _ _⟩, hb1⟩
 | some x =>
   have C := H_ (Kt hs hp)
   have hl := Z3c hp
   have HR := H_ (Z16 hp)
   have HSh := H_ (readEx_short hp)
   have hlen : ((Zj x).foldl Je []).length ≤ 120 := by have := freeE_len (l := s.data.toList); rw [HR.out] at this; exact this
   have CF : Hid (∀ (w1 : World) (B : Nat) (v : Value), EV w1 (fun k => B ≤ k ∧ k < w1.heap.size) x v → Calls prog 24 #[v] w1 (K7 w1 ((Zj x).foldl Je []))) := H_ (fun w1 B v hv => freeNames_c x v _ w1 (by omega) hv (fun k hk => hk.2))
   generalize (Zj x).foldl Je [] = l at *
   clear hp
   go_enter func7, ntmps7
   go_wp2_with (first | (go_at_call 18; go_must (refine (C.out _).mono ?_; rintro e w1 ⟨⟨v, rfl, hv⟩, hb1⟩; obtain ⟨T, u, rfl⟩ := hv.iface)) | (go_at_call 24; go_must (refine (CF.out _ _ _ hv).mono ?_; rintro e w2 ⟨⟨v2, rfl, ho2⟩, hb2⟩; obtain ⟨p2, c2, rfl⟩ := Zv ho2)))
   have HO := H_ ho2
   have hb12 := hb1.trans (hb2.mono hb1.size)
   have hz12 := hb1.size
   clear ho2
   go_loopw [20] (fun i wr => ∃ j : Nat, j ≤ l.length ∧ i = .int .i64 j ∧ Hid (wr.ownsRow w1.heap.size 9 1 (.slice p2 l.length c2) l.length (l.map Ye)) ∧ Below w1.heap.size w1 wr) (fun i _ => l.length - (intOf i).toNat)
   case atStart => exact ⟨0, Nat.zero_le _, rfl, HO, hb2⟩
   case round =>
    obtain ⟨j, hj, rfl, hO, hb⟩ := hrel
    by_cases hlt : j < l.length
    · obtain ⟨g, hg⟩ : ∃ g, p2 = some ⟨g, 0, none⟩ := by
       rcases hO.out.2 with ⟨h0, h00⟩ | ⟨g, cap, cur, h0, _⟩
       · omega
       · simp only [Value.slice.injEq] at h0; exact ⟨g, h0.1⟩
      subst hg
      have hrow := Yv hO.out
      have c0 : wr.cell? ⟨g, j, none⟩ = some (.string (bs l[j])) := by have := Zo.cell hrow hlt; simpa using this
      have hsh := HSh.out l[j] (List.getElem_mem hlt)
      have CC := H_ (clone_c (bs l[j]) (by rw [Y1]; omega) wr)
      have HSet := H_ (set_self l j hlt)
      have hbg := (Xn hO.out (k := g) rfl)
      have hj0 : (0 : Int) ≤ (j : Int) := by omega
      have HX : Hid (∀ w3, Below wr.heap.size wr w3 → (w3.setCell ⟨g, j, none⟩ (.string (bs l[j]))).ownsRow w1.heap.size 9 1 (.slice (some ⟨g, 0, none⟩) l.length c2) l.length (l.map Ye) ∧ Below w1.heap.size w1 (w3.setCell ⟨g, j, none⟩ (.string (bs l[j]))) ∧ w3.frozen? ⟨g, j, none⟩ = false ∧ w3.cell? ⟨g, j, none⟩ = some (.string (bs l[j]))) := H_ (fun w3 h3 => by
       have h4 := Y9 hO.out h3
       have h5 := h4.stored j (Ye l[j])
       rw [HSet.out] at h5
       refine ⟨h5.1, (hb.trans (h3.mono hb.size)).setCell hbg.1 _, ?_, ?_⟩
       · rcases h4.2 with ⟨h0, _⟩ | ⟨g', cap, cur, h0, _, hgg, _⟩
         · cases h0
         · simp only [Value.slice.injEq, Option.some.injEq, Addr.mk.injEq] at h0
           obtain ⟨⟨rfl, _⟩, _⟩ := h0
           exact Xh hgg
       · have := Zo.cell (Yv h4) hlt; simpa using this)
      clear hrow hsh HSet HSh
      generalize l[j] = a at *
      go_wp2_with (go_at_call 25; go_must (refine (CC.out).mono ?_; rintro e w3 ⟨rfl, hb3⟩; obtain ⟨x1, x2, x3, x4⟩ := HX.out _ hb3; have X1 := H_ x1; clear x1))
      go_roundw
      case rel => exact ⟨j + 1, by omega, by go_num, X1, x2⟩
      case measure => simp [intOf]; omega
    · have : j = l.length := by omega
      subst this
      go_wp2_with fail
      go_ret2
      exact ⟨by rw [HR.out]; exact ⟨_, rfl, Vn hO.out hb1.size⟩, hb1.trans (hb.mono hb1.size)⟩
end Go.Proofs.YtmgepnacjgbfhaaGreatDoor
