/- The reference model reads a whole text. The reference model's measures and types. The reference model's types. -/
import Derived.Test.YtjaaalojcdbcpaaGreatDoorlSpec1a
import Derived.Test.YtjaaalojcdbcpaaGreatDoorlB1
set_option maxHeartbeats 20000000
set_option linter.unusedVariables false
set_option linter.unusedSimpArgs false
namespace Go.Proofs.YtjaaalojcdbcpaaGreatDoor
open Go.RowKit Go.Proofs.Tryz
set_option maxRecDepth 8000
def Z5n (B : Nat) (res : Option Tr) (e : Ending) (w' : World) : Prop :=
 match res with
 | none => ∃ a p n c, e = .returned (.tuple #[.agg #[.string a, .slice p n c], .bool false]) ∧ n ≤ maxLen
 | some t => ∃ p n c, e = .returned (.tuple #[.agg (nS t (.slice p n c)).toArray, .bool true]) ∧ FV nS w' (fun k => B ≤ k ∧ k < w'.heap.size) t (nS t (.slice p n c))
theorem Z59 {l : List UInt8} (h : 12000 < l.length) : Zt l = none := by simp [Zt, h]
theorem parse_readS {l : List UInt8} (h : ¬ 12000 < l.length) : Zt l = (match X8 61 l with | some (t, []) => some t | _ => none) := by unfold Zt; rw [if_neg h]; rfl
theorem Z0c (s : ByteArray) (hs : s.size ≤ 1048576) (w : World) :
 Calls prog 64 #[.string s] w fun e w' => Z5n w.heap.size (Zt s.data.toList) e w' ∧ Below w.heap.size w w' := by
 by_cases hlong : 12000 < s.size
 · have HP := H_ (Z59 (l := s.data.toList) (by simpa using hlong))
   have hd : decide (12000 < (s.size : Int)) = true := by simp; omega
   go_enter func64, ntmps64
   go_wp2_with fail
   exact bodyPost_ret (v := .tuple #[.agg #[.string ⟨#[]⟩, .slice none 0 0], .bool false]) (by simp [results, results64, go_sem]) rfl ⟨by rw [HP.out]; exact ⟨_, _, _, _, rfl, Nat.zero_le _⟩, Z5 _ _⟩
 · have hp := parse_readS (l := s.data.toList) (by simpa using hlong)
   have hs2 : s.size ≤ 12000 := by omega
   have HF := H_ (fun w => l1Read_c s hs 61 0 0 w (by omega) (by omega))
   cases hres : X8 61 s.data.toList with
   | none =>
     rw [hres] at hp
     have HP := H_ hp
     have HC : Hid (∀ w, Calls prog 107 #[.string s, .int .i64 0, .int .i64 0] w fun e w' => (∃ a p n c, e = .returned (.tuple #[.agg #[.string a, .slice p n c], .int .i64 (-1)]) ∧ n ≤ maxLen) ∧ Below w.heap.size w w') :=
      H_ (fun w => (HF.out w).mono fun e w' ⟨h1, h2⟩ => ⟨by rw [List.drop_zero, hres] at h1; exact h1, h2⟩)
     clear hp hres HF
     have hd : ((-1 : Int) == (s.size : Int)) = false := by simp only [beq_eq_false_iff_ne, ne_eq]; omega
     go_enter func64, ntmps64
     go_wp2_with (go_at_call 107; go_must (refine (HC.out _).mono ?_; rintro e w1 ⟨⟨a, p, n, c, rfl, hn⟩, hb1⟩; have y0 := Z2 hb1 (by simp) (heap_alloc_new _ _); obtain ⟨z0, z1⟩ := Zh y0; obtain ⟨f0, f1⟩ := Xb y0; have hs1 := hb1.size; have hs4 : w.heap.size < w1.heap.size := (by simp at hs1; omega)))
     refine bodyPost_ret (v := .tuple #[.agg #[.string a, .slice p n c], .bool false]) (by simp [results, results64, go_sem, z0, z1, hs4]) rfl ⟨by rw [HP.out]; exact ⟨_, _, _, _, rfl, hn⟩, ?_⟩
     exact ((((Z5 w _).trans (hb1.mono (by simp))).setCell (by simp) _).setCell (by simp) _).alloc (by simp; omega) _
   | some tr =>
     obtain ⟨t, r⟩ := tr
     rw [hres] at hp
     have hgot := (Vw _ _ _ _ hres).length
     rw [Q2] at hgot
     have hwf := (Vw _ _ _ _ hres).wf
     obtain ⟨e', he'⟩ : ∃ e', s.size - r.length = e' := ⟨_, rfl⟩
     have hee : e' ≤ s.size := by omega
     have HC : Hid (∀ w, Calls prog 107 #[.string s, .int .i64 0, .int .i64 0] w fun e w' => ∃ p n c, e = .returned (.tuple #[.agg #[.string (bs (Z1 t)), .slice p n c], .int .i64 (e' : Int)]) ∧ FV nS w' (fun k => w.heap.size ≤ k ∧ k < w'.heap.size) t (nS t (.slice p n c)) ∧ Below w.heap.size w w') :=
      H_ (fun w => (HF.out w).mono fun e w' ⟨h1, h2⟩ => by
       rw [List.drop_zero, hres] at h1
       obtain ⟨cs, rfl, hv⟩ := h1
       obtain ⟨p, n, c, rfl⟩ := hv.node
       exact ⟨p, n, c, by rw [he']; rfl, hv, h2⟩)
     by_cases hend : e' = s.size
     · have hr0 : r = [] := by have h2 := (Q9 _ hwf).2; have h3 := (Q9 _ hwf).1; exact List.eq_nil_of_length_eq_zero (by omega)
       rw [hr0] at hp
       have HP := H_ hp
       have hd : ((e' : Int) == (s.size : Int)) = true := by simp; omega
       clear hp hres HF he' hgot hwf hr0
       go_enter func64, ntmps64
       go_wp2_with (go_at_call 107; go_must (refine (HC.out _).mono ?_; rintro e w1 ⟨p, n, c, rfl, hv, hb1⟩; have y0 := Z2 hb1 (by simp) (heap_alloc_new _ _); obtain ⟨z0, z1⟩ := Zh y0; obtain ⟨f0, f1⟩ := Xb y0; have hs1 := hb1.size; have hs4 : w.heap.size < w1.heap.size := (by simp at hs1; omega)))
       refine bodyPost_ret (v := .tuple #[.agg #[.string (bs (Z1 t)), .slice p n c], .bool true]) (by simp [results, results64, go_sem, z0, z1, hs4]) rfl ⟨?_, ?_⟩
       · rw [HP.out]
         refine ⟨p, n, c, rfl, FV.move (fun k hk => ?_) (fun k hk => ?_) _ _ hv⟩
         · simp at hk ⊢; omega
         · simp only [Jg] at hk
           rw [heap_alloc_old (h := by simp; omega), Z3 _ (by simp; omega), Z3 _ (by simp; omega)]
       · exact ((((Z5 w _).trans (hb1.mono (by simp))).setCell (by simp) _).setCell (by simp) _).alloc (by simp; omega) _
     · have hr0 : ∃ a l, r = a :: l := by
        cases r with
        | nil => simp at he'; omega
        | cons a l => exact ⟨a, l, rfl⟩
       obtain ⟨a0, l0, hr0⟩ := hr0
       rw [hr0] at hp
       have HP := H_ hp
       have hd : ((e' : Int) == (s.size : Int)) = false := by simp; omega
       clear hp hres HF he' hgot hwf hr0
       go_enter func64, ntmps64
       go_wp2_with (go_at_call 107; go_must (refine (HC.out _).mono ?_; rintro e w1 ⟨p, n, c, rfl, hv, hb1⟩; have y0 := Z2 hb1 (by simp) (heap_alloc_new _ _); obtain ⟨z0, z1⟩ := Zh y0; obtain ⟨f0, f1⟩ := Xb y0; have hs1 := hb1.size; have hs4 : w.heap.size < w1.heap.size := (by simp at hs1; omega)))
       refine bodyPost_ret (v := .tuple #[.agg #[.string (bs (Z1 t)), .slice p n c], .bool false]) (by simp [results, results64, go_sem, z0, z1, hs4]) rfl ⟨by rw [HP.out]; exact ⟨_, _, _, _, rfl, FV.len_le nS_inj hv⟩, ?_⟩
       · exact ((((Z5 w _).trans (hb1.mono (by simp))).setCell (by simp) _).setCell (by simp) _).alloc (by simp; omega) _
theorem V7 {a : List UInt8} (h : a ≠ []) : (!(bs a).toList.isEmpty) = true := by simp [Z9, h]
theorem Jl : (!(bs []).toList.isEmpty) = false := by simp [Z9]
theorem l1Size_c (n : Nat) : ∀ (t : Tr) (cs : List Value) (ok : Nat → Prop) (w : World), t.depth < n → t.wf → t.bytes ≤ 1000000000 → FV nS w ok t cs → (∀ k, ok k → k < w.heap.size) →
 Calls prog 66 #[.agg cs.toArray] w fun e w' => e = .returned (.int .i64 t.size) ∧ Below w.heap.size w w' := by
 induction n with
 | zero => intro t _ _ _ h; omega
 | succ n ih =>
   intro t cs ok w hd hwf hsz hv hok
   match t, hv with
   | .atom a, hv =>
     simp only [FV] at hv
     subst hv
     have ha := V7 hwf.1
     go_enter func66, ntmps66
     simp only [nS, Z1]
     go_wp2_with fail
     go_ret
     exact ⟨rfl, Z5 _ _⟩
   | .list ts, hv =>
     simp only [FV] at hv
     obtain ⟨r, off, cap, xs, rfl, h2, h3, h4, h5, h6⟩ := hv
     have ha := Jl
     have h3' : ts.length ≤ 9223372036854775807 := by have := Yl h4; omega
     have hwf' := hwf
     simp only [Tr.wf] at hwf
     have hrlt := hok r h2
     have S1 := Z4g _ hwf.2
     have S2 := hwf.1
     simp only [Tr.bytes] at hsz
     go_enter func66, ntmps66
     simp only [nS, Z1]
     go_wp2_with fail
     go_loopw [3, 4] (fun m i wr => ∃ k : Nat, k ≤ ts.length ∧ i = .int .i64 k ∧ m = .int .i64 (Yd (ts.take k)) ∧ Below (w.heap.size + 1) (w.alloc (.cells #[.string (bs []), .slice (some ⟨r, off, none⟩) ts.length cap] 47)) wr) (fun _ i _ => ts.length - (intOf i).toNat)
     case atStart => exact ⟨0, Nat.zero_le _, rfl, by simp [Yd], Below.refl _ _⟩
     case round =>
      obtain ⟨k, hk, rfl, rfl, hb⟩ := hrel
      have c0 : wr.cell? ⟨w.heap.size, 1, none⟩ = some (.slice (some ⟨r, off, none⟩) ts.length cap) := by
       rw [hb.cell (p := ⟨w.heap.size, 1, none⟩) (by simp)]; simp
      have hbw : Below w.heap.size w wr := (Z5 w _).trans (hb.mono (by omega))
      have b1 := Qo ts k
      by_cases hlt : k < ts.length
      · obtain ⟨cs, g1, g2⟩ := FVs.get Jn h6 h5 k hlt
        obtain ⟨p, pn, pc, rfl⟩ := g1.node
        have e0 : wr.cell? ⟨r, off + k * 2, none⟩ = some (.string (bs (Z1 ts[k]))) := by rw [hbw.cell (by exact hrlt)]; exact g2 0 _ rfl
        have e1 : wr.cell? ⟨r, off + k * 2 + 1, none⟩ = some (.slice p pn pc) := by rw [hbw.cell (by exact hrlt)]; exact g2 1 _ rfl
        have s0 := Km ts k hlt
        have b2 := Qo ts (k + 1)
        have hdk : ts[k].depth < n := by have := Xk hlt; omega
        have hbk : ts[k].bytes ≤ 1000000000 := by have := J5 hlt; simp only [Tr.bytes] at this; omega
        have b3 : ts[k].size ≤ 1000000000 := by have := (Q9 _ (Ji hwf.2 hlt)).1; omega
        have HS := H_ s0
        have g1' := g1.below hbw hok
        have hsz' := hbw.size
        clear s0
        go_wp2_with (go_at_call 66; go_must (refine (ih ts[k] (nS ts[k] (.slice p pn pc)) ok _ hdk (Ji hwf.2 hlt) hbk g1' (fun j hj => Nat.lt_of_lt_of_le (hok j hj) hsz')).mono ?_; rintro e w' ⟨rfl, hb2⟩))
        all_goals
         go_roundw
         case rel => exact ⟨k + 1, by omega, by go_num, by rw [HS.out]; go_num, hb.trans (hb2.mono (by have := hb.size; simp at this; omega))⟩
         case measure => simp [intOf]; omega
      · have : k = ts.length := by omega
        subst this
        go_wp2_with fail
        go_ret
        exact ⟨Z30 (by simp [Tr.size]), hbw⟩
theorem bs_eq (a b : List UInt8) : ((bs a).toList == b) = (a == b) := by rw [Z9]
theorem l1Type_c (n : Nat) : ∀ (t : Tr) (cs : List Value) (ok : Nat → Prop) (w : World), t.depth < n → t.wf → FV nS w ok t cs → (∀ k, ok k → k < w.heap.size) →
 Calls prog 149 #[.agg cs.toArray] w fun e w' => e = .returned (.bool (Q1 t)) ∧ Below w.heap.size w w' := by
 induction n with
 | zero => intro t _ _ _ h; omega
 | succ n ih =>
   intro t cs ok w hd hwf hv hok
   match t, hv with
   | .atom a, hv =>
     simp only [FV] at hv
     subst hv
     have ha := V7 hwf.1
     go_enter func149, ntmps149
     simp only [nS, Z1]
     go_wp2_with fail
     go_ret
     exact ⟨Zf (by rw [Z5g, bs_eq]), Z5 _ _⟩
   | .list ts, hv =>
     simp only [FV] at hv
     obtain ⟨r, off, cap, xs, rfl, h2, h3, h4, h5, h6⟩ := hv
     have ha := Jl
     have h3' : ts.length ≤ 9223372036854775807 := by have := Yl h4; omega
     have hrlt := hok r h2
     by_cases hl : ts.length = 3
     · obtain ⟨x, a, b, rfl⟩ := Z25 hl
       obtain ⟨⟨p0, n0, q0, v0, r0⟩, ⟨p1, n1, q1, v1, r1⟩, ⟨p2, n2, q2, v2, r2⟩⟩ := FVs.three Jn h6 h5
       have hdd := Z1t x a b
       have e0 : w.cell? ⟨r, off, none⟩ = some (.string (bs (Z1 x))) := r0 0 _ rfl
       have e1 : w.cell? ⟨r, off + 2, none⟩ = some (.string (bs (Z1 a))) := r1 0 _ rfl
       have e2 : w.cell? ⟨r, off + 2 + 1, none⟩ = some (.slice p1 n1 q1) := r1 1 _ rfl
       have e3 : w.cell? ⟨r, off + 4, none⟩ = some (.string (bs (Z1 b))) := r2 0 _ rfl
       have e4 : w.cell? ⟨r, off + 4 + 1, none⟩ = some (.slice p2 n2 q2) := r2 1 _ rfl
       have hT := Z1p x a b
       have HT := H_ hT
       have hwa : a.wf := hwf.2.2.1
       have hwb : b.wf := hwf.2.2.2.1
       clear hl hT
       cases hx : (Z1 x == [62] || Z1 x == [42]) with
       | false =>
         simp only [Bool.or_eq_false_iff] at hx
         have hx1 : ((bs (Z1 x)).toList == [62]) = false := by rw [bs_eq]; exact hx.1
         have hx2 : ((bs (Z1 x)).toList == [42]) = false := by rw [bs_eq]; exact hx.2
         have hx := H_ hx
         go_enter func149, ntmps149
         simp only [nS, Z1]
         go_wp2_with fail
         go_ret
         exact ⟨Zf (by rw [HT.out]; simp [hx.out.1, hx.out.2]), Z5 _ _⟩
       | true =>
         have hHx := H_ hx
         have call1 : Hid (∀ W, Below w.heap.size w W → Calls prog 149 #[.agg #[.string (bs (Z1 a)), .slice p1 n1 q1]] W fun e w' => e = .returned (.bool (Q1 a)) ∧ Below W.heap.size W w') :=
          H_ (fun W hW => ih a (nS a (.slice p1 n1 q1)) ok W (by omega) hwa (v1.below hW hok) (fun j hj => Nat.lt_of_lt_of_le (hok j hj) hW.size))
         have call2 : Hid (∀ W, Below w.heap.size w W → Calls prog 149 #[.agg #[.string (bs (Z1 b)), .slice p2 n2 q2]] W fun e w' => e = .returned (.bool (Q1 b)) ∧ Below W.heap.size W w') :=
          H_ (fun W hW => ih b (nS b (.slice p2 n2 q2)) ok W (by omega) hwb (v2.below hW hok) (fun j hj => Nat.lt_of_lt_of_le (hok j hj) hW.size))
         have hcases : (((bs (Z1 x)).toList == [62]) = true) ∨ (((bs (Z1 x)).toList == [62]) = false ∧ ((bs (Z1 x)).toList == [42]) = true) := by
          rw [bs_eq, bs_eq]
          simp only [Bool.or_eq_true] at hx
          by_cases h : (Z1 x == [62]) = true
          · exact .inl h
          · exact .inr ⟨by simpa using h, hx.resolve_left h⟩
         clear hx ih
         rcases hcases with hx1 | ⟨hx1, hx2⟩
         all_goals
          cases hta : Q1 a with
          | false =>
            rw [hta] at call1
            go_enter func149, ntmps149
            simp only [nS, Z1]
            go_wp2_with (go_at_call 149; go_must (refine (call1.out _ (Z5 _ _)).mono ?_; rintro e w1 ⟨rfl, hb1⟩))
            go_ret
            exact ⟨Zf (by rw [HT.out, hta, hHx.out]; rfl), (Z5 w _).trans (hb1.mono (by simp))⟩
          | true =>
            rw [hta] at call1
            go_enter func149, ntmps149
            simp only [nS, Z1]
            go_wp2_with (go_at_call 149; first | ((with_reducible refine (call1.out _ (Z5 _ _)).mono ?_); rintro e w1 ⟨rfl, hb1⟩; have hw1 := (Z5 w _).trans (hb1.mono (by simp)); have c1 := Z2 hb1 (by simp) (heap_alloc_new _ _); have d1 := Z4 (j := 1) c1; have g3 := (hw1.cell (p := ⟨r, off + 4, none⟩) hrlt).trans e3; have g4 := (hw1.cell (p := ⟨r, off + 4 + 1, none⟩) hrlt).trans e4) | (refine (call2.out _ hw1).mono ?_; rintro e w2 ⟨rfl, hb2⟩))
            go_ret
            exact ⟨Zf (by rw [HT.out, hta, hHx.out]; simp), hw1.trans (hb2.mono hw1.size)⟩
     · have HT := H_ (Z47 ts hl)
       have hl' : ((ts.length : Int) == 3) = false := by simp; omega
       go_enter func149, ntmps149
       simp only [nS, Z1]
       go_wp2_with fail
       go_ret
       exact ⟨Zf HT.out.symm, Z5 _ _⟩
end Go.Proofs.YtjaaalojcdbcpaaGreatDoor
