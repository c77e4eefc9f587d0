/- The reference model reads expressions. -/
import Derived.Test.YtjaaalojcdbcpaaGreatDoorlSpec2aM
import Derived.Test.YtjaaalojcdbcpaaGreatDoorlS1z
import Derived.Deep.QuietTactic
import Derived.BigQuiet
import Derived.Deep.RegionHeld3
set_option maxHeartbeats 20000000
set_option linter.unusedVariables false
set_option linter.unusedSimpArgs false
namespace Go.Proofs.YtjaaalojcdbcpaaGreatDoor
open Go.RowKit Go.Proofs.Tryz
set_option maxRecDepth 8000
def Jx (t : Tr) : Bool := (Zy t).isSome
theorem isEx_atom (a : List UInt8) : Jx (.atom a) = ((Q3 a).isSome || Yg a) := by
 simp only [Jx, Zy, Q8]
 cases Q3 a with
 | some n => rfl
 | none => cases Yg a <;> rfl
theorem isEx_list (h : Tr) (ps : List Tr) : Jx (.list (h :: ps)) = (Qz h ps && ((h :: ps).drop (Yi (Z1 h)).1).all Jx) := by
 rw [Jx, Zy, Z51]; rfl
theorem okHead_zero {h : Tr} {ps : List Tr} (k : (Yi (Z1 h)).1 = 0) : Qz h ps = false := by simp [Qz, k]
theorem Z43 {h : Tr} {ps : List Tr} (k : ps.length + 1 ≠ (Yi (Z1 h)).2) : Qz h ps = false := by simp [Qz, k]
theorem okHead_1 {h : Tr} {ps : List Tr} (k : (Yi (Z1 h)).1 = 1) (hl : ps.length + 1 = (Yi (Z1 h)).2) : Qz h ps = true := by simp [Qz, k, hl]
theorem okHead_2 {h x a b : Tr} (k : Yi (Z1 h) = (2, 4)) : Qz h [x, a, b] = Yg (Z1 x) := by simp [Qz, k]
theorem okHead_5 {h f x A B e : Tr} (k : Yi (Z1 h) = (5, 6)) : Qz h [f, x, A, B, e] = (Yg (Z1 f) && (Yg (Z1 x) && !(Z1 f == Z1 x) && X5 A && X5 B)) := by simp [Qz, k]
theorem all_bad {V : Tr → Bool} {ts : List Tr} {a k : Nat} (hk : k < ts.length) (hak : a ≤ k) (hv : V ts[k] = false) : (ts.drop a).all V = false := by
 rw [List.all_eq_false]
 exact ⟨ts[k], List.mem_iff_getElem?.2 ⟨k - a, by rw [List.getElem?_drop, show a + (k - a) = k by omega]; exact List.getElem?_eq_getElem hk⟩, by simp [hv]⟩
theorem Z86 {V : Tr → Bool} {ts : List Tr} {a k : Nat} (hk : k < ts.length) (hak : a ≤ k) (h : ((ts.drop a).take (k - a)).all V = true) (hv : V ts[k] = true) : ((ts.drop a).take (k + 1 - a)).all V = true := by
 rw [show k + 1 - a = (k - a) + 1 by omega, List.take_add_one, List.all_append, h]
 rw [List.getElem?_drop, show a + (k - a) = k by omega, List.getElem?_eq_getElem hk]
 simp [hv]
theorem kidsAt_list (h : List UInt8) : (Yi h).1 = 0 ∨ ((Yi h).1 = 1 ∧ (Yi h).2 ≤ 4 ∧ 2 ≤ (Yi h).2) ∨ Yi h = (2, 4) ∨ Yi h = (5, 6) := by
 rcases Z1o h with ⟨_, k⟩ | ⟨_, k⟩ | ⟨_, _, ⟨_, _, _, k⟩ | ⟨_, _, _, k⟩ | ⟨_, _, _, k⟩ | ⟨_, _, _, k⟩⟩ <;> rw [k] <;> simp
theorem Jw (l : List UInt8) (a b : Nat) (h : Yi l = (a, b)) (w : World) : Calls prog 98 #[.string (bs l)] w fun e w' => e = .returned (.tuple #[.int .i64 (a : Int), .int .i64 (b : Int)]) ∧ w' = w :=
 (l2Kids_c l w).mono fun e w' h2 => by rw [h] at h2; exact h2
theorem Vv {ok : Nat → Prop} {w w' : World} {B : Nat} (hok : ∀ k, ok k → k < w.heap.size) (h : Below B w w') : ∀ k, ok k → k < w'.heap.size := fun k hk => Nat.lt_of_lt_of_le (hok k hk) h.size
theorem Z0w (w : World) (n : Nat) : Below w.heap.size w (w.drewN n) := ⟨rfl, rfl, rfl, Nat.le_refl _, fun _ _ => rfl⟩
theorem Z4c : ∀ t : Tr, (Z1 t).length ≤ t.bytes
 | .atom a => Nat.le_refl _
 | .list ts => Nat.zero_le _
theorem Kb {w : World} {ok : Nat → Prop} {ts : List Tr} {xs : List Value} {r off : Nat} (h6 : FVs nS w ok ts xs) (h5 : Yv w r off xs) (i : Nat) (hi : i < ts.length) :
 ∃ p m c, FV nS w ok ts[i] (nS ts[i] (.slice p m c)) ∧ w.cell? ⟨r, off + i * 2, none⟩ = some (.string (bs (Z1 ts[i]))) ∧ w.cell? ⟨r, off + i * 2 + 1, none⟩ = some (.slice p m c) := by
 obtain ⟨cs, g1, g2⟩ := FVs.get Jn h6 h5 i hi
 obtain ⟨p, pn, pc, rfl⟩ := g1.node
 exact ⟨p, pn, pc, g1, g2 0 _ rfl, g2 1 _ rfl⟩
theorem five_of {ps : List Tr} (h : ps.length = 5) : ∃ a b c d e, ps = [a, b, c, d, e] := by
 match ps, h with
 | [a, b, c, d, e], _ => exact ⟨a, b, c, d, e, rfl⟩
theorem l2Valid_c (n : Nat) : ∀ (t : Tr) (cs : List Value) (ok : Nat → Prop) (w : World), t.depth < n → t.wf → t.bytes ≤ 12000 → FV nS w ok t cs → (∀ k, ok k → k < w.heap.size) →
 Calls prog 65 #[.agg cs.toArray] w fun e w' => e = .returned (.bool (Jx t)) ∧ Below w.heap.size w w' := by
 induction n with
 | zero => intro t _ _ _ h; omega
 | succ n ih =>
   intro t cs ok w hd hwf hby hv hok
   match t, hv with
   | .atom a, hv =>
     simp only [FV] at hv
     subst hv
     have ha := V7 hwf.1
     have hal : a.length ≤ 1048576 := by simp only [Tr.bytes] at hby; omega
     have HT := H_ (isEx_atom a)
     obtain ⟨R, hR⟩ : ∃ R, R = Q3 a := ⟨_, rfl⟩
     have C1 : Hid (∀ W, Calls prog 108 #[.string (bs a)] W fun e w' => e = .returned (.tuple #[.int .i64 (R.getD 0), .bool R.isSome]) ∧ w' = W) := H_ (fun W => (l2Number_c a hal W).mono fun e w' h => by rw [← hR] at h; exact h)
     have C2 : Hid (∀ W, Calls prog 53 #[.string (bs a)] W fun e w' => e = .returned (.bool (Yg a)) ∧ w' = W) := H_ (fun W => Z0b a hal W)
     rw [← hR] at HT
     clear hR hwf hby hd ih
     cases R with
     | some m =>
       go_enter func65, ntmps65
       simp only [nS, Z1]
       go_wp2_with (first | (go_at_call 108; go_must (refine (C1.out _).mono ?_; rintro e w1 ⟨rfl, rfl⟩)) | (go_at_call 53; go_must (refine (C2.out _).mono ?_; rintro e w1 ⟨rfl, rfl⟩)))
       go_ret
       exact ⟨Zf (by rw [HT.out]; rfl), Z5 _ _⟩
     | none =>
       go_enter func65, ntmps65
       simp only [nS, Z1]
       go_wp2_with (first | (go_at_call 108; go_must (refine (C1.out _).mono ?_; rintro e w1 ⟨rfl, rfl⟩)) | (go_at_call 53; go_must (refine (C2.out _).mono ?_; rintro e w1 ⟨rfl, rfl⟩)))
       go_ret
       exact ⟨Zf (by rw [HT.out]; rfl), Z5 _ _⟩
   | .list ts, hv =>
     simp only [FV] at hv
     obtain ⟨r, off, cap, xs, rfl, h2, h3, h4, h5, h6⟩ := hv
     have ha := Jl
     have h3' : ts.length ≤ 9223372036854775807 := by have := Yl h4; omega
     simp only [Tr.wf] at hwf
     have hrlt := hok r h2
     simp only [Tr.bytes] at hby
     obtain ⟨h, ps, hts⟩ : ∃ h ps, ts = h :: ps := by cases ts with
      | nil => exact absurd rfl hwf.1
      | cons h ps => exact ⟨h, ps, rfl⟩
     obtain ⟨R, hR⟩ : ∃ R, R = Jx (.list ts) := ⟨_, rfl⟩
     rw [← hR]
     have hR2 : R = (Qz h ps && (ts.drop (Yi (Z1 h)).1).all Jx) := by rw [hR, hts, isEx_list]
     clear hR
     obtain ⟨L, hL⟩ : ∃ L, ts.length = L := ⟨_, rfl⟩
     have hLps : ps.length + 1 = L := by rw [← hL, hts]; rfl
     have hL0 : 0 < L := by omega
     have HL := H_ hL
     obtain ⟨g0, g0'⟩ := Kb h6 h5 0 (by omega)
     have e0 : w.cell? ⟨r, off, none⟩ = some (.string (bs (Z1 h))) := by
      obtain ⟨p, m, c, _, q, _⟩ := Kb h6 h5 0 (by omega)
      simpa [hts] using q
     rw [hL] at h3 h3'
     rw [hL]
     rcases kidsAt_list (Z1 h) with k0 | ⟨k1, k2, k3⟩ | k24 | k56
     · obtain ⟨b, hb⟩ : ∃ b, Yi (Z1 h) = (0, b) := ⟨_, Prod.ext k0 rfl⟩
       have CK : Hid (∀ W, Calls prog 98 #[.string (bs (Z1 h))] W fun e w' => e = .returned (.tuple #[.int .i64 0, .int .i64 (b : Int)]) ∧ w' = W) := H_ (fun W => Jw _ _ _ hb W)
       have HR := H_ hR2
       have HO := H_ (okHead_zero (ps := ps) k0)
       clear hR2 ih hts k0 hb hL hLps g0 g0'
       go_enter func65, ntmps65
       simp only [nS, Z1]
       go_wp2_with (first | (go_at_call 98; go_must (refine (CK.out _).mono ?_; rintro e w0 ⟨rfl, rfl⟩)))
       go_ret
       exact ⟨Zf (by rw [HR.out, HO.out]; rfl), Z5 _ _⟩
     · obtain ⟨b, hb⟩ : ∃ b, Yi (Z1 h) = (1, b) := ⟨_, Prod.ext k1 rfl⟩
       have CK : Hid (∀ W, Calls prog 98 #[.string (bs (Z1 h))] W fun e w' => e = .returned (.tuple #[.int .i64 1, .int .i64 (b : Int)]) ∧ w' = W) := H_ (fun W => Jw _ _ _ hb W)
       rw [hb] at k2 k3 hR2
       simp only at k2 k3 hR2
       by_cases hlen : L = b
       · subst hlen
         have HR := H_ hR2
         have HO := H_ (okHead_1 (ps := ps) k1 (by rw [hb]; exact hLps))
         clear hR2 hts k1 hb g0 g0'
         go_enter func65, ntmps65
         simp only [nS, Z1]
         go_wp2_with (first | (go_at_call 98; go_must (refine (CK.out _).mono ?_; rintro e w0 ⟨rfl, rfl⟩)))
         go_quiet (fail)
         go_wp2_with fail
         go_loopw [7] (fun i wr => ∃ k : Nat, 1 ≤ k ∧ k ≤ L ∧ i = .int .i64 k ∧ Hid (((ts.drop 1).take (k - 1)).all Jx = true) ∧ Below (w.heap.size + 1) (w.alloc (.cells #[.string (bs []), .slice (some ⟨r, off, none⟩) L cap] 47)) wr) (fun i _ => L - (intOf i).toNat)
         case atStart => exact ⟨1, Nat.le_refl _, by omega, rfl, H_ (by simp), (Z0w _ _).mono (by simp)⟩
         case round =>
          obtain ⟨k, hak, hk, rfl, hall, hb⟩ := hrel
          have c0 : wr.cell? ⟨w.heap.size, 0, none⟩ = some (.string (bs [])) := by rw [hb.cell (p := ⟨w.heap.size, 0, none⟩) (by simp)]; simp
          have c1 : wr.cell? ⟨w.heap.size, 1, none⟩ = some (.slice (some ⟨r, off, none⟩) L cap) := by rw [hb.cell (p := ⟨w.heap.size, 1, none⟩) (by simp)]; simp
          have hbw : Below w.heap.size w wr := (Z5 w _).trans (hb.mono (by omega))
          by_cases hlt : k < L
          · have hltt : k < ts.length := by rw [HL.out]; exact hlt
            obtain ⟨cs, g1, g2⟩ := FVs.get Jn h6 h5 k hltt
            obtain ⟨p, pn, pc, rfl⟩ := g1.node
            obtain ⟨tk, htk⟩ : ∃ tk, tk = ts[k] := ⟨_, rfl⟩
            rw [← htk] at g1 g2
            have x0 : wr.cell? ⟨r, off + k * 2, none⟩ = some (.string (bs (Z1 tk))) := by rw [hbw.cell (by exact hrlt)]; exact g2 0 _ rfl
            have x1 : wr.cell? ⟨r, off + k * 2 + 1, none⟩ = some (.slice p pn pc) := by rw [hbw.cell (by exact hrlt)]; exact g2 1 _ rfl
            have hdk : tk.depth < n := by have := Xk hltt; rw [htk]; omega
            have hbk : tk.bytes ≤ 12000 := by have := J5 hltt; simp only [Tr.bytes] at this; rw [htk]; omega
            have hwk : tk.wf := by rw [htk]; exact Ji hwf.2 hltt
            have C : Hid (Calls prog 65 #[.agg #[.string (bs (Z1 tk)), .slice p pn pc]] wr fun e w' => e = .returned (.bool (Jx tk)) ∧ Below wr.heap.size wr w') := H_ (ih tk (nS tk (.slice p pn pc)) ok wr hdk hwk hbk (g1.below hbw hok) (Vv hok hbw))
            cases hv : Jx tk with
            | false =>
              have HB := H_ (all_bad (V := Jx) (a := 1) hltt hak (by rw [← htk]; exact hv))
              rw [hv] at C
              clear htk g1 g2 hv
              go_wp2_with (go_at_call 65; go_must (refine (C.out).mono ?_; rintro e w' ⟨rfl, hb2⟩))
              go_ret
              exact ⟨Zf (by rw [HR.out, HB.out, Bool.and_false]), hbw.trans (hb2.mono hbw.size)⟩
            | true =>
              have HB := H_ (Z86 (V := Jx) hltt hak hall.out (by rw [← htk]; exact hv))
              rw [hv] at C
              clear htk g1 g2 hv
              go_wp2_with (go_at_call 65; go_must (refine (C.out).mono ?_; rintro e w' ⟨rfl, hb2⟩))
              all_goals
               go_roundw
               case rel => exact ⟨k + 1, by omega, by omega, by go_num, HB, hb.trans (hb2.mono (by have := hb.size; simp at this; omega))⟩
               case measure => simp [intOf]; omega
          · have : k = L := by omega
            subst this
            have hall2 := hall.out
            rw [List.take_of_length_le (by simp; have := HL.out; omega)] at hall2
            have HB := H_ hall2
            clear hall2
            go_wp2_with fail
            go_ret
            exact ⟨Zf (by rw [HR.out, HB.out, HO.out]; rfl), hbw⟩
       · have HR := H_ hR2
         have HO := H_ (Z43 (h := h) (ps := ps) (by rw [hb]; exact fun q => hlen (by omega)))
         have hne : ((L : Int) == (b : Int)) = false := by simp; omega
         have hne2 : ¬ (L : Int) = (b : Int) := by omega
         clear hR2 ih hts hL hLps g0 g0' hlen
         go_enter func65, ntmps65
         simp only [nS, Z1]
         go_wp2_with (first | (go_at_call 98; go_must (refine (CK.out _).mono ?_; rintro e w0 ⟨rfl, rfl⟩)))
         go_ret
         exact ⟨Zf (by rw [HR.out, HO.out]; rfl), Z5 _ _⟩
     · have CK : Hid (∀ W, Calls prog 98 #[.string (bs (Z1 h))] W fun e w' => e = .returned (.tuple #[.int .i64 2, .int .i64 4]) ∧ w' = W) := H_ (fun W => Jw _ _ _ k24 W)
       rw [k24] at hR2
       simp only at hR2
       by_cases hlen : L = 4
       · subst hlen
         obtain ⟨x, t1, t2, rfl⟩ := Z25 (ts := ps) (by omega)
         rw [okHead_2 k24] at hR2
         have hbx : x.bytes ≤ 12000 := by have := J5 (ts := ts) (i := 1) (by omega); simp only [Tr.bytes, hts] at this; simp only [List.getElem_cons_succ, List.getElem_cons_zero] at this; rw [hts] at hby; omega
         have hlx : (Z1 x).length ≤ 1048576 := by have := Z4c x; omega
         have e1 : w.cell? ⟨r, off + 2, none⟩ = some (.string (bs (Z1 x))) := by
          obtain ⟨p, m, c, _, q, _⟩ := Kb h6 h5 1 (by omega)
          simpa [hts] using q
         have CN : Hid (∀ W, Calls prog 53 #[.string (bs (Z1 x))] W fun e w' => e = .returned (.bool (Yg (Z1 x))) ∧ w' = W) := H_ (fun W => Z0b _ hlx W)
         have HR := H_ hR2
         obtain ⟨v, hv⟩ : ∃ v, v = Yg (Z1 x) := ⟨_, rfl⟩
         rw [← hv] at CN
         clear hR2 hts hbx hlx k24 g0 g0'
         have HO := H_ hv
         clear hv
         cases v with
         | false =>
           clear ih
           go_enter func65, ntmps65
           simp only [nS, Z1]
           go_wp2_with (first | (go_at_call 98; go_must (refine (CK.out _).mono ?_; rintro e w0 ⟨rfl, rfl⟩)) | (go_at_call 53; go_must (refine (CN.out _).mono ?_; rintro e w1 ⟨rfl, rfl⟩)))
           go_ret
           exact ⟨Zf (by rw [HR.out, ← HO.out]; rfl), Z5 _ _⟩
         | true =>
           go_enter func65, ntmps65
           simp only [nS, Z1]
           go_wp2_with (first | (go_at_call 98; go_must (refine (CK.out _).mono ?_; rintro e w0 ⟨rfl, rfl⟩)) | (go_at_call 53; go_must (refine (CN.out _).mono ?_; rintro e w1 ⟨rfl, rfl⟩)))
           go_quiet (fail)
           go_wp2_with fail
           go_loopw [7] (fun i wr => ∃ k : Nat, 2 ≤ k ∧ k ≤ 4 ∧ i = .int .i64 k ∧ Hid (((ts.drop 2).take (k - 2)).all Jx = true) ∧ Below (w.heap.size + 1) (w.alloc (.cells #[.string (bs []), .slice (some ⟨r, off, none⟩) 4 cap] 47)) wr) (fun i _ => 4 - (intOf i).toNat)
           case atStart => exact ⟨2, Nat.le_refl _, by omega, rfl, H_ (by simp), (Z0w _ _).mono (by simp)⟩
           case round =>
            obtain ⟨k, hak, hk, rfl, hall, hb⟩ := hrel
            have c0 : wr.cell? ⟨w.heap.size, 0, none⟩ = some (.string (bs [])) := by rw [hb.cell (p := ⟨w.heap.size, 0, none⟩) (by simp)]; simp
            have c1 : wr.cell? ⟨w.heap.size, 1, none⟩ = some (.slice (some ⟨r, off, none⟩) 4 cap) := by rw [hb.cell (p := ⟨w.heap.size, 1, none⟩) (by simp)]; simp
            have hbw : Below w.heap.size w wr := (Z5 w _).trans (hb.mono (by omega))
            by_cases hlt : k < 4
            · have hltt : k < ts.length := by rw [HL.out]; exact hlt
              obtain ⟨cs, g1, g2⟩ := FVs.get Jn h6 h5 k hltt
              obtain ⟨p, pn, pc, rfl⟩ := g1.node
              obtain ⟨tk, htk⟩ : ∃ tk, tk = ts[k] := ⟨_, rfl⟩
              rw [← htk] at g1 g2
              have x0 : wr.cell? ⟨r, off + k * 2, none⟩ = some (.string (bs (Z1 tk))) := by rw [hbw.cell (by exact hrlt)]; exact g2 0 _ rfl
              have x1 : wr.cell? ⟨r, off + k * 2 + 1, none⟩ = some (.slice p pn pc) := by rw [hbw.cell (by exact hrlt)]; exact g2 1 _ rfl
              have hdk : tk.depth < n := by have := Xk hltt; rw [htk]; omega
              have hbk : tk.bytes ≤ 12000 := by have := J5 hltt; simp only [Tr.bytes] at this; rw [htk]; omega
              have hwk : tk.wf := by rw [htk]; exact Ji hwf.2 hltt
              have C : Hid (Calls prog 65 #[.agg #[.string (bs (Z1 tk)), .slice p pn pc]] wr fun e w' => e = .returned (.bool (Jx tk)) ∧ Below wr.heap.size wr w') := H_ (ih tk (nS tk (.slice p pn pc)) ok wr hdk hwk hbk (g1.below hbw hok) (Vv hok hbw))
              cases hv : Jx tk with
              | false =>
                have HB := H_ (all_bad (V := Jx) (a := 2) hltt hak (by rw [← htk]; exact hv))
                rw [hv] at C
                clear htk g1 g2 hv
                go_wp2_with (go_at_call 65; go_must (refine (C.out).mono ?_; rintro e w' ⟨rfl, hb2⟩))
                go_ret
                exact ⟨Zf (by rw [HR.out, HB.out, Bool.and_false]), hbw.trans (hb2.mono hbw.size)⟩
              | true =>
                have HB := H_ (Z86 (V := Jx) hltt hak hall.out (by rw [← htk]; exact hv))
                rw [hv] at C
                clear htk g1 g2 hv
                go_wp2_with (go_at_call 65; go_must (refine (C.out).mono ?_; rintro e w' ⟨rfl, hb2⟩))
                all_goals
                 go_roundw
                 case rel => exact ⟨k + 1, by omega, by omega, by go_num, HB, hb.trans (hb2.mono (by have := hb.size; simp at this; omega))⟩
                 case measure => simp [intOf]; omega
            · have : k = 4 := by omega
              subst this
              have hall2 := hall.out
              rw [List.take_of_length_le (by simp; have := HL.out; omega)] at hall2
              have HB := H_ hall2
              clear hall2
              go_wp2_with fail
              go_ret
              exact ⟨Zf (by rw [HR.out, HB.out, ← HO.out]; rfl), hbw⟩
       · have HR := H_ hR2
         have HO := H_ (Z43 (h := h) (ps := ps) (by rw [k24]; exact fun q => hlen (by omega)))
         have hne : ((L : Int) == 4) = false := by simp; omega
         have hne2 : ¬ (L : Int) = 4 := by omega
         clear hR2 ih hts hL hLps g0 g0' hlen
         go_enter func65, ntmps65
         simp only [nS, Z1]
         go_wp2_with (first | (go_at_call 98; go_must (refine (CK.out _).mono ?_; rintro e w0 ⟨rfl, rfl⟩)))
         go_ret
         exact ⟨Zf (by rw [HR.out, HO.out]; rfl), Z5 _ _⟩
     · have CK : Hid (∀ W, Calls prog 98 #[.string (bs (Z1 h))] W fun e w' => e = .returned (.tuple #[.int .i64 5, .int .i64 6]) ∧ w' = W) := H_ (fun W => Jw _ _ _ k56 W)
       rw [k56] at hR2
       simp only at hR2
       by_cases hlen : L = 6
       · subst hlen
         obtain ⟨f, x, TA, TB, t5, rfl⟩ := five_of (ps := ps) (by omega)
         rw [okHead_5 k56] at hR2
         have hbf : f.bytes ≤ 12000 := by have := J5 (ts := ts) (i := 1) (by omega); simp only [Tr.bytes, hts] at this; simp only [List.getElem_cons_succ, List.getElem_cons_zero] at this; rw [hts] at hby; omega
         have hbx : x.bytes ≤ 12000 := by have := J5 (ts := ts) (i := 2) (by omega); simp only [Tr.bytes, hts] at this; simp only [List.getElem_cons_succ, List.getElem_cons_zero] at this; rw [hts] at hby; omega
         have hbTA : TA.bytes ≤ 12000 := by have := J5 (ts := ts) (i := 3) (by omega); simp only [Tr.bytes, hts] at this; simp only [List.getElem_cons_succ, List.getElem_cons_zero] at this; rw [hts] at hby; omega
         have hbTB : TB.bytes ≤ 12000 := by have := J5 (ts := ts) (i := 4) (by omega); simp only [Tr.bytes, hts] at this; simp only [List.getElem_cons_succ, List.getElem_cons_zero] at this; rw [hts] at hby; omega
         have hlf : (Z1 f).length ≤ 1048576 := by have := Z4c f; omega
         have e1 : w.cell? ⟨r, off + 2, none⟩ = some (.string (bs (Z1 f))) := by
          obtain ⟨p, m, c, _, q, _⟩ := Kb h6 h5 1 (by omega)
          simpa [hts] using q
         have CNf : Hid (∀ W, Calls prog 53 #[.string (bs (Z1 f))] W fun e w' => e = .returned (.bool (Yg (Z1 f))) ∧ w' = W) := H_ (fun W => Z0b _ hlf W)
         have hlx : (Z1 x).length ≤ 1048576 := by have := Z4c x; omega
         have e2 : w.cell? ⟨r, off + 4, none⟩ = some (.string (bs (Z1 x))) := by
          obtain ⟨p, m, c, _, q, _⟩ := Kb h6 h5 2 (by omega)
          simpa [hts] using q
         have CNx : Hid (∀ W, Calls prog 53 #[.string (bs (Z1 x))] W fun e w' => e = .returned (.bool (Yg (Z1 x))) ∧ w' = W) := H_ (fun W => Z0b _ hlx W)
         have hwTA : TA.wf := by have := Ji hwf.2 (i := 3) (by omega); simpa [hts] using this
         obtain ⟨p3, m3, c3, v3, g3, e3'⟩ := Kb h6 h5 3 (by omega)
         have v3 : FV nS w ok TA (nS TA (.slice p3 m3 c3)) := by simpa [hts] using v3
         have e3 : w.cell? ⟨r, off + 6, none⟩ = some (.string (bs (Z1 TA))) := by simpa [hts] using g3
         clear g3
         have e3' : w.cell? ⟨r, off + 6 + 1, none⟩ = some (.slice p3 m3 c3) := e3'
         have CTTA : Hid (∀ W, Below w.heap.size w W → Calls prog 109 #[.agg #[.string (bs (Z1 TA)), .slice p3 m3 c3]] W fun e w' => e = .returned (.bool (X5 TA)) ∧ Below W.heap.size W w') := H_ (fun W hW => Z37 TA p3 m3 c3 ok W hwTA (by omega) (v3.below hW hok) (Vv hok hW))
         have hwTB : TB.wf := by have := Ji hwf.2 (i := 4) (by omega); simpa [hts] using this
         obtain ⟨p4, m4, c4, v4, g4, e4'⟩ := Kb h6 h5 4 (by omega)
         have v4 : FV nS w ok TB (nS TB (.slice p4 m4 c4)) := by simpa [hts] using v4
         have e4 : w.cell? ⟨r, off + 8, none⟩ = some (.string (bs (Z1 TB))) := by simpa [hts] using g4
         clear g4
         have e4' : w.cell? ⟨r, off + 8 + 1, none⟩ = some (.slice p4 m4 c4) := e4'
         have CTTB : Hid (∀ W, Below w.heap.size w W → Calls prog 109 #[.agg #[.string (bs (Z1 TB)), .slice p4 m4 c4]] W fun e w' => e = .returned (.bool (X5 TB)) ∧ Below W.heap.size W w') := H_ (fun W hW => Z37 TB p4 m4 c4 ok W hwTB (by omega) (v4.below hW hok) (Vv hok hW))
         have heq : ((bs (Z1 f)).toList == (bs (Z1 x)).toList) = (Z1 f == Z1 x) := by rw [Z9, Z9]
         obtain ⟨bf, hbf⟩ : ∃ v, v = Yg (Z1 f) := ⟨_, rfl⟩
         obtain ⟨bx, hbx2⟩ : ∃ v, v = Yg (Z1 x) := ⟨_, rfl⟩
         obtain ⟨be, hbe⟩ : ∃ v, v = (Z1 f == Z1 x) := ⟨_, rfl⟩
         obtain ⟨ba, hba⟩ : ∃ v, v = X5 TA := ⟨_, rfl⟩
         obtain ⟨bb, hbb⟩ : ∃ v, v = X5 TB := ⟨_, rfl⟩
         rw [← hbf] at CNf hR2; rw [← hbx2] at CNx hR2; rw [← hbe] at heq hR2; rw [← hba] at CTTA hR2; rw [← hbb] at CTTB hR2
         clear hts hbf hbx2 hbe hba hbb hbx hbTA hbTB hlf hlx hwTA hwTB v3 v4 k56 g0 g0'
         have hsf : (bs (Z1 f)).toList = (bs (Z1 f)).toList := rfl
         clear hsf
         have F1 : Hid (∀ W, Below (w.heap.size + 1) (w.alloc (.cells #[.string (bs []), .slice (some ⟨r, off, none⟩) 6 cap] 47)) W → Below w.heap.size w W) := H_ (fun W h => (Z5 w _).trans (h.mono (by omega)))
         have F2 : Hid (∀ W W', Below (w.heap.size + 1) (w.alloc (.cells #[.string (bs []), .slice (some ⟨r, off, none⟩) 6 cap] 47)) W → Below W.heap.size W W' → Below (w.heap.size + 1) (w.alloc (.cells #[.string (bs []), .slice (some ⟨r, off, none⟩) 6 cap] 47)) W') := H_ (fun W W' h h' => h.trans (h'.mono (by have := h.size; simp at this; omega)))
         have K : Hid (∀ W, Below (w.heap.size + 1) (w.alloc (.cells #[.string (bs []), .slice (some ⟨r, off, none⟩) 6 cap] 47)) W → (fun W => Below (w.heap.size + 1) (w.alloc (.cells #[.string (bs []), .slice (some ⟨r, off, none⟩) 6 cap] 47)) W ∧ W.cell? ⟨w.heap.size, 1, none⟩ = some (.slice (some ⟨r, off, none⟩) 6 cap) ∧ (W.cell? ⟨r, off + 2, none⟩ = some (.string (bs (Z1 f))) ∧ W.cell? ⟨r, off + 4, none⟩ = some (.string (bs (Z1 x)))) ∧ (W.cell? ⟨r, off + 6, none⟩ = some (.string (bs (Z1 TA))) ∧ W.cell? ⟨r, off + 6 + 1, none⟩ = some (.slice p3 m3 c3)) ∧ (W.cell? ⟨r, off + 8, none⟩ = some (.string (bs (Z1 TB))) ∧ W.cell? ⟨r, off + 8 + 1, none⟩ = some (.slice p4 m4 c4))) W) :=
          H_ (fun W hW => ⟨hW, (hW.cell (p := ⟨w.heap.size, 1, none⟩) (by simp)).trans (by simp), ⟨((F1.out _ hW).cell (p := ⟨r, off + 2, none⟩) hrlt).trans e1, ((F1.out _ hW).cell (p := ⟨r, off + 4, none⟩) hrlt).trans e2⟩,
           ⟨((F1.out _ hW).cell (p := ⟨r, off + 6, none⟩) hrlt).trans e3, ((F1.out _ hW).cell (p := ⟨r, off + 6 + 1, none⟩) hrlt).trans e3'⟩, ((F1.out _ hW).cell (p := ⟨r, off + 8, none⟩) hrlt).trans e4, ((F1.out _ hW).cell (p := ⟨r, off + 8 + 1, none⟩) hrlt).trans e4'⟩)
         cases bf with
         | false =>
           have HR := H_ hR2
           clear hR2 ih
           go_enter func65, ntmps65
           simp only [nS, Z1]
           go_wp2_with (first | (go_at_call 98; go_must (refine (CK.out _).mono ?_; rintro e w0 ⟨rfl, rfl⟩)) | (go_at_call 53; (with_reducible refine (CNf.out _).mono ?_); rintro e w1 ⟨rfl, rfl⟩))
           go_ret
           exact ⟨Zf (by rw [HR.out]; simp), Z5 _ _⟩
         | true =>
         cases bx with
         | false =>
           have HR := H_ hR2
           clear hR2 ih e3 e3' e4 e4' K F1 F2
           go_enter func65, ntmps65
           simp only [nS, Z1]
           go_wp2_with (first | (go_at_call 98; go_must (refine (CK.out _).mono ?_; rintro e w0 ⟨rfl, rfl⟩)) | (go_at_call 53; (with_reducible refine (CNf.out _).mono ?_); rintro e w1 ⟨rfl, rfl⟩))
           go_quiet ((go_at_call 53; exact Calls.quiet_of_same (CNx.out _)))
           go_wp2_with fail
           go_ret
           exact ⟨Zf (by rw [HR.out]; simp), (Z5 w _).trans ((Z0w _ _).mono (by simp))⟩
         | true =>
         cases be with
         | true =>
           have HR := H_ hR2
           clear hR2 ih e3 e3' e4 e4' K F1 F2
           go_enter func65, ntmps65
           simp only [nS, Z1]
           go_wp2_with (first | (go_at_call 98; go_must (refine (CK.out _).mono ?_; rintro e w0 ⟨rfl, rfl⟩)) | (go_at_call 53; (with_reducible refine (CNf.out _).mono ?_); rintro e w1 ⟨rfl, rfl⟩))
           go_quiet ((go_at_call 53; exact Calls.quiet_of_same (CNx.out _)))
           go_wp2_with fail
           go_ret
           exact ⟨Zf (by rw [HR.out]; simp), (Z5 w _).trans ((Z0w _ _).mono (by simp))⟩
         | false =>
         cases ba with
         | false =>
           have HR := H_ hR2
           clear hR2 ih e4 e4' K F2
           go_enter func65, ntmps65
           simp only [nS, Z1]
           go_wp2_with (first | (go_at_call 98; go_must (refine (CK.out _).mono ?_; rintro e w0 ⟨rfl, rfl⟩)) | (go_at_call 53; (with_reducible refine (CNf.out _).mono ?_); rintro e w1 ⟨rfl, rfl⟩))
           first | (go_region_with (first | (go_at_call 53; (with_reducible refine (CNx.out _).mono ?_); rintro e w' ⟨rfl, rfl⟩) | (go_at_call 109; (with_reducible refine (CTTA.out _ (F1.out _ ((Below.refl _ _).drew))).mono ?_); rintro e w' ⟨rfl, hb9⟩))) | fail
           all_goals
            go_wp2_with fail
            go_ret
            exact ⟨Zf (by rw [HR.out]; simp), (F1.out _ ((Below.refl _ _).drew)).trans (hb9.mono (by simp))⟩
         | true =>
         cases bb with
         | false =>
           have HR := H_ hR2
           clear hR2 ih e2 e3 e3' e4 e4'
           go_enter func65, ntmps65
           simp only [nS, Z1]
           go_wp2_with (first | (go_at_call 98; go_must (refine (CK.out _).mono ?_; rintro e w0 ⟨rfl, rfl⟩)) | (go_at_call 53; (with_reducible refine (CNf.out _).mono ?_); rintro e w1 ⟨rfl, rfl⟩))
           clear e1
           have S0 := H_ (K.out _ ((Below.refl _ _).drew))
           first
            | (go_region_held3 (fun W => Below (w.heap.size + 1) (w.alloc (.cells #[.string (bs []), .slice (some ⟨r, off, none⟩) 6 cap] 47)) W ∧ W.cell? ⟨w.heap.size, 1, none⟩ = some (.slice (some ⟨r, off, none⟩) 6 cap) ∧ (W.cell? ⟨r, off + 2, none⟩ = some (.string (bs (Z1 f))) ∧ W.cell? ⟨r, off + 4, none⟩ = some (.string (bs (Z1 x)))) ∧ (W.cell? ⟨r, off + 6, none⟩ = some (.string (bs (Z1 TA))) ∧ W.cell? ⟨r, off + 6 + 1, none⟩ = some (.slice p3 m3 c3)) ∧ (W.cell? ⟨r, off + 8, none⟩ = some (.string (bs (Z1 TB))) ∧ W.cell? ⟨r, off + 8 + 1, none⟩ = some (.slice p4 m4 c4)))
                (first | exact S0.out | assumption)
                (first | (go_at_call 53; (with_reducible refine (CNx.out _).mono ?_); rintro e w' ⟨rfl, rfl⟩) | (go_at_call 109; have hh := And.left (by assumption : Below (w.heap.size + 1) (w.alloc (.cells #[.string (bs []), .slice (some ⟨r, off, none⟩) 6 cap] 47)) _ ∧ _); first | ((with_reducible refine (CTTA.out _ (F1.out _ hh)).mono ?_); rintro e w' ⟨rfl, hb9⟩; have hS2 := K.out _ (F2.out _ _ hh hb9)) | ((with_reducible refine (CTTB.out _ (F1.out _ hh)).mono ?_); rintro e w' ⟨rfl, hb9⟩; have hS2 := K.out _ (F2.out _ _ hh hb9))) | fail))
            | fail
           all_goals
            go_wp2_with fail
            go_ret
            exact ⟨Zf (by rw [HR.out]; simp), F1.out _ (And.left (by assumption : Below (w.heap.size + 1) (w.alloc (.cells #[.string (bs []), .slice (some ⟨r, off, none⟩) 6 cap] 47)) _ ∧ _))⟩
         | true =>
           have HR := H_ hR2
           have HO : Hid ((true && (true && !false && true && true)) = true) := H_ rfl
           clear hR2 e2 e3 e3' e4 e4'
           go_enter func65, ntmps65
           simp only [nS, Z1]
           go_wp2_with (first | (go_at_call 98; go_must (refine (CK.out _).mono ?_; rintro e w0 ⟨rfl, rfl⟩)) | (go_at_call 53; (with_reducible refine (CNf.out _).mono ?_); rintro e w1 ⟨rfl, rfl⟩))
           clear e1
           have S0 := H_ (K.out _ ((Below.refl _ _).drew))
           first
            | (go_region_held3 (fun W => Below (w.heap.size + 1) (w.alloc (.cells #[.string (bs []), .slice (some ⟨r, off, none⟩) 6 cap] 47)) W ∧ W.cell? ⟨w.heap.size, 1, none⟩ = some (.slice (some ⟨r, off, none⟩) 6 cap) ∧ (W.cell? ⟨r, off + 2, none⟩ = some (.string (bs (Z1 f))) ∧ W.cell? ⟨r, off + 4, none⟩ = some (.string (bs (Z1 x)))) ∧ (W.cell? ⟨r, off + 6, none⟩ = some (.string (bs (Z1 TA))) ∧ W.cell? ⟨r, off + 6 + 1, none⟩ = some (.slice p3 m3 c3)) ∧ (W.cell? ⟨r, off + 8, none⟩ = some (.string (bs (Z1 TB))) ∧ W.cell? ⟨r, off + 8 + 1, none⟩ = some (.slice p4 m4 c4)))
                (first | exact S0.out | assumption)
                (first | (go_at_call 53; (with_reducible refine (CNx.out _).mono ?_); rintro e w' ⟨rfl, rfl⟩) | (go_at_call 109; have hh := And.left (by assumption : Below (w.heap.size + 1) (w.alloc (.cells #[.string (bs []), .slice (some ⟨r, off, none⟩) 6 cap] 47)) _ ∧ _); first | ((with_reducible refine (CTTA.out _ (F1.out _ hh)).mono ?_); rintro e w' ⟨rfl, hb9⟩; have hS2 := K.out _ (F2.out _ _ hh hb9)) | ((with_reducible refine (CTTB.out _ (F1.out _ hh)).mono ?_); rintro e w' ⟨rfl, hb9⟩; have hS2 := K.out _ (F2.out _ _ hh hb9))) | fail))
            | fail
           all_goals
            go_wp2_with fail
            go_loopw [7] (fun i wr => ∃ k : Nat, 5 ≤ k ∧ k ≤ 6 ∧ i = .int .i64 k ∧ Hid (((ts.drop 5).take (k - 5)).all Jx = true) ∧ Below (w.heap.size + 1) (w.alloc (.cells #[.string (bs []), .slice (some ⟨r, off, none⟩) 6 cap] 47)) wr) (fun i _ => 6 - (intOf i).toNat)
            case atStart => exact ⟨5, Nat.le_refl _, by omega, rfl, H_ (by simp), (And.left (by assumption : Below (w.heap.size + 1) (w.alloc (.cells #[.string (bs []), .slice (some ⟨r, off, none⟩) 6 cap] 47)) _ ∧ _))⟩
            case round =>
             obtain ⟨k, hak, hk, rfl, hall, hb⟩ := hrel
             have c0 : wr.cell? ⟨w.heap.size, 0, none⟩ = some (.string (bs [])) := by rw [hb.cell (p := ⟨w.heap.size, 0, none⟩) (by simp)]; simp
             have c1 : wr.cell? ⟨w.heap.size, 1, none⟩ = some (.slice (some ⟨r, off, none⟩) 6 cap) := by rw [hb.cell (p := ⟨w.heap.size, 1, none⟩) (by simp)]; simp
             have hbw : Below w.heap.size w wr := (Z5 w _).trans (hb.mono (by omega))
             by_cases hlt : k < 6
             · have hltt : k < ts.length := by rw [HL.out]; exact hlt
               obtain ⟨cs, g1, g2⟩ := FVs.get Jn h6 h5 k hltt
               obtain ⟨p, pn, pc, rfl⟩ := g1.node
               obtain ⟨tk, htk⟩ : ∃ tk, tk = ts[k] := ⟨_, rfl⟩
               rw [← htk] at g1 g2
               have x0 : wr.cell? ⟨r, off + k * 2, none⟩ = some (.string (bs (Z1 tk))) := by rw [hbw.cell (by exact hrlt)]; exact g2 0 _ rfl
               have x1 : wr.cell? ⟨r, off + k * 2 + 1, none⟩ = some (.slice p pn pc) := by rw [hbw.cell (by exact hrlt)]; exact g2 1 _ rfl
               have hdk : tk.depth < n := by have := Xk hltt; rw [htk]; omega
               have hbk : tk.bytes ≤ 12000 := by have := J5 hltt; simp only [Tr.bytes] at this; rw [htk]; omega
               have hwk : tk.wf := by rw [htk]; exact Ji hwf.2 hltt
               have C : Hid (Calls prog 65 #[.agg #[.string (bs (Z1 tk)), .slice p pn pc]] wr fun e w' => e = .returned (.bool (Jx tk)) ∧ Below wr.heap.size wr w') := H_ (ih tk (nS tk (.slice p pn pc)) ok wr hdk hwk hbk (g1.below hbw hok) (Vv hok hbw))
               cases hv : Jx tk with
               | false =>
                 have HB := H_ (all_bad (V := Jx) (a := 5) hltt hak (by rw [← htk]; exact hv))
                 rw [hv] at C
                 clear htk g1 g2 hv
                 go_wp2_with (go_at_call 65; go_must (refine (C.out).mono ?_; rintro e w' ⟨rfl, hb2⟩))
                 go_ret
                 exact ⟨Zf (by rw [HR.out, HB.out, Bool.and_false]), hbw.trans (hb2.mono hbw.size)⟩
               | true =>
                 have HB := H_ (Z86 (V := Jx) hltt hak hall.out (by rw [← htk]; exact hv))
                 rw [hv] at C
                 clear htk g1 g2 hv
                 go_wp2_with (go_at_call 65; go_must (refine (C.out).mono ?_; rintro e w' ⟨rfl, hb2⟩))
                 all_goals
                  go_roundw
                  case rel => exact ⟨k + 1, by omega, by omega, by go_num, HB, hb.trans (hb2.mono (by have := hb.size; simp at this; omega))⟩
                  case measure => simp [intOf]; omega
             · have : k = 6 := by omega
               subst this
               have hall2 := hall.out
               rw [List.take_of_length_le (by simp; have := HL.out; omega)] at hall2
               have HB := H_ hall2
               clear hall2
               go_wp2_with fail
               go_ret
               exact ⟨Zf (by rw [HR.out, HB.out, HO.out]; rfl), hbw⟩
       · have HR := H_ hR2
         have HO := H_ (Z43 (h := h) (ps := ps) (by rw [k56]; exact fun q => hlen (by omega)))
         have hne : ((L : Int) == 6) = false := by simp; omega
         have hne2 : ¬ (L : Int) = 6 := by omega
         clear hR2 ih hts hL hLps g0 g0' hlen
         go_enter func65, ntmps65
         simp only [nS, Z1]
         go_wp2_with (first | (go_at_call 98; go_must (refine (CK.out _).mono ?_; rintro e w0 ⟨rfl, rfl⟩)))
         go_ret
         exact ⟨Zf (by rw [HR.out, HO.out]; rfl), Z5 _ _⟩
end Go.Proofs.YtjaaalojcdbcpaaGreatDoor
