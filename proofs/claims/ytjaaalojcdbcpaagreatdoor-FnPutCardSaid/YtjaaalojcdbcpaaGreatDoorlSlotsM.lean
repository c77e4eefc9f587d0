/- The program's free places: let, fun. The program's free places: all. The program's free names, each once; its counting and its closed expressions. Rows of texts of one's own, apart from each other: some are made, others grow. -/
import Derived.Test.YtjaaalojcdbcpaaGreatDoorlImpl2ma
import Derived.Deep.RegionHeldLaw
import Derived.Test.YtjaaalojcdbcpaaGreatDoorlRegInv
import Derived.Test.YtjaaalojcdbcpaaGreatDoorlS1z
import Derived.Test.YtjaaalojcdbcpaaGreatDoorlDraw3
set_option maxHeartbeats 20000000
set_option linter.unusedVariables false
set_option linter.unusedSimpArgs false
namespace Go.Proofs.YtjaaalojcdbcpaaGreatDoor
open Go.RowKit Go.Proofs.Tryz
set_option maxRecDepth 8000
theorem fpPost_of {w w1 : World} {P : List Nm} {e : Ending} {w' : World} (h : Below w.heap.size w w1) (hp : K7 w1 P e w') : K7 w P e w' := by
 obtain ⟨⟨v, rfl, ho⟩, hb⟩ := hp
 exact ⟨⟨v, rfl, Vf ho h.size⟩, h.trans (hb.mono h.size)⟩
theorem fp_let (s : Nm) (e b : Ex) (ihe : FpC e) (ihb : FpC b) : FpC (.lete s e b) := by
 intro v ok w hl hv hok
 simp only [EV] at hv
 obtain ⟨x, y, rfl, hx, hy⟩ := hv
 obtain ⟨Tx, ux, rfl⟩ := hx.iface
 obtain ⟨Ty, uy, rfl⟩ := hy.iface
 simp only [lvs] at hl
 have K1 := H_ (Qh (x := e) ihe (by omega) hx hok)
 have K2 := H_ (Qh (x := b) ihb (by omega) hy hok)
 rw [show Ze (.lete s e b) = Ze e ++ rm [s] (Ze b) from rfl]
 have hle := Yj e
 have hlb := Yj b
 have hlr := Z1i [s] (Ze b)
 obtain ⟨i0, hi0, hz0, hz1, hz2⟩ := info_parts Tryz.infoStr
 clear hx hy ihe ihb
 go_enter func57, ntmps57
 go_wp2_with fail
 generalize hw1 : w.alloc (.cells #[.string (bs s), .iface Tx ux, .iface Ty uy] 105) = w1
 have y1 : w1.heap[w.heap.size]? = some (.cells #[.string (bs s), .iface Tx ux, .iface Ty uy] 105 (0, 0)) := by rw [← hw1]; exact heap_alloc_new _ _
 have hb01 : Below w.heap.size w w1 := by rw [← hw1]; exact Z5 _ _
 have C1 := H_ (fun W (hW : Below w1.heap.size w1 W) => K1.out W (hb01.trans (hW.mono hb01.size)))
 have C2 := H_ (fun W (hW : Below w1.heap.size w1 W) => K2.out W (hb01.trans (hW.mono hb01.size)))
 have hfw := H_ (fun (P : List Nm) e w' (h : K7 w1 P e w') => fpPost_of hb01 h)
 generalize hB0 : w.heap.size = B0 at *
 have KS : Hid (∀ W, Below w1.heap.size w1 W → (fun W => W.cell? ⟨B0, 0, none⟩ = some (.string (bs s)) ∧ W.cell? ⟨B0, 1, none⟩ = some (.iface Tx ux) ∧ W.cell? ⟨B0, 2, none⟩ = some (.iface Ty uy)) W) := H_ (fun W hW => by have q := Z2 hW (lt_of_block y1) y1; exact ⟨Z4 q, Z4 q, Z4 q⟩)
 clear K1 K2 hw1 hb01 y1
 have hD0 : Below w1.heap.size w1 w1.drew := (Below.refl _ _).drew
 have hD1 : Below w1.heap.size w1 ((w1.alloc (.cells #[.string (bs s)] 9)).drew) := (Z5 _ _).drew
 have S0 := H_ (KS.out _ hD0)
 go_region_held_law (fun W => W.cell? ⟨B0, 0, none⟩ = some (.string (bs s)) ∧ W.cell? ⟨B0, 1, none⟩ = some (.iface Tx ux) ∧ W.cell? ⟨B0, 2, none⟩ = some (.iface Ty uy)) (first | exact S0.out | assumption | exact KS.out _ hD1) (first | (go_at_call_of 57 (Value.iface Tx ux); (with_reducible refine (C1.out _ hD0).mono ?_); rintro e w2 ⟨⟨v2, rfl, ho2⟩, hb2⟩; have h2 := Below.trans hD0 (hb2.mono hD0.size); have hS2 := KS.out _ h2; have hD2 := h2.alloc h2.size (.cells #[.string (bs s)] 9); have hS2a := KS.out _ hD2) | (go_at_call_of 57 (Value.iface Tx ux); (with_reducible refine (C1.out _ hD1).mono ?_); rintro e w2 ⟨⟨v2, rfl, ho2⟩, hb2⟩; have h2 := Below.trans hD1 (hb2.mono hD1.size); have hS2 := KS.out _ h2; have hD2 := h2.alloc h2.size (.cells #[.string (bs s)] 9); have hS2a := KS.out _ hD2; have q2 : w2.heap[w1.heap.size]? = some (.cells #[.string (bs s)] 9 (0, 0)) := Z2 hb2 (by simp) (heap_alloc_new _ _)) | (go_at_call_of 57 (Value.iface Ty uy); (with_reducible refine (C2.out _ h2).mono ?_); rintro e w3 ⟨⟨v3, rfl, ho3⟩, hb3⟩; have h3 := Below.trans h2 (hb3.mono h2.size); have hS3 := KS.out _ h3; have hD3 := h3.alloc h3.size (.cells #[.string (bs s)] 9); have hS3a := KS.out _ hD3; have h23 : Below w2.heap.size w2 w3 := hb3; (try have q3 := Z2 hb3 (lt_of_block q2) q2; have hq3 := lt_of_block q2)) | (go_at_call_of 57 (Value.iface Ty uy); (with_reducible refine (C2.out _ hD2).mono ?_); rintro e w3 ⟨⟨v3, rfl, ho3⟩, hb3⟩; have h3 := Below.trans hD2 (hb3.mono hD2.size); have hS3 := KS.out _ h3; have hD3 := h3.alloc h3.size (.cells #[.string (bs s)] 9); have hS3a := KS.out _ hD3; have h23 : Below w2.heap.size w2 w3 := ((Below.refl _ _).alloc (Nat.le_refl _) _).trans (hb3.mono (by simp)); have q3 : w3.heap[w2.heap.size]? = some (.cells #[.string (bs s)] 9 (0, 0)) := Z2 hb3 (by simp) (heap_alloc_new _ _); have hq3 : w2.heap.size < (w2.alloc (.cells #[.string (bs s)] 9)).heap.size := (by simp)) | (go_at_call_of 101 (w3.heap.size); refine (without_A [s] (by simp) (by omega) ho3).mono ?_; rintro e w4 ⟨⟨v4, rfl, ho4, hv4⟩, hg4⟩; have ⟨g4, o2⟩ := let_fin ho2 (by first | exact Nat.le_refl _ | (simp; done) | (simp; omega)) h2 (h23.alloc h23.size _) (ho3.alloc _) (by first | exact Nat.le_refl _ | (simp; done) | (simp; omega)) hg4; have o4 := Yh ho4 (by omega); have hS4 := KS.out _ g4) | (go_at_call 101; refine (without_B [s] (by simp) (by omega) ho3 q3 hq3).mono ?_; rintro e w4 ⟨⟨v4, rfl, ho4, hv4⟩, hg4⟩; have ⟨g4, o2⟩ := let_fin ho2 (by first | exact Nat.le_refl _ | (simp; done) | (simp; omega)) h2 h23 ho3 (by first | exact Nat.le_refl _ | (simp; done) | (simp; omega)) hg4; have o4 := Yh ho4 (by omega); have hS4 := KS.out _ g4) | (refine Yq w4 (by rfl) _ _ 28 (by rfl) w1.heap.size 9 i0 underlying28 hi0 hz0 hz1 hz2 _ (Ze e) (by rfl) o2 _ (rm [s] (Ze b)) (by rfl) o4 (by omega) g4.size ?_; intro v5 w5 ho5 hg5 hv5; have hfin := let_end g4 o2 hg5 ho5; have hS5 := KS.out _ hfin.2))
 all_goals
  go_wp2_with fail
  go_ret
  first
   | exact hfw.out _ _ _ hfin
   | (refine Eq.mpr (congrArg (fun z => K7 w (Ze e ++ rm [s] (Ze b)) (Ending.returned z) w5) ?_) (hfw.out _ _ _ hfin); simp)
theorem fun_end {w W w4 : World} {v2 v4 : Value} {Q : List Nm} {base n : Nat} {xs : List Value} (kW : Below w.heap.size w W) (hb : w.heap.size ≤ base) (ho2 : W.ownsRow base 9 1 v2 n xs) (hg : W.grownBy w4 v2.ownBlock) (ho4 : w4.ownsRow base 9 1 v4 Q.length (Q.map Y3)) : K7 w Q (.returned v4) w4 :=
 ⟨⟨v4, rfl, Vf ho4 hb⟩, Ya kW (Below.refl _ _) hg (fun k hk => by have := (Yb ho2 hk).1; omega)⟩
theorem fp_fun (f x : Nm) (A B : Tr) (e : Ex) (ihe : FpC e) : FpC (.func f x A B e) := by
 intro v ok w hl hv hok
 simp only [EV] at hv
 obtain ⟨pa, na, ca, pb, nb, cb, y, rfl, hA, hB, hy⟩ := hv
 obtain ⟨Ty, uy, rfl⟩ := hy.iface
 simp only [lvs] at hl
 have K1 := H_ (Qh (x := e) ihe (by omega) hy hok)
 rw [show Ze (.func f x A B e) = rm [f, x] (Ze e) from rfl]
 have hle := Yj e
 obtain ⟨la, lb, lc, ld, -, -, -, -, hnA⟩ := Jo A
 obtain ⟨ma, mb, mc, md, -, -, -, -, hnB⟩ := Jo B
 rw [hnA, hnB]
 simp only [List.cons_append, List.nil_append]
 clear hy ihe hA hB hnA hnB
 go_enter func57, ntmps57
 go_wp2_with fail
 generalize hw1 : w.alloc (.cells #[.string (bs f), .string (bs x), .string la, .slice pa na ca, .int .i64 lb, .int .i64 lc, .int .i64 ld, .string ma, .slice pb nb cb, .int .i64 mb, .int .i64 mc, .int .i64 md, .iface Ty uy] 107) = w1
 have y1 : w1.heap[w.heap.size]? = some (.cells #[.string (bs f), .string (bs x), .string la, .slice pa na ca, .int .i64 lb, .int .i64 lc, .int .i64 ld, .string ma, .slice pb nb cb, .int .i64 mb, .int .i64 mc, .int .i64 md, .iface Ty uy] 107 (0, 0)) := by rw [← hw1]; exact heap_alloc_new _ _
 have hb01 : Below w.heap.size w w1 := by rw [← hw1]; exact Z5 _ _
 have C1 := H_ (fun W (hW : Below w1.heap.size w1 W) => K1.out W (hb01.trans (hW.mono hb01.size)))
 have hfw := H_ (fun (P : List Nm) e w' (h : K7 w1 P e w') => fpPost_of hb01 h)
 generalize hB0 : w.heap.size = B0 at *
 have KS : Hid (∀ W, Below w1.heap.size w1 W → (fun W => W.cell? ⟨B0, 0, none⟩ = some (.string (bs f)) ∧ W.cell? ⟨B0, 1, none⟩ = some (.string (bs x)) ∧ W.cell? ⟨B0, 12, none⟩ = some (.iface Ty uy)) W) := H_ (fun W hW => by have q := Z2 hW (lt_of_block y1) y1; exact ⟨Z4 q, Z4 q, Z4 q⟩)
 clear K1 hw1 hb01 y1
 have hD0 : Below w1.heap.size w1 w1.drew := (Below.refl _ _).drew
 have hD1 : Below w1.heap.size w1 ((w1.alloc (.cells #[.string (bs f), .string (bs x)] 9)).drew) := (Z5 _ _).drew
 have S0 := H_ (KS.out _ hD0)
 go_region_held_law (fun W => W.cell? ⟨B0, 0, none⟩ = some (.string (bs f)) ∧ W.cell? ⟨B0, 1, none⟩ = some (.string (bs x)) ∧ W.cell? ⟨B0, 12, none⟩ = some (.iface Ty uy)) (first | exact S0.out | assumption | exact KS.out _ hD1) (first | (go_at_call_of 57 (Value.iface Ty uy); (with_reducible refine (C1.out _ hD0).mono ?_); rintro e w2 ⟨⟨v2, rfl, ho2⟩, hb2⟩; have h2 := Below.trans hD0 (hb2.mono hD0.size); have hS2 := KS.out _ h2; have hD2 := h2.alloc h2.size (.cells #[.string (bs f), .string (bs x)] 9); have hS2a := KS.out _ hD2) | (go_at_call_of 57 (Value.iface Ty uy); (with_reducible refine (C1.out _ hD1).mono ?_); rintro e w2 ⟨⟨v2, rfl, ho2⟩, hb2⟩; have h2 := Below.trans hD1 (hb2.mono hD1.size); have hS2 := KS.out _ h2; have hD2 := h2.alloc h2.size (.cells #[.string (bs f), .string (bs x)] 9); have hS2a := KS.out _ hD2; have q2 : w2.heap[w1.heap.size]? = some (.cells #[.string (bs f), .string (bs x)] 9 (0, 0)) := Z2 hb2 (by simp) (heap_alloc_new _ _)) | (go_at_call_of 101 (w2.heap.size); refine (without_A [f, x] (by simp) (by omega) ho2).mono ?_; rintro e w4 ⟨⟨v4, rfl, ho4, hv4⟩, hg4⟩; have hfin := fun_end hD2 (by first | exact Nat.le_refl _ | (simp; done) | (simp; omega)) (ho2.alloc _) hg4 ho4; have hS4 := KS.out _ hfin.2) | (go_at_call 101; refine (without_B [f, x] (by simp) (by omega) ho2 q2 (by simp)).mono ?_; rintro e w4 ⟨⟨v4, rfl, ho4, hv4⟩, hg4⟩; have hfin := fun_end h2 (by first | exact Nat.le_refl _ | (simp; done) | (simp; omega)) ho2 hg4 ho4; have hS4 := KS.out _ hfin.2))
 all_goals
  go_wp2_with fail
  go_ret
  exact hfw.out _ _ _ hfin
theorem Qu : ∀ x : Ex, FpC x
 | .name s => fp_name s
 | .num n => fp_num n
 | .two .add a b => fp_add a b (Qu a) (Qu b)
 | .two .sub a b => fp_sub a b (Qu a) (Qu b)
 | .two .mul a b => fp_mul a b (Qu a) (Qu b)
 | .two .call a b => fp_call a b (Qu a) (Qu b)
 | .two .pair a b => fp_pair a b (Qu a) (Qu b)
 | .one .fst a => fp_fst a (Qu a)
 | .one .snd a => fp_snd a (Qu a)
 | .cond a b c => fp_cond a b c (Qu a) (Qu b) (Qu c)
 | .lete s e b => fp_let s e b (Qu e) (Qu b)
 | .func f x A B e => fp_fun f x A B e (Qu e)
structure FnInv (w1 : World) (l : List Nm) (v1 : Value) (wr : World) : Prop where
 own : wr.ownsRow w1.heap.size 9 1 v1 l.length (l.map Y3)
 below : Below w1.heap.size w1 wr
theorem FnInv.fin {w w1 wr : World} {l : List Nm} {v1 : Value} (h : FnInv w1 l v1 wr) (hb1 : Below w.heap.size w w1) : K7 w l (.returned v1) wr := ⟨⟨_, rfl, Vf h.own hb1.size⟩, hb1.trans (h.below.mono hb1.size)⟩
theorem strS_keep {w w' : World} {v : Value} {l : List Nm} (h : Zw w v l) (hb : Below w.heap.size w w') : Zw w' v l := by
 obtain ⟨p, c, rfl, h1, h2⟩ := h
 refine ⟨p, c, rfl, h1, fun hne => ?_⟩
 obtain ⟨r, off, rfl, h3⟩ := h2 hne
 refine ⟨r, off, rfl, h3.move (hb.block r ?_)⟩
 cases l with
 | nil => exact absurd rfl hne
 | cons x l =>
   have hc := h3 0 (Y3 x) (by simp)
   by_cases hr : r < w.heap.size
   · exact hr
   · simp [World.cell?, Array.getElem?_eq_none (Nat.le_of_not_lt hr)] at hc
theorem Z61 (x : Ex) (v : Value) (ok : Nat → Prop) (w : World) (hl : lvs x ≤ 100000) (hv : EV w ok x v) (hok : ∀ k, ok k → k < w.heap.size) :
 Calls prog 38 #[v] w (K7 w ((Ze x).foldl Qj [])) := by
 have C := H_ (Qu x v ok w hl hv hok)
 have hlen : (Ze x).length ≤ 100000 := by have := Yj x; omega
 have HL : Hid (∀ j, (((Ze x).take j).foldl Qj []).length ≤ 100000) := H_ (fun j => by
  have h1 := (Vl ((Ze x).take j) []).2
  simp only [List.length_take, List.length_nil] at h1
  omega)
 obtain ⟨i0, hi0, hz0, hz1, hz2⟩ := info_parts Tryz.infoStr
 obtain ⟨T, u, rfl⟩ := hv.iface
 generalize Ze x = P at *
 clear hv hl hok
 go_enter func38, ntmps38
 go_wp2_with (go_at_call 57; go_must (refine (C.out).mono ?_; rintro e w1 ⟨⟨v7, rfl, ho7⟩, hb1⟩; obtain ⟨p7, c7, rfl⟩ := Zn ho7))
 have hS7 := H_ (Yh ho7 (by omega))
 clear ho7
 go_loopw [3, 9] (fun v1 i wr => ∃ j : Nat, j ≤ P.length ∧ i = .int .i64 j ∧ Hid (FnInv w1 ((P.take j).foldl Qj []) v1 wr)) (fun _ i _ => P.length - (intOf i).toNat)
 case atStart => exact ⟨0, Nat.zero_le _, rfl, H_ ⟨World.ownsRow_nil _ _ _ _, Below.refl _ _⟩⟩
 case round =>
  obtain ⟨j, hj, rfl, hI⟩ := hrel
  by_cases hlt : j < P.length
  · have hSr := strS_keep hS7.out hI.out.below
    obtain ⟨p9, c9, he9, h91, h92⟩ := hSr
    simp only [Value.slice.injEq] at he9
    obtain ⟨rfl, -, rfl⟩ := he9
    obtain ⟨r, off, rfl, h93⟩ := h92 (fun e => by rw [e] at hlt; simp at hlt)
    have c0 : wr.cell? ⟨r, off + j, none⟩ = some (.string (bs P[j])) := Zw.cell h93 hlt
    have HA := H_ (show (P.take (j + 1)).foldl Qj [] = Qj ((P.take j).foldl Qj []) P[j] by rw [List.take_succ_eq_append_getElem hlt, List.foldl_append]; rfl)
    have hl1 := HL.out j
    have hsz := hI.out.below.size
    have HO := H_ hI.out.own
    have hj0 : (0 : Int) ≤ (j : Int) := by omega
    generalize P[j] = a at *
    generalize (P.take j).foldl Qj [] = l at *
    obtain ⟨p1, c1, rfl⟩ := Zn HO.out
    clear h91 h92 h93 HL
    have CC := H_ (Z4a _ l a wr (Yh HO.out (by omega)))
    by_cases hm : a ∈ l
    · have hd : decide (a ∈ l) = true := by simpa using hm
      have HA2 := H_ (show (P.take (j + 1)).foldl Qj [] = l by rw [HA.out, addA_yes hm])
      rw [hd] at CC
      clear HA hm hd
      go_wp2_with (go_at_call 74; go_must (refine (CC.out).mono ?_; rintro e w3 ⟨rfl, rfl⟩))
      go_roundw
      case rel => exact ⟨j + 1, by omega, by go_num, by rw [HA2.out]; exact hI⟩
      case measure => simp [intOf]; omega
    · have hd : decide (a ∈ l) = false := by simpa using hm
      have HA2 := H_ (show (P.take (j + 1)).foldl Qj [] = l ++ [a] by rw [HA.out, addA_no hm])
      rw [hd] at CC
      clear HA hm hd
      go_wp2_with (first | (go_at_call 74; go_must (refine (CC.out).mono ?_; rintro e w3 ⟨rfl, rfl⟩)) | (at_builtin; go_must (refine Y9 _ rfl _ _ 28 rfl w1.heap.size 9 i0 underlying28 hi0 hz0 hz1 hz2 _ l rfl (HO.out.alloc _) _ [a] rfl (Kk (l := [a]) (heap_alloc_new _ _) _ (by simp)) (by simp; omega) (by simp; omega) ?_; intro v3 w4 ho4 hg4 hv4)))
      go_roundw
      case rel => exact ⟨j + 1, by omega, by go_num, H_ (by rw [HA2.out]; exact ⟨ho4, Ya hI.out.below ((Below.refl _ _).alloc (Nat.le_refl _) _) hg4 (fun k hk => (Yb HO.out hk).1)⟩)⟩
      case measure => simp [intOf]; omega
  · have : j = P.length := by omega
    subst this
    have hF := hI.out.fin hb1
    rw [List.take_length] at hF
    have hF := H_ hF
    clear hI HL C
    go_wp2_with fail
    go_ret
    exact hF.out
theorem owns_stay {w w' : World} {base : Nat} {e : TypeId} {size : Nat} {v : Value} {n : Nat} {xs : List Value} (h : w.ownsRow base e size v n xs) (hs : ∀ q, v.ownBlock = some q → w'.heap[q]? = w.heap[q]?) : w'.ownsRow base e size v n xs := by
 refine ⟨h.1, ?_⟩
 rcases h.2 with h0 | ⟨g, cap, cur, rfl, h0, h3, h1, h2, h4, h5⟩
 · exact .inl h0
 · exact .inr ⟨g, cap, cur, rfl, h0, by rw [hs g rfl]; exact h3, h1, h2, h4, h5⟩
structure Slots (w : World) (base : Nat) (S : Nat → Option (Value × List Nm)) : Prop where
 own : ∀ i v l, S i = some (v, l) → w.ownsRow base 9 1 v l.length (l.map Y3)
 apart : ∀ i j v l u k q, i ≠ j → S i = some (v, l) → S j = some (u, k) → v.ownBlock = some q → u.ownBlock ≠ some q
def Vn (S : Nat → Option (Value × List Nm)) (i : Nat) (x : Value × List Nm) : Nat → Option (Value × List Nm) := fun j => if j = i then some x else S j
theorem Xp (S : Nat → Option (Value × List Nm)) (i : Nat) (x : Value × List Nm) : Vn S i x i = some x := by simp [Vn]
theorem Q4 {S : Nat → Option (Value × List Nm)} {i j : Nat} (x : Value × List Nm) (h : j ≠ i) : Vn S i x j = S j := by simp [Vn, h]
theorem Slots.start (w : World) (base : Nat) : Slots w base (fun _ => none) := ⟨fun i v l h => (by cases h), fun i j v l u k q _ h => (by cases h)⟩
theorem Slots.stay {w w' : World} {base : Nat} {S : Nat → Option (Value × List Nm)} (h : Slots w base S) (hs : ∀ q, base ≤ q → q < w.heap.size → w'.heap[q]? = w.heap[q]?) : Slots w' base S :=
 ⟨fun i v l e => owns_stay (h.own i v l e) (fun q hq => hs q (Yb (h.own i v l e) hq).1 (Yb (h.own i v l e) hq).2), h.apart⟩
theorem Slots.put {w w' : World} {base : Nat} {S : Nat → Option (Value × List Nm)} (h : Slots w base S) (i : Nat) (v' : Value) (l' : List Nm) (ho : w'.ownsRow base 9 1 v' l'.length (l'.map Y3))
 (hs : ∀ j v l q, j ≠ i → S j = some (v, l) → v.ownBlock = some q → w'.heap[q]? = w.heap[q]? ∧ v'.ownBlock ≠ some q) : Slots w' base (Vn S i (v', l')) := by
 refine ⟨fun j v l e => ?_, fun j k v l u m q hjk e1 e2 hq => ?_⟩
 · by_cases hj : j = i
   · subst hj
     rw [Xp] at e
     cases e
     exact ho
   · rw [Q4 _ hj] at e
     exact owns_stay (h.own j v l e) (fun q hq => (hs j v l q hj e hq).1)
 · by_cases hj : j = i
   · subst hj
     rw [Xp] at e1
     cases e1
     have hk : k ≠ j := fun e => hjk e.symm
     rw [Q4 _ hk] at e2
     intro hu
     exact (hs k u m q hk e2 hu).2 hq
   · rw [Q4 _ hj] at e1
     by_cases hk : k = i
     · subst hk
       rw [Xp] at e2
       cases e2
       exact (hs j v l q hj e1 hq).2
     · rw [Q4 _ hk] at e2
       exact h.apart j k v l u m q hjk e1 e2 hq
theorem Slots.make {w : World} {base : Nat} {S : Nat → Option (Value × List Nm)} (h : Slots w base S) (hb : base ≤ w.heap.size) (i : Nat) (l : List Nm) (hl : l.length ≤ 1000000) :
 Slots (w.alloc (.cells (l.map Y3).toArray 9)) base (Vn S i (.slice (some ⟨w.heap.size, 0, none⟩) l.length l.length, l)) := by
 refine h.put i _ l ⟨by simp, .inr ⟨w.heap.size, l.length, (l.map Y3).toArray, rfl, hb, heap_alloc_new _ _, Nat.le_refl _, by unfold maxLen; omega, by simp, ?_⟩⟩ (fun j v k q hj e hq => ?_)
 · rw [List.take_of_length_le (by simp)]
 · have := (Yb (h.own j v k e) hq).2
   refine ⟨heap_alloc_old _ _ this, ?_⟩
   simp only [Value.ownBlock, ne_eq, Option.some.injEq]
   omega
theorem Slots.grow {w w' : World} {base : Nat} {S : Nat → Option (Value × List Nm)} (h : Slots w base S) {i : Nat} {v v' : Value} {l l' : List Nm} (e : S i = some (v, l)) (ho : w'.ownsRow base 9 1 v' l'.length (l'.map Y3)) (hg : w.grownBy w' v.ownBlock)
 (hv : v'.ownBlock = v.ownBlock ∨ v'.ownBlock = some w.heap.size) : Slots w' base (Vn S i (v', l')) := by
 refine h.put i v' l' ho (fun j u k q hj e2 hq => ?_)
 have hlt := (Yb (h.own j u k e2) hq).2
 have hne : v.ownBlock ≠ some q := fun hv0 => h.apart i j v l u k q (fun q => hj q.symm) e e2 hv0 hq
 refine ⟨hg.block q hlt (fun q0 => hne q0.symm), ?_⟩
 rcases hv with hv | hv
 · rw [hv]; exact hne
 · rw [hv]; simp only [ne_eq, Option.some.injEq]; omega
end Go.Proofs.YtjaaalojcdbcpaaGreatDoor
