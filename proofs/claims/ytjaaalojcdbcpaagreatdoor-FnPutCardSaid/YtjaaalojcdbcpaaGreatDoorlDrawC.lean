/- The reference's draws: expressions, most often closed and with a type. The reference's draws: open expressions, and expressions that are changed. The reference's draws: expressions that are often closed, and seldom without a type. The reference's draws: what the laws of expressions draw. -/
import Derived.Test.YtjaaalojcdbcpaaGreatDoorlDrawA
import Derived.Test.YtjaaalojcdbcpaaGreatDoorlSpec3o
import Derived.Test.YtjaaalojcdbcpaaGreatDoorlPureXM
import Derived.Test.YtjaaalojcdbcpaaGreatDoorlImpl1rM
import Derived.Test.YtjaaalojcdbcpaaGreatDoorlSpec1l
set_option maxHeartbeats 20000000
set_option linter.unusedVariables false
set_option linter.unusedSimpArgs false
namespace Go.Proofs.YtjaaalojcdbcpaaGreatDoor
open Go.RowKit Go.Proofs.Tryz
set_option maxRecDepth 8000
theorem limT_len {T : Tr} (hw : T.wf) : ((Z10 T).getD []).length ≤ 12000 := by
 unfold Z10
 split
 · rename_i h
   simp only [Option.getD_some]
   rw [Y4 _ hw]
   exact h.2.1
 · simp
theorem ofC_all (s : ByteArray) (hs : s.size ≤ 1000) : OfC s := fun W =>
 (specExprOf_c s (by omega) W).mono fun e w' ⟨h1, h2⟩ => ⟨⟨_, _, h1, by
   rw [Y0]
   cases hr : Qk s.data.toList with
   | none => rw [Z5c hr]; simp
   | some t =>
     rw [ofTx_some hr]
     exact limT_len (Z1s t.depth t (Nat.le_refl _) (readTy_L hr)).wf⟩, h2⟩
theorem Pp_le : ∀ d, d ≤ 4 → Pp d ≤ 3000
 | 0, _ => by decide
 | 1, _ => by decide
 | 2, _ => by decide
 | 3, _ => by decide
 | 4, _ => by decide
theorem Z0a {q : Nat} {a : Option Addr} {L c p : Nat} {zs : List Int} {w : World} (v1 v2 : Value) (n : Nat) (want : ByteArray) (z : Int) (hz0 : 0 ≤ z) (hz1 : z ≤ 4) (h : Rd w q a L c p zs) (hs : Sc w q v1 v2 n) (hn : n ≤ 900) (hw : want.size ≤ 700) (hp : p ≤ 400000) :
 Calls prog 48 #[.pointer (some ⟨q, 0, none⟩), .agg #[v1, v2], .string want, .int .i64 z] w fun e w' => Ql q a L c p zs 1000000 3000 w e w' := by
 obtain ⟨d, rfl⟩ : ∃ d : Nat, z = (d : Int) := ⟨z.toNat, by omega⟩
 have hd : d ≤ 4 := by omega
 have hP := Pp_le d hd
 exact (Z2j ofC_all d hd q a L c zs p w v1 v2 n want h hs (by omega) (by omega) (by omega)).mono fun e w' k => Ql.more k (Tt_le hd) hP
theorem Z29 (q : Nat) (w : World) (b1 b2 : Nat) (h1 : b1 ≠ q) (h2 : b2 ≠ q) (k1 : b1 < w.heap.size) (k2 : b2 < w.heap.size) : Sc w q (.slice (some ⟨b1, 0, none⟩) 0 0) (.slice (some ⟨b2, 0, none⟩) 0 0) 0 :=
 ⟨[], [], ⟨⟨_, 0, rfl, by simp, fun h => absurd rfl h⟩, fun k hk => by simp [Value.ownBlock] at hk; subst hk; exact ⟨h1, k1⟩⟩, ⟨⟨_, 0, rfl, by simp, fun h => absurd rfl h⟩, fun k hk => by simp [Value.ownBlock] at hk; subst hk; exact ⟨h2, k2⟩⟩, rfl, Nat.le_refl _, fun x hx => by cases hx⟩
theorem l91Good_d {q : Nat} {a : Option Addr} {L c p : Nat} {zs : List Int} {w : World} (h : Rd w q a L c p zs) (hp : p ≤ 300000) :
 Calls prog 72 #[.pointer (some ⟨q, 0, none⟩)] w fun e w' => Ql q a L c p zs 1000000 7000 w e w' := by
 have CP := H_ (K6 (n := 3) h (by omega) (by omega))
 clear h
 go_enter func72, ntmps72
 go_wp2_with fail
 refine (CP.out).mono ?_
 rintro e w2 ⟨⟨k, rfl, hk0, hk1⟩, hR2, hO2⟩
 clear CP
 by_cases hk : k = 0
 · subst hk
   have CT := H_ ((Z09 2 (p + 1) w2 hR2 (by omega) (by omega)).mono fun e w' h => Ql.more (N' := 160) (M' := 160) h (by decide) (by decide))
   go_wp2_with fail
   refine (CT.out).mono ?_
   rintro e w3 ⟨kd, p3, rfl, a3, b3, hR3, hO3⟩
   have hO3 := hO2.trans hO3
   clear CT
   have hbA := Zl w3 (.cells #[] 9) (.cells #[] 9)
   have CQ := H_ (K6 (n := 3) (hR3.below hbA) (by omega) (by omega))
   have hqA : q < w3.heap.size := lt_of_block hR3.blk
   have hOA := H_ (hO3.trans (Only.of hbA))
   have hzA : ((w3.alloc (.cells #[] 9)).alloc (.cells #[] 9)).heap.size = w3.heap.size + 1 + 1 := by simp
   have hbA := H_ hbA
   go_wp2_with fail
   refine (CQ.out).mono ?_
   rintro e w4 ⟨⟨j, rfl, hj0, hj1⟩, hR4, hO4⟩
   have hs4 := hO4.size
   rw [hzA] at hs4
   have hjw : IntKind.i64.wrap (2 + j) = 2 + j := by rw [IntKind.wrap_i64]; omega
   have CE := H_ (Z0a (.slice (some ⟨w3.heap.size, 0, none⟩) 0 0) (.slice (some ⟨w3.heap.size + 1, 0, none⟩) 0 0) 0 kd (2 + j) (by omega) (by omega) hR4 (Z29 q w4 _ _ (by omega) (by omega) (by omega) (by omega)) (by omega) (by omega) (by omega))
   have hO4 := hOA.out.trans hO4
   clear CQ
   go_wp2_with fail
   refine (CE.out).mono ?_
   rintro e w5 ⟨s5, p5, rfl, a5, b5, hR5, hO5⟩
   have CV : Hid (Calls prog 56 #[.string s5] w5 fun e w' => (∃ z, e = .returned (.bool z)) ∧ Below w5.heap.size w5 w') := H_ ((Kf s5 (by omega) w5).mono fun e w' ⟨h1, h2⟩ => ⟨⟨_, h1⟩, h2⟩)
   have hO5 := hO4.trans hO5
   clear CE
   go_wp2_with fail
   refine (CV.out).mono ?_
   rintro e w6 ⟨⟨z, rfl⟩, hb6⟩
   have hR6 := hR5.below hb6
   have hO6 := hO5.next hb6
   clear CV hb6
   cases z with
   | true =>
     go_wp2_with fail
     go_ret
     exact ⟨_, p5, rfl, a5, by omega, hR6, hO6⟩
   | false =>
     have hbB := Zl w6 (.cells #[] 9) (.cells #[] 9)
     have hq6 : q < w6.heap.size := lt_of_block hR6.blk
     have CE2 := H_ (Z0a (.slice (some ⟨w6.heap.size, 0, none⟩) 0 0) (.slice (some ⟨w6.heap.size + 1, 0, none⟩) 0 0) 0 kd 2 (by omega) (by omega) (hR6.below hbB) (Z29 q _ _ _ (by omega) (by omega) (by simp; omega) (by simp)) (by omega) (by omega) (by omega))
     have hOB := H_ (hO6.trans (Only.of hbB))
     clear hbB
     go_wp2_with fail
     refine (CE2.out).mono ?_
     rintro e w7 ⟨s7, p7, rfl, a7, b7, hR7, hO7⟩
     go_wp2_with fail
     go_ret
     exact ⟨_, p7, rfl, a7, by omega, hR7, hOB.out.trans hO7⟩
 · have hk9 : (k == 0) = false := by simpa using hk
   have hbA := Zl w2 (.cells #[] 9) (.cells #[] 9)
   have CQ := H_ (K6 (n := 3) (hR2.below hbA) (by omega) (by omega))
   have hqA : q < w2.heap.size := lt_of_block hR2.blk
   have hOA := H_ (hO2.trans (Only.of hbA))
   have hzA : ((w2.alloc (.cells #[] 9)).alloc (.cells #[] 9)).heap.size = w2.heap.size + 1 + 1 := by simp
   have hbA := H_ hbA
   go_wp2_with fail
   refine (CQ.out).mono ?_
   rintro e w4 ⟨⟨j, rfl, hj0, hj1⟩, hR4, hO4⟩
   have hs4 := hO4.size
   rw [hzA] at hs4
   have hjw : IntKind.i64.wrap (2 + j) = 2 + j := by rw [IntKind.wrap_i64]; omega
   have CE := H_ (Z0a (.slice (some ⟨w2.heap.size, 0, none⟩) 0 0) (.slice (some ⟨w2.heap.size + 1, 0, none⟩) 0 0) 0 ⟨#[105]⟩ (2 + j) (by omega) (by omega) hR4 (Z29 q w4 _ _ (by omega) (by omega) (by omega) (by omega)) (by omega) (by show 1 ≤ 700; omega) (by omega))
   have hO4 := hOA.out.trans hO4
   clear CQ
   go_wp2_with fail
   refine (CE.out).mono ?_
   rintro e w5 ⟨s5, p5, rfl, a5, b5, hR5, hO5⟩
   have CV : Hid (Calls prog 56 #[.string s5] w5 fun e w' => (∃ z, e = .returned (.bool z)) ∧ Below w5.heap.size w5 w') := H_ ((Kf s5 (by omega) w5).mono fun e w' ⟨h1, h2⟩ => ⟨⟨_, h1⟩, h2⟩)
   have hO5 := hO4.trans hO5
   clear CE
   go_wp2_with fail
   refine (CV.out).mono ?_
   rintro e w6 ⟨⟨z, rfl⟩, hb6⟩
   have hR6 := hR5.below hb6
   have hO6 := hO5.next hb6
   clear CV hb6
   cases z with
   | true =>
     go_wp2_with fail
     go_ret
     exact ⟨_, p5, rfl, a5, by omega, hR6, hO6⟩
   | false =>
     have hbB := Zl w6 (.cells #[] 9) (.cells #[] 9)
     have hq6 : q < w6.heap.size := lt_of_block hR6.blk
     have CE2 := H_ (Z0a (.slice (some ⟨w6.heap.size, 0, none⟩) 0 0) (.slice (some ⟨w6.heap.size + 1, 0, none⟩) 0 0) 0 ⟨#[105]⟩ 2 (by omega) (by omega) (hR6.below hbB) (Z29 q _ _ _ (by omega) (by omega) (by simp; omega) (by simp)) (by omega) (by show 1 ≤ 700; omega) (by omega))
     have hOB := H_ (hO6.trans (Only.of hbB))
     clear hbB
     go_wp2_with fail
     refine (CE2.out).mono ?_
     rintro e w7 ⟨s7, p7, rfl, a7, b7, hR7, hO7⟩
     go_wp2_with fail
     go_ret
     exact ⟨_, p7, rfl, a7, by omega, hR7, hOB.out.trans hO7⟩
def Z5b : List (List UInt8) := [[97], [98], [120, 48]]
def Z5a : List (List UInt8) := [[105], [40, 42, 32, 105, 32, 105, 41], [105]]
theorem l91Open_d {q : Nat} {a : Option Addr} {L c p : Nat} {zs : List Int} {w : World} (h : Rd w q a L c p zs) (hp : p ≤ 300000) :
 Calls prog 46 #[.pointer (some ⟨q, 0, none⟩)] w fun e w' => Ql q a L c p zs 1000000 3100 w e w' := by
 have hq0 : q < w.heap.size := lt_of_block h.blk
 obtain ⟨wA, hwA⟩ : ∃ wA, wA = (((w.alloc (.cells #[.string ⟨#[97]⟩, .string ⟨#[98]⟩, .string ⟨#[120, 48]⟩] 9)).alloc (.cells #[.string ⟨#[105]⟩, .string ⟨#[40, 42, 32, 105, 32, 105, 41]⟩, .string ⟨#[105]⟩] 9)).alloc (.cells #[.slice (some ⟨w.heap.size, 0, none⟩) 3 3, .slice (some ⟨w.heap.size + 1, 0, none⟩) 3 3] 78)) := ⟨_, rfl⟩
 have hzA : wA.heap.size = w.heap.size + 1 + 1 + 1 := by rw [hwA]; simp
 have hbA : Below w.heap.size w wA := by rw [hwA]; exact (Zl w _ _).alloc (by simp; omega) _
 have y0 : wA.heap[w.heap.size]? = some (.cells (Z5b.map Y3).toArray 9 (0, 0)) := by rw [hwA]; exact Z8 (Z8 (heap_alloc_new _ _))
 have y1 : wA.heap[w.heap.size + 1]? = some (.cells (Z5a.map Y3).toArray 9 (0, 0)) := by rw [hwA]; exact Z8 (Za _ _ _)
 have y2 : wA.heap[w.heap.size + 1 + 1]? = some (.cells #[.slice (some ⟨w.heap.size, 0, none⟩) 3 3, .slice (some ⟨w.heap.size + 1, 0, none⟩) 3 3] 78 (0, 0)) := by rw [hwA]; exact new3 _ _ _ _
 have hR2 := h.below hbA
 have hSc0 : Sc wA q (.slice (some ⟨w.heap.size, 0, none⟩) 3 3) (.slice (some ⟨w.heap.size + 1, 0, none⟩) 3 3) 3 :=
  ⟨Z5b, Z5a, ⟨Z55 (l := Z5b) y0 (by decide), fun k hk => by simp [Value.ownBlock] at hk; subst hk; exact ⟨by omega, by omega⟩⟩, ⟨Z55 (l := Z5a) y1 (by decide), fun k hk => by simp [Value.ownBlock] at hk; subst hk; exact ⟨by omega, by omega⟩⟩, rfl, by decide, by decide⟩
 have HOA : Hid (Only q w wA) := H_ (Only.of hbA)
 have CP := H_ (fun W (hW : Rd W q a L c p zs) => K6 (n := 2) hW (by omega) (by omega))
 have CE := H_ (fun W z v1 v2 p (hz0 : 0 ≤ z) (hz1 : z ≤ 4) (h1 : Rd W q a L c p zs) (h2 : Sc W q v1 v2 3) hp => Z0a v1 v2 3 ⟨#[105]⟩ z hz0 hz1 h1 h2 (by omega) (by show 1 ≤ 700; omega) hp)
 have hB0 : w.heap.size + 1 + 1 ≠ q := by omega
 have hB1 : w.heap.size + 1 + 1 < wA.heap.size := by omega
 clear h y0 y1 hbA
 go_enter func46, ntmps46
 go_wp2_with fail
 rw [← hwA]
 clear hwA
 have K : Hid (∀ W, Only q wA W → (fun W => Only q wA W ∧ W.cell? ⟨w.heap.size + 1 + 1, 0, none⟩ = some (.slice (some ⟨w.heap.size, 0, none⟩) 3 3) ∧ W.cell? ⟨w.heap.size + 1 + 1, 1, none⟩ = some (.slice (some ⟨w.heap.size + 1, 0, none⟩) 3 3)) W) := H_ (fun W hW => ⟨hW, (hW.cell (p := ⟨w.heap.size + 1 + 1, 0, none⟩) hB1 hB0).trans (Z4 (j := 0) y2), (hW.cell (p := ⟨w.heap.size + 1 + 1, 1, none⟩) hB1 hB0).trans (Z4 (j := 1) y2)⟩)
 have S0 := H_ (K.out _ (Only.refl q wA).drew)
 have hR3 := hR2.drewD
 have hQ3 : Only q wA wA.drew := (Only.refl q wA).drew
 first | (go_region_held3 (fun W => Only q wA W ∧ W.cell? ⟨w.heap.size + 1 + 1, 0, none⟩ = some (.slice (some ⟨w.heap.size, 0, none⟩) 3 3) ∧ W.cell? ⟨w.heap.size + 1 + 1, 1, none⟩ = some (.slice (some ⟨w.heap.size + 1, 0, none⟩) 3 3)) (first | exact S0.out | assumption | fail) (first | (go_at_call 41; (with_reducible refine (CP.out _ hR3).mono ?_); rintro e w4 ⟨⟨k, rfl, hk0, hk1⟩, hR4, hO4⟩; have hQ4 := hQ3.trans hO4; have hK4 := K.out _ hQ4; have hSc4 := hSc0.only hQ4; have hjw : IntKind.i64.wrap (2 + k) = 2 + k := (by rw [IntKind.wrap_i64]; omega)) | (go_at_call 48; ((refine (CE.out _ _ _ _ _ ?_ ?_ hR4 hSc4 ?_).mono ?_); (· first | omega | (rw [hjw]; omega)); (· first | omega | (rw [hjw]; omega)); (· omega)); rintro e w5 ⟨s5, p5, rfl, a5, b5, hR5, hO5⟩; have hQ5 := hQ4.trans hO5; have hK5 := K.out _ hQ5))) | fail
 all_goals
  go_wp2_with fail
  go_ret
  exact ⟨_, p5, rfl, a5, by omega, hR5, HOA.out.trans hQ5⟩
theorem formAtoms_d (s : ByteArray) (hs : s.size ≤ 1048576) (W : World) :
 Calls prog 73 #[.string s] W fun e w' => (∃ v l z, e = .returned (.tuple #[v, .bool z]) ∧ Zw w' v l ∧ (∀ k, v.ownBlock = some k → W.heap.size ≤ k ∧ k < w'.heap.size) ∧ (z = true → l ≠ []) ∧ (∀ x ∈ l, x.length ≤ 12000) ∧ l.length ≤ 12000) ∧ Below W.heap.size W w' :=
 (Z6c s hs W).mono fun e w' ⟨⟨v, h1, h2⟩, hb⟩ => ⟨by
   cases hp : Zt s.data.toList with
   | none =>
     rw [show Z08 s.data.toList = none by simp [Z08, hp]] at h1 h2
     exact ⟨v, [], _, h1, Z0t (l := []) h2 (by simp), fun k hk => h2.lt k hk, fun h => by simp at h, fun x hx => by (cases hx), by simp⟩
   | some t =>
     rw [show Z08 s.data.toList = some (Xu t []) by simp [Z08, hp]] at h1 h2
     have h3 := atoms_range hp
     have g := Yk hp
     have h4 := (Q9 t g.1).1
     have hlen : (Xu t []).length ≤ 12000 := by omega
     refine ⟨v, Xu t [], _, h1, Z0t (l := Xu t []) h2 (by omega), fun k hk => h2.lt k hk, fun _ e => by rw [e] at h3; simp at h3, fun x hx => ?_, hlen⟩
     have h5 := (mem_atoms x t []).1 hx
     rcases h5 with h5 | h5
     · cases h5
     · have := (occ_wf x t g.1 h5).2
       omega, hb⟩
theorem formReplace_d (s x y : ByteArray) (hs : s.size ≤ 1048576) (hx : x.size ≤ 1048576) (hy : y.size ≤ 1048576) (W : World) :
 Calls prog 42 #[.string s, .string x, .string y] W fun e w' => (∃ r z, e = .returned (.tuple #[.string r, .bool z]) ∧ r.size ≤ 12000) ∧ Below W.heap.size W w' :=
 (Z4f s x y hs hx hy W).mono fun e w' ⟨h1, hb⟩ => ⟨by
   cases hr : Vd s.data.toList x.data.toList y.data.toList with
   | none => rw [hr] at h1; exact ⟨_, _, h1, Nat.zero_le _⟩
   | some T =>
     rw [hr] at h1
     obtain ⟨t, b, -, -, h3, -⟩ := replOf_got hr
     have g := Yk h3
     exact ⟨_, _, h1, by rw [Y0, Y4 _ g.1]; exact g.2.1⟩, hb⟩
def oddBy : List (List UInt8) := [[97], [120], [49], [112, 97, 105, 114], [99, 97, 108, 108], [102, 115, 116], [105], [43], [40, 102, 115, 116, 32, 49, 41], [98, 55]]
theorem Zw.rows {w : World} {v : Value} {l : List Nm} (h : Zw w v l) (hl : l ≠ []) : ∃ rr off c, v = .slice (some ⟨rr, off, none⟩) l.length c ∧ rr < w.heap.size ∧ ∀ i : Nat, i < l.length → w.cell? ⟨rr, off + i, none⟩ = some (.string (bs (l.getD i []))) := by
 obtain ⟨p, c, rfl, h1, h2⟩ := h
 obtain ⟨r, off, rfl, h3⟩ := h2 hl
 have hc : ∀ i : Nat, i < l.length → w.cell? ⟨r, off + i, none⟩ = some (.string (bs (l.getD i []))) := fun i hi => by
  rw [Zw.cell h3 hi, List.getD_eq_getElem?_getD, List.getElem?_eq_getElem hi]; rfl
 exact ⟨r, off, c, rfl, World.block_lt_of_cell? _ _ (hc 0 (List.length_pos_iff.2 hl)), hc⟩
theorem l91Odd_d {q : Nat} {a : Option Addr} {L c p : Nat} {zs : List Int} {w : World} (h : Rd w q a L c p zs) (hp : p ≤ 200000) :
 Calls prog 36 #[.pointer (some ⟨q, 0, none⟩)] w fun e w' => Ql q a L c p zs 1000010 8000 w e w' := by
 have CG := H_ (l91Good_d h (by omega))
 clear h
 go_enter func36, ntmps36
 go_wp2_with fail
 refine (CG.out).mono ?_
 rintro e w1 ⟨s1, p1, rfl, a1, b1, hR1, hO1⟩
 have CP := H_ (K6 (n := 4) hR1 (by omega) (by omega))
 clear CG
 go_wp2_with fail
 refine (CP.out).mono ?_
 rintro e w2 ⟨⟨k, rfl, hk0, hk1⟩, hR2, hO2⟩
 have hO2 := hO1.trans hO2
 clear CP
 by_cases hk : k = 0
 · subst hk
   have CA := H_ (formAtoms_d s1 (by omega) w2)
   go_wp2_with fail
   refine (CA.out).mono ?_
   rintro e w3 ⟨⟨v, l, z, rfl, hv, hown, hne, hlen, hll⟩, hb3⟩
   have hR3 := hR2.below hb3
   have hO3 := hO2.next hb3
   obtain ⟨pv, nv, cv, rfl⟩ := hv.shape
   cases z with
   | false =>
     go_wp2_with fail
     go_ret
     exact ⟨_, _, rfl, by omega, by omega, hR3, hO3⟩
   | true =>
     obtain ⟨rr, off, c9, he, hrr, hcell⟩ := Zw.rows hv (hne rfl)
     simp only [Value.slice.injEq] at he
     obtain ⟨rfl, rfl, rfl⟩ := he
     have hrq : rr ≠ q := by
      have h1 := (hown rr (by simp [Value.ownBlock])).1
      have h2 := lt_of_block hR2.blk
      omega
     have hMp : 0 < l.length := List.length_pos_iff.2 (hne rfl)
     obtain ⟨G, hG⟩ : ∃ G : Nat → ByteArray, ∀ i, G i = bs (l.getD i []) := ⟨fun i => bs (l.getD i []), fun _ => rfl⟩
     have hGs : ∀ i, (G i).size ≤ 12000 := fun i => by
      rw [hG, Y0]
      by_cases hi : i < l.length
      · rw [List.getD_eq_getElem?_getD, List.getElem?_eq_getElem hi]; exact hlen _ (List.getElem_mem hi)
      · rw [List.getD_eq_getElem?_getD, List.getElem?_eq_none (by omega)]; simp
     have hcell2 : ∀ i : Nat, i < l.length → w3.cell? ⟨rr, off + i, none⟩ = some (.string (G i)) := fun i hi => by rw [hG]; exact hcell i hi
     clear hcell hlen hown hne hv hG
     generalize l.length = M at *
     have K : Hid (∀ W, Only q w3 W → (fun W => Only q w3 W ∧ ∀ i : Nat, i < M → W.cell? ⟨rr, off + i, none⟩ = some (.string (G i))) W) := H_ (fun W hW => ⟨hW, fun i hi => (hW.cell (p := ⟨rr, off + i, none⟩) hrr hrq).trans (hcell2 i hi)⟩)
     have CP2 := H_ (fun (W : World) p (hp : p ≤ 900000) (hW : Rd W q a L c p zs) => K6 (n := (M : Int)) hW (by omega) (by omega))
     have CO := H_ (fun (W : World) p (hp : p ≤ 900000) (hW : Rd W q a L c p zs) => Kp (l := oddBy) (N := 7) hW (by omega) (by decide) (by decide) (by decide))
     have CO2 := H_ (fun (W : World) p b (hp : p ≤ 900000) (hW : Rd W q a L c p zs) (hY : W.heap[b]? = some (.cells (oddBy.map Y3).toArray 9 (0, 0))) (hb : b ≠ q) => of_d (v := .slice (some ⟨b, 0, none⟩) 10 10) (l := oddBy) (N := 7) hW (by omega) (Z55 (l := oddBy) hY (by decide)) (by decide) (by decide) (by decide) (fun k hk => by simp [Value.ownBlock] at hk; subst hk; exact hb))
     have hq3 : w3.heap.size ≠ q := by have := lt_of_block hR3.blk; omega
     have CR := H_ (fun x y (hx : x.size ≤ 1048576) (hy : y.size ≤ 1048576) W => formReplace_d s1 x y (by omega) hx hy W)
     have HG := H_ hGs
     have S0 := H_ (K.out _ (Only.refl q w3).drew)
     have hR4 := hR3.drewD
     have hQ4 : Only q w3 w3.drew := (Only.refl q w3).drew
     have hM1 : (0 : Int) < (M : Int) := by omega
     clear hGs hcell2 CA
     go_wp2_with fail
     first | (go_region_held3 (fun W => Only q w3 W ∧ ∀ i : Nat, i < M → W.cell? ⟨rr, off + i, none⟩ = some (.string (G i))) (first | exact S0.out | assumption | exact K.out _ (Only.alloc (And.left (by assumption)) _) | fail) (first | (go_at_call 41; (refine (CP2.out _ _ (by omega) hR4).mono ?_); rintro e w5 ⟨⟨k, rfl, hk0, hk1⟩, hR5, hO5⟩; obtain ⟨j, rfl⟩ : ∃ j : Nat, k = (j : Int) := ⟨k.toNat, by omega⟩; have hj : j < M := (by omega); have hjI : (j : Int) < (M : Int) := (by omega); have hQ5 := hQ4.trans hO5; have hK5 := K.out _ hQ5; have hGj := HG.out j) | (go_at_call 41; (refine (CP2.out _ _ (by omega) (hR4.below (Z5 _ _))).mono ?_); rintro e w5 ⟨⟨k, rfl, hk0, hk1⟩, hR5, hO5⟩; obtain ⟨j, rfl⟩ : ∃ j : Nat, k = (j : Int) := ⟨k.toNat, by omega⟩; have hj : j < M := (by omega); have hjI : (j : Int) < (M : Int) := (by omega); have hQ5 := (hQ4.alloc _).trans hO5; have hK5 := K.out _ hQ5; have hGj := HG.out j; have Y5 : w5.heap[w3.heap.size]? = some (.cells (oddBy.map Y3).toArray 9 (0, 0)) := hO5.blk (heap_alloc_new _ _) hq3) | (go_at_call 47; (refine (CO2.out _ _ _ (by omega) hR5 Y5 hq3).mono ?_); rintro e w6 ⟨s6, p6, rfl, a6, b6, hR6, hO6⟩; have hQ6 := hQ5.trans hO6; have hK6 := K.out _ hQ6) | (go_at_call 47; (refine (CO.out _ _ (by omega) hR5).mono ?_); rintro e w6 ⟨s6, p6, rfl, a6, b6, hR6, hO6⟩; have hQ6 := hQ5.trans hO6; have hK6 := K.out _ hQ6) | (go_at_call 42; (refine (CR.out _ _ (by omega) (by omega) _).mono ?_); rintro e w7 ⟨⟨s7, z7, rfl, a7⟩, hb7⟩; have hR7 := hR6.below hb7; have hQ7 := hQ6.next hb7; have hK7 := K.out _ hQ7))) | fail
     all_goals
      have HR7 := H_ hR7
      have HQ7 := H_ (hO3.trans hQ7)
      cases z7 with
      | true =>
        have CP8 := H_ (K6 (n := 8) hR7 (by omega) (by omega))
        go_wp2_with fail
        refine (CP8.out).mono ?_
        rintro e w8 ⟨⟨k8, rfl, hk80, hk81⟩, hR8, hO8⟩
        by_cases hk8 : k8 = 0
        · subst hk8
          have C9 := H_ (Kp (l := [[], [32], [41]]) (N := 1) hR8 (by omega) (by decide) (by decide) (by decide))
          go_wp2_with fail
          refine (C9.out).mono ?_
          rintro e w9 ⟨s9, p9, rfl, a9, b9, hR9, hO9⟩
          go_wp2_with fail
          go_ret
          exact ⟨_, p9, rfl, by simp [bsz]; omega, by omega, hR9, (HQ7.out.trans hO8).trans hO9⟩
        · have hk8p : 0 < k8 := by omega
          go_wp2_with fail
          go_ret
          exact ⟨_, _, rfl, by omega, by omega, hR8, HQ7.out.trans hO8⟩
      | false =>
        have C9 := H_ (Kp (l := [[], [32], [41]]) (N := 1) hR7 (by omega) (by decide) (by decide) (by decide))
        go_wp2_with fail
        refine (C9.out).mono ?_
        rintro e w9 ⟨s9, p9, rfl, a9, b9, hR9, hO9⟩
        go_wp2_with fail
        go_ret
        exact ⟨_, p9, rfl, by simp [bsz]; omega, by omega, hR9, HQ7.out.trans hO9⟩
 · have hkp : 0 < k := by omega
   go_wp2_with fail
   go_ret
   exact ⟨_, _, rfl, by omega, by omega, hR2, hO2⟩
def DEx (w : World) (e : Ending) (w' : World) : Prop := (∃ s : ByteArray, e = .returned (.string s) ∧ s.size ≤ 1000010) ∧ Below w.heap.size w w'
theorem dex_of {q : Nat} {a : Option Addr} {L c p : Nat} {zs : List Int} {N M : Nat} {w w1 w' : World} {e : Ending} (hb : Below w.heap.size w w1) (hq : w.heap.size ≤ q) (h : Ql q a L c p zs N M w1 e w') (hN : N ≤ 1000010) : DEx w e w' := by
 obtain ⟨s, p', h1, h2, h3, h4, h5⟩ := h
 exact ⟨⟨s, h1, by omega⟩, Only.fresh hb h5 hq hb.size⟩
theorem Z6i (a : Option Addr) (L c : Nat) (zs : List Int) (w : World) (hr : Z24 w a L c zs) : Calls prog 13 #[.slice a L c] w fun e w' => DEx w e w' := by
 have CO := H_ (l6Open_c a L c zs w hr)
 clear hr
 go_enter func13, ntmps13
 go_wp2_with fail
 refine (CO.out).mono ?_
 rintro e w1 ⟨rfl, ⟨L', c', hR1⟩, hb1⟩
 have HB1 := H_ hb1
 have C := H_ (l91Odd_d hR1 (by omega))
 clear hb1 hR1
 go_wp2_with fail
 refine (C.out).mono ?_
 rintro e w2 ⟨s, p', rfl, h2, h3, h4, h5⟩
 have HF := H_ (dex_of HB1.out (Nat.le_refl _) ⟨s, p', rfl, h2, h3, h4, h5⟩ (by decide))
 go_wp2_with fail
 go_ret
 exact HF.out
end Go.Proofs.YtjaaalojcdbcpaaGreatDoor
