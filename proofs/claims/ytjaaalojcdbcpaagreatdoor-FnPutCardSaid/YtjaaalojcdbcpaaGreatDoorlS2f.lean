/- The reference model counts free places. The reference model's free names. -/
import Derived.Test.YtjaaalojcdbcpaaGreatDoorlS2dM
import Derived.Test.YtjaaalojcdbcpaaGreatDoorlImpl2ma
import Derived.Deep.RegionHeldLaw
set_option maxHeartbeats 20000000
set_option linter.unusedVariables false
set_option linter.unusedSimpArgs false
namespace Go.Proofs.YtjaaalojcdbcpaaGreatDoor
open Go.RowKit Go.Proofs.Tryz
set_option maxRecDepth 8000
theorem freeP_len : ∀ (n : Nat) (t : Tr) (x : Ex), t.depth < n → t.wf → Zy t = some x → (Ze x).length ≤ t.size
 | 0, t, x, h, _, _ => by omega
 | n + 1, .atom a, x, _, _, h => by
   simp only [Zy, Q8] at h
   simp only [Tr.size]
   split at h
   · simp only [Option.some.injEq] at h; subst h; simp [Ze]
   · split at h
     · simp only [Option.some.injEq] at h; subst h; simp [Ze]
     · cases h
 | n + 1, .list [], x, _, hw, h => by simp [Tr.wf] at hw
 | n + 1, .list (h :: ps), x, hd, hw, e => by
   obtain ⟨a, V⟩ := Z07 e
   rw [Yp x V.nn]
   simp only [Tr.wf] at hw
   have hstep : ∀ j, j ≤ (Zb x).length → (Zv (Zo x) 0 ((Zb x).take j)).length ≤ Yd ((h :: ps).take (a + j)) := by
    intro j
    induction j with
    | zero => intro _; simp [Zv]
    | succ j ih =>
      intro hj
      have hj' : j < (Zb x).length := by omega
      have hb := Vh V hj'
      have h1 := ih (by omega)
      have h2 := V.kid j hj' hb
      have h3 := freeP_len n _ _ (by have := Xk hb; omega) (Ji hw.2 hb) h2
      have h4 := Z1i (Zo x j) (Ze ((Zb x)[j]))
      have h5 := Km (h :: ps) (a + j) hb
      rw [Xt _ _ _ hj', List.length_append, show a + (j + 1) = a + j + 1 by omega, h5]
      omega
   have h1 := hstep _ (Nat.le_refl _)
   rw [List.take_length] at h1
   have h2 := Qo (h :: ps) (a + (Zb x).length)
   simp only [Tr.size]
   omega
def cntE (l n : List UInt8) : Int := match Zp l with | none => -1 | some x => if Yg n = true then ((Ze x).count n : Nat) else -1
theorem cntE_none {l n : List UInt8} (h : Zp l = none) : cntE l n = -1 := by simp [cntE, h]
theorem cntE_no {l n : List UInt8} (h : Yg n = false) : cntE l n = -1 := by unfold cntE; cases Zp l <;> simp [h]
theorem Z5i {l n : List UInt8} {x : Ex} (h : Zp l = some x) (hn : Yg n = true) : cntE l n = ((Ze x).count n : Nat) := by simp [cntE, h, hn]
theorem Z4k {l : List UInt8} {t : Tr} (h : Xv l = some t) : ∃ x, Zp l = some x ∧ Zy t = some x := by
 obtain ⟨h1, h2, h3⟩ := Ve h
 rw [J8 h1, if_pos h3]
 unfold Jx at h2
 cases hx : Zy t with
 | none => rw [hx] at h2; cases h2
 | some x => exact ⟨x, rfl, rfl⟩
theorem Z4j {l : List UInt8} (h : Xv l = none) : Zp l = none := by
 have := Z3k l
 rw [h] at this
 cases hx : Zp l with
 | none => rfl
 | some x => rw [hx] at this; cases this
theorem free_atom {a : List UInt8} {x : Ex} (h : Zy (.atom a) = some x) (bnd l : List Nm) : V8 bnd l (Ze x) = if Yg a = true then (if a ∈ bnd ∨ a ∈ l then l else l ++ [a]) else l := by
 simp only [Zy, Q8] at h
 cases hm : Q3 a with
 | some n =>
   simp only [hm, Option.some.injEq] at h
   subst h
   rw [Vy hm]; rfl
 | none =>
   simp only [hm] at h
   split at h
   · rename_i hn
     simp only [Option.some.injEq] at h
     subst h
     rw [if_pos hn]
     exact addF_one bnd l a
   · cases h
def FrS (n : Nat) : Prop := ∀ (t : Tr) (x : Ex) (cs : List Value) (B : Nat) (l bnd : List Nm) (v vb : Value) (w : World), t.depth < n → t.wf → t.bytes ≤ 12000 → l.length + t.size ≤ 100000 → bnd.length + 2 * t.depth ≤ 100000 → Zy t = some x → FV nS w (fun k => k < B) t cs → B ≤ w.heap.size →
    w.ownsRow B 9 1 v l.length (l.map Y3) → Zw w vb bnd → (∀ k, vb.ownBlock = some k → v.ownBlock ≠ some k ∧ k < w.heap.size) →
    Calls prog 67 #[.agg cs.toArray, vb, v] w fun e w' => Z0q B w.heap.size v (V8 bnd l (Ze x)) w e w'
theorem strS_alloc {w : World} {vb : Value} {l : List Nm} (h : Zw w vb l) (hb : ∀ k, vb.ownBlock = some k → k < w.heap.size) (o : Obj) : Zw (w.alloc o) vb l := Zw.move h (fun k hk => heap_alloc_old _ _ (hb k hk))
theorem l2Free_atom (a : List UInt8) (x : Ex) (B : Nat) (l bnd : List Nm) (v vb : Value) (w : World) (ha0 : a ≠ []) (hal : a.length ≤ 1048576) (hl : l.length ≤ 100000) (hbn : bnd.length ≤ 100000) (hx : Zy (.atom a) = some x) (hB : B ≤ w.heap.size)
 (ho : w.ownsRow B 9 1 v l.length (l.map Y3)) (hvb : Zw w vb bnd) (hne : ∀ k, vb.ownBlock = some k → v.ownBlock ≠ some k ∧ k < w.heap.size) :
 Calls prog 67 #[.agg #[.string (bs a), .slice none 0 0], vb, v] w fun e w' => Z0q B w.heap.size v (V8 bnd l (Ze x)) w e w' := by
 have hf := free_atom hx bnd l
 have hne0 := V7 ha0
 have CN : Hid (∀ W, Calls prog 53 #[.string (bs a)] W fun e w' => e = .returned (.bool (Yg a)) ∧ w' = W) := H_ (fun W => Z0b a hal W)
 have HB := H_ (fun (o : Obj) => Z7u vb bnd a (w.alloc o) (strS_alloc hvb (fun k hk => (hne k hk).2) o))
 have HL := H_ (fun (o : Obj) => Z7u v l a (w.alloc o) (Yh (ho.alloc o) (by omega)))
 obtain ⟨pb, cb, rfl, -, -⟩ := id hvb
 obtain ⟨p, c, rfl⟩ := Zn ho
 obtain ⟨i0, hi0, hz0, hz1, hz2⟩ := info_parts Tryz.infoStr
 clear hvb hne
 cases hn : Yg a with
 | false =>
   have HR := H_ (show V8 bnd l (Ze x) = l by rw [hf, hn]; rfl)
   unfold Hid at CN
   rw [hn] at CN
   have CN := H_ CN
   clear hf hn HB HL
   go_enter func67, ntmps67
   go_wp2_with (go_at_call 53; go_must (refine (CN.out _).mono ?_; rintro e w1 ⟨rfl, rfl⟩))
   go_ret
   exact ⟨_, rfl, by rw [HR.out]; exact ho.alloc _, Kc _ _, .inl rfl⟩
 | true =>
   unfold Hid at CN
   rw [hn] at CN
   have CN := H_ CN
   by_cases hb : a ∈ bnd
   · have HR := H_ (show V8 bnd l (Ze x) = l by rw [hf, hn]; simp [hb])
     have hd : decide (a ∈ bnd) = true := by simpa using hb
     unfold Hid at HB
     rw [hd] at HB
     have HB := H_ HB
     clear hf hn hb hd HL
     go_enter func67, ntmps67
     go_wp2_with (first | (go_at_call 53; go_must (refine (CN.out _).mono ?_; rintro e w1 ⟨rfl, rfl⟩)) | (go_at_call 99; go_must (refine (HB.out _).mono ?_; rintro e w1 ⟨rfl, rfl⟩)))
     go_ret
     exact ⟨_, rfl, by rw [HR.out]; exact ho.alloc _, Kc _ _, .inl rfl⟩
   · have hd : decide (a ∈ bnd) = false := by simpa using hb
     unfold Hid at HB
     rw [hd] at HB
     have HB := H_ HB
     by_cases hm : a ∈ l
     · have HR := H_ (show V8 bnd l (Ze x) = l by rw [hf, hn]; simp [hm])
       have hd2 : decide (a ∈ l) = true := by simpa using hm
       unfold Hid at HL
       rw [hd2] at HL
       have HL := H_ HL
       clear hf hn hb hd hm hd2
       go_enter func67, ntmps67
       go_wp2_with (first | (go_at_call 53; go_must (refine (CN.out _).mono ?_; rintro e w1 ⟨rfl, rfl⟩)) | (go_at_call_of 99 cb; refine (HB.out _).mono ?_; rintro e w1 ⟨rfl, rfl⟩) | (go_at_call_of 99 c; refine (HL.out _).mono ?_; rintro e w1 ⟨rfl, rfl⟩))
       go_ret
       exact ⟨_, rfl, by rw [HR.out]; exact ho.alloc _, Kc _ _, .inl rfl⟩
     · have HR := H_ (show V8 bnd l (Ze x) = l ++ [a] by rw [hf, hn]; simp [hm, hb])
       have hd2 : decide (a ∈ l) = false := by simpa using hm
       unfold Hid at HL
       rw [hd2] at HL
       have HL := H_ HL
       clear hf hn hb hd hm hd2
       go_enter func67, ntmps67
       go_wp2_with (first | (go_at_call 53; go_must (refine (CN.out _).mono ?_; rintro e w1 ⟨rfl, rfl⟩)) | (go_at_call_of 99 cb; refine (HB.out _).mono ?_; rintro e w1 ⟨rfl, rfl⟩) | (go_at_call_of 99 c; refine (HL.out _).mono ?_; rintro e w1 ⟨rfl, rfl⟩) | (at_builtin; go_must (refine Zm _ rfl _ _ 28 rfl B 9 i0 (.string ⟨#[]⟩) 1 16 underlying28 hi0 hz0 hz1 hz2 rfl (by decide) _ _ _ rfl ((ho.alloc _).alloc _) ⟨w.heap.size + 1, 0, none⟩ [.string (bs a)] rfl rfl (Xr (Za _ _ _)) (by intro u hu; simp at hu; subst hu; rfl) (by unfold maxLen; omega) (by omega) (by simp; omega) ?_; intro g' c' w5 hown' hgrow hgg)))
       go_ret
       refine ⟨_, rfl, by rw [HR.out]; simpa [Y3] using hown', Z1c (Z1c (Kc _ _) (Kc _ _)) hgrow, ?_⟩
       rcases hgg with hgg | hgg
       · exact .inl hgg.symm
       · exact .inr (fun q hq => by simp [Value.ownBlock] at hq; subst hq; rw [hgg]; simp; omega)
theorem Z1g {w w' : World} {v : Value} {l : List Nm} (h : Zw w v l) (hb : Below w.heap.size w w') : Zw w' v l := by
 obtain ⟨p, c, rfl, h1, h2⟩ := h
 refine ⟨p, c, rfl, h1, fun hne => ?_⟩
 obtain ⟨r, off, rfl, h3⟩ := h2 hne
 refine ⟨r, off, rfl, h3.move (hb.block r ?_)⟩
 cases l with
 | nil => exact absurd rfl hne
 | cons x l =>
   have hc := h3 0 (Y3 x) (by simp)
   by_cases hr : r < w.heap.size
   · exact hr
   · simp [World.cell?, Array.getElem?_eq_none (Nat.le_of_not_lt hr)] at hc
theorem strS_far2 {w W w' : World} {v : Value} {l : List Nm} {row : Option Nat} (h : Zw w v l) (hW : ∀ k, k < w.heap.size → W.heap[k]? = w.heap[k]?) (hs : w.heap.size ≤ W.heap.size) (hg : W.grownBy w' row) (hne : ∀ k, k < w.heap.size → v.ownBlock = some k → row ≠ some k) : Zw w' v l := by
 obtain ⟨p, c, rfl, h1, h2⟩ := h
 refine ⟨p, c, rfl, h1, fun hne2 => ?_⟩
 obtain ⟨r, off, rfl, h3⟩ := h2 hne2
 have hr : r < w.heap.size := by
  cases l with
  | nil => exact absurd rfl hne2
  | cons x l =>
    have hc := h3 0 (Y3 x) (by simp)
    by_cases hr : r < w.heap.size
    · exact hr
    · simp [World.cell?, Array.getElem?_eq_none (Nat.le_of_not_lt hr)] at hc
 exact ⟨r, off, rfl, h3.move ((hg.block r (by omega) (fun e => hne r hr rfl e.symm)).trans (hW r hr))⟩
theorem gB_below2 {a b c : World} {row : Option Nat} (h : Below a.heap.size a b) (hg : b.grownBy c row) : a.grownBy c row :=
 ⟨hg.os.trans h.os, hg.tape.trans h.tape, hg.output.trans h.output, Nat.le_trans h.size hg.size, fun i hi hne => (hg.block i (Nat.lt_of_lt_of_le hi h.size) hne).trans (h.block i hi)⟩
theorem Z6q {h : Tr} {ps : List Tr} {x : Ex} {a n : Nat} (V : KidView h ps x a) {w : World} {ok : Nat → Prop} {xs : List Value} {r off k j : Nat} (hk : k = a + j) (hj : j < (Zb x).length) (hd : (Tr.list (h :: ps)).depth < n + 1) (hwf : wfs (h :: ps)) (hby : Zi (h :: ps) ≤ 12000)
 (h5 : Yv w r off xs) (h6 : FVs nS w ok (h :: ps) xs) : ∃ tk p pn pc, FV nS w ok tk (nS tk (.slice p pn pc)) ∧ w.cell? ⟨r, off + k * 2, none⟩ = some (.string (bs (Z1 tk))) ∧ w.cell? ⟨r, off + k * 2 + 1, none⟩ = some (.slice p pn pc) ∧ tk.depth < n ∧ tk.bytes ≤ 12000 ∧ tk.wf ∧ Zy tk = some ((Zb x)[j]) ∧ ∃ hb : a + j < (h :: ps).length, tk = (h :: ps)[a + j] := by
 subst hk
 have hbd := Vh V hj
 obtain ⟨cs, g1, g2⟩ := FVs.get Jn h6 h5 (a + j) hbd
 obtain ⟨p, pn, pc, rfl⟩ := g1.node
 exact ⟨_, p, pn, pc, g1, g2 0 _ rfl, g2 1 _ rfl, by have := Xk hbd; omega, by have := J5 hbd; simp only [Tr.bytes] at this; omega, Ji hwf hbd, V.kid j hj hbd, hbd, rfl⟩
theorem freeKs_len {h : Tr} {ps : List Tr} {x : Ex} {a : Nat} (V : KidView h ps x a) (hw : wfs (h :: ps)) : ∀ j, j ≤ (Zb x).length → (Zv (Zo x) 0 ((Zb x).take j)).length ≤ Yd ((h :: ps).take (a + j)) := by
 intro j
 induction j with
 | zero => intro _; simp [Zv]
 | succ j ih =>
   intro hj
   have hj' : j < (Zb x).length := by omega
   have hb := Vh V hj'
   have h1 := ih (by omega)
   have h3 := freeP_len _ _ _ (Nat.lt_succ_self _) (Ji hw hb) (V.kid j hj' hb)
   have h4 := Z1i (Zo x j) (Ze ((Zb x)[j]))
   have h5 := Km (h :: ps) (a + j) hb
   rw [Xt _ _ _ hj', List.length_append, show a + (j + 1) = a + j + 1 by omega, h5]
   omega
theorem bindE_len (x : Ex) (j : Nat) : (Zo x j).length ≤ 2 := by
 cases x <;> simp only [Zo] <;> first | (split <;> simp; done) | simp
def Z13 (x : Ex) (bnd l : List Nm) (j : Nat) : List Nm := V8 bnd l (Zv (Zo x) 0 ((Zb x).take j))
theorem accF_zero (x : Ex) (bnd l : List Nm) : Z13 x bnd l 0 = l := by simp [Z13, Zv, addF_nil]
theorem accF_succ (x : Ex) (bnd l : List Nm) (j : Nat) (h : j < (Zb x).length) : Z13 x bnd l (j + 1) = V8 (bnd ++ Zo x j) (Z13 x bnd l j) (Ze ((Zb x)[j])) := by
 rw [Z13, Xt _ _ _ h, addF_append, ← addF_rm]; rfl
theorem Q5 {W : World} {b base : Nat} (h : W.heap[b]? = some (.cells #[] 9 (0, 0))) (hb : base ≤ b) : W.ownsRow base 9 1 (.slice (some ⟨b, 0, none⟩) 0 0) ([] : List Nm).length (([] : List Nm).map Y3) := ⟨rfl, .inr ⟨b, 0, _, rfl, hb, h, Nat.le_refl _, Nat.zero_le _, rfl, rfl⟩⟩
theorem l2Free_list (n : Nat) (ih : FrS n) (h : Tr) (ps : List Tr) (x : Ex) (r off cap L : Nat) (xs : List Value) (B : Nat) (l bnd : List Nm) (v vb : Value) (w : World) (hd : (Tr.list (h :: ps)).depth < n + 1) (hwf : wfs (h :: ps)) (hby : Zi (h :: ps) ≤ 12000) (hsz : l.length + Yd (h :: ps) ≤ 100000) (hbn : bnd.length + 2 * (Tr.list (h :: ps)).depth ≤ 100000) (hx : Zy (.list (h :: ps)) = some x)
 (h2 : r < B) (h4 : cap ≤ maxLen) (hL : L = (h :: ps).length) (h3 : L ≤ cap) (h5 : Yv w r off xs) (h6 : FVs nS w (fun k => k < B) (h :: ps) xs) (hB : B ≤ w.heap.size)
 (ho : w.ownsRow B 9 1 v l.length (l.map Y3)) (hvb : Zw w vb bnd) (hne : ∀ k, vb.ownBlock = some k → v.ownBlock ≠ some k ∧ k < w.heap.size) :
 Calls prog 67 #[.agg #[.string (bs []), .slice (some ⟨r, off, none⟩) L cap], vb, v] w fun e w' => Z0q B w.heap.size v (V8 bnd l (Ze x)) w e w' := by
 obtain ⟨a, V⟩ := Z07 hx
 have hemp := Jl
 have hrlt : r < w.heap.size := by omega
 have e0 : w.cell? ⟨r, off, none⟩ = some (.string (bs (Z1 h))) := by
  obtain ⟨p, m, c, _, q, _⟩ := Kb h6 h5 0 (by simp)
  simpa using q
 obtain ⟨K, hK⟩ : ∃ K, K = (Zb x).length := ⟨_, rfl⟩
 have hLm : L ≤ 9223372036854775807 := by have := Yl h4; omega
 have haK : a + K = L := by rw [hK, hL, V.len]; rfl
 have hKlt : K < L := by have := V.pos; omega
 have CK : Hid (∀ W, Calls prog 98 #[.string (bs (Z1 h))] W fun e w' => e = .returned (.tuple #[.int .i64 (a : Int), .int .i64 (L : Int)]) ∧ w' = W) := H_ (fun W => Jw _ _ _ (by rw [V.at_, hL]; rfl) W)
 have HR := H_ (show V8 bnd l (Ze x) = Z13 x bnd l K by rw [Z13, hK, List.take_length, Yp x V.nn])
 have hbd : bnd.length ≤ 100000 := by omega
 have HKe := H_ hK
 have HaK := H_ haK
 obtain ⟨pb, cb, hvbe, -, -⟩ := id hvb
 subst hvbe
 obtain ⟨p0, c0, rfl⟩ := Zn ho
 obtain ⟨i0, hi0, hz0, hz1, hz2⟩ := info_parts Tryz.infoStr
 have HRd : Hid (∀ (wr : World) (v1 : Value) (k j : Nat), k = a + j → j < K → w.grownBy wr (Value.slice p0 l.length c0).ownBlock → wr.ownsRow B 9 1 v1 (Z13 x bnd l j).length ((Z13 x bnd l j).map Y3) →
  wr.heap[w.heap.size]? = some (.cells #[.string (bs []), .slice (some ⟨r, off, none⟩) L cap] 47 (0, 0)) → v1.ownBlock ≠ some w.heap.size →
  ∃ at0 p pn pc, Zw wr (.slice pb bnd.length cb) bnd ∧ (wr.cell? ⟨w.heap.size, 0, none⟩ = some (.string (bs [])) ∧ wr.cell? ⟨w.heap.size, 1, none⟩ = some (.slice (some ⟨r, off, none⟩) L cap) ∧ wr.cell? ⟨r, off + k * 2, none⟩ = some (.string at0) ∧ wr.cell? ⟨r, off + k * 2 + 1, none⟩ = some (.slice p pn pc)) ∧
    (∀ W, Below wr.heap.size wr W → Calls prog 100 #[.agg #[.string (bs []), .slice (some ⟨r, off, none⟩) L cap], .int .i64 k] W fun e w' => (∃ v, e = .returned v ∧ Zw w' v (Zo x j) ∧ ∀ q, v.ownBlock = some q → W.heap.size < q) ∧ Below W.heap.size W w') ∧
    (∀ W v61, Below wr.heap.size wr W → W.ownsRow wr.heap.size 9 1 v61 (bnd ++ Zo x j).length ((bnd ++ Zo x j).map Y3) → Calls prog 67 #[.agg #[.string at0, .slice p pn pc], v61, v1] W fun e w' => Z0q B W.heap.size v1 (Z13 x bnd l (j + 1)) W e w')) := H_ (by
  intro wr v1 k j hk hj hg ho1 hb0 hv1
  rw [hK] at hj
  have hown0 : ∀ q, (Value.slice p0 l.length c0).ownBlock = some q → B ≤ q := fun q hq => (Yb ho hq).1
  have hmv : ∀ q, q < B → wr.heap[q]? = w.heap[q]? := fun q hq => hg.block q (by omega) (fun e => by have := hown0 q e.symm; omega)
  have hwz : w.heap.size < wr.heap.size := lt_of_block hb0
  obtain ⟨tk, p, pn, pc, q1, q2, q3, q4, q5, q6, q7, hbk, q8⟩ := Z6q V hk hj hd hwf hby h5 h6
  refine ⟨bs (Z1 tk), p, pn, pc, Zw.move hvb (fun q hq => hg.block q (hne q hq).2 (fun e => (hne q hq).1 e.symm)), ⟨Z4 hb0, Z4 hb0, ?_, ?_⟩, ?_, ?_⟩
  · rw [World.cell?_of_block (w := w) (w' := wr) (a := ⟨r, off + k * 2, none⟩) (hmv r h2)]; exact q2
  · rw [World.cell?_of_block (w := w) (w' := wr) (a := ⟨r, off + k * 2 + 1, none⟩) (hmv r h2)]; exact q3
  · intro W hW
    subst hk
    have hv : FV nS W (fun k => k < B) (.list (h :: ps)) [.string (bs []), .slice (some ⟨r, off, none⟩) L cap] := by
     simp only [FV, nS, Z1]
     exact ⟨r, off, cap, xs, by rw [hL], h2, by rw [← hL]; exact h3, h4, h5.move ((hW.block r (by omega)).trans (hmv r h2)), FVs.move (fun _ h => h) (fun q hq => (hW.block q (by omega)).trans (hmv q hq)) _ _ h6⟩
    exact (l2Binds_c h ps x a j V hj _ _ W hv (fun q hq => by have := hW.size; omega)).mono fun e w' ⟨⟨v, h1, h2, h3⟩, h4⟩ => ⟨⟨v, h1, h2, h3⟩, h4⟩
  · intro W v61 hW ho61
    have hWs := hW.size
    have hb2 := bindE_len x j
    have hsk : (Z13 x bnd l j).length + tk.size ≤ 100000 := by
     have e1 := (addF_len bnd l (Zv (Zo x) 0 ((Zb x).take j))).2
     have e2 := freeKs_len V hwf j (by omega)
     have e3 := Km (h :: ps) (a + j) hbk
     have e4 := Qo (h :: ps) (a + j + 1)
     have e5 : tk.size = ((h :: ps)[a + j]).size := by rw [q8]
     unfold Z13
     omega
    have hC := ih tk _ (nS tk (.slice p pn pc)) B (Z13 x bnd l j) (bnd ++ Zo x j) v1 v61 W q4 q6 q5 hsk (by have hdl := Xk hbk; rw [← q8] at hdl; simp only [List.length_append]; omega) q7 (FV.move (fun _ h => h) (fun q hq => (hW.block q (by omega)).trans (hmv q hq)) _ _ q1) (by omega) (Zx ho1 hW) (Yh ho61 (by simp only [List.length_append]; omega))
     (fun q hq => ⟨fun e => by have e1 := (Yb ho61 hq).1; have e2 := (Yb ho1 e).2; omega, (Yb ho61 hq).2⟩)
    rw [← accF_succ x bnd l j hj] at hC
    exact hC)
 have haL : a ≤ L := by omega
 clear V hK ih hwf hx haK hL h6 h5 hd hby hvb hne hsz hbn
 go_enter func67, ntmps67
 go_wp2_with (go_at_call 98; go_must (refine (CK.out _).mono ?_; rintro e w1 ⟨rfl, rfl⟩))
 go_loopg [2, 9] K (fun q v1 i wr => ∃ k j : Nat, q + j = K ∧ Hid (k = a + j) ∧ j ≤ K ∧ i = .int .i64 k ∧ wr.heap[w.heap.size]? = some (.cells #[.string (bs []), .slice (some ⟨r, off, none⟩) L cap] 47 (0, 0)) ∧
  Hid (wr.ownsRow B 9 1 v1 (Z13 x bnd l j).length ((Z13 x bnd l j).map Y3)) ∧ Hid (w.grownBy wr (Value.slice p0 l.length c0).ownBlock) ∧ Hid (v1.ownBlock = (Value.slice p0 l.length c0).ownBlock ∨ ∀ q, v1.ownBlock = some q → w.heap.size + 1 ≤ q))
 case atStart => exact ⟨a, 0, by omega, H_ rfl, Nat.zero_le _, rfl, heap_alloc_new _ _, H_ (by rw [accF_zero]; exact ho.alloc _), H_ (Kc _ _), H_ (.inl rfl)⟩
 case round =>
  obtain ⟨k, j, hq, hkj, hjK, rfl, hb0, ho1, hg, hvv⟩ := hrel
  obtain ⟨p1, c1, rfl⟩ := Zn ho1.out
  have x1 := Z4 (j := 1) hb0
  have hN := lt_of_block hb0
  have hv1 : Hid ((Value.slice p1 (Z13 x bnd l j).length c1).ownBlock ≠ some w.heap.size) := H_ (fun e => by
   rcases hvv.out with h | h
   · have := Yb ho (h.symm.trans e); omega
   · have := h _ e; omega)
  by_cases hlt : k < L
  · have hjlt : j < K := by have := hkj.out; have := HaK.out; omega
    obtain ⟨at0, p, pn, pc, hvb1, hS, hCB, hCR⟩ := HRd.out wr _ k j hkj.out hjlt hg.out ho1.out hb0 hv1.out
    have KS : Hid (∀ W, Below wr.heap.size wr W → (fun W => (W.cell? ⟨w.heap.size, 0, none⟩ = some (.string (bs [])) ∧ W.cell? ⟨w.heap.size, 1, none⟩ = some (.slice (some ⟨r, off, none⟩) L cap) ∧ W.cell? ⟨r, off + k * 2, none⟩ = some (.string at0) ∧ W.cell? ⟨r, off + k * 2 + 1, none⟩ = some (.slice p pn pc))) W) := H_ (fun W hW => ⟨(hW.cell hN).trans hS.1, (hW.cell hN).trans hS.2.1, (hW.cell (p := ⟨r, off + k * 2, none⟩) (by show r < _; omega)).trans hS.2.2.1, (hW.cell (p := ⟨r, off + k * 2 + 1, none⟩) (by show r < _; omega)).trans hS.2.2.2⟩)
    have KS7 : Hid (∀ W W', Below wr.heap.size wr W → W.grownBy W' (Value.slice p1 (Z13 x bnd l j).length c1).ownBlock → (fun W => (W.cell? ⟨w.heap.size, 0, none⟩ = some (.string (bs [])) ∧ W.cell? ⟨w.heap.size, 1, none⟩ = some (.slice (some ⟨r, off, none⟩) L cap) ∧ W.cell? ⟨r, off + k * 2, none⟩ = some (.string at0) ∧ W.cell? ⟨r, off + k * 2 + 1, none⟩ = some (.slice p pn pc))) W') := H_ (fun W W' hW hW' => by
     have q1 := KS.out W hW
     have hrb : ∀ q, (Value.slice p1 (Z13 x bnd l j).length c1).ownBlock = some q → B ≤ q := fun q hq => (Yb ho1.out hq).1
     have e1 : W'.heap[w.heap.size]? = W.heap[w.heap.size]? := hW'.block _ (Nat.lt_of_lt_of_le hN hW.size) (fun e => hv1.out e.symm)
     have e2 : W'.heap[r]? = W.heap[r]? := hW'.block _ (by have := hW.size; omega) (fun e => by have := hrb r e.symm; omega)
     exact ⟨(World.cell?_of_block (w := W) (w' := W') (a := ⟨w.heap.size, 0, none⟩) e1).trans q1.1, (World.cell?_of_block (w := W) (w' := W') (a := ⟨w.heap.size, 1, none⟩) e1).trans q1.2.1, (World.cell?_of_block (w := W) (w' := W') (a := ⟨r, off + k * 2, none⟩) e2).trans q1.2.2.1, (World.cell?_of_block (w := W) (w' := W') (a := ⟨r, off + k * 2 + 1, none⟩) e2).trans q1.2.2.2⟩)
    have HVB : Hid (∀ W, Below wr.heap.size wr W → Zw W (.slice pb bnd.length cb) bnd) := H_ (fun W hW => Z1g hvb1 hW)
    have CB := H_ hCB
    have CR := H_ hCR
    have hb2 := bindE_len x j
    have hb12 : (bnd ++ Zo x j).length ≤ 1000000 := by simp only [List.length_append]; omega
    have hk0 : (0 : Int) ≤ (k : Int) := by omega
    have HO1 := ho1
    obtain ⟨A0, hA0⟩ : ∃ A0, A0 = Z13 x bnd l j := ⟨_, rfl⟩
    obtain ⟨A1, hA1⟩ : ∃ A1, A1 = Z13 x bnd l (j + 1) := ⟨_, rfl⟩
    rw [← hA0] at HO1 hvv KS7 CR hv1
    rw [← hA1] at CR
    have HA1 := H_ hA1
    rw [← hA0]
    generalize Zo x j = bd at *
    have hD0 : Below wr.heap.size wr wr.drew := (Below.refl _ _).drew
    have hD1 : Below wr.heap.size wr ((wr.alloc (.cells #[] 9)).drew) := (Z5 _ _).drew
    have S0 := H_ (KS.out _ hD0)
    have HO3 : Hid (((wr.alloc (.cells #[] 9)).drew).ownsRow wr.heap.size 9 1 (.slice (some ⟨wr.heap.size, 0, none⟩) 0 0) ([] : List Nm).length (([] : List Nm).map Y3)) := H_ (Q5 (heap_alloc_new wr _) (Nat.le_refl _))
    clear hvb1 hS hCB hCR ho1 hA0 hA1 HRd x1
    go_wp2_with fail
    go_region_held_law (fun W => (W.cell? ⟨w.heap.size, 0, none⟩ = some (.string (bs [])) ∧ W.cell? ⟨w.heap.size, 1, none⟩ = some (.slice (some ⟨r, off, none⟩) L cap) ∧ W.cell? ⟨r, off + k * 2, none⟩ = some (.string at0) ∧ W.cell? ⟨r, off + k * 2 + 1, none⟩ = some (.slice p pn pc))) (first | exact S0.out | assumption | exact KS.out _ hD1) (first | (go_at_call 100; (with_reducible refine (CB.out _ hD0).mono ?_); rintro e w2 ⟨⟨v2, rfl, hs2, hf2⟩, hb2⟩; have h2 := Below.trans hD0 (hb2.mono hD0.size); have hS2 := KS.out _ h2; have z2 := h2.size; have hD2 := h2.alloc h2.size (.cells #[] 9); have hS2a := KS.out _ hD2) | (go_at_call 100; (with_reducible refine (CB.out _ hD1).mono ?_); rintro e w2 ⟨⟨v2, rfl, hs2, hf2⟩, hb2⟩; have h2 := Below.trans hD1 (hb2.mono hD1.size); have hS2 := KS.out _ h2; have q55 : w2.heap[wr.heap.size]? = some (.cells #[] 9 (0, 0)) := Z2 hb2 (by simp) (heap_alloc_new _ _)) | (go_at_call 100; (with_reducible refine (CB.out _ h5).mono ?_); rintro e w2 ⟨⟨v2, rfl, hs2, hf2⟩, hb2⟩; have h2 := Below.trans h5 (hb2.mono h5.size); have hS2 := KS.out _ h2; have o57 := Zx o57 hb2) | (refine Yq ((wr.alloc (.cells #[] 9)).drew) (by rfl) _ _ 28 (by rfl) wr.heap.size 9 i0 underlying28 hi0 hz0 hz1 hz2 _ [] (by rfl) HO3.out _ bnd (by rfl) (HVB.out _ hD1) (by simp; omega) hD1.size ?_; intro v57 w5 o57 hg57 hv57; have o57 : w5.ownsRow wr.heap.size 9 1 v57 bnd.length (bnd.map Y3) := o57; have h5 := Ya hD1 (Below.refl _ _) hg57 (fun k hk => (Yb HO3.out hk).1); have hS5 := KS.out _ h5) | (refine Yq (w2) (by rfl) _ _ 28 (by rfl) wr.heap.size 9 i0 underlying28 hi0 hz0 hz1 hz2 _ [] (by rfl) (Q5 q55 (Nat.le_refl _)) _ bnd (by rfl) (HVB.out _ h2) (by simp; omega) h2.size ?_; intro v57 w5 o57 hg57 hv57; have o57 : w5.ownsRow wr.heap.size 9 1 v57 bnd.length (bnd.map Y3) := o57; have h5 := Ya h2 (Below.refl _ _) hg57 (fun k hk => (Yb (Q5 q55 (Nat.le_refl _)) hk).1); have hS5 := KS.out _ h5; have hs5 : Zw w5 v2 bd := strS_far2 hs2 (fun _ _ => rfl) (Nat.le_refl _) hg57 (fun k hk hk2 e => by have e2 := hf2 k hk2; simp [Value.ownBlock] at e; simp at e2; omega)) | (refine Yq (w2.alloc (.cells #[] 9)) (by rfl) _ _ 28 (by rfl) wr.heap.size 9 i0 underlying28 hi0 hz0 hz1 hz2 _ [] (by rfl) (Q5 (heap_alloc_new w2 _) z2) _ bnd (by rfl) (HVB.out _ hD2) (by simp; omega) hD2.size ?_; intro v57 w5 o57 hg57 hv57; have o57 : w5.ownsRow wr.heap.size 9 1 v57 bnd.length (bnd.map Y3) := o57; have h5 := Ya hD2 (Below.refl _ _) hg57 (fun k hk => (Yb (Q5 (heap_alloc_new w2 _) z2) hk).1); have hS5 := KS.out _ h5; have hs5 : Zw w5 v2 bd := strS_far2 hs2 (fun k hk => heap_alloc_old _ _ hk) (by simp) hg57 (fun k hk hk2 e => by simp [Value.ownBlock] at e; omega)) | (refine Yq w5 (by rfl) _ _ 28 (by rfl) wr.heap.size 9 i0 underlying28 hi0 hz0 hz1 hz2 _ bnd (by rfl) o57 _ bd (by rfl) hs5 (by rw [List.length_append] at hb12; exact hb12) h5.size ?_; intro v61 w6 o61 hg61 hv61; have h6 := Ya h5 (Below.refl _ _) hg61 (fun k hk => (Yb o57 hk).1); have hS6 := KS.out _ h6) | (refine Yq w2 (by rfl) _ _ 28 (by rfl) wr.heap.size 9 i0 underlying28 hi0 hz0 hz1 hz2 _ bnd (by rfl) o57 _ bd (by rfl) hs2 (by rw [List.length_append] at hb12; exact hb12) h2.size ?_; intro v61 w6 o61 hg61 hv61; have h6 := Ya h2 (Below.refl _ _) hg61 (fun k hk => (Yb o57 hk).1); have hS6 := KS.out _ h6) | (go_at_call 67; (with_reducible refine (CR.out w6 _ h6 o61).mono ?_); rintro e w7 ⟨v7, rfl, ho7, hg7, hv7⟩; have hS7 := KS7.out _ _ h6 hg7))
    all_goals
     go_wp2_with fail
     go_roundg (gk - 1)
     case measure => omega
     case rel =>
      have hgz := hg.out.size
      refine ⟨k + 1, j + 1, by omega, H_ (by rw [hkj.out]; omega), by omega, by go_num, ?_, H_ (by rw [← HA1.out]; exact ho7), H_ (gB_next hg.out (hvv.out.imp id (fun h q hq => by have := h q hq; omega)) (gB_below2 h6 hg7)), H_ ?_⟩
      · have := h6.size
        rw [hg7.block _ (by omega) (fun e => hv1.out e.symm), h6.block _ hN]
        exact hb0
      · rcases hv7 with h | h
        · rw [h]; exact hvv.out
        · exact .inr (fun q hq => by have := h q hq; have := h6.size; omega)
  · have hjK2 : j = K := by have := hkj.out; have := HaK.out; omega
    have hF : Z0q B w.heap.size (.slice p0 l.length c0) (V8 bnd l (Ze x)) w (.returned (.slice p1 (Z13 x bnd l j).length c1)) wr := ⟨_, rfl, by rw [HR.out, ← hjK2]; exact ho1.out, hg.out, hvv.out.imp id (fun h q hq => by have := h q hq; omega)⟩
    have hF := H_ hF
    clear HRd ho1 hjK2
    go_wp2_with fail
    go_ret
    exact hF.out
theorem Z46 : ∀ n, FrS n
 | 0 => fun t _ _ _ _ _ _ _ _ h => by omega
 | n + 1 => fun t x cs B l bnd v vb w hd hwf hby hsz hbn hx hv hB ho hvb hne => by
   match t, hd, hwf, hby, hsz, hbn, hx, hv with
   | .atom a, hd, hwf, hby, hsz, hbn, hx, hv =>
     simp only [FV] at hv
     subst hv
     exact l2Free_atom a x B l bnd v vb w hwf.1 (by simp only [Tr.bytes] at hby; omega) (by omega) (by omega) hx hB ho hvb hne
   | .list [], hd, hwf, hby, hsz, hbn, hx, hv => simp [Tr.wf] at hwf
   | .list (h :: ps), hd, hwf, hby, hsz, hbn, hx, hv =>
     simp only [FV] at hv
     obtain ⟨r, off, cap, xs, rfl, h2, h3, h4, h5, h6⟩ := hv
     simp only [Tr.wf] at hwf
     simp only [Tr.bytes] at hby
     simp only [Tr.size] at hsz
     exact l2Free_list n (Z46 n) h ps x r off cap _ xs B l bnd v vb w hd hwf.2 (by omega) hsz hbn hx h2 h4 rfl h3 h5 h6 hB ho hvb hne
end Go.Proofs.YtjaaalojcdbcpaaGreatDoor
