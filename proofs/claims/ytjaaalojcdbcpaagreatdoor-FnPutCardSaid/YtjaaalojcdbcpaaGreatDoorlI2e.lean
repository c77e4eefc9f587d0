/- The program's expressions by head. The program reads an expression: the parts with names, and the atoms. The program reads an expression. The program reads whole texts as expressions. -/
import Derived.Test.YtjaaalojcdbcpaaGreatDoorlLawBM
import Derived.Deep.RegionHeld3
import Derived.Deep.LoopGhost
set_option maxHeartbeats 20000000
set_option linter.unusedVariables false
set_option linter.unusedSimpArgs false
namespace Go.Proofs.YtjaaalojcdbcpaaGreatDoor
open Go.RowKit Go.Proofs.Tryz
set_option maxRecDepth 8000
def EVs (w : World) (ok : Nat → Prop) : List Ex → List Value → Prop
 | [], vs => vs = []
 | e :: es, vs => ∃ v us, vs = v :: us ∧ EV w ok e v ∧ EVs w ok es us
theorem EVs.move {w w' : World} {ok ok' : Nat → Prop} (hk : ∀ k, ok k → ok' k) (hb : ∀ k, ok k → w'.heap[k]? = w.heap[k]?) : ∀ (es : List Ex) (vs : List Value), EVs w ok es vs → EVs w' ok' es vs
 | [], vs, h => h
 | e :: es, vs, h => by
   simp only [EVs] at h ⊢
   obtain ⟨v, us, rfl, h1, h2⟩ := h
   exact ⟨v, us, rfl, EV.move hk hb e v h1, EVs.move hk hb es us h2⟩
theorem EVs.snoc {w : World} {ok : Nat → Prop} {e : Ex} {v : Value} (hv : EV w ok e v) : ∀ {es : List Ex} {vs : List Value}, EVs w ok es vs → EVs w ok (es ++ [e]) (vs ++ [v])
 | [], vs, h => by simp only [EVs] at h; subst h; exact ⟨v, [], rfl, hv, rfl⟩
 | a :: es, vs, h => by
   simp only [EVs] at h
   obtain ⟨u, us, rfl, h1, h2⟩ := h
   exact ⟨u, us ++ [v], rfl, h1, EVs.snoc hv h2⟩
theorem EVs.length {w : World} {ok : Nat → Prop} : ∀ {es : List Ex} {vs : List Value}, EVs w ok es vs → vs.length = es.length
 | [], vs, h => by simp only [EVs] at h; subst h; rfl
 | a :: es, vs, h => by
   simp only [EVs] at h
   obtain ⟨u, us, rfl, h1, h2⟩ := h
   simp [EVs.length h2]
theorem Ja (w : World) (n : Nat) : Below w.heap.size w (w.drewN n) := ⟨rfl, rfl, rfl, Nat.le_refl _, fun _ _ => rfl⟩
theorem Z2n (h : List UInt8) (p : Option Addr) (m c : Nat) (h1 : m ≠ 1) (h2 : m ≠ 2) (h3 : m = 3 → h ≠ kIf) (hm : m ≤ 1000000000) (w : World) :
 Calls prog 120 #[.string (bs h), .slice p m c] w fun e w' => e = .returned (.tuple #[.nilIface, .bool false]) ∧ Below w.heap.size w w' := by
 have a1 : ((m : Int) == 1) = false := by simp; omega
 have a2 : ((m : Int) == 2) = false := by simp; omega
 have b1 : ¬ (m : Int) = 1 := by omega
 have b2 : ¬ (m : Int) = 2 := by omega
 by_cases q : m = 3
 · have a3 : ((bs h).toList == [105, 102]) = false := by rw [Z9]; simpa [kIf] using h3 q
   subst q
   clear h1 h2 h3 a1 a2 b1 b2
   go_enter func120, ntmps120
   go_wp2_with fail
   go_ret2
   exact ⟨rfl, Below.refl _ _⟩
 · have a3 : ((m : Int) == 3) = false := by simp; omega
   have b3 : ¬ (m : Int) = 3 := by omega
   clear h1 h2 h3
   go_enter func120, ntmps120
   go_wp2_with fail
   go_ret2
   exact ⟨rfl, Below.refl _ _⟩
theorem headExpr_1 (h : List UInt8) (a : Ex) (v : Value) (ok : Nat → Prop) (c r off : Nat) (w : World) (hv : EV w ok a v) (hok : ∀ k, ok k → k < w.heap.size) (e0 : w.cell? ⟨r, off, none⟩ = some v) (hc : 1 ≤ c) (hc2 : c ≤ maxLen) :
 Calls prog 120 #[.string (bs h), .slice (some ⟨r, off, none⟩) 1 c] w fun e w' => Zu ok (Yr h [a]) e w' ∧ Below w.heap.size w w' := by
 have hc3 := Yl hc2
 have C : Hid (Calls prog 152 #[.string (bs h), .agg #[v]] w fun e w' => Zu ok (Yr h [a]) e w' ∧ Below w.heap.size w w') := H_ (oneExpr_c h a v ok w (fun w' hw => hv.below hw hok))
 obtain ⟨T, u, rfl⟩ := hv.iface
 have hcx : Hid (∀ e w', Zu ok (Yr h [a]) e w' → (∃ x z, e = .returned (.tuple #[x, .bool z]))) := H_ (fun e w' hq => by
  unfold Zu at hq
  split at hq
  · rcases hq with hq | ⟨T, u, hq⟩ <;> exact ⟨_, _, hq⟩
  · obtain ⟨v, hq, _⟩ := hq; exact ⟨_, _, hq⟩)
 clear hv
 generalize Yr h [a] = R at *
 go_enter func120, ntmps120
 go_wp2_with (go_at_call 152; go_must (refine (C.out).mono ?_; rintro e w1 ⟨hp, hb1⟩; obtain ⟨x, z, rfl⟩ := hcx.out _ _ hp))
 go_ret2
 exact ⟨hp, hb1⟩
theorem headExpr_2 (h : List UInt8) (a b : Ex) (v1 v2 : Value) (ok : Nat → Prop) (c r off : Nat) (w : World) (hv1 : EV w ok a v1) (hv2 : EV w ok b v2) (hok : ∀ k, ok k → k < w.heap.size) (hr : r < w.heap.size) (e0 : w.cell? ⟨r, off, none⟩ = some v1) (e1 : w.cell? ⟨r, off + 1, none⟩ = some v2) (hc : 2 ≤ c) (hc2 : c ≤ maxLen) :
 Calls prog 120 #[.string (bs h), .slice (some ⟨r, off, none⟩) 2 c] w fun e w' => Zu ok (Yr h [a, b]) e w' ∧ Below w.heap.size w w' := by
 have hc3 := Yl hc2
 have C : Hid (∀ W, Below w.heap.size w W → Calls prog 153 #[.string (bs h), .agg #[v1, v2]] W fun e w' => Zu ok (Yr h [a, b]) e w' ∧ Below W.heap.size W w') := H_ (fun W hW => twoExpr_c h a b v1 v2 ok W (fun w' hw => hv1.below (hW.trans (hw.mono hW.size)) hok) (fun w' hw => hv2.below (hW.trans (hw.mono hW.size)) hok))
 obtain ⟨T1, u1, rfl⟩ := hv1.iface
 obtain ⟨T2, u2, rfl⟩ := hv2.iface
 have hcx : Hid (∀ e w', Zu ok (Yr h [a, b]) e w' → (∃ x z, e = .returned (.tuple #[x, .bool z]))) := H_ (fun e w' hq => by
  unfold Zu at hq
  split at hq
  · rcases hq with hq | ⟨T, u, hq⟩ <;> exact ⟨_, _, hq⟩
  · obtain ⟨v, hq, _⟩ := hq; exact ⟨_, _, hq⟩)
 clear hv1 hv2
 generalize Yr h [a, b] = R at *
 have K : Hid (∀ W, Below w.heap.size w W → (fun W => Below w.heap.size w W ∧ W.cell? ⟨r, off, none⟩ = some (.iface T1 u1) ∧ W.cell? ⟨r, off + 1, none⟩ = some (.iface T2 u2)) W) := H_ (fun W hW => ⟨hW, (hW.cell (p := ⟨r, off, none⟩) hr).trans e0, (hW.cell (p := ⟨r, off + 1, none⟩) hr).trans e1⟩)
 have S0 := H_ (K.out _ ((Below.refl _ _).drew))
 have hs21 : ((2 : Int) == 1) = false := rfl
 clear e0 e1
 go_enter func120, ntmps120
 go_wp2_with fail
 go_region_held3 (fun W => Below w.heap.size w W ∧ W.cell? ⟨r, off, none⟩ = some (.iface T1 u1) ∧ W.cell? ⟨r, off + 1, none⟩ = some (.iface T2 u2)) (first | exact S0.out | assumption | fail)
  (first | (go_at_call 153; have hh := And.left (by assumption : Below w.heap.size w _ ∧ _); (refine (C.out _ hh).mono ?_); rintro e w1 ⟨hp, hb1⟩; obtain ⟨x, z, rfl⟩ := hcx.out _ _ hp; have hw1 := hh.trans (hb1.mono hh.size); have hS2 := K.out _ hw1) | fail)
 all_goals
  go_wp2_with fail
  go_ret2
  exact ⟨hp, hw1⟩
theorem headExpr_3 (a b d : Ex) (v1 v2 v3 : Value) (ok : Nat → Prop) (c r off : Nat) (w : World) (hv1 : EV w ok a v1) (hv2 : EV w ok b v2) (hv3 : EV w ok d v3) (hok : ∀ k, ok k → k < w.heap.size) (hr : r < w.heap.size) (e0 : w.cell? ⟨r, off, none⟩ = some v1) (e1 : w.cell? ⟨r, off + 1, none⟩ = some v2) (e2 : w.cell? ⟨r, off + 2, none⟩ = some v3) (hc : 3 ≤ c) (hc2 : c ≤ maxLen) :
 Calls prog 120 #[.string (bs kIf), .slice (some ⟨r, off, none⟩) 3 c] w fun e w' => Zu ok (Yr kIf [a, b, d]) e w' ∧ Below w.heap.size w w' := by
 have hc3 := Yl hc2
 have HA := H_ (show Yr kIf [a, b, d] = some (.cond a b d) from rfl)
 have HV := H_ (fun W (hW : Below w.heap.size w W) => (⟨hv1.below hW hok, hv2.below hW hok, hv3.below hW hok⟩ : EV W ok a v1 ∧ EV W ok b v2 ∧ EV W ok d v3))
 obtain ⟨T1, u1, rfl⟩ := hv1.iface
 obtain ⟨T2, u2, rfl⟩ := hv2.iface
 obtain ⟨T3, u3, rfl⟩ := hv3.iface
 clear hv1 hv2 hv3
 rw [show bs kIf = ⟨#[105, 102]⟩ from rfl]
 go_enter func120, ntmps120
 go_wp2_with fail
 go_quiet (fail)
 go_wp2_with fail
 go_ret2
 exact ⟨Zu.some HA.out ⟨_, _, _, rfl, HV.out _ (Ja _ _)⟩, Ja _ _⟩
theorem asLetE_other {ps : List Tr} (h : ps.length ≠ 3) : Qb ps = none := by
 match ps, h with
 | [], _ => rfl
 | [_], _ => rfl
 | [_, _], _ => rfl
 | [_, _, _], h => exact absurd rfl h
 | _ :: _ :: _ :: _ :: _, _ => rfl
theorem asFunE_other {ps : List Tr} (h : ps.length ≠ 5) : Xc ps = none := by
 match ps, h with
 | [], _ => rfl
 | [_], _ => rfl
 | [_, _], _ => rfl
 | [_, _, _], _ => rfl
 | [_, _, _, _], _ => rfl
 | [_, _, _, _, _], h => exact absurd rfl h
 | _ :: _ :: _ :: _ :: _ :: _ :: _, _ => rfl
theorem V6 {ok : Nat → Prop} {res : Option Ex} {e : Ending} {w' : World} (hq : Zu ok res e w') : ∃ x z, e = .returned (.tuple #[x, .bool z]) := by
 unfold Zu at hq
 split at hq
 · rcases hq with hq | ⟨T, u, hq⟩ <;> exact ⟨_, _, hq⟩
 · obtain ⟨v, hq, _⟩ := hq; exact ⟨_, _, hq⟩
theorem asLet_any (n : Nat) (ih : Z2w n) (ps : List Tr) (c : Nat) (ok : Nat → Prop) (w : World) (r off : Nat) (xs : List Value) (hd : ∀ t ∈ ps, t.depth < n) (hw : ∀ t ∈ ps, t.wf) (hb : ∀ t ∈ ps, t.bytes ≤ 12000)
 (h5 : Yv w r off xs) (h6 : FVs nI w ok ps xs) (hrlt : r < w.heap.size) (hok : ∀ k, ok k → k < w.heap.size) (hc : ps.length ≤ c) (hc2 : c ≤ maxLen) (hl : ps.length ≤ 1000000000) :
 Calls prog 118 #[.slice (some ⟨r, off, none⟩) ps.length c] w fun e w' => Zu ok (Qb ps) e w' ∧ Below w.heap.size w w' := by
 by_cases h3 : ps.length = 3
 · obtain ⟨x, a, b, rfl⟩ := Z25 h3
   exact asLet_c n ih x a b c ok w r off xs (hd a (by simp)) (hd b (by simp)) (hw a (by simp)) (hw b (by simp)) (hb x (by simp)) (hb a (by simp)) (hb b (by simp)) h5 h6 hrlt hok (by simpa using hc) hc2
 · exact (asLet_bad _ _ _ h3 hl w).mono fun e w' ⟨h1, h2⟩ => ⟨by rw [h1]; exact Zu.nil (asLetE_other h3), h2⟩
theorem five_ofI {ps : List Tr} (h : ps.length = 5) : ∃ a b c d e, ps = [a, b, c, d, e] := by
 match ps, h with
 | [a, b, c, d, e], _ => exact ⟨a, b, c, d, e, rfl⟩
theorem asFun_any (n : Nat) (ih : Z2w n) (ps : List Tr) (c : Nat) (ok : Nat → Prop) (w : World) (r off : Nat) (xs : List Value) (hd : ∀ t ∈ ps, t.depth < n) (hw : ∀ t ∈ ps, t.wf) (hb : ∀ t ∈ ps, t.bytes ≤ 12000)
 (h5 : Yv w r off xs) (h6 : FVs nI w ok ps xs) (hrlt : r < w.heap.size) (hok : ∀ k, ok k → k < w.heap.size) (hc : ps.length ≤ c) (hc2 : c ≤ maxLen) (hl : ps.length ≤ 1000000000) :
 Calls prog 119 #[.slice (some ⟨r, off, none⟩) ps.length c] w fun e w' => Zu ok (Xc ps) e w' ∧ Below w.heap.size w w' := by
 by_cases h3 : ps.length = 5
 · obtain ⟨f, x, A, B, b, rfl⟩ := five_ofI h3
   exact asFun_c n ih f x A B b c ok w r off xs (hd b (by simp)) (hw A (by simp)) (hw B (by simp)) (hw b (by simp)) (hb f (by simp)) (hb x (by simp)) (hb A (by simp)) (hb B (by simp)) (hb b (by simp)) h5 h6 hrlt hok (by simpa using hc) hc2
 · exact (asFun_bad _ _ _ h3 hl w).mono fun e w' ⟨h1, h2⟩ => ⟨by rw [h1]; exact Zu.nil (asFunE_other h3), h2⟩
theorem asExpr_atom (a : List UInt8) (hl : a.length ≤ 1048576) (ok : Nat → Prop) (b z d : Int) (w : World) :
 Calls prog 70 #[.agg #[.string (bs a), .slice none 0 0, .int .i64 b, .int .i64 z, .int .i64 d]] w fun e w' => Zu ok (Q8 a) e w' ∧ Below w.heap.size w w' := by
 have CA : Hid (∀ W, Calls prog 117 #[.string (bs a)] W fun e w' => Zu ok (Q8 a) e w' ∧ Below W.heap.size W w') := H_ (fun W => atomExpr_c a hl ok W)
 have hcx : Hid (∀ e w', Zu ok (Q8 a) e w' → (∃ x z, e = .returned (.tuple #[x, .bool z]))) := H_ (fun e w' hq => V6 hq)
 generalize Q8 a = R at *
 go_enter func70, ntmps70
 go_wp2_with (first | (go_at_call 116; go_must (refine (Z48 _ _ _ _ _ _ _).mono ?_; rintro e w1 ⟨rfl, hb1⟩; have c1 := Z2 hb1 (by simp) (heap_alloc_new _ _); have d0 := Z4 (j := 0) c1)) | (go_at_call 117; go_must (refine (CA.out _).mono ?_; rintro e w2 ⟨hp, hb2⟩; obtain ⟨x, z2, rfl⟩ := hcx.out _ _ hp)))
 go_ret2
 exact ⟨hp, (Z5 w _).trans ((hb1.trans (hb2.mono hb1.size)).mono (by simp))⟩
theorem row_rest {w : World} {ok : Nat → Prop} {h : Tr} {ps : List Tr} {xs : List Value} {r off : Nat} (h6 : FVs nI w ok (h :: ps) xs) (h5 : Yv w r off xs) :
 ∃ ys, FVs nI w ok ps ys ∧ Yv w r (off + 5) ys ∧ w.cell? ⟨r, off, none⟩ = some (.string (bs (Z1 h))) := by
 obtain ⟨cs, g1, g2⟩ := FVs.get Z44 h6 h5 0 (by simp)
 simp only [FVs] at h6
 obtain ⟨a, b, rfl, k2, k3⟩ := h6
 have hla : a.length = 5 := by obtain ⟨p, n, c, rfl⟩ := k2.node; rfl
 refine ⟨b, k3, fun j v hj => ?_, ?_⟩
 · have := h5 (5 + j) v (by rw [List.getElem?_append_right (by omega)]; rw [hla]; simpa using hj)
   rw [show off + 5 + j = off + (5 + j) from by omega]; exact this
 · obtain ⟨p, n, c, rfl⟩ := g1.node
   have := g2 0 _ rfl
   simpa using this
theorem Tryz.infoExpr : (prog.info? 53).map (fun i => (i.zero, i.size, i.bytes)) = some (some .nilIface, 1, 16) := by kernel_rfl
theorem kids_none : ∀ {ps : List Tr} {k : Nat} (hk : k < ps.length), Zy ps[k] = none → Yn ps = none
 | t :: ts, 0, _, h => by simp only [List.getElem_cons_zero] at h; simp [Yn, h]
 | t :: ts, k + 1, hk, h => by
   have := kids_none (ps := ts) (k := k) (by simpa using hk) (by simpa using h)
   simp only [Yn, this]
   cases Zy t <;> rfl
theorem kids_snoc : ∀ {ps : List Tr} {es : List Ex} {x : Ex} {t : Tr}, Yn ps = some es → Zy t = some x → Yn (ps ++ [t]) = some (es ++ [x])
 | [], es, x, t, h, hx => by simp only [Yn, Option.some.injEq] at h; subst h; simp [Yn, hx]
 | a :: ps, es, x, t, h, hx => by
   simp only [Yn, List.cons_append] at h ⊢
   cases ha : Zy a with
   | none => simp [ha] at h
   | some e =>
     simp only [ha] at h ⊢
     cases hk : Yn ps with
     | none => simp [hk] at h
     | some es2 =>
       simp only [hk, Option.some.injEq] at h
       subst h
       rw [kids_snoc hk hx]; rfl
theorem kids_step {ps : List Tr} {es : List Ex} {x : Ex} {k : Nat} (hk : k < ps.length) (h : Yn (ps.take k) = some es) (hx : Zy ps[k] = some x) : Yn (ps.take (k + 1)) = some (es ++ [x]) := by
 rw [List.take_add_one, List.getElem?_eq_getElem hk]; exact kids_snoc h hx
theorem asExs_kids {h : Tr} {ps : List Tr} (h1 : Z1 h ≠ Yy) (h2 : Z1 h ≠ Yt) : J6 (h :: ps) = (Yn ps).bind (Yr (Z1 h)) := by simp only [J6, if_neg h1, if_neg h2]
theorem headExpr_any (h : List UInt8) (es : List Ex) (vs : List Value) (ok : Nat → Prop) (B : Nat) (p : Option Addr) (n c : Nat) (w : World) (hn : es.length = n) (hev : EVs w ok es vs) (hown : w.ownsRow B 53 1 (.slice p n c) n vs) (hok : ∀ k, ok k → k < w.heap.size) (hl : n ≤ 12000) :
 Calls prog 120 #[.string (bs h), .slice p n c] w fun e w' => Zu ok (Yr h es) e w' ∧ Below w.heap.size w w' := by
 subst hn
 have hbad : Yr h es = none → es.length ≠ 1 → es.length ≠ 2 → (es.length = 3 → h ≠ kIf) → Calls prog 120 #[.string (bs h), .slice p es.length c] w fun e w' => Zu ok (Yr h es) e w' ∧ Below w.heap.size w w' :=
  fun hm a b d => (Z2n h p es.length c a b d (by omega) w).mono fun e w' ⟨h1, h2⟩ => ⟨by rw [h1]; exact Zu.nil hm, h2⟩
 match es, hev, hown, hl, hbad with
 | [], _, _, _, hbad => exact hbad rfl (by simp) (by simp) (by simp)
 | [a], hev, hown, _, _ =>
   simp only [EVs] at hev
   obtain ⟨v, us, rfl, h1, rfl⟩ := hev
   have hcap := Xx hown
   rcases hown.2 with ⟨hx, hy⟩ | ⟨g, cap, cur, hx, _⟩
   · simp at hy
   · simp only [Value.slice.injEq] at hx
     obtain ⟨rfl, _, rfl⟩ := hx
     have hr := X4 hown
     exact headExpr_1 h a v ok c g 0 w h1 hok (hr 0 v rfl) (by simpa using hcap.1) hcap.2
 | [a, b], hev, hown, _, _ =>
   simp only [EVs] at hev
   obtain ⟨v, us, rfl, h1, v2, us2, rfl, h2, rfl⟩ := hev
   have hcap := Xx hown
   rcases hown.2 with ⟨hx, hy⟩ | ⟨g, cap, cur, hx, _, hg, _⟩
   · simp at hy
   · simp only [Value.slice.injEq] at hx
     obtain ⟨rfl, _, rfl⟩ := hx
     have hr := X4 hown
     exact headExpr_2 h a b v v2 ok c g 0 w h1 h2 hok (lt_of_block hg) (hr 0 v rfl) (hr 1 v2 rfl) (by simpa using hcap.1) hcap.2
 | [a, b, d], hev, hown, _, hbad =>
   by_cases hif : h = kIf
   · subst hif
     simp only [EVs] at hev
     obtain ⟨v, us, rfl, h1, v2, us2, rfl, h2, v3, us3, rfl, h3, rfl⟩ := hev
     have hcap := Xx hown
     rcases hown.2 with ⟨hx, hy⟩ | ⟨g, cap, cur, hx, _, hg, _⟩
     · simp at hy
     · simp only [Value.slice.injEq] at hx
       obtain ⟨rfl, _, rfl⟩ := hx
       have hr := X4 hown
       exact headExpr_3 a b d v v2 v3 ok c g 0 w h1 h2 h3 hok (lt_of_block hg) (hr 0 v rfl) (hr 1 v2 rfl) (hr 2 v3 rfl) (by simpa using hcap.1) hcap.2
   · exact hbad (by simp [Yr, hif]) (by simp) (by simp) (fun _ => hif)
 | _ :: _ :: _ :: _ :: _, _, _, _, hbad => exact hbad rfl (by simp) (by simp) (by simp)
theorem asExpr_list (n : Nat) (ih : Z2w n) (h : Tr) (ps : List Tr) (cap : Nat) (ok : Nat → Prop) (w : World) (r off : Nat) (xs : List Value) (b z d : Int) (hd : ∀ t ∈ ps, t.depth < n) (hw : ∀ t ∈ ps, t.wf) (hbt : ∀ t ∈ ps, t.bytes ≤ 12000)
 (h5 : Yv w r off xs) (h6 : FVs nI w ok (h :: ps) xs) (hrlt : r < w.heap.size) (hok : ∀ k, ok k → k < w.heap.size) (hc : ps.length + 1 ≤ cap) (hc2 : cap ≤ maxLen) (hl : ps.length ≤ 12000) (hcap : ¬ cap = 1) :
 Calls prog 70 #[.agg #[.string (bs []), .slice (some ⟨r, off, none⟩) (ps.length + 1) cap, .int .i64 b, .int .i64 z, .int .i64 d]] w fun e w' => Zu ok (J6 (h :: ps)) e w' ∧ Below w.heap.size w w' := by
 obtain ⟨ys, h6', h5', e0⟩ := row_rest h6 h5
 clear h5 h6
 have hc3 := Yl hc2
 have CL : Hid (∀ W, Below w.heap.size w W → Calls prog 118 #[.slice (some ⟨r, off + 5, none⟩) ps.length (cap - 1)] W fun e w' => Zu ok (Qb ps) e w' ∧ Below W.heap.size W w') :=
  H_ (fun W hW => asLet_any n ih ps (cap - 1) ok W r (off + 5) ys hd hw hbt (h5'.move (hW.block r hrlt)) (h6'.below hW hok) (Nat.lt_of_lt_of_le hrlt hW.size) (Kw hok hW) (by omega) (by omega) (by omega))
 have CF : Hid (∀ W, Below w.heap.size w W → Calls prog 119 #[.slice (some ⟨r, off + 5, none⟩) ps.length (cap - 1)] W fun e w' => Zu ok (Xc ps) e w' ∧ Below W.heap.size W w') :=
  H_ (fun W hW => asFun_any n ih ps (cap - 1) ok W r (off + 5) ys hd hw hbt (h5'.move (hW.block r hrlt)) (h6'.below hW hok) (Nat.lt_of_lt_of_le hrlt hW.size) (Kw hok hW) (by omega) (by omega) (by omega))
 by_cases hlet : Z1 h = Yy
 · have HA : Hid (J6 (h :: ps) = Qb ps) := H_ (by simp only [J6, if_pos hlet])
   rw [HA.out]
   have s1 : ((bs (Z1 h)).toList == [108, 101, 116]) = true := by rw [Z9, hlet]; rfl
   generalize Z1 h = hd0 at *
   generalize Qb ps = R at *
   generalize ps.length = L at *
   clear hlet CF ih hd hw hbt h5' h6' hok
   go_enter func70, ntmps70
   go_wp2_with (go_at_call 116; go_must (refine (Jy _ _ _ _ (Nat.succ_ne_zero _) _ _ _ _).mono ?_; rintro e w1 ⟨rfl, hb1⟩; have c1 := Z2 hb1 (by simp) (heap_alloc_new _ _); obtain ⟨d0, d1⟩ := Zh c1; have hw1 := (Z5 w _).trans (hb1.mono (by simp)); have g0 := (hw1.cell (p := ⟨r, off, none⟩) hrlt).trans e0))
   go_quiet (fail)
   have hwq := hw1.trans ((Ja w1 nq).mono hw1.size)
   go_wp2_with (go_at_call 118; go_must (refine (CL.out _ hwq).mono ?_; rintro e w2 ⟨hp, hb2⟩; obtain ⟨x, y, rfl⟩ := V6 hp))
   go_ret2
   exact ⟨hp, hwq.trans (hb2.mono hwq.size)⟩
 have s1 : ((bs (Z1 h)).toList == [108, 101, 116]) = false := by rw [Z9]; simpa [Yy] using hlet
 by_cases hfun : Z1 h = Yt
 · have HA : Hid (J6 (h :: ps) = Xc ps) := H_ (by simp only [J6, if_neg hlet, if_pos hfun])
   rw [HA.out]
   have s2 : ((bs (Z1 h)).toList == [102, 117, 110]) = true := by rw [Z9, hfun]; rfl
   generalize Z1 h = hd0 at *
   generalize Xc ps = R at *
   generalize ps.length = L at *
   clear hlet hfun CL ih hd hw hbt h5' h6' hok
   go_enter func70, ntmps70
   go_wp2_with (go_at_call 116; go_must (refine (Jy _ _ _ _ (Nat.succ_ne_zero _) _ _ _ _).mono ?_; rintro e w1 ⟨rfl, hb1⟩; have c1 := Z2 hb1 (by simp) (heap_alloc_new _ _); obtain ⟨d0, d1⟩ := Zh c1; have hw1 := (Z5 w _).trans (hb1.mono (by simp)); have g0 := (hw1.cell (p := ⟨r, off, none⟩) hrlt).trans e0))
   go_quiet (fail)
   have hwq := hw1.trans ((Ja w1 nq).mono hw1.size)
   go_wp2_with (go_at_call 119; go_must (refine (CF.out _ hwq).mono ?_; rintro e w2 ⟨hp, hb2⟩; obtain ⟨x, y, rfl⟩ := V6 hp))
   go_ret2
   exact ⟨hp, hwq.trans (hb2.mono hwq.size)⟩
 have s2 : ((bs (Z1 h)).toList == [102, 117, 110]) = false := by rw [Z9]; simpa [Yt] using hfun
 clear CL CF
 have HA := H_ (asExs_kids (ps := ps) hlet hfun)
 have hok2 := fun (W : World) (hW : Below w.heap.size w W) => Kw hok hW
 obtain ⟨L, hL⟩ : ∃ L, ps.length = L := ⟨_, rfl⟩
 obtain ⟨hd0, hhd⟩ : ∃ hd0, hd0 = Z1 h := ⟨_, rfl⟩
 have HH := H_ (fun (W : World) (es : List Ex) (vs : List Value) (p : Option Addr) (c : Nat) (hW : Below w.heap.size w W) (hn : es.length = L) (hev : EVs W ok es vs) (hown : W.ownsRow w.heap.size 53 1 (.slice p L c) L vs) => headExpr_any hd0 es vs ok w.heap.size p L c W hn hev hown (Kw hok hW) (by omega))
 rw [← hhd] at e0 s1 s2 HA
 rw [hL]
 have hll : L + 1 ≤ cap := by omega
 have hl3 : L ≤ 12000 := by omega
 obtain ⟨i0, hi0, hz0, hz1, hz2⟩ := info_parts Tryz.infoExpr
 clear hlet hfun hhd
 go_enter func70, ntmps70
 go_wp2_with (go_at_call 116; go_must (refine (Jy _ _ _ _ (Nat.succ_ne_zero _) _ _ _ _).mono ?_; rintro e w1 ⟨rfl, hb1⟩; have c1 := Z2 hb1 (by simp) (heap_alloc_new _ _); obtain ⟨d0, d1⟩ := Zh c1; have hw1 := (Z5 w _).trans (hb1.mono (by simp)); have g0 := (hw1.cell (p := ⟨r, off, none⟩) hrlt).trans e0))
 go_quiet (fail)
 have hwq := hw1.trans ((Ja w1 nq).mono hw1.size)
 go_wp2_with fail
 have HW := H_ hwq
 clear hwq hw1 hb1 c1 d0 d1 g0
 go_loopg [6, 41] L (fun q v i wr => ∃ (k : Nat) (es : List Ex) (vs : List Value), q + k = L ∧ i = .int .i64 k ∧ Hid (Yn (ps.take k) = some es ∧ es.length = k) ∧ Hid (EVs wr ok es vs) ∧ Hid (wr.ownsRow w.heap.size 53 1 v k vs) ∧ Hid (Below w.heap.size w wr))
 case atStart => exact ⟨0, [], [], by omega, rfl, H_ ⟨rfl, rfl⟩, H_ rfl, H_ (World.ownsRow_nil _ _ _ _), HW⟩
 case round =>
  obtain ⟨k, es, vs, hq, rfl, hks, hev, ho, hb⟩ := hrel
  obtain ⟨vp, vc, rfl⟩ := Zn ho.out
  by_cases hlt : k < L
  · have hltt : k < ps.length := by omega
    obtain ⟨cs, g1, g2⟩ := FVs.get Z44 h6' h5' k hltt
    obtain ⟨p, pn, pc, rfl⟩ := g1.node
    obtain ⟨tk, htk⟩ : ∃ tk, tk = ps[k] := ⟨_, rfl⟩
    have hmem : tk ∈ ps := by rw [htk]; exact List.getElem_mem hltt
    rw [← htk] at g1 g2
    have e0 : wr.cell? ⟨r, off + 5 + k * 5, none⟩ = some (.string (bs (Z1 tk))) := by rw [hb.out.cell (by exact hrlt)]; exact g2 0 _ rfl
    have e1 : wr.cell? ⟨r, off + 5 + k * 5 + 1, none⟩ = some (.slice p pn pc) := by rw [hb.out.cell (by exact hrlt)]; exact g2 1 _ rfl
    have e2 : wr.cell? ⟨r, off + 5 + k * 5 + 2, none⟩ = some (.int .i64 tk.bytes) := by rw [hb.out.cell (by exact hrlt)]; exact g2 2 _ rfl
    have e3 : wr.cell? ⟨r, off + 5 + k * 5 + 3, none⟩ = some (.int .i64 tk.size) := by rw [hb.out.cell (by exact hrlt)]; exact g2 3 _ rfl
    have e4 : wr.cell? ⟨r, off + 5 + k * 5 + 4, none⟩ = some (.int .i64 tk.depth) := by rw [hb.out.cell (by exact hrlt)]; exact g2 4 _ rfl
    cases he : Zy tk with
    | none =>
      have CE := Z3c ih (hd tk hmem) (hw tk hmem) (hbt tk hmem) g1 hok he
      have HN := H_ (kids_none hltt (by rw [← htk]; exact he))
      clear g1 g2 htk hmem he hd hw hbt h5' h6' ih
      go_wp2_with (go_at_call 70; refine (CE.out _ (hb.out.alloc hb.out.size _)).mono ?_; rintro e w4 ⟨(rfl | ⟨T5, u5, rfl⟩), hb4⟩)
      all_goals
       go_ret2
       exact ⟨Zu.nil (by rw [HA.out, HN.out]; rfl), (hb.out.alloc hb.out.size _).trans (hb4.mono (hb.out.alloc hb.out.size _).size)⟩
    | some x =>
      have CE := Z3b ih (hd tk hmem) (hw tk hmem) (hbt tk hmem) g1 hok he
      have HN := H_ (⟨kids_step hltt hks.out.1 (by rw [← htk]; exact he), by simp [hks.out.2]⟩ : Yn (ps.take (k + 1)) = some (es ++ [x]) ∧ (es ++ [x]).length = k + 1)
      clear g1 g2 htk hmem he
      go_wp2_with (first | (go_at_call 70; refine (CE.out _ (hb.out.alloc hb.out.size _)).mono ?_; rintro e w4 ⟨⟨v5, rfl, hev5⟩, hb4⟩; obtain ⟨T5, u5, rfl⟩ := hev5.iface) | (at_builtin; go_must (refine Zm _ rfl _ _ 113 rfl w.heap.size 53 i0 .nilIface 1 16 underlying113 hi0 hz0 hz1 hz2 rfl (by decide) _ _ _ rfl ((Zx (ho.out.alloc _) hb4).alloc _) ⟨w4.heap.size, 0, none⟩ [.iface T5 u5] rfl rfl (Xr (heap_alloc_new _ _)) (by intro u hu; simp at hu; subst hu; rfl) (by unfold maxLen; omega) (by omega) (by have := hb4.size; have := hb.out.size; simp at *; omega) ?_; intro g' c' w5 hown' hgrow hgg)))
      go_roundg (gk - 1)
      case measure => omega
      case rel =>
       have hw4 := (hb.out.alloc hb.out.size _).trans (hb4.mono (hb.out.alloc hb.out.size _).size)
       have hw5 := (hw4.alloc hw4.size _).grown hgrow (by have := hw4.size; simp; omega) (fun q hq => by have := (ho.out.lt q hq).1; omega)
       have hpost : Below w.heap.size w4 w5 := ((Below.refl w.heap.size w4).alloc hw4.size _).grown hgrow (by have := hw4.size; simp; omega) (fun q hq => by have := (ho.out.lt q hq).1; omega)
       refine ⟨k + 1, es ++ [x], vs ++ [.iface T5 u5], by omega, by go_num, HN, H_ (EVs.snoc (hev5.below hpost hok) ?_), H_ hown', H_ hw5⟩
       exact EVs.move (fun _ h => h) (fun j hj => (hw5.block j (hok j hj)).trans (hb.out.block j (hok j hj)).symm) _ _ hev.out
  · have : k = L := by omega
    subst this
    have hfull : Yn ps = some es := by have := hks.out.1; rw [List.take_of_length_le (by omega)] at this; exact this
    have HN := H_ (show J6 (h :: ps) = Yr hd0 es by rw [HA.out, hfull]; rfl)
    have C := H_ (HH.out wr es vs vp vc hb.out hks.out.2 hev.out ho.out)
    clear hfull ih hd hw hbt h5' h6'
    go_wp2_with (go_at_call 120; go_must (refine (C.out).mono ?_; rintro e w2 ⟨hp, hb2⟩; obtain ⟨x, y, rfl⟩ := V6 hp))
    go_ret2
    exact ⟨by rw [HN.out]; exact hp, hb.out.trans (hb2.mono hb.out.size)⟩
theorem asExs_one (h : Tr) : J6 [h] = none := by
 simp only [J6]
 by_cases h1 : Z1 h = Yy
 · rw [if_pos h1]; rfl
 · rw [if_neg h1]
   by_cases h2 : Z1 h = Yt
   · rw [if_pos h2]; rfl
   · rw [if_neg h2]; rfl
theorem asExpr_list0 (h : Tr) (ok : Nat → Prop) (w : World) (r off : Nat) (b z d : Int) (hrlt : r < w.heap.size) (e0 : w.cell? ⟨r, off, none⟩ = some (.string (bs (Z1 h)))) :
 Calls prog 70 #[.agg #[.string (bs []), .slice (some ⟨r, off, none⟩) (0 + 1) 1, .int .i64 b, .int .i64 z, .int .i64 d]] w fun e w' => Zu ok (J6 [h]) e w' ∧ Below w.heap.size w w' := by
 rw [asExs_one]
 by_cases hlet : Z1 h = Yy
 · have s1 : ((bs (Z1 h)).toList == [108, 101, 116]) = true := by rw [Z9, hlet]; rfl
   generalize Z1 h = hd0 at *
   clear hlet
   go_enter func70, ntmps70
   go_wp2_with (go_at_call 116; go_must (refine (Jy _ _ _ _ (Nat.succ_ne_zero _) _ _ _ _).mono ?_; rintro e w1 ⟨rfl, hb1⟩; have c1 := Z2 hb1 (by simp) (heap_alloc_new _ _); obtain ⟨d0, d1⟩ := Zh c1; have hw1 := (Z5 w _).trans (hb1.mono (by simp)); have g0 := (hw1.cell (p := ⟨r, off, none⟩) hrlt).trans e0))
   go_quiet (fail)
   have hwq := hw1.trans ((Ja w1 nq).mono hw1.size)
   go_wp2_with (go_at_call 118; go_must (refine (asLet_bad _ 0 0 (by omega) (by omega) _).mono ?_; rintro e w2 ⟨rfl, hb2⟩))
   go_ret2
   exact ⟨Zu.nil rfl, hwq.trans (hb2.mono hwq.size)⟩
 have s1 : ((bs (Z1 h)).toList == [108, 101, 116]) = false := by rw [Z9]; simpa [Yy] using hlet
 by_cases hfun : Z1 h = Yt
 · have s2 : ((bs (Z1 h)).toList == [102, 117, 110]) = true := by rw [Z9, hfun]; rfl
   generalize Z1 h = hd0 at *
   clear hlet hfun
   go_enter func70, ntmps70
   go_wp2_with (go_at_call 116; go_must (refine (Jy _ _ _ _ (Nat.succ_ne_zero _) _ _ _ _).mono ?_; rintro e w1 ⟨rfl, hb1⟩; have c1 := Z2 hb1 (by simp) (heap_alloc_new _ _); obtain ⟨d0, d1⟩ := Zh c1; have hw1 := (Z5 w _).trans (hb1.mono (by simp)); have g0 := (hw1.cell (p := ⟨r, off, none⟩) hrlt).trans e0))
   go_quiet (fail)
   have hwq := hw1.trans ((Ja w1 nq).mono hw1.size)
   go_wp2_with (go_at_call 119; go_must (refine (asFun_bad _ 0 0 (by omega) (by omega) _).mono ?_; rintro e w2 ⟨rfl, hb2⟩))
   go_ret2
   exact ⟨Zu.nil rfl, hwq.trans (hb2.mono hwq.size)⟩
 have s2 : ((bs (Z1 h)).toList == [102, 117, 110]) = false := by rw [Z9]; simpa [Yt] using hfun
 generalize Z1 h = hd0 at *
 clear hlet hfun
 go_enter func70, ntmps70
 go_wp2_with (go_at_call 116; go_must (refine (Jy _ _ _ _ (Nat.succ_ne_zero _) _ _ _ _).mono ?_; rintro e w1 ⟨rfl, hb1⟩; have c1 := Z2 hb1 (by simp) (heap_alloc_new _ _); obtain ⟨d0, d1⟩ := Zh c1; have hw1 := (Z5 w _).trans (hb1.mono (by simp)); have g0 := (hw1.cell (p := ⟨r, off, none⟩) hrlt).trans e0))
 go_quiet (fail)
 have hwq := hw1.trans ((Ja w1 nq).mono hw1.size)
 go_wp2_with fail
 refine wp_loop_rounds 1 ?_
 rw [rounds_succ]
 go_wp2_with (go_at_call 120; go_must (refine (Z2n _ _ 0 0 (by omega) (by omega) (by omega) (by omega) _).mono ?_; rintro e w2 ⟨rfl, hb2⟩))
 go_ret2
 exact ⟨Zu.nil rfl, hwq.trans (hb2.mono hwq.size)⟩
theorem asExpr_zero : Z2w 0 := fun t _ _ _ _ _ h => by omega
theorem asExpr_succ (n : Nat) (ih : Z2w n) : Z2w (n + 1) := by
 intro t p m c ok w hd hwf hby hv hok
 match t, hv with
 | .atom a, hv =>
   simp only [FV] at hv
   have hh := Z45 _ _ _ hv
   simp only [Value.slice.injEq] at hh
   obtain ⟨rfl, rfl, rfl⟩ := hh
   have := asExpr_atom a (by simp only [Tr.bytes] at hby; omega) ok (Tr.atom a).bytes (Tr.atom a).size (Tr.atom a).depth w
   simpa only [Zy, Z1] using this
 | .list ts, hv =>
   simp only [FV] at hv
   obtain ⟨r, off, cap, xs, hh, h2, h3, h4, h5, h6⟩ := hv
   have hh := Z45 _ _ _ hh
   simp only [Value.slice.injEq] at hh
   obtain ⟨rfl, rfl, rfl⟩ := hh
   simp only [Tr.wf] at hwf
   obtain ⟨h, ps, rfl⟩ : ∃ h ps, ts = h :: ps := by cases ts with
    | nil => exact absurd rfl hwf.1
    | cons h ps => exact ⟨h, ps, rfl⟩
   have hget : ∀ t ∈ ps, ∃ i, ∃ hi : i < (h :: ps).length, (h :: ps)[i] = t := fun t ht => List.getElem_of_mem (List.mem_cons_of_mem _ ht)
   have hd' : ∀ t ∈ ps, t.depth < n := fun t ht => by obtain ⟨i, hi, rfl⟩ := hget t ht; have := Xk hi; omega
   have hw' : ∀ t ∈ ps, t.wf := fun t ht => by obtain ⟨i, hi, rfl⟩ := hget t ht; exact Ji hwf.2 hi
   have hb' : ∀ t ∈ ps, t.bytes ≤ 12000 := fun t ht => by obtain ⟨i, hi, rfl⟩ := hget t ht; have := J5 hi; omega
   have hlen : ps.length ≤ 12000 := by have := Xi (h :: ps); simp only [Tr.bytes] at hby; simp only [List.length_cons] at this; omega
   have hr := hok r h2
   by_cases hcap : c = 1
   · subst hcap
     have hps : ps = [] := by cases ps with
      | nil => rfl
      | cons a b => simp at h3
     subst hps
     obtain ⟨ys, _, _, e0⟩ := row_rest h6 h5
     have := asExpr_list0 h ok w r off (Tr.list [h]).bytes (Tr.list [h]).size (Tr.list [h]).depth hr e0
     simpa only [Zy, Z1, List.length_cons, List.length_nil] using this
   · have := asExpr_list n ih h ps c ok w r off xs (Tr.list (h :: ps)).bytes (Tr.list (h :: ps)).size (Tr.list (h :: ps)).depth hd' hw' hb' h5 h6 hr hok (by simpa using h3) h4 hlen hcap
     simpa only [Zy, Z1, List.length_cons] using this
theorem Z85 : ∀ n, Z2w n
 | 0 => asExpr_zero
 | n + 1 => asExpr_succ n (Z85 n)
def Z88 (B : Nat) (res : Option Ex) (e : Ending) (w' : World) : Prop :=
 match res with
 | none => e = .returned (.tuple #[.nilIface, .bool false]) ∨ ∃ T u, e = .returned (.tuple #[.iface T u, .bool false])
 | some x => ∃ v, e = .returned (.tuple #[v, .bool true]) ∧ EV w' (fun k => B ≤ k ∧ k < w'.heap.size) x v
theorem Z4m {B : Nat} {res : Option Ex} {e : Ending} {w' : World} (hq : Z88 B res e w') : ∃ x, e = .returned (.tuple #[x, .bool res.isSome]) := by
 unfold Z88 at hq
 cases res with
 | none => rcases hq with hq | ⟨T, u, hq⟩ <;> exact ⟨_, hq⟩
 | some x => obtain ⟨v, hq, _⟩ := hq; exact ⟨_, hq⟩
theorem rdPost_of {B : Nat} {ok : Nat → Prop} {res : Option Ex} {e : Ending} {w' : World} (h : Zu ok res e w') (hk : ∀ k, ok k → B ≤ k ∧ k < w'.heap.size) : Z88 B res e w' := by
 unfold Zu at h
 cases res with
 | none => exact h
 | some x => obtain ⟨v, hq, hv⟩ := h; exact ⟨v, hq, EV.move hk (fun _ _ => rfl) x v hv⟩
theorem Z76 (s : ByteArray) (hs : s.size ≤ 1048576) (w : World) :
 Calls prog 34 #[.string s] w fun e w' => Z88 w.heap.size (Zp s.data.toList) e w' ∧ Below w.heap.size w w' := by
 cases hp : Zt s.data.toList with
 | none =>
   have C := H_ (Z3j hs hp)
   have HR := H_ (Kr hp)
   clear hp
   go_enter func34, ntmps34
   go_wp2_with (go_at_call 40; go_must (refine (C.out _).mono ?_; rintro e w1 ⟨rfl, hb1⟩))
   go_ret2
   exact ⟨by rw [HR.out]; exact .inl rfl, hb1.alloc hb1.size _⟩
 | some t =>
   have C := H_ (Z3i hs hp)
   have hg := Yk hp
   have HR := H_ (J8 hp)
   have hst : t.size ≤ 12000 := by have := (Q9 t hg.1).1; have := hg.2; omega
   have CE : Hid (∀ (w1 W : World) (B : Nat) p n c, FV nI w1 (fun k => B ≤ k ∧ k < w1.heap.size) t (nI t (.slice p n c)) → Below w1.heap.size w1 W → Calls prog 70 #[.agg #[.string (bs (Z1 t)), .slice p n c, .int .i64 t.bytes, .int .i64 t.size, .int .i64 t.depth]] W fun e w' => Zu (fun k => B ≤ k ∧ k < w1.heap.size) (Zy t) e w' ∧ Below W.heap.size W w') :=
    H_ (fun w1 W B p n c hv hW => Z85 (t.depth + 1) t p n c _ W (by omega) hg.1 (by have := hg.2; omega) (hv.below hW (fun k hk => hk.2)) (fun k hk => Nat.lt_of_lt_of_le hk.2 hW.size))
   clear hg
   by_cases h120 : t.size ≤ 120
   · have hd : ¬ (120 : Int) < (t.size : Int) := by omega
     have HR2 := H_ (show Zp s.data.toList = Zy t by rw [HR.out, if_pos h120])
     clear hp HR
     go_enter func34, ntmps34
     go_wp2_with (first | (go_at_call 40; go_must (refine (C.out _).mono ?_; rintro e w1 ⟨⟨p, n, c, rfl, hv⟩, hb1⟩)) | (go_at_call 70; go_must (refine (CE.out w1 _ _ p n c hv (Z5 _ _)).mono ?_; rintro e w2 ⟨hq, hb2⟩; obtain ⟨x, y, rfl⟩ := V6 hq)))
     go_ret2
     have hs1 := hb1.size
     have hs2 := hb2.size
     simp only [Jg] at hs2
     exact ⟨by rw [HR2.out]; exact rdPost_of hq (fun k hk => ⟨hk.1, by omega⟩), (hb1.alloc hb1.size _).trans (hb2.mono (by simp; omega))⟩
   · have hd : (120 : Int) < (t.size : Int) := by omega
     have HR2 := H_ (show Zp s.data.toList = none by rw [HR.out, if_neg h120])
     clear hp HR CE
     go_enter func34, ntmps34
     go_wp2_with (go_at_call 40; go_must (refine (C.out _).mono ?_; rintro e w1 ⟨⟨p, n, c, rfl, hv⟩, hb1⟩))
     go_ret2
     exact ⟨by rw [HR2.out]; exact .inl rfl, hb1.alloc hb1.size _⟩
end Go.Proofs.YtjaaalojcdbcpaaGreatDoor
