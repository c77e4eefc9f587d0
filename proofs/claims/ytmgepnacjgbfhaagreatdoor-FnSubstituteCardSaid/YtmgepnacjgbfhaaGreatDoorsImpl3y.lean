/- The program: the type of an expression, of every kind. -/
import Derived.Test.YtmgepnacjgbfhaaGreatDoorsImpl3t
import Derived.Test.YtmgepnacjgbfhaaGreatDoorsImpl3i
namespace Go.Proofs.YtmgepnacjgbfhaaGreatDoor
open Go.RowKit Go.Proofs.Tryz
set_option maxRecDepth 8000
set_option maxHeartbeats 20000000
set_option linter.unusedVariables false
set_option linter.unusedSimpArgs false
theorem Z4c {x : Ex} (ih : TyC x) {ok : Nat → Prop} {env : List (Nm × Tr)} {pe : Option Addr} {w : World} {v : Value} (henv : Qu env) (hty : Kf x) (hok : ∀ k, ok k → k < w.heap.size) (hfr : FrO w ok env (.pointer pe)) (hv : EV w ok x v) (W : World) (hW : Below w.heap.size w W) :
 Calls prog 19 #[.pointer pe, v] W fun e w' => Ty3 W ok (tyR env x) e w' ∧ Below W.heap.size W w' :=
 ih ok env pe v W henv hty (fun k hk => Nat.lt_of_lt_of_le (hok k hk) hW.size) (hfr.below hW hok) (hv.below hW hok)
theorem kids1 {a : Ex} {Tx : TypeId} {ux : Value} (iha : TyC a) {ok : Nat → Prop} {env : List (Nm × Tr)} {pe : Option Addr} {w : World} (henv : Qu env) (hok : ∀ k, ok k → k < w.heap.size) (hfr : FrO w ok env (.pointer pe)) (hta : Kf a) (hx : EV w ok a (.iface Tx ux)) :
 Hid (∀ w1 b, Below w.heap.size w w1 → w1.heap[b]? = some (.cells #[.iface Tx ux] 44 (0, 0)) → Calls prog 43 #[.pointer pe, .slice (some ⟨b, 0, none⟩) 1 1] w1 fun e w' => Tys3 w1 ok (Jc env [a]) e w' ∧ Below w1.heap.size w1 w') := H_ (fun w1 b h1 hb =>
 Z4b ok env pe [a] [.iface Tx ux] b 1 w1 (fun k hk => Nat.lt_of_lt_of_le (hok k hk) h1.size) rfl (by decide) (by
  intro j hj
  match j, hj with
  | 0, _ => exact ⟨_, _, rfl, fun W' hW' => Z4c iha henv hta hok hfr hx W' (h1.trans (hW'.mono h1.size))⟩) hb)
theorem kids2 {a c : Ex} {Tx Ty : TypeId} {ux uy : Value} (iha : TyC a) (ihc : TyC c) {ok : Nat → Prop} {env : List (Nm × Tr)} {pe : Option Addr} {w : World} (henv : Qu env) (hok : ∀ k, ok k → k < w.heap.size) (hfr : FrO w ok env (.pointer pe)) (hta : Kf a) (htc : Kf c) (hx : EV w ok a (.iface Tx ux)) (hy : EV w ok c (.iface Ty uy)) :
 Hid (∀ w1 b, Below w.heap.size w w1 → w1.heap[b]? = some (.cells #[.iface Tx ux, .iface Ty uy] 44 (0, 0)) → Calls prog 43 #[.pointer pe, .slice (some ⟨b, 0, none⟩) 2 2] w1 fun e w' => Tys3 w1 ok (Jc env [a, c]) e w' ∧ Below w1.heap.size w1 w') := H_ (fun w1 b h1 hb =>
 Z4b ok env pe [a, c] [.iface Tx ux, .iface Ty uy] b 2 w1 (fun k hk => Nat.lt_of_lt_of_le (hok k hk) h1.size) rfl (by decide) (by
  intro j hj
  match j, hj with
  | 0, _ => exact ⟨_, _, rfl, fun W' hW' => Z4c iha henv hta hok hfr hx W' (h1.trans (hW'.mono h1.size))⟩
  | 1, _ => exact ⟨_, _, rfl, fun W' hW' => Z4c ihc henv htc hok hfr hy W' (h1.trans (hW'.mono h1.size))⟩) hb)
theorem kids3 {a c d : Ex} {Tx Ty Tz : TypeId} {ux uy uz : Value} (iha : TyC a) (ihc : TyC c) (ihd : TyC d) {ok : Nat → Prop} {env : List (Nm × Tr)} {pe : Option Addr} {w : World} (henv : Qu env) (hok : ∀ k, ok k → k < w.heap.size) (hfr : FrO w ok env (.pointer pe)) (hta : Kf a) (htc : Kf c) (htd : Kf d) (hx : EV w ok a (.iface Tx ux)) (hy : EV w ok c (.iface Ty uy)) (hz : EV w ok d (.iface Tz uz)) :
 Hid (∀ w1 b, Below w.heap.size w w1 → w1.heap[b]? = some (.cells #[.iface Tx ux, .iface Ty uy, .iface Tz uz] 44 (0, 0)) → Calls prog 43 #[.pointer pe, .slice (some ⟨b, 0, none⟩) 3 3] w1 fun e w' => Tys3 w1 ok (Jc env [a, c, d]) e w' ∧ Below w1.heap.size w1 w') := H_ (fun w1 b h1 hb =>
 Z4b ok env pe [a, c, d] [.iface Tx ux, .iface Ty uy, .iface Tz uz] b 3 w1 (fun k hk => Nat.lt_of_lt_of_le (hok k hk) h1.size) rfl (by decide) (by
  intro j hj
  match j, hj with
  | 0, _ => exact ⟨_, _, rfl, fun W' hW' => Z4c iha henv hta hok hfr hx W' (h1.trans (hW'.mono h1.size))⟩
  | 1, _ => exact ⟨_, _, rfl, fun W' hW' => Z4c ihc henv htc hok hfr hy W' (h1.trans (hW'.mono h1.size))⟩
  | 2, _ => exact ⟨_, _, rfl, fun W' hW' => Z4c ihd henv htd hok hfr hz W' (h1.trans (hW'.mono h1.size))⟩) hb)
theorem Z3l (o : Op2) (T : TypeId) (hT : T = 127 ∨ T = 128 ∨ T = 129 ∨ T = 132 ∨ T = 109) (a c : Ex) (iha : TyC a) (ihc : TyC c) (hEV : ∀ (w : World) (ok : Nat → Prop) (v : Value), EV w ok (.two o a c) v → ∃ x y, v = .iface T (.agg #[x, y]) ∧ EV w ok a x ∧ EV w ok c y)
 (hTP : ∀ (ok5 : Nat → Prop) (ta tc : Tr) (u v5 : Value) (w5 : World), (∀ k, ok5 k → k < w5.heap.size) → Zn ta = true → Zn tc = true → Z0h w5 ok5 [ta, tc] v5 → Calls prog 44 #[.iface T u, v5] w5 fun e w' => J0 w5 ok5 (Yt o ta tc) e w' ∧ Below w5.heap.size w5 w') : TyC (.two o a c) := by
 intro ok env pe v w henv hty hok hfr hv
 have HX := hv
 obtain ⟨x, y, rfl, hx, hy⟩ := hEV _ _ _ hv
 obtain ⟨Tx, ux, rfl⟩ := hx.iface
 obtain ⟨Ty, uy, rfl⟩ := hy.iface
 have CT := kids2 iha ihc henv hok hfr hty.1 hty.2 hx hy
 cases ha : tyR env a with
 | error f =>
   rw [show Jc env [a, c] = .error f by simp only [Jc, ha]] at CT
   rw [show tyR env (.two o a c) = .error f by simp only [tyR, ha]]
   exact Z66 T hT ok pe w Tx Ty ux uy f hok CT
 | ok ta =>
   cases hc : tyR env c with
   | error f =>
     rw [show Jc env [a, c] = .error f by simp only [Jc, ha, hc]] at CT
     rw [show tyR env (.two o a c) = .error f by simp only [tyR, ha, hc]]
     exact Z66 T hT ok pe w Tx Ty ux uy f hok CT
   | ok tc =>
     have hta := Q8 a env ta henv hty.1 ha
     have htc := Q8 c env tc henv hty.2 hc
     rw [show Jc env [a, c] = .ok [ta, tc] by simp only [Jc, ha, hc]] at CT
     rw [show tyR env (.two o a c) = Ka (.two o a c) (Yt o ta tc) by simp only [tyR, ha, hc]]
     exact ty_two_ok T hT ok pe w Tx Ty ux uy _ [ta, tc] _ hok CT (H_ (fun w5 v5 ok5 h5 hr => hTP ok5 ta tc _ v5 w5 h5 hta htc hr)) (H_ HX)
theorem ty_oneG (o : Op1) (T : TypeId) (hT : T = 136 ∨ T = 137) (a : Ex) (iha : TyC a) (hEV : ∀ (w : World) (ok : Nat → Prop) (v : Value), EV w ok (.one o a) v → ∃ x, v = .iface T (.agg #[x]) ∧ EV w ok a x)
 (hTP : ∀ (ok5 : Nat → Prop) (ta : Tr) (u v5 : Value) (w5 : World), (∀ k, ok5 k → k < w5.heap.size) → Zn ta = true → Z0h w5 ok5 [ta] v5 → Calls prog 44 #[.iface T u, v5] w5 fun e w' => J0 w5 ok5 (Qy o ta) e w' ∧ Below w5.heap.size w5 w') : TyC (.one o a) := by
 intro ok env pe v w henv hty hok hfr hv
 have HX := hv
 obtain ⟨x, rfl, hx⟩ := hEV _ _ _ hv
 obtain ⟨Tx, ux, rfl⟩ := hx.iface
 have CT := kids1 iha henv hok hfr hty hx
 cases ha : tyR env a with
 | error f =>
   rw [show Jc env [a] = .error f by simp only [Jc, ha]] at CT
   rw [show tyR env (.one o a) = .error f by simp only [tyR, ha]]
   exact ty_one_err T hT ok pe w Tx ux f hok CT
 | ok ta =>
   have hta := Q8 a env ta henv hty ha
   rw [show Jc env [a] = .ok [ta] by simp only [Jc, ha]] at CT
   rw [show tyR env (.one o a) = Ka (.one o a) (Qy o ta) by simp only [tyR, ha]]
   exact ty_one_ok T hT ok pe w Tx ux _ [ta] _ hok CT (H_ (fun w5 v5 ok5 h5 hr => hTP ok5 ta _ v5 w5 h5 hta hr)) (H_ HX)
theorem ty_add (a c : Ex) (iha : TyC a) (ihc : TyC c) : TyC (.two .add a c) :=
 Z3l .add 127 (by decide) a c iha ihc (fun _ _ _ h => by simp only [EV] at h; exact h) (fun ok5 ta tc u v5 w5 h5 hta htc hr => tp_add ok5 ta tc u v5 w5 h5 (Ze hta).1 (Ze htc).1 hr)
theorem ty_sub (a c : Ex) (iha : TyC a) (ihc : TyC c) : TyC (.two .sub a c) :=
 Z3l .sub 128 (by decide) a c iha ihc (fun _ _ _ h => by simp only [EV] at h; exact h) (fun ok5 ta tc u v5 w5 h5 hta htc hr => tp_sub ok5 ta tc u v5 w5 h5 (Ze hta).1 (Ze htc).1 hr)
theorem ty_mul (a c : Ex) (iha : TyC a) (ihc : TyC c) : TyC (.two .mul a c) :=
 Z3l .mul 129 (by decide) a c iha ihc (fun _ _ _ h => by simp only [EV] at h; exact h) (fun ok5 ta tc u v5 w5 h5 hta htc hr => tp_mul ok5 ta tc u v5 w5 h5 (Ze hta).1 (Ze htc).1 hr)
theorem ty_call (a c : Ex) (iha : TyC a) (ihc : TyC c) : TyC (.two .call a c) :=
 Z3l .call 132 (by decide) a c iha ihc (fun _ _ _ h => by simp only [EV] at h; exact h) (fun ok5 ta tc u v5 w5 h5 hta htc hr => tp_call ok5 ta tc u v5 w5 h5 hta htc hr)
theorem ty_pair (a c : Ex) (iha : TyC a) (ihc : TyC c) : TyC (.two .pair a c) :=
 Z3l .pair 109 (by decide) a c iha ihc (fun _ _ _ h => by simp only [EV] at h; exact h) (fun ok5 ta tc u v5 w5 h5 hta htc hr => tp_pair ok5 ta tc u v5 w5 h5 hta htc hr)
theorem ty_fst (a : Ex) (iha : TyC a) : TyC (.one .fst a) :=
 ty_oneG .fst 136 (by decide) a iha (fun _ _ _ h => by simp only [EV] at h; exact h) (fun ok5 ta u v5 w5 h5 hta hr => tp_fst ok5 ta u v5 w5 h5 hta hr)
theorem ty_snd (a : Ex) (iha : TyC a) : TyC (.one .snd a) :=
 ty_oneG .snd 137 (by decide) a iha (fun _ _ _ h => by simp only [EV] at h; exact h) (fun ok5 ta u v5 w5 h5 hta hr => tp_snd ok5 ta u v5 w5 h5 hta hr)
theorem ty_cond (a c d : Ex) (iha : TyC a) (ihc : TyC c) (ihd : TyC d) : TyC (.cond a c d) := by
 intro ok env pe v w henv hty hok hfr hv
 have HX := hv
 simp only [EV] at hv
 obtain ⟨x, y, z, rfl, hx, hy, hz⟩ := hv
 obtain ⟨Tx, ux, rfl⟩ := hx.iface
 obtain ⟨Ty, uy, rfl⟩ := hy.iface
 obtain ⟨Tz, uz, rfl⟩ := hz.iface
 have CT := kids3 iha ihc ihd henv hok hfr hty.1 hty.2.1 hty.2.2 hx hy hz
 cases ha : tyR env a with
 | error f =>
   rw [show Jc env [a, c, d] = .error f by simp only [Jc, ha]] at CT
   rw [show tyR env (.cond a c d) = .error f by simp only [tyR, ha]]
   exact Z4d ok pe w Tx Ty Tz ux uy uz f hok CT
 | ok ta =>
   cases hc : tyR env c with
   | error f =>
     rw [show Jc env [a, c, d] = .error f by simp only [Jc, ha, hc]] at CT
     rw [show tyR env (.cond a c d) = .error f by simp only [tyR, ha, hc]]
     exact Z4d ok pe w Tx Ty Tz ux uy uz f hok CT
   | ok tc =>
     cases hd : tyR env d with
     | error f =>
       rw [show Jc env [a, c, d] = .error f by simp only [Jc, ha, hc, hd]] at CT
       rw [show tyR env (.cond a c d) = .error f by simp only [tyR, ha, hc, hd]]
       exact Z4d ok pe w Tx Ty Tz ux uy uz f hok CT
     | ok td =>
       have hta := Q8 a env ta henv hty.1 ha
       have htc := Q8 c env tc henv hty.2.1 hc
       have htd := Q8 d env td henv hty.2.2 hd
       rw [show Jc env [a, c, d] = .ok [ta, tc, td] by simp only [Jc, ha, hc, hd]] at CT
       rw [show tyR env (.cond a c d) = Ka (.cond a c d) (if Ya ta = true ∧ tc.text = td.text then some tc else none) by simp only [tyR, ha, hc, hd]]
       exact ty_if_ok ok pe w Tx Ty Tz ux uy uz _ [ta, tc, td] _ hok CT (H_ (fun w5 v5 ok5 h5 hr => tp_if ok5 ta tc td _ v5 w5 h5 hta htc htd hr)) (H_ HX)
theorem tfun_c (f s : Nm) (A B : Tr) (c : Ex) (ihc : TyC c) (ok : Nat → Prop) (env : List (Nm × Tr)) (pe : Option Addr) (w : World) (ua ub : ByteArray) (pa pb : Option Addr) (na ca nb cb : Nat) (a1 a2 a3 b1 b2 b3 : Int) (fn xn : ByteArray) (Ty : TypeId) (uy : Value)
 (henv : Qu env) (hA : Zn A = true) (hB : Zn B = true) (hty : Kf c) (hok : ∀ k, ok k → k < w.heap.size) (hfr : FrO w ok env (.pointer pe)) (hfn : fn = bs f) (hxn : xn = bs s)
 (hnA : ∀ v, nI A v = [.string ua, v, .int .i64 a1, .int .i64 a2, .int .i64 a3]) (hnB : ∀ v, nI B v = [.string ub, v, .int .i64 b1, .int .i64 b2, .int .i64 b3])
 (hvA : FV nI w ok A (nI A (.slice pa na ca))) (hvB : FV nI w ok B (nI B (.slice pb nb cb))) (hy : EV w ok c (.iface Ty uy)) (HX : EV w ok (.func f s A B c) (.iface 79 (.agg #[.string fn, .string xn, .string ua, .slice pa na ca, .int .i64 a1, .int .i64 a2, .int .i64 a3, .string ub, .slice pb nb cb, .int .i64 b1, .int .i64 b2, .int .i64 b3, .iface Ty uy]))) :
 Calls prog 42 #[.pointer pe, .agg #[.string fn, .string xn, .string ua, .slice pa na ca, .int .i64 a1, .int .i64 a2, .int .i64 a3, .string ub, .slice pb nb cb, .int .i64 b1, .int .i64 b2, .int .i64 b3, .iface Ty uy]] w fun e w' => Ty3 w ok (tyR env (.func f s A B c)) e w' ∧ Below w.heap.size w w' := by
 obtain ⟨m1, hm1⟩ : ∃ m : Int, m = (Jn 62 A B).bytes := ⟨_, rfl⟩
 obtain ⟨m2, hm2⟩ : ∃ m : Int, m = (Jn 62 A B).size := ⟨_, rfl⟩
 obtain ⟨m3, hm3⟩ : ∃ m : Int, m = (Jn 62 A B).depth := ⟨_, rfl⟩
 obtain ⟨wa, hwa⟩ : ∃ q, q = ((w.alloc (.cells #[.string fn, .string xn, .string ua, .slice pa na ca, .int .i64 a1, .int .i64 a2, .int .i64 a3, .string ub, .slice pb nb cb, .int .i64 b1, .int .i64 b2, .int .i64 b3, .iface Ty uy] 79)).alloc (.cells #[.string ⟨#[]⟩, .slice none 0 0, .int .i64 0, .int .i64 0, .int .i64 0] 49)) := ⟨_, rfl⟩
 have hBa : Below w.heap.size w wa := by rw [hwa]; exact Zi w _ _
 have hoka : ∀ k, ok k → k < wa.heap.size := fun k hk => Nat.lt_of_lt_of_le (hok k hk) hBa.size
 have CM0 := Z6t ok 62 (.inl rfl) A B (Zw hA).1 (Zw hA).2 (Zw hB).1 (Zw hB).2 ua ub a1 a2 a3 b1 b2 b3 m1 m2 m3 pa pb na ca nb cb wa hnA hnB hm1 hm2 hm3 hoka (hvA.below hBa hok) (hvB.below hBa hok)
 have hsz := Z4n 62 A B
 cases hT : mkT 62 A B with
 | none =>
   rw [show tyR env (.func f s A B c) = .error (.func f s A B c) by simp only [tyR, hT]]
   have hbig : decide (m2 ≤ 16) = false := by
    unfold mkT at hT
    split at hT
    · cases hT
    · rw [decide_eq_false_iff_not]; omega
   rw [hbig] at CM0
   subst hwa
   exact tf_no ok pe w fn xn ua ub pa pb na ca nb cb a1 a2 a3 b1 b2 b3 m1 m2 m3 Ty uy _ hok (H_ (CM0.mono fun e w' ⟨⟨r5, h1, _⟩, h2⟩ => ⟨⟨r5, h1⟩, h2⟩)) (H_ HX)
 | some T =>
   have hTe : T = Jn 62 A B := by
    unfold mkT at hT
    split at hT
    · simp only [Option.some.injEq] at hT; exact hT.symm
    · cases hT
   have hTL := mkT_ok (.inl rfl) hA hB hT
   have hsm : decide (m2 ≤ 16) = true := by
    unfold mkT at hT
    split at hT
    · rw [decide_eq_true_eq]; omega
    · cases hT
   rw [hsm, ← hTe] at CM0
   rw [← hTe] at hm1 hm2 hm3
   have hTa : bs (Z0 T) = ⟨#[]⟩ := by rw [hTe]; rfl
   have hnT : ∀ v, nI T v = [.string ⟨#[]⟩, v, .int .i64 m1, .int .i64 m2, .int .i64 m3] := fun v => by rw [← hTa, hm1, hm2, hm3]; rfl
   have hfa := hfr.below hBa hok
   have hya := hy.below hBa hok
   have CM := H_ CM0
   have CW1 : Hid (∀ W r5 b, Below wa.heap.size wa W → b < W.heap.size → FV nI W (okX wa ok b W) T (nI T (.slice (some ⟨r5, 0, none⟩) 3 3)) → b ≠ w.heap.size ∧ (b < w.heap.size → ¬ ok b) → Calls prog 39 #[.pointer pe, .string fn, .agg #[.string ⟨#[]⟩, .slice (some ⟨r5, 0, none⟩) 3 3, .int .i64 m1, .int .i64 m2, .int .i64 m3]] W fun e w' => (∃ q, e = .returned (.pointer q) ∧ FrO w' (okX wa ok b w') ((f, T) :: env) (.pointer q)) ∧ Below W.heap.size W w') := H_ (fun W r5 b hW hb hf hbo => by
    have h := withX_c hoka b env f T (.pointer pe) (some ⟨r5, 0, none⟩) 3 3 W hW hb (hfa.move (fun k hk => ⟨.inl hk, fun e => by have := hok k hk; subst e; exact hbo.2 this hk⟩) (fun k hk => hW.block k (hoka k hk))) hf
    rw [hTa, ← hm1, ← hm2, ← hm3, ← hfn] at h
    exact h)
   have CW2 : Hid (∀ W q b, Below wa.heap.size wa W → b < W.heap.size → FrO W (okX wa ok b W) ((f, T) :: env) (.pointer q) → w.heap.size < b → Calls prog 39 #[.pointer q, .string xn, .agg #[.string ua, .slice pa na ca, .int .i64 a1, .int .i64 a2, .int .i64 a3]] W fun e w' => (∃ q, e = .returned (.pointer q) ∧ FrO w' (okX wa ok b w') ((s, A) :: (f, T) :: env) (.pointer q)) ∧ Below W.heap.size W w') := H_ (fun W q b hW hb hq hbo => by
    have h := withX_c hoka b _ s A (.pointer q) pa na ca W hW hb hq ((hvA.below hBa hok).move (fun k hk => ⟨.inl hk, fun e => by have := hok k hk; omega⟩) (fun k hk => hW.block k (hoka k hk)) _ _)
    have e5 := hnA (.slice pa na ca)
    simp only [nI, List.cons.injEq, Value.string.injEq, Value.int.injEq, and_true, true_and] at e5
    obtain ⟨q1, q2, q3, q4⟩ := e5
    rw [q1, q2, q3, q4, ← hxn] at h
    exact h)
   have CX : ∀ W q b, Below wa.heap.size wa W → b < W.heap.size → FrO W (okX wa ok b W) ((s, A) :: (f, T) :: env) (.pointer q) → w.heap.size < b → Calls prog 19 #[.pointer q, .iface Ty uy] W fun e w' => Ty3X wa ok b (tyR ((s, A) :: (f, T) :: env) c) e w' ∧ Below W.heap.size W w' := fun W q b hW hb hq hbo =>
    tyX ihc hoka b (fun h => by have := hok b h; omega) ((henv.cons hTL).cons hA) hty hya W q hW hb hq
   cases hc : tyR ((s, A) :: (f, T) :: env) c with
   | error g =>
     rw [hc] at CX
     rw [show tyR env (.func f s A B c) = .error g by simp only [tyR, hT, hc]]
     subst hwa
     exact tf_err ok pe w fn xn ua ub pa pb na ca nb cb a1 a2 a3 b1 b2 b3 m1 m2 m3 Ty uy (.func f s A B c) g f s A B T env hok CM CW1 CW2 (H_ CX)
   | ok t =>
     rw [hc] at CX
     have htL := Q8 c _ t ((henv.cons hTL).cons hA) hty hc
     obtain ⟨g, t1, t2, t3, hg, ht1, ht2, ht3, hq⟩ := Zm t
     have CB : Hid (∀ W q b, Below wa.heap.size wa W → b < W.heap.size → FrO W (okX wa ok b W) ((s, A) :: (f, T) :: env) (.pointer q) → w.heap.size < b → Calls prog 19 #[.pointer q, .iface Ty uy] W fun e w' => (∃ p m c, e = .returned (.tuple #[.agg #[.string g, .slice p m c, .int .i64 t1, .int .i64 t2, .int .i64 t3], .nilIface]) ∧ FV nI w' (okX wa ok b w') t (nI t (.slice p m c))) ∧ Below W.heap.size W w') := by rw [hg, ht1, ht2, ht3]; exact H_ CX
     have CQ : Hid (∀ W p m c, Below wa.heap.size wa W → FV nI W (okN wa W ok) t (nI t (.slice p m c)) → Calls prog 82 #[.agg #[.string g, .slice p m c, .int .i64 t1, .int .i64 t2, .int .i64 t3], .agg #[.string ub, .slice pb nb cb, .int .i64 b1, .int .i64 b2, .int .i64 b3]] W fun e w' => Z1b (t.text = B.text) e ∧ Below W.heap.size W w') := H_ (fun W p m c hW hf => by
      have h := Z4w (Ze htL).1 (Ze hB).1 hf ((hvB.below hBa hok).below hW hoka) (J5 hoka hW.size) (fun k hk => Nat.lt_of_lt_of_le (hoka k hk) hW.size)
      have e5 := hnB (.slice pb nb cb)
      simp only [nI, List.cons.injEq, Value.string.injEq, Value.int.injEq, and_true, true_and] at e5
      obtain ⟨q1, q2, q3, q4⟩ := e5
      rw [q1, q2, q3, q4, ← hg, ← ht1, ← ht2, ← ht3] at h
      exact h)
     subst hwa
     have hfin := tf_ok ok pe w fn xn ua ub pa pb na ca nb cb a1 a2 a3 b1 b2 b3 m1 m2 m3 Ty uy (.func f s A B c) t g t1 t2 t3 (t.text = B.text) (fun z => if z = true then .ok T else .error (.func f s A B c)) f s A B T env hok CM CW1 CW2 CB CQ rfl rfl (H_ ⟨hTa, hm1.symm, hm2.symm, hm3.symm⟩) (H_ HX)
     refine hfin.mono fun e w' ⟨⟨z, hz, h1⟩, h2⟩ => ⟨?_, h2⟩
     rw [show tyR env (.func f s A B c) = if z = true then .ok T else .error (.func f s A B c) by
      simp only [tyR, hT, hc]
      by_cases hp : t.text = B.text
      · rw [if_pos hp, if_pos (hz.2 hp)]; rfl
      · rw [if_neg hp, if_neg (fun e => hp (hz.1 e))]; rfl]
     exact h1
theorem ty_fun (f s : Nm) (A B : Tr) (c : Ex) (ihc : TyC c) : TyC (.func f s A B c) := by
 intro ok env pe v w henv hty hok hfr hv
 have HX := hv
 simp only [EV] at hv
 obtain ⟨pa, na, ca, pb, nb, cb, y, rfl, hA, hBt, hy⟩ := hv
 obtain ⟨Ty, uy, rfl⟩ := hy.iface
 obtain ⟨ua, a1, a2, a3, hua, ha1, ha2, ha3, hnA⟩ := Zm A
 obtain ⟨ub, b1, b2, b3, hub, hb1, hb2, hb3, hnB⟩ := Zm B
 obtain ⟨fn, hfn⟩ : ∃ q, q = bs f := ⟨_, rfl⟩
 obtain ⟨xn, hxn⟩ : ∃ q, q = bs s := ⟨_, rfl⟩
 obtain ⟨R, hR⟩ : ∃ R, R = tyR env (.func f s A B c) := ⟨_, rfl⟩
 rw [hnA, hnB, ← hfn, ← hxn] at HX ⊢
 simp only [List.cons_append, List.nil_append] at HX ⊢
 obtain ⟨wa, hwa⟩ : ∃ wa, wa = (((w.alloc (.cells #[.string ⟨#[]⟩, .slice none 0 0, .int .i64 0, .int .i64 0, .int .i64 0] 49)).alloc (.cells #[.string ⟨#[]⟩, .slice none 0 0, .int .i64 0, .int .i64 0, .int .i64 0] 49)).alloc (.cells #[.string fn, .string xn, .string ua, .slice pa na ca, .int .i64 a1, .int .i64 a2, .int .i64 a3, .string ub, .slice pb nb cb, .int .i64 b1, .int .i64 b2, .int .i64 b3, .iface Ty uy] 79)) := ⟨_, rfl⟩
 have hBa : Below w.heap.size w wa := by rw [hwa]; exact Q6 w _ _ _
 have hsa : wa.heap.size = w.heap.size + 3 := by rw [hwa]; simp
 have hoka : ∀ k, ok k → k < wa.heap.size := fun k hk => by have := hok k hk; omega
 have y4 : wa.heap[w.heap.size]? = some (.cells #[.string ⟨#[]⟩, .slice none 0 0, .int .i64 0, .int .i64 0, .int .i64 0] 49 (0, 0)) := by rw [hwa]; exact Z5 (Z5 (heap_alloc_new w (.cells #[.string ⟨#[]⟩, .slice none 0 0, .int .i64 0, .int .i64 0, .int .i64 0] 49)))
 have CF : Hid (Calls prog 42 #[.pointer pe, .agg #[.string fn, .string xn, .string ua, .slice pa na ca, .int .i64 a1, .int .i64 a2, .int .i64 a3, .string ub, .slice pb nb cb, .int .i64 b1, .int .i64 b2, .int .i64 b3, .iface Ty uy]] wa fun e w' => (∃ g p m c, ∃ i1 i2 i3 : Int, ∃ F, e = .returned (.tuple #[.agg #[.string g, .slice p m c, .int .i64 i1, .int .i64 i2, .int .i64 i3], F]) ∧ Ty3 wa ok R (.returned (.tuple #[.agg #[.string g, .slice p m c, .int .i64 i1, .int .i64 i2, .int .i64 i3], F])) w') ∧ Below wa.heap.size wa w') := H_ (by
  have h := tfun_c f s A B c ihc ok env pe wa ua ub pa pb na ca nb cb a1 a2 a3 b1 b2 b3 fn xn Ty uy henv hty.1 hty.2.1 hty.2.2 hoka (hfr.below hBa hok) hfn hxn hnA hnB (hA.below hBa hok) (hBt.below hBa hok) (hy.below hBa hok) (HX.below hBa hok)
  rw [← hR] at h
  refine h.mono fun e w' ⟨h1, h2⟩ => ?_
  obtain ⟨g, p, m, c, i1, i2, i3, F, rfl⟩ := ty3_shape h1
  exact ⟨⟨g, p, m, c, i1, i2, i3, F, rfl, h1⟩, h2⟩)
 rw [← hR]
 have HOK := H_ hok
 clear HX hA hBt hy hnA hnB hua ha1 ha2 ha3 hub hb1 hb2 hb3 hfn hxn hR hfr henv hty ihc hoka hok
 go_enter func19, ntmps19
 go_wp2_with fail
 rw [← hwa]
 go_wp2_with (go_at_call 42; go_must (refine (CF.out).mono ?_; rintro e w5 ⟨⟨g, p, m, c, i1, i2, i3, F, rfl, hR5⟩, hb5⟩; have hs5 := hb5.size; have y5 := Z1 hb5 (by omega) y4; obtain ⟨fb0, fb1, fb2, fb3, fb4⟩ := Zf y5; obtain ⟨zb0, zb1, zb2, zb3, zb4⟩ := Zb y5; have O4 := Zg y5 (.string g) (.slice p m c) (.int .i64 i1) (.int .i64 i2) (.int .i64 i3); obtain ⟨r0, r1, r2, r3, r4⟩ := Zb O4))
 refine bodyPost_ret (v := .tuple #[.agg #[.string g, .slice p m c, .int .i64 i1, .int .i64 i2, .int .i64 i3], F]) (by simp [results, results19, go_sem, r0, r1, r2, r3, r4]) rfl ⟨?_, ?_⟩
 · exact Z61 HOK.out (b := w.heap.size) (Nat.le_refl _) (by omega) hR5 _ _ _ _ _
 · exact Ym (hBa.trans (hb5.mono hBa.size)) (Nat.le_refl _) _ _ _ _ _
theorem J2 : ∀ x : Ex, TyC x
 | .name s => ty_name s
 | .num n => ty_num n
 | .two .add a c => ty_add a c (J2 a) (J2 c)
 | .two .sub a c => ty_sub a c (J2 a) (J2 c)
 | .two .mul a c => ty_mul a c (J2 a) (J2 c)
 | .two .call a c => ty_call a c (J2 a) (J2 c)
 | .two .pair a c => ty_pair a c (J2 a) (J2 c)
 | .one .fst a => ty_fst a (J2 a)
 | .one .snd a => ty_snd a (J2 a)
 | .cond a c d => ty_cond a c d (J2 a) (J2 c) (J2 d)
 | .lete s a c => ty_let s a c (J2 a) (J2 c)
 | .func f s A B c => ty_fun f s A B c (J2 c)
end Go.Proofs.YtmgepnacjgbfhaaGreatDoor
