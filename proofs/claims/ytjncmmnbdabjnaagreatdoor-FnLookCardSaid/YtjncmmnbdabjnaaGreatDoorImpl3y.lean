/- The program: the type of an expression, of every kind. -/
import Derived.Test.YtjncmmnbdabjnaaGreatDoorImpl3t
import Derived.Test.YtjncmmnbdabjnaaGreatDoorImpl3i
namespace Go.Proofs.YtjncmmnbdabjnaaGreatDoor
open Go.RowKit
set_option maxRecDepth 8000
set_option linter.unusedSimpArgs false
set_option linter.unusedVariables false
theorem ty_kid {x : Ex} (ih : TyC x) {ok : Nat → Prop} {env : List (Nm × Tr)} {pe : Option Addr} {w : World} {v : Value} (henv : envOK env) (hty : tyEx x) (hok : ∀ k, ok k → k < w.heap.size) (hfr : FrO w ok env (.pointer pe)) (hv : EV w ok x v) (W : World) (hW : Below w.heap.size w W) :
    Calls Tryz.prog 47 #[.pointer pe, v] W fun e w' => Ty3 W ok (tyR env x) e w' ∧ Below W.heap.size W w' :=
  ih ok env pe v W henv hty (fun k hk => Nat.lt_of_lt_of_le (hok k hk) hW.size) (hfr.below hW hok) (hv.below hW hok)
theorem kids1 {a : Ex} {Tx : TypeId} {ux : Value} (iha : TyC a) {ok : Nat → Prop} {env : List (Nm × Tr)} {pe : Option Addr} {w : World} (henv : envOK env) (hok : ∀ k, ok k → k < w.heap.size) (hfr : FrO w ok env (.pointer pe)) (hta : tyEx a) (hx : EV w ok a (.iface Tx ux)) :
    Hid (∀ w1 b, Below w.heap.size w w1 → w1.heap[b]? = some (.cells #[.iface Tx ux] 56 (0, 0)) → Calls Tryz.prog 80 #[.pointer pe, .slice (some ⟨b, 0, none⟩) 1 1] w1 fun e w' => Tys3 w1 ok (tysR env [a]) e w' ∧ Below w1.heap.size w1 w') := Lib.hid (fun w1 b h1 hb =>
  typesOf_c ok env pe [a] [.iface Tx ux] b 1 w1 (fun k hk => Nat.lt_of_lt_of_le (hok k hk) h1.size) rfl (by decide) (by
    intro j hj
    match j, hj with
    | 0, _ => exact ⟨_, _, rfl, fun W' hW' => ty_kid iha henv hta hok hfr hx W' (h1.trans (hW'.mono h1.size))⟩) hb)
theorem kids2 {a c : Ex} {Tx Ty : TypeId} {ux uy : Value} (iha : TyC a) (ihc : TyC c) {ok : Nat → Prop} {env : List (Nm × Tr)} {pe : Option Addr} {w : World} (henv : envOK env) (hok : ∀ k, ok k → k < w.heap.size) (hfr : FrO w ok env (.pointer pe)) (hta : tyEx a) (htc : tyEx c) (hx : EV w ok a (.iface Tx ux)) (hy : EV w ok c (.iface Ty uy)) :
    Hid (∀ w1 b, Below w.heap.size w w1 → w1.heap[b]? = some (.cells #[.iface Tx ux, .iface Ty uy] 56 (0, 0)) → Calls Tryz.prog 80 #[.pointer pe, .slice (some ⟨b, 0, none⟩) 2 2] w1 fun e w' => Tys3 w1 ok (tysR env [a, c]) e w' ∧ Below w1.heap.size w1 w') := Lib.hid (fun w1 b h1 hb =>
  typesOf_c ok env pe [a, c] [.iface Tx ux, .iface Ty uy] b 2 w1 (fun k hk => Nat.lt_of_lt_of_le (hok k hk) h1.size) rfl (by decide) (by
    intro j hj
    match j, hj with
    | 0, _ => exact ⟨_, _, rfl, fun W' hW' => ty_kid iha henv hta hok hfr hx W' (h1.trans (hW'.mono h1.size))⟩
    | 1, _ => exact ⟨_, _, rfl, fun W' hW' => ty_kid ihc henv htc hok hfr hy W' (h1.trans (hW'.mono h1.size))⟩) hb)
theorem kids3 {a c d : Ex} {Tx Ty Tz : TypeId} {ux uy uz : Value} (iha : TyC a) (ihc : TyC c) (ihd : TyC d) {ok : Nat → Prop} {env : List (Nm × Tr)} {pe : Option Addr} {w : World} (henv : envOK env) (hok : ∀ k, ok k → k < w.heap.size) (hfr : FrO w ok env (.pointer pe)) (hta : tyEx a) (htc : tyEx c) (htd : tyEx d) (hx : EV w ok a (.iface Tx ux)) (hy : EV w ok c (.iface Ty uy)) (hz : EV w ok d (.iface Tz uz)) :
    Hid (∀ w1 b, Below w.heap.size w w1 → w1.heap[b]? = some (.cells #[.iface Tx ux, .iface Ty uy, .iface Tz uz] 56 (0, 0)) → Calls Tryz.prog 80 #[.pointer pe, .slice (some ⟨b, 0, none⟩) 3 3] w1 fun e w' => Tys3 w1 ok (tysR env [a, c, d]) e w' ∧ Below w1.heap.size w1 w') := Lib.hid (fun w1 b h1 hb =>
  typesOf_c ok env pe [a, c, d] [.iface Tx ux, .iface Ty uy, .iface Tz uz] b 3 w1 (fun k hk => Nat.lt_of_lt_of_le (hok k hk) h1.size) rfl (by decide) (by
    intro j hj
    match j, hj with
    | 0, _ => exact ⟨_, _, rfl, fun W' hW' => ty_kid iha henv hta hok hfr hx W' (h1.trans (hW'.mono h1.size))⟩
    | 1, _ => exact ⟨_, _, rfl, fun W' hW' => ty_kid ihc henv htc hok hfr hy W' (h1.trans (hW'.mono h1.size))⟩
    | 2, _ => exact ⟨_, _, rfl, fun W' hW' => ty_kid ihd henv htd hok hfr hz W' (h1.trans (hW'.mono h1.size))⟩) hb)
theorem ty_add (a c : Ex) (iha : TyC a) (ihc : TyC c) : TyC (.two .add a c) := by
  intro ok env pe v w henv hty hok hfr hv
  have HX := hv
  simp only [EV] at hv
  obtain ⟨x, y, rfl, hx, hy⟩ := hv
  obtain ⟨Tx, ux, rfl⟩ := hx.iface
  obtain ⟨Ty, uy, rfl⟩ := hy.iface
  have CT := kids2 iha ihc henv hok hfr hty.1 hty.2 hx hy
  cases ha : tyR env a with
  | error f =>
    rw [show tysR env [a, c] = .error f by simp only [tysR, ha]] at CT
    rw [show tyR env (.two .add a c) = .error f by simp only [tyR, ha]]
    exact ty_add_err ok pe w Tx Ty ux uy f hok CT
  | ok ta =>
    cases hc : tyR env c with
    | error f =>
      rw [show tysR env [a, c] = .error f by simp only [tysR, ha, hc]] at CT
      rw [show tyR env (.two .add a c) = .error f by simp only [tyR, ha, hc]]
      exact ty_add_err ok pe w Tx Ty ux uy f hok CT
    | ok tc =>
      have hta := tyR_ok a env ta henv hty.1 ha
      have htc := tyR_ok c env tc henv hty.2 hc
      rw [show tysR env [a, c] = .ok [ta, tc] by simp only [tysR, ha, hc]] at CT
      rw [show tyR env (.two .add a c) = orBad (.two .add a c) (join2 .add ta tc) by simp only [tyR, ha, hc]]
      exact ty_add_ok ok pe w Tx Ty ux uy _ [ta, tc] _ hok CT (Lib.hid (fun w5 v5 ok5 h5 hr => tp_add ok5 ta tc _ v5 w5 h5 (isTyL_small hta).1 (isTyL_small htc).1 hr)) (Lib.hid HX)
theorem ty_sub (a c : Ex) (iha : TyC a) (ihc : TyC c) : TyC (.two .sub a c) := by
  intro ok env pe v w henv hty hok hfr hv
  have HX := hv
  simp only [EV] at hv
  obtain ⟨x, y, rfl, hx, hy⟩ := hv
  obtain ⟨Tx, ux, rfl⟩ := hx.iface
  obtain ⟨Ty, uy, rfl⟩ := hy.iface
  have CT := kids2 iha ihc henv hok hfr hty.1 hty.2 hx hy
  cases ha : tyR env a with
  | error f =>
    rw [show tysR env [a, c] = .error f by simp only [tysR, ha]] at CT
    rw [show tyR env (.two .sub a c) = .error f by simp only [tyR, ha]]
    exact ty_sub_err ok pe w Tx Ty ux uy f hok CT
  | ok ta =>
    cases hc : tyR env c with
    | error f =>
      rw [show tysR env [a, c] = .error f by simp only [tysR, ha, hc]] at CT
      rw [show tyR env (.two .sub a c) = .error f by simp only [tyR, ha, hc]]
      exact ty_sub_err ok pe w Tx Ty ux uy f hok CT
    | ok tc =>
      have hta := tyR_ok a env ta henv hty.1 ha
      have htc := tyR_ok c env tc henv hty.2 hc
      rw [show tysR env [a, c] = .ok [ta, tc] by simp only [tysR, ha, hc]] at CT
      rw [show tyR env (.two .sub a c) = orBad (.two .sub a c) (join2 .sub ta tc) by simp only [tyR, ha, hc]]
      exact ty_sub_ok ok pe w Tx Ty ux uy _ [ta, tc] _ hok CT (Lib.hid (fun w5 v5 ok5 h5 hr => tp_sub ok5 ta tc _ v5 w5 h5 (isTyL_small hta).1 (isTyL_small htc).1 hr)) (Lib.hid HX)
theorem ty_mul (a c : Ex) (iha : TyC a) (ihc : TyC c) : TyC (.two .mul a c) := by
  intro ok env pe v w henv hty hok hfr hv
  have HX := hv
  simp only [EV] at hv
  obtain ⟨x, y, rfl, hx, hy⟩ := hv
  obtain ⟨Tx, ux, rfl⟩ := hx.iface
  obtain ⟨Ty, uy, rfl⟩ := hy.iface
  have CT := kids2 iha ihc henv hok hfr hty.1 hty.2 hx hy
  cases ha : tyR env a with
  | error f =>
    rw [show tysR env [a, c] = .error f by simp only [tysR, ha]] at CT
    rw [show tyR env (.two .mul a c) = .error f by simp only [tyR, ha]]
    exact ty_mul_err ok pe w Tx Ty ux uy f hok CT
  | ok ta =>
    cases hc : tyR env c with
    | error f =>
      rw [show tysR env [a, c] = .error f by simp only [tysR, ha, hc]] at CT
      rw [show tyR env (.two .mul a c) = .error f by simp only [tyR, ha, hc]]
      exact ty_mul_err ok pe w Tx Ty ux uy f hok CT
    | ok tc =>
      have hta := tyR_ok a env ta henv hty.1 ha
      have htc := tyR_ok c env tc henv hty.2 hc
      rw [show tysR env [a, c] = .ok [ta, tc] by simp only [tysR, ha, hc]] at CT
      rw [show tyR env (.two .mul a c) = orBad (.two .mul a c) (join2 .mul ta tc) by simp only [tyR, ha, hc]]
      exact ty_mul_ok ok pe w Tx Ty ux uy _ [ta, tc] _ hok CT (Lib.hid (fun w5 v5 ok5 h5 hr => tp_mul ok5 ta tc _ v5 w5 h5 (isTyL_small hta).1 (isTyL_small htc).1 hr)) (Lib.hid HX)
theorem ty_call (a c : Ex) (iha : TyC a) (ihc : TyC c) : TyC (.two .call a c) := by
  intro ok env pe v w henv hty hok hfr hv
  have HX := hv
  simp only [EV] at hv
  obtain ⟨x, y, rfl, hx, hy⟩ := hv
  obtain ⟨Tx, ux, rfl⟩ := hx.iface
  obtain ⟨Ty, uy, rfl⟩ := hy.iface
  have CT := kids2 iha ihc henv hok hfr hty.1 hty.2 hx hy
  cases ha : tyR env a with
  | error f =>
    rw [show tysR env [a, c] = .error f by simp only [tysR, ha]] at CT
    rw [show tyR env (.two .call a c) = .error f by simp only [tyR, ha]]
    exact ty_call_err ok pe w Tx Ty ux uy f hok CT
  | ok ta =>
    cases hc : tyR env c with
    | error f =>
      rw [show tysR env [a, c] = .error f by simp only [tysR, ha, hc]] at CT
      rw [show tyR env (.two .call a c) = .error f by simp only [tyR, ha, hc]]
      exact ty_call_err ok pe w Tx Ty ux uy f hok CT
    | ok tc =>
      have hta := tyR_ok a env ta henv hty.1 ha
      have htc := tyR_ok c env tc henv hty.2 hc
      rw [show tysR env [a, c] = .ok [ta, tc] by simp only [tysR, ha, hc]] at CT
      rw [show tyR env (.two .call a c) = orBad (.two .call a c) (join2 .call ta tc) by simp only [tyR, ha, hc]]
      exact ty_call_ok ok pe w Tx Ty ux uy _ [ta, tc] _ hok CT (Lib.hid (fun w5 v5 ok5 h5 hr => tp_call ok5 ta tc _ v5 w5 h5 hta htc hr)) (Lib.hid HX)
theorem ty_pair (a c : Ex) (iha : TyC a) (ihc : TyC c) : TyC (.two .pair a c) := by
  intro ok env pe v w henv hty hok hfr hv
  have HX := hv
  simp only [EV] at hv
  obtain ⟨x, y, rfl, hx, hy⟩ := hv
  obtain ⟨Tx, ux, rfl⟩ := hx.iface
  obtain ⟨Ty, uy, rfl⟩ := hy.iface
  have CT := kids2 iha ihc henv hok hfr hty.1 hty.2 hx hy
  cases ha : tyR env a with
  | error f =>
    rw [show tysR env [a, c] = .error f by simp only [tysR, ha]] at CT
    rw [show tyR env (.two .pair a c) = .error f by simp only [tyR, ha]]
    exact ty_pair_err ok pe w Tx Ty ux uy f hok CT
  | ok ta =>
    cases hc : tyR env c with
    | error f =>
      rw [show tysR env [a, c] = .error f by simp only [tysR, ha, hc]] at CT
      rw [show tyR env (.two .pair a c) = .error f by simp only [tyR, ha, hc]]
      exact ty_pair_err ok pe w Tx Ty ux uy f hok CT
    | ok tc =>
      have hta := tyR_ok a env ta henv hty.1 ha
      have htc := tyR_ok c env tc henv hty.2 hc
      rw [show tysR env [a, c] = .ok [ta, tc] by simp only [tysR, ha, hc]] at CT
      rw [show tyR env (.two .pair a c) = orBad (.two .pair a c) (join2 .pair ta tc) by simp only [tyR, ha, hc]]
      exact ty_pair_ok ok pe w Tx Ty ux uy _ [ta, tc] _ hok CT (Lib.hid (fun w5 v5 ok5 h5 hr => tp_pair ok5 ta tc _ v5 w5 h5 hta htc hr)) (Lib.hid HX)
theorem ty_fst (a : Ex) (iha : TyC a) : TyC (.one .fst a) := by
  intro ok env pe v w henv hty hok hfr hv
  have HX := hv
  simp only [EV] at hv
  obtain ⟨x, rfl, hx⟩ := hv
  obtain ⟨Tx, ux, rfl⟩ := hx.iface
  have CT := kids1 iha henv hok hfr hty hx
  cases ha : tyR env a with
  | error f =>
    rw [show tysR env [a] = .error f by simp only [tysR, ha]] at CT
    rw [show tyR env (.one .fst a) = .error f by simp only [tyR, ha]]
    exact ty_fst_err ok pe w Tx ux f hok CT
  | ok ta =>
    have hta := tyR_ok a env ta henv hty ha
    rw [show tysR env [a] = .ok [ta] by simp only [tysR, ha]] at CT
    rw [show tyR env (.one .fst a) = orBad (.one .fst a) (join1 .fst ta) by simp only [tyR, ha]]
    exact ty_fst_ok ok pe w Tx ux _ [ta] _ hok CT (Lib.hid (fun w5 v5 ok5 h5 hr => tp_fst ok5 ta _ v5 w5 h5 hta hr)) (Lib.hid HX)
theorem ty_snd (a : Ex) (iha : TyC a) : TyC (.one .snd a) := by
  intro ok env pe v w henv hty hok hfr hv
  have HX := hv
  simp only [EV] at hv
  obtain ⟨x, rfl, hx⟩ := hv
  obtain ⟨Tx, ux, rfl⟩ := hx.iface
  have CT := kids1 iha henv hok hfr hty hx
  cases ha : tyR env a with
  | error f =>
    rw [show tysR env [a] = .error f by simp only [tysR, ha]] at CT
    rw [show tyR env (.one .snd a) = .error f by simp only [tyR, ha]]
    exact ty_snd_err ok pe w Tx ux f hok CT
  | ok ta =>
    have hta := tyR_ok a env ta henv hty ha
    rw [show tysR env [a] = .ok [ta] by simp only [tysR, ha]] at CT
    rw [show tyR env (.one .snd a) = orBad (.one .snd a) (join1 .snd ta) by simp only [tyR, ha]]
    exact ty_snd_ok ok pe w Tx ux _ [ta] _ hok CT (Lib.hid (fun w5 v5 ok5 h5 hr => tp_snd ok5 ta _ v5 w5 h5 hta hr)) (Lib.hid HX)
theorem ty_cond (a c d : Ex) (iha : TyC a) (ihc : TyC c) (ihd : TyC d) : TyC (.cond a c d) := by
  intro ok env pe v w henv hty hok hfr hv
  have HX := hv
  simp only [EV] at hv
  obtain ⟨x, y, z, rfl, hx, hy, hz⟩ := hv
  obtain ⟨Tx, ux, rfl⟩ := hx.iface
  obtain ⟨Ty, uy, rfl⟩ := hy.iface
  obtain ⟨Tz, uz, rfl⟩ := hz.iface
  have CT := kids3 iha ihc ihd henv hok hfr hty.1 hty.2.1 hty.2.2 hx hy hz
  cases ha : tyR env a with
  | error f =>
    rw [show tysR env [a, c, d] = .error f by simp only [tysR, ha]] at CT
    rw [show tyR env (.cond a c d) = .error f by simp only [tyR, ha]]
    exact ty_if_err ok pe w Tx Ty Tz ux uy uz f hok CT
  | ok ta =>
    cases hc : tyR env c with
    | error f =>
      rw [show tysR env [a, c, d] = .error f by simp only [tysR, ha, hc]] at CT
      rw [show tyR env (.cond a c d) = .error f by simp only [tyR, ha, hc]]
      exact ty_if_err ok pe w Tx Ty Tz ux uy uz f hok CT
    | ok tc =>
      cases hd : tyR env d with
      | error f =>
        rw [show tysR env [a, c, d] = .error f by simp only [tysR, ha, hc, hd]] at CT
        rw [show tyR env (.cond a c d) = .error f by simp only [tyR, ha, hc, hd]]
        exact ty_if_err ok pe w Tx Ty Tz ux uy uz f hok CT
      | ok td =>
        have hta := tyR_ok a env ta henv hty.1 ha
        have htc := tyR_ok c env tc henv hty.2.1 hc
        have htd := tyR_ok d env td henv hty.2.2 hd
        rw [show tysR env [a, c, d] = .ok [ta, tc, td] by simp only [tysR, ha, hc, hd]] at CT
        rw [show tyR env (.cond a c d) = orBad (.cond a c d) (if isNumT ta = true ∧ tc.text = td.text then some tc else none) by simp only [tyR, ha, hc, hd]]
        exact ty_if_ok ok pe w Tx Ty Tz ux uy uz _ [ta, tc, td] _ hok CT (Lib.hid (fun w5 v5 ok5 h5 hr => tp_if ok5 ta tc td _ v5 w5 h5 hta htc htd hr)) (Lib.hid HX)
/-- typeOfFun. -/
theorem tfun_c (f s : Nm) (A B : Tr) (c : Ex) (ihc : TyC c) (ok : Nat → Prop) (env : List (Nm × Tr)) (pe : Option Addr) (w : World) (ua ub : ByteArray) (pa pb : Option Addr) (na ca nb cb : Nat) (a1 a2 a3 b1 b2 b3 : Int) (fn xn : ByteArray) (Ty : TypeId) (uy : Value)
    (henv : envOK env) (hA : isTyL A = true) (hB : isTyL B = true) (hty : tyEx c) (hok : ∀ k, ok k → k < w.heap.size) (hfr : FrO w ok env (.pointer pe)) (hfn : fn = bs f) (hxn : xn = bs s)
    (hnA : ∀ v, nI A v = [.string ua, v, .int .i64 a1, .int .i64 a2, .int .i64 a3]) (hnB : ∀ v, nI B v = [.string ub, v, .int .i64 b1, .int .i64 b2, .int .i64 b3])
    (hvA : FV nI w ok A (nI A (.slice pa na ca))) (hvB : FV nI w ok B (nI B (.slice pb nb cb))) (hy : EV w ok c (.iface Ty uy)) (HX : EV w ok (.func f s A B c) (.iface 95 (.agg #[.string fn, .string xn, .string ua, .slice pa na ca, .int .i64 a1, .int .i64 a2, .int .i64 a3, .string ub, .slice pb nb cb, .int .i64 b1, .int .i64 b2, .int .i64 b3, .iface Ty uy]))) :
    Calls Tryz.prog 79 #[.pointer pe, .agg #[.string fn, .string xn, .string ua, .slice pa na ca, .int .i64 a1, .int .i64 a2, .int .i64 a3, .string ub, .slice pb nb cb, .int .i64 b1, .int .i64 b2, .int .i64 b3, .iface Ty uy]] w fun e w' => Ty3 w ok (tyR env (.func f s A B c)) e w' ∧ Below w.heap.size w w' := by
  obtain ⟨m1, hm1⟩ : ∃ m : Int, m = (mkTr 62 A B).bytes := ⟨_, rfl⟩
  obtain ⟨m2, hm2⟩ : ∃ m : Int, m = (mkTr 62 A B).size := ⟨_, rfl⟩
  obtain ⟨m3, hm3⟩ : ∃ m : Int, m = (mkTr 62 A B).depth := ⟨_, rfl⟩
  obtain ⟨wa, hwa⟩ : ∃ q, q = ((w.alloc (.cells #[.string fn, .string xn, .string ua, .slice pa na ca, .int .i64 a1, .int .i64 a2, .int .i64 a3, .string ub, .slice pb nb cb, .int .i64 b1, .int .i64 b2, .int .i64 b3, .iface Ty uy] 95)).alloc (.cells #[.string ⟨#[]⟩, .slice none 0 0, .int .i64 0, .int .i64 0, .int .i64 0] 50)) := ⟨_, rfl⟩
  have hBa : Below w.heap.size w wa := by rw [hwa]; exact below2 w _ _
  have hoka : ∀ k, ok k → k < wa.heap.size := fun k hk => Nat.lt_of_lt_of_le (hok k hk) hBa.size
  have CM0 := makeType_o ok 62 (.inl rfl) A B (isTyL_got hA).1 (isTyL_got hA).2 (isTyL_got hB).1 (isTyL_got hB).2 ua ub a1 a2 a3 b1 b2 b3 m1 m2 m3 pa pb na ca nb cb wa hnA hnB hm1 hm2 hm3 hoka (hvA.below hBa hok) (hvB.below hBa hok)
  have hsz := mkTr_size 62 A B
  cases hT : mkT 62 A B with
  | none =>
    rw [show tyR env (.func f s A B c) = .error (.func f s A B c) by simp only [tyR, hT]]
    have hbig : decide (m2 ≤ 16) = false := by
      unfold mkT at hT
      split at hT
      · cases hT
      · rw [decide_eq_false_iff_not]; omega
    rw [hbig] at CM0
    subst hwa
    exact tf_no ok pe w fn xn ua ub pa pb na ca nb cb a1 a2 a3 b1 b2 b3 m1 m2 m3 Ty uy _ hok (Lib.hid (CM0.mono fun e w' ⟨⟨r5, h1, _⟩, h2⟩ => ⟨⟨r5, h1⟩, h2⟩)) (Lib.hid HX)
  | some T =>
    have hTe : T = mkTr 62 A B := by
      unfold mkT at hT
      split at hT
      · simp only [Option.some.injEq] at hT; exact hT.symm
      · cases hT
    have hTL := mkT_ok (.inl rfl) hA hB hT
    have hsm : decide (m2 ≤ 16) = true := by
      unfold mkT at hT
      split at hT
      · rw [decide_eq_true_eq]; omega
      · cases hT
    rw [hsm, ← hTe] at CM0
    rw [← hTe] at hm1 hm2 hm3
    have hTa : bs (atomOf T) = ⟨#[]⟩ := by rw [hTe]; rfl
    have hnT : ∀ v, nI T v = [.string ⟨#[]⟩, v, .int .i64 m1, .int .i64 m2, .int .i64 m3] := fun v => by rw [← hTa, hm1, hm2, hm3]; rfl
    have hfa := hfr.below hBa hok
    have hya := hy.below hBa hok
    have CM := Lib.hid CM0
    have CW1 : Hid (∀ W r5 b, Below wa.heap.size wa W → b < W.heap.size → FV nI W (okX wa ok b W) T (nI T (.slice (some ⟨r5, 0, none⟩) 3 3)) → b ≠ w.heap.size ∧ (b < w.heap.size → ¬ ok b) → Calls Tryz.prog 72 #[.pointer pe, .string fn, .agg #[.string ⟨#[]⟩, .slice (some ⟨r5, 0, none⟩) 3 3, .int .i64 m1, .int .i64 m2, .int .i64 m3]] W fun e w' => (∃ q, e = .returned (.pointer q) ∧ FrO w' (okX wa ok b w') ((f, T) :: env) (.pointer q)) ∧ Below W.heap.size W w') := Lib.hid (fun W r5 b hW hb hf hbo => by
      have h := withX_c hoka b env f T (.pointer pe) (some ⟨r5, 0, none⟩) 3 3 W hW hb (hfa.move (fun k hk => ⟨.inl hk, fun e => by have := hok k hk; subst e; exact hbo.2 this hk⟩) (fun k hk => hW.block k (hoka k hk))) hf
      rw [hTa, ← hm1, ← hm2, ← hm3, ← hfn] at h
      exact h)
    have CW2 : Hid (∀ W q b, Below wa.heap.size wa W → b < W.heap.size → FrO W (okX wa ok b W) ((f, T) :: env) (.pointer q) → w.heap.size < b → Calls Tryz.prog 72 #[.pointer q, .string xn, .agg #[.string ua, .slice pa na ca, .int .i64 a1, .int .i64 a2, .int .i64 a3]] W fun e w' => (∃ q, e = .returned (.pointer q) ∧ FrO w' (okX wa ok b w') ((s, A) :: (f, T) :: env) (.pointer q)) ∧ Below W.heap.size W w') := Lib.hid (fun W q b hW hb hq hbo => by
      have h := withX_c hoka b _ s A (.pointer q) pa na ca W hW hb hq ((hvA.below hBa hok).move (fun k hk => ⟨.inl hk, fun e => by have := hok k hk; omega⟩) (fun k hk => hW.block k (hoka k hk)) _ _)
      have e5 := hnA (.slice pa na ca)
      simp only [nI, List.cons.injEq, Value.string.injEq, Value.int.injEq, and_true, true_and] at e5
      obtain ⟨q1, q2, q3, q4⟩ := e5
      rw [q1, q2, q3, q4, ← hxn] at h
      exact h)
    have CX : ∀ W q b, Below wa.heap.size wa W → b < W.heap.size → FrO W (okX wa ok b W) ((s, A) :: (f, T) :: env) (.pointer q) → w.heap.size < b → Calls Tryz.prog 47 #[.pointer q, .iface Ty uy] W fun e w' => Ty3X wa ok b (tyR ((s, A) :: (f, T) :: env) c) e w' ∧ Below W.heap.size W w' := fun W q b hW hb hq hbo =>
      tyX ihc hoka b (fun h => by have := hok b h; omega) ((henv.cons hTL).cons hA) hty hya W q hW hb hq
    cases hc : tyR ((s, A) :: (f, T) :: env) c with
    | error g =>
      rw [hc] at CX
      rw [show tyR env (.func f s A B c) = .error g by simp only [tyR, hT, hc]]
      subst hwa
      exact tf_err ok pe w fn xn ua ub pa pb na ca nb cb a1 a2 a3 b1 b2 b3 m1 m2 m3 Ty uy (.func f s A B c) g f s A B T env hok CM CW1 CW2 (Lib.hid CX)
    | ok t =>
      rw [hc] at CX
      have htL := tyR_ok c _ t ((henv.cons hTL).cons hA) hty hc
      obtain ⟨g, t1, t2, t3, hg, ht1, ht2, ht3, hq⟩ := nI_named t
      have CB : Hid (∀ W q b, Below wa.heap.size wa W → b < W.heap.size → FrO W (okX wa ok b W) ((s, A) :: (f, T) :: env) (.pointer q) → w.heap.size < b → Calls Tryz.prog 47 #[.pointer q, .iface Ty uy] W fun e w' => (∃ p m c, e = .returned (.tuple #[.agg #[.string g, .slice p m c, .int .i64 t1, .int .i64 t2, .int .i64 t3], .nilIface]) ∧ FV nI w' (okX wa ok b w') t (nI t (.slice p m c))) ∧ Below W.heap.size W w') := by rw [hg, ht1, ht2, ht3]; exact Lib.hid CX
      have CQ : Hid (∀ W p m c, Below wa.heap.size wa W → FV nI W (okN wa W ok) t (nI t (.slice p m c)) → Calls Tryz.prog 117 #[.agg #[.string g, .slice p m c, .int .i64 t1, .int .i64 t2, .int .i64 t3], .agg #[.string ub, .slice pb nb cb, .int .i64 b1, .int .i64 b2, .int .i64 b3]] W fun e w' => EqPost (t.text = B.text) e ∧ Below W.heap.size W w') := Lib.hid (fun W p m c hW hf => by
        have h := equalsO_c (isTyL_small htL).1 (isTyL_small hB).1 hf ((hvB.below hBa hok).below hW hoka) (okN_lt hoka hW.size) (fun k hk => Nat.lt_of_lt_of_le (hoka k hk) hW.size)
        have e5 := hnB (.slice pb nb cb)
        simp only [nI, List.cons.injEq, Value.string.injEq, Value.int.injEq, and_true, true_and] at e5
        obtain ⟨q1, q2, q3, q4⟩ := e5
        rw [q1, q2, q3, q4, ← hg, ← ht1, ← ht2, ← ht3] at h
        exact h)
      subst hwa
      have hfin := tf_ok ok pe w fn xn ua ub pa pb na ca nb cb a1 a2 a3 b1 b2 b3 m1 m2 m3 Ty uy (.func f s A B c) t g t1 t2 t3 (t.text = B.text) (fun z => if z = true then .ok T else .error (.func f s A B c)) f s A B T env hok CM CW1 CW2 CB CQ rfl rfl (Lib.hid ⟨hTa, hm1.symm, hm2.symm, hm3.symm⟩) (Lib.hid HX)
      refine hfin.mono fun e w' ⟨⟨z, hz, h1⟩, h2⟩ => ⟨?_, h2⟩
      rw [show tyR env (.func f s A B c) = if z = true then .ok T else .error (.func f s A B c) by
        simp only [tyR, hT, hc]
        by_cases hp : t.text = B.text
        · rw [if_pos hp, if_pos (hz.2 hp)]; rfl
        · rw [if_neg hp, if_neg (fun e => hp (hz.1 e))]; rfl]
      exact h1
set_option maxHeartbeats 4000000 in
theorem ty_fun (f s : Nm) (A B : Tr) (c : Ex) (ihc : TyC c) : TyC (.func f s A B c) := by
  intro ok env pe v w henv hty hok hfr hv
  have HX := hv
  simp only [EV] at hv
  obtain ⟨pa, na, ca, pb, nb, cb, y, rfl, hA, hBt, hy⟩ := hv
  obtain ⟨Ty, uy, rfl⟩ := hy.iface
  obtain ⟨ua, a1, a2, a3, hua, ha1, ha2, ha3, hnA⟩ := nI_named A
  obtain ⟨ub, b1, b2, b3, hub, hb1, hb2, hb3, hnB⟩ := nI_named B
  obtain ⟨fn, hfn⟩ : ∃ q, q = bs f := ⟨_, rfl⟩
  obtain ⟨xn, hxn⟩ : ∃ q, q = bs s := ⟨_, rfl⟩
  obtain ⟨R, hR⟩ : ∃ R, R = tyR env (.func f s A B c) := ⟨_, rfl⟩
  rw [hnA, hnB, ← hfn, ← hxn] at HX ⊢
  simp only [List.cons_append, List.nil_append] at HX ⊢
  obtain ⟨wa, hwa⟩ : ∃ wa, wa = (((w.alloc (.cells #[.string ⟨#[]⟩, .slice none 0 0, .int .i64 0, .int .i64 0, .int .i64 0] 50)).alloc (.cells #[.string ⟨#[]⟩, .slice none 0 0, .int .i64 0, .int .i64 0, .int .i64 0] 50)).alloc (.cells #[.string fn, .string xn, .string ua, .slice pa na ca, .int .i64 a1, .int .i64 a2, .int .i64 a3, .string ub, .slice pb nb cb, .int .i64 b1, .int .i64 b2, .int .i64 b3, .iface Ty uy] 95)) := ⟨_, rfl⟩
  have hBa : Below w.heap.size w wa := by rw [hwa]; exact below3 w _ _ _
  have hsa : wa.heap.size = w.heap.size + 3 := by rw [hwa]; simp
  have hoka : ∀ k, ok k → k < wa.heap.size := fun k hk => by have := hok k hk; omega
  have y4 : wa.heap[w.heap.size]? = some (.cells #[.string ⟨#[]⟩, .slice none 0 0, .int .i64 0, .int .i64 0, .int .i64 0] 50 (0, 0)) := by rw [hwa]; exact blk_alloc (blk_alloc (heap_alloc_new w (.cells #[.string ⟨#[]⟩, .slice none 0 0, .int .i64 0, .int .i64 0, .int .i64 0] 50)))
  have CF : Hid (Calls Tryz.prog 79 #[.pointer pe, .agg #[.string fn, .string xn, .string ua, .slice pa na ca, .int .i64 a1, .int .i64 a2, .int .i64 a3, .string ub, .slice pb nb cb, .int .i64 b1, .int .i64 b2, .int .i64 b3, .iface Ty uy]] wa fun e w' => (∃ g p m c, ∃ i1 i2 i3 : Int, ∃ F, e = .returned (.tuple #[.agg #[.string g, .slice p m c, .int .i64 i1, .int .i64 i2, .int .i64 i3], F]) ∧ Ty3 wa ok R (.returned (.tuple #[.agg #[.string g, .slice p m c, .int .i64 i1, .int .i64 i2, .int .i64 i3], F])) w') ∧ Below wa.heap.size wa w') := Lib.hid (by
    have h := tfun_c f s A B c ihc ok env pe wa ua ub pa pb na ca nb cb a1 a2 a3 b1 b2 b3 fn xn Ty uy henv hty.1 hty.2.1 hty.2.2 hoka (hfr.below hBa hok) hfn hxn hnA hnB (hA.below hBa hok) (hBt.below hBa hok) (hy.below hBa hok) (HX.below hBa hok)
    rw [← hR] at h
    refine h.mono fun e w' ⟨h1, h2⟩ => ?_
    obtain ⟨g, p, m, c, i1, i2, i3, F, rfl⟩ := ty3_shape h1
    exact ⟨⟨g, p, m, c, i1, i2, i3, F, rfl, h1⟩, h2⟩)
  rw [← hR]
  have HOK := Lib.hid hok
  clear HX hA hBt hy hnA hnB hua ha1 ha2 ha3 hub hb1 hb2 hb3 hfn hxn hR hfr henv hty ihc hoka hok
  go_enter Tryz.func47, Tryz.ntmps47
  go_wp2_with fail
  rw [← hwa]
  go_wp2_with (go_at_call 79; go_must (refine (CF.out).mono ?_; rintro e w5 ⟨⟨g, p, m, c, i1, i2, i3, F, rfl, hR5⟩, hb5⟩; have hs5 := hb5.size; have y5 := below_blk hb5 (by omega) y4; have fb0 := free_of (j := 0) y5; have fb1 := free_of (j := 1) y5; have fb2 := free_of (j := 2) y5; have fb3 := free_of (j := 3) y5; have fb4 := free_of (j := 4) y5; have zb0 := cell_of (j := 0) y5; have zb1 := cell_of (j := 1) y5; have zb2 := cell_of (j := 2) y5; have zb3 := cell_of (j := 3) y5; have zb4 := cell_of (j := 4) y5; have O4 := set5_same y5 (.string g) (.slice p m c) (.int .i64 i1) (.int .i64 i2) (.int .i64 i3); have r0 := cell_of (j := 0) O4; have r1 := cell_of (j := 1) O4; have r2 := cell_of (j := 2) O4; have r3 := cell_of (j := 3) O4; have r4 := cell_of (j := 4) O4))
  refine bodyPost_ret (v := .tuple #[.agg #[.string g, .slice p m c, .int .i64 i1, .int .i64 i2, .int .i64 i3], F]) (by simp [results, Tryz.results47, go_sem, r0, r1, r2, r3, r4]) rfl ⟨?_, ?_⟩
  · exact ty3_fin HOK.out (b := w.heap.size) (Nat.le_refl _) (by omega) hR5 _ _ _ _ _
  · exact set5 (hBa.trans (hb5.mono hBa.size)) (Nat.le_refl _) _ _ _ _ _
theorem ty_all : ∀ x : Ex, TyC x
  | .name s => ty_name s
  | .num n => ty_num n
  | .two .add a c => ty_add a c (ty_all a) (ty_all c)
  | .two .sub a c => ty_sub a c (ty_all a) (ty_all c)
  | .two .mul a c => ty_mul a c (ty_all a) (ty_all c)
  | .two .call a c => ty_call a c (ty_all a) (ty_all c)
  | .two .pair a c => ty_pair a c (ty_all a) (ty_all c)
  | .one .fst a => ty_fst a (ty_all a)
  | .one .snd a => ty_snd a (ty_all a)
  | .cond a c d => ty_cond a c d (ty_all a) (ty_all c) (ty_all d)
  | .lete s a c => ty_let s a c (ty_all a) (ty_all c)
  | .func f s A B c => ty_fun f s A B c (ty_all c)
end Go.Proofs.YtjncmmnbdabjnaaGreatDoor
