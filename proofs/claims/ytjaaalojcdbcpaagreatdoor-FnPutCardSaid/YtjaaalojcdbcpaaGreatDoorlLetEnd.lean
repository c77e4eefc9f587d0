/- The reference makes a binding plain: the statement that makes its body plain, whatever came up. -/
import Derived.Test.YtjaaalojcdbcpaaGreatDoorlPureDbM
import Derived.Test.YtjaaalojcdbcpaaGreatDoorlPureMM
set_option maxHeartbeats 20000000
set_option linter.unusedVariables false
set_option linter.unusedSimpArgs false
namespace Go.Proofs.YtjaaalojcdbcpaaGreatDoor
open Go.RowKit Go.Proofs.Tryz
set_option maxRecDepth 8000
def Z63 (id : Nat) : Code → Option (Array Oper)
 | .region i ops _ => if i = id then some ops else none
 | .seq x y => match Z63 id x with | some o => some o | none => Z63 id y
 | .cond _ x y => match Z63 id x with | some o => some o | none => Z63 id y
 | .loop c => Z63 id c
 | .block _ c => Z63 id c
 | _ => none
def letV (N O g c1 r off cap b : Nat) (A3 : ByteArray) (pc : Option Addr) (mc cc : Nat) (s X : ByteArray) (v1 v2 : Value) : Nat → Option Value
 | 0 => some (.pointer (some ⟨O, 1, none⟩))
 | 1 => some (.slice (some ⟨g, 0, none⟩) 4 c1)
 | 2 => some (.pointer (some ⟨N, 1, none⟩))
 | 3 => some (.slice (some ⟨r, off, none⟩) 4 cap)
 | 4 => some (.pointer (some ⟨r, off + 6, none⟩))
 | 5 => some (.agg #[.string A3, .slice pc mc cc])
 | 7 => some v1
 | 9 => some (.pointer (some ⟨N, 1, none⟩))
 | 10 => some (.slice (some ⟨r, off, none⟩) 4 cap)
 | 11 => some (.pointer (some ⟨r, off + 2, none⟩))
 | 12 => some (.pointer (some ⟨r, off + 2, none⟩))
 | 13 => some (.string s)
 | 17 => some v2
 | 19 => some (.string X)
 | 22 => some (.pointer (some ⟨b, 0, none⟩))
 | 24 => some (.pointer (some ⟨g, 6, none⟩))
 | _ => none
def letMid (b B : Nat) (vf : Value) (k2 : Nat) (fc : Ex) (w0 : World) (v : Value) (w : World) : Prop := ∃ p m c, v = .agg #[.string (bs (Z1 (Z0 fc))), .slice p m c] ∧ FV nS w (fun q => q < B ∨ (w0.heap.size ≤ q ∧ q < w.heap.size)) (Z0 fc) (nS (Z0 fc) (.slice p m c)) ∧ RN w b vf k2
def letFin (b B g : Nat) (vf : Value) (k2 : Nat) (fc : Ex) (w0 : World) (w : World) : Prop := ∃ (wz : World) (p : Option Addr) (m c : Nat), Only b w0 wz ∧ RN wz b vf k2 ∧ FV nS wz (fun q => q < B ∨ (w0.heap.size ≤ q ∧ q < wz.heap.size)) (Z0 fc) (nS (Z0 fc) (.slice p m c)) ∧ w = (wz.setCell ⟨g, 6, none⟩ (.string (bs (Z1 (Z0 fc))))).setCell ⟨g, 7, none⟩ (.slice p m c)
theorem Z6k {P : Program} {o : Oper} {s x : Operand} {t : TypeId} {a : Act} {w w' : World} {v' : Value} (ho : o.op = .call { callee := .builtin .append, args := #[s, x], argTypes := #[t, t] }) (hr : (Builtin.append_ #[t, t] o.type #[a.eval s, a.eval x]).run P w = .ok v' w') : (execOp a.eval o).run P w = .ok (.value v') w' := by
 unfold execOp
 simp only [ho, resolve, invoke, builtin, Sem.run_bind, Sem.run_pure, Result.andThen_ok, List.map_toArray, List.map_cons, List.map_nil, hr]
theorem evg {a : Act} {t : Nat} {v : Value} (h : a.eval (.tmp t) = v) : a.tmps[t]?.getD undef = v := by rw [← h]; simp [Act.eval]
theorem LsT.more {W : World} {b : Nat} {v : Value} {l : List Nm} {base : Nat} (h : W.ownsRow base 9 1 v l.length (l.map Y3)) (hb : b < base) (hl : l.length ≤ 1000000) : LsT W b v l := ⟨Yh h (by omega), fun q hq => by have := Yb h hq; omega⟩
theorem plLet_end {ops : Array Oper} (hops : Z63 11 (Tryz.f68.body.getD Code.skip) = some ops) {rid : Nat} {Q : Exit → Act → World → Prop} (a0 : Act) (w11 : World) (b B N O g c1 r off cap : Nat) (At3 : ByteArray) (pc : Option Addr) (mc cc : Nat) (s X : Nm) (v1 v2 vf : Value) (mN mT : List Nm) (k1 k2 : Nat) (fc : Ex) (d0 d1 : Value)
 (hz : 92 ≤ a0.tmps.size) (e1 : a0.eval (.tmp 1) = v1) (e2 : a0.eval (.tmp 2) = v2) (e3 : a0.eval (.tmp 3) = .pointer (some ⟨b, 0, none⟩)) (e4 : a0.eval (.tmp 4) = .pointer (some ⟨N, 0, none⟩)) (e9 : a0.eval (.tmp 9) = .pointer (some ⟨O, 0, none⟩)) (e12 : a0.eval (.tmp 12) = .string (bs X))
 (hbw11 : b < w11.heap.size) (hrn : RN w11 b vf k1) (hml : mN.length ≤ 1000) (hml2 : mT.length ≤ 1000)
 (K11 : Hid (∀ W, Only b w11 W → W.cell? ⟨O, 1, none⟩ = some (.slice (some ⟨g, 0, none⟩) 4 c1) ∧ W.cell? ⟨N, 1, none⟩ = some (.slice (some ⟨r, off, none⟩) 4 cap) ∧ W.cell? ⟨r, off + 6, none⟩ = some (.string At3) ∧ W.cell? ⟨r, off + 7, none⟩ = some (.slice pc mc cc) ∧ W.cell? ⟨r, off + 2, none⟩ = some (.string (bs s)) ∧ W.cell? ⟨g, 6, none⟩ = some d0 ∧ W.cell? ⟨g, 7, none⟩ = some d1 ∧ W.frozen? ⟨g, 6, none⟩ = false ∧ W.frozen? ⟨g, 7, none⟩ = false))
 (HV1 : Hid (LsT w11 b v1 mN)) (HV2 : Hid (LsT w11 b v2 mT))
 (C2 : Hid (∀ W u1 u2, Only b w11 W → RN W b vf k1 → LsT W b u1 (mN ++ [s]) → LsT W b u2 (mT ++ [X]) → Calls prog 68 #[.agg #[.string At3, .slice pc mc cc], u1, u2, .pointer (some ⟨b, 0, none⟩)] W fun e' w' => PlR b B vf (fc, k2) W e' w'))
 (he : ∀ a' w', (∀ t : Nat, t < 67 → a'.eval (.tmp t) = a0.eval (.tmp t)) → a'.tmps.size = a0.tmps.size → a'.defers = a0.defers → letFin b B g vf k2 fc w11 w' → Q .normal a' w') : (Code.region rid ops true).wp prog Q a0 w11 := by
 obtain ⟨j0, hj0, hy0, hy1, hy2⟩ := info_parts Tryz.infoStr
 cases Option.some.inj (hops.symm.trans (show Z63 11 (Tryz.f68.body.getD Code.skip) = some _ from rfl))
 refine Z6w (fun a0 => LtI a0 (letV N O g c1 r off cap b At3 pc mc cc (bs s) (bs X) v1 v2) b vf k1 w11 mN mT s X (letMid b B vf k2 fc w11) (letFin b B g vf k2 fc w11)) rfl (by kernel_rfl) ?_ ?_ ?_
 · exact ⟨rfl, fun t _ => rfl, rfl, fun j v _ h => (by cases h), fun _ => (Only.refl b w11).drew, fun _ => hrn, fun _ => ⟨_, Slots.start _ _, ⟨fun h => (by cases h), fun h => (by cases h), fun h => (by cases h), fun h => (by cases h), fun h => (by cases h), fun h => (by cases h), fun h => (by cases h), fun h => (by cases h)⟩⟩, fun h => (by cases h), fun h => (by cases h)⟩
 · intro L a' w' ix o ho hL hd hsh hI
   have hsz : ∀ j : Nat, j < 25 → 67 + j < a'.tmps.size := fun j hj => by rw [hI.sz]; exact Nat.lt_of_lt_of_le (show 67 + j < 92 by omega) hz
   have hsz2 : 90 < a'.tmps.size := hsz 23 (by decide)
   match ix, ho, hL, hd with
   | 0, ho, hL, hd =>
     cases Option.some.inj ho
     have h25 : L 25 = false := Zq hsh (by kernel_rfl) hL
     have hon := hI.core h25
     obtain ⟨y1, y2, y3, y4, y5, y6, y7, y8, y9⟩ := K11.out _ hon
     have k9 : a'.eval (.tmp 9) = _ := (hI.keep 9 (by decide)).trans e9
     have hp := hI.pure 0 rfl (by decide) hz _ (fun v' e => Option.some.inj e)
     exact Ye ho rfl (w' := w') (by simp [execOp, go_sem, evg k9]; done) hp
   | 1, ho, hL, hd =>
     cases Option.some.inj ho
     have h25 : L 25 = false := Zq hsh (by kernel_rfl) hL
     have hon := hI.core h25
     obtain ⟨y1, y2, y3, y4, y5, y6, y7, y8, y9⟩ := K11.out _ hon
     have d0 := hd { on := 0, ground := .data } (by simp) rfl
     have u0 : a'.eval (.tmp 67) = _ := hI.vals 0 _ rfl d0
     have hp := hI.pure 1 rfl (by decide) hz _ (fun v' e => Option.some.inj e)
     exact Ye ho rfl (w' := w') (by simp [execOp, go_sem, evg u0, y1]; done) hp
   | 2, ho, hL, hd =>
     cases Option.some.inj ho
     have h25 : L 25 = false := Zq hsh (by kernel_rfl) hL
     have hon := hI.core h25
     obtain ⟨y1, y2, y3, y4, y5, y6, y7, y8, y9⟩ := K11.out _ hon
     have k4 : a'.eval (.tmp 4) = _ := (hI.keep 4 (by decide)).trans e4
     have hp := hI.pure 2 rfl (by decide) hz _ (fun v' e => Option.some.inj e)
     exact Ye ho rfl (w' := w') (by simp [execOp, go_sem, evg k4]; done) hp
   | 3, ho, hL, hd =>
     cases Option.some.inj ho
     have h25 : L 25 = false := Zq hsh (by kernel_rfl) hL
     have hon := hI.core h25
     obtain ⟨y1, y2, y3, y4, y5, y6, y7, y8, y9⟩ := K11.out _ hon
     have d2 := hd { on := 2, ground := .data } (by simp) rfl
     have u2 : a'.eval (.tmp 69) = _ := hI.vals 2 _ rfl d2
     have hp := hI.pure 3 rfl (by decide) hz _ (fun v' e => Option.some.inj e)
     exact Ye ho rfl (w' := w') (by simp [execOp, go_sem, evg u2, y2]; done) hp
   | 4, ho, hL, hd =>
     cases Option.some.inj ho
     have h25 : L 25 = false := Zq hsh (by kernel_rfl) hL
     have hon := hI.core h25
     obtain ⟨y1, y2, y3, y4, y5, y6, y7, y8, y9⟩ := K11.out _ hon
     have d3 := hd { on := 3, ground := .data } (by simp) rfl
     have u3 : a'.eval (.tmp 70) = _ := hI.vals 3 _ rfl d3
     have hp := hI.pure 4 rfl (by decide) hz _ (fun v' e => Option.some.inj e)
     exact Ye ho rfl (w' := w') (by simp [execOp, go_sem, evg u3]; done) hp
   | 5, ho, hL, hd =>
     cases Option.some.inj ho
     have h25 : L 25 = false := Zq hsh (by kernel_rfl) hL
     have hon := hI.core h25
     obtain ⟨y1, y2, y3, y4, y5, y6, y7, y8, y9⟩ := K11.out _ hon
     have d4 := hd { on := 4, ground := .data } (by simp) rfl
     have u4 : a'.eval (.tmp 71) = _ := hI.vals 4 _ rfl d4
     have hp := hI.pure 5 rfl (by decide) hz _ (fun v' e => Option.some.inj e)
     exact Ye ho rfl (w' := w') (by simp [execOp, go_sem, evg u4, y3, y4]; done) hp
   | 6, ho, hL, hd =>
     cases Option.some.inj ho
     have h25 : L 25 = false := Zq hsh (by kernel_rfl) hL
     have hon := hI.core h25
     obtain ⟨y1, y2, y3, y4, y5, y6, y7, y8, y9⟩ := K11.out _ hon
     have n8 : L 8 = false := Zq hsh (by kernel_rfl) hL
     have n15 : L 15 = false := Zq hsh (by kernel_rfl) n8
     have n23 : L 23 = false := Zq hsh (by kernel_rfl) n15
     refine Ye ho rfl (v := .slice (some ⟨w'.heap.size, 0, none⟩) 0 0) (w' := w'.alloc (.cells ((([] : List Nm)).map Y3).toArray 9)) (by simp [execOp, go_sem, Y3]; done) (hI.make 6 0 ([] : List Nm) (by decide) hz hbw11 rfl n23 h25 (by simp) (fun S q => q.made 6 0 _ ([] : List Nm) (hsz _ (by decide)) (fun _ _ => .inl ⟨rfl, rfl, rfl⟩) (fun e1 e2 => Bool.noConfusion (n8.symm.trans ((Zj (by decide)).symm.trans e1))) (fun e1 => Bool.noConfusion (n15.symm.trans ((Zj (by decide)).symm.trans e1))) (fun e1 => .inr ⟨by decide, by decide, (Zj (by decide)).symm.trans e1⟩) (fun e1 e2 => .inr ⟨by decide, by decide, (Zj (by decide)).symm.trans e1, (Zj (by decide)).symm.trans e2⟩) (fun e1 e2 => .inr ⟨by decide, by decide, (Zj (by decide)).symm.trans e1, (Zj (by decide)).symm.trans e2⟩) (fun e1 => .inr ⟨by decide, by decide, (Zj (by decide)).symm.trans e1⟩) (fun e1 => .inr ⟨by decide, by decide, (Zj (by decide)).symm.trans e1⟩)))
   | 7, ho, hL, hd =>
     cases Option.some.inj ho
     have h25 : L 25 = false := Zq hsh (by kernel_rfl) hL
     have hon := hI.core h25
     obtain ⟨y1, y2, y3, y4, y5, y6, y7, y8, y9⟩ := K11.out _ hon
     have k1 : a'.eval (.tmp 1) = _ := (hI.keep 1 (by decide)).trans e1
     have hp := hI.pure 7 rfl (by decide) hz _ (fun v' e => Option.some.inj e)
     exact Ye ho rfl (w' := w') (by simp [execOp, go_sem, evg k1]; done) hp
   | 8, ho, hL, hd =>
     cases Option.some.inj ho
     have h25 : L 25 = false := Zq hsh (by kernel_rfl) hL
     have hon := hI.core h25
     obtain ⟨y1, y2, y3, y4, y5, y6, y7, y8, y9⟩ := K11.out _ hon
     have n15 : L 15 = false := Zq hsh (by kernel_rfl) hL
     have n23 : L 23 = false := Zq hsh (by kernel_rfl) n15
     have d6 := hd { on := 6, ground := .data } (by simp) rfl
     have d7 := hd { on := 7, ground := .data } (by simp) rfl
     have u7 : a'.eval (.tmp 74) = _ := hI.vals 7 _ rfl d7
     obtain ⟨S, qs, qt⟩ := hI.slots n23
     have hsl := qt.c0 d6 hL
     have hown := qs.own 0 _ _ hsl
     have hstr : Zw w' (a'.eval (.tmp 74)) (mN) := by rw [u7]; exact (HV1.out.only (hon)).1
     obtain ⟨v9, w9x, hr9, ho9, hg9, hv9⟩ := Qx (P := prog) w' w11.heap.size 28 28 9 j0 underlying28 hj0 hy0 hy1 hy2 _ (([] : List Nm)) hown _ (mN) hstr (by simp; omega) hon.size
     refine Ye ho rfl (v := v9) (w' := w9x) (Z6k rfl hr9) (hI.grow 8 0 _ v9 (([] : List Nm)) (mN) (by decide) hz hbw11 rfl n23 h25 ho9 hg9 hv9 (fun q hq => (Yb hown hq).1) (fun S q => ⟨q.c0 d6 hL, q.made 8 0 v9 (mN) (hsz _ (by decide)) (fun e1 e2 => Bool.noConfusion ((Z4d L 8).symm.trans e2)) (fun _ _ => .inl ⟨rfl, rfl, rfl⟩) (fun e1 => Bool.noConfusion (n15.symm.trans ((Zj (by decide)).symm.trans e1))) (fun e1 => .inr ⟨by decide, by decide, (Zj (by decide)).symm.trans e1⟩) (fun e1 e2 => .inr ⟨by decide, by decide, (Zj (by decide)).symm.trans e1, (Zj (by decide)).symm.trans e2⟩) (fun e1 e2 => .inr ⟨by decide, by decide, (Zj (by decide)).symm.trans e1, (Zj (by decide)).symm.trans e2⟩) (fun e1 => .inr ⟨by decide, by decide, (Zj (by decide)).symm.trans e1⟩) (fun e1 => .inr ⟨by decide, by decide, (Zj (by decide)).symm.trans e1⟩)⟩))
   | 9, ho, hL, hd =>
     cases Option.some.inj ho
     have h25 : L 25 = false := Zq hsh (by kernel_rfl) hL
     have hon := hI.core h25
     obtain ⟨y1, y2, y3, y4, y5, y6, y7, y8, y9⟩ := K11.out _ hon
     have k4 : a'.eval (.tmp 4) = _ := (hI.keep 4 (by decide)).trans e4
     have hp := hI.pure 9 rfl (by decide) hz _ (fun v' e => Option.some.inj e)
     exact Ye ho rfl (w' := w') (by simp [execOp, go_sem, evg k4]; done) hp
   | 10, ho, hL, hd =>
     cases Option.some.inj ho
     have h25 : L 25 = false := Zq hsh (by kernel_rfl) hL
     have hon := hI.core h25
     obtain ⟨y1, y2, y3, y4, y5, y6, y7, y8, y9⟩ := K11.out _ hon
     have d9 := hd { on := 9, ground := .data } (by simp) rfl
     have u9 : a'.eval (.tmp 76) = _ := hI.vals 9 _ rfl d9
     have hp := hI.pure 10 rfl (by decide) hz _ (fun v' e => Option.some.inj e)
     exact Ye ho rfl (w' := w') (by simp [execOp, go_sem, evg u9, y2]; done) hp
   | 11, ho, hL, hd =>
     cases Option.some.inj ho
     have h25 : L 25 = false := Zq hsh (by kernel_rfl) hL
     have hon := hI.core h25
     obtain ⟨y1, y2, y3, y4, y5, y6, y7, y8, y9⟩ := K11.out _ hon
     have d10 := hd { on := 10, ground := .data } (by simp) rfl
     have u10 : a'.eval (.tmp 77) = _ := hI.vals 10 _ rfl d10
     have hp := hI.pure 11 rfl (by decide) hz _ (fun v' e => Option.some.inj e)
     exact Ye ho rfl (w' := w') (by simp [execOp, go_sem, evg u10]; done) hp
   | 12, ho, hL, hd =>
     cases Option.some.inj ho
     have h25 : L 25 = false := Zq hsh (by kernel_rfl) hL
     have hon := hI.core h25
     obtain ⟨y1, y2, y3, y4, y5, y6, y7, y8, y9⟩ := K11.out _ hon
     have d11 := hd { on := 11, ground := .data } (by simp) rfl
     have u11 : a'.eval (.tmp 78) = _ := hI.vals 11 _ rfl d11
     have hp := hI.pure 12 rfl (by decide) hz _ (fun v' e => Option.some.inj e)
     exact Ye ho rfl (w' := w') (by simp [execOp, go_sem, evg u11]; done) hp
   | 13, ho, hL, hd =>
     cases Option.some.inj ho
     have h25 : L 25 = false := Zq hsh (by kernel_rfl) hL
     have hon := hI.core h25
     obtain ⟨y1, y2, y3, y4, y5, y6, y7, y8, y9⟩ := K11.out _ hon
     have d12 := hd { on := 12, ground := .data } (by simp) rfl
     have u12 : a'.eval (.tmp 79) = _ := hI.vals 12 _ rfl d12
     have hp := hI.pure 13 rfl (by decide) hz _ (fun v' e => Option.some.inj e)
     exact Ye ho rfl (w' := w') (by simp [execOp, go_sem, evg u12, y5]; done) hp
   | 14, ho, hL, hd =>
     cases Option.some.inj ho
     have h25 : L 25 = false := Zq hsh (by kernel_rfl) hL
     have hon := hI.core h25
     obtain ⟨y1, y2, y3, y4, y5, y6, y7, y8, y9⟩ := K11.out _ hon
     have n15 : L 15 = false := Zq hsh (by kernel_rfl) hL
     have n23 : L 23 = false := Zq hsh (by kernel_rfl) n15
     have d13 := hd { on := 13, ground := .data } (by simp) rfl
     have u13 : a'.eval (.tmp 80) = _ := hI.vals 13 _ rfl d13
     refine Ye ho rfl (v := .slice (some ⟨w'.heap.size, 0, none⟩) 1 1) (w' := w'.alloc (.cells (([s]).map Y3).toArray 9)) (by simp [execOp, go_sem, Y3, evg u13]; done) (hI.make 14 1 [s] (by decide) hz hbw11 rfl n23 h25 (by simp) (fun S q => q.made 14 1 _ [s] (hsz _ (by decide)) (fun e1 e2 => .inr ⟨by decide, by decide, (Zj (by decide)).symm.trans e1, (Zj (by decide)).symm.trans e2⟩) (fun e1 e2 => .inr ⟨by decide, by decide, (Zj (by decide)).symm.trans e1, (Zj (by decide)).symm.trans e2⟩) (fun e1 => .inr ⟨by decide, by decide, (Zj (by decide)).symm.trans e1⟩) (fun _ => .inl ⟨rfl, rfl, rfl⟩) (fun e1 e2 => .inr ⟨by decide, by decide, (Zj (by decide)).symm.trans e1, (Zj (by decide)).symm.trans e2⟩) (fun e1 e2 => .inr ⟨by decide, by decide, (Zj (by decide)).symm.trans e1, (Zj (by decide)).symm.trans e2⟩) (fun e1 => .inr ⟨by decide, by decide, (Zj (by decide)).symm.trans e1⟩) (fun e1 => .inr ⟨by decide, by decide, (Zj (by decide)).symm.trans e1⟩)))
   | 15, ho, hL, hd =>
     cases Option.some.inj ho
     have h25 : L 25 = false := Zq hsh (by kernel_rfl) hL
     have hon := hI.core h25
     obtain ⟨y1, y2, y3, y4, y5, y6, y7, y8, y9⟩ := K11.out _ hon
     have n23 : L 23 = false := Zq hsh (by kernel_rfl) hL
     have d8 := hd { on := 8, ground := .data } (by simp) rfl
     have d14 := hd { on := 14, ground := .data } (by simp) rfl
     obtain ⟨S, qs, qt⟩ := hI.slots n23
     have hsl := qt.c1 d8 hL
     have hown := qs.own 0 _ _ hsl
     have hstr : Zw w' (a'.eval (.tmp 81)) [s] := Yh (qs.own 1 _ _ (qt.c3 d14)) (by simp)
     obtain ⟨v9, w9x, hr9, ho9, hg9, hv9⟩ := Qx (P := prog) w' w11.heap.size 28 28 9 j0 underlying28 hj0 hy0 hy1 hy2 _ (mN) hown _ ([s]) hstr (by simp; omega) hon.size
     refine Ye ho rfl (v := v9) (w' := w9x) (Z6k rfl hr9) (hI.grow 15 0 _ v9 (mN) (mN ++ [s]) (by decide) hz hbw11 rfl n23 h25 ho9 hg9 hv9 (fun q hq => (Yb hown hq).1) (fun S q => ⟨q.c1 d8 hL, q.made 15 0 v9 (mN ++ [s]) (hsz _ (by decide)) (fun e1 e2 => Bool.noConfusion (d8.symm.trans ((Zj (by decide)).symm.trans e2))) (fun e1 e2 => Bool.noConfusion ((Z4d L 15).symm.trans e2)) (fun _ => .inl ⟨rfl, rfl, rfl⟩) (fun e1 => .inr ⟨by decide, by decide, (Zj (by decide)).symm.trans e1⟩) (fun e1 e2 => .inr ⟨by decide, by decide, (Zj (by decide)).symm.trans e1, (Zj (by decide)).symm.trans e2⟩) (fun e1 e2 => .inr ⟨by decide, by decide, (Zj (by decide)).symm.trans e1, (Zj (by decide)).symm.trans e2⟩) (fun e1 => .inr ⟨by decide, by decide, (Zj (by decide)).symm.trans e1⟩) (fun e1 => .inr ⟨by decide, by decide, (Zj (by decide)).symm.trans e1⟩)⟩))
   | 16, ho, hL, hd =>
     cases Option.some.inj ho
     have h25 : L 25 = false := Zq hsh (by kernel_rfl) hL
     have hon := hI.core h25
     obtain ⟨y1, y2, y3, y4, y5, y6, y7, y8, y9⟩ := K11.out _ hon
     have n18 : L 18 = false := Zq hsh (by kernel_rfl) hL
     have n21 : L 21 = false := Zq hsh (by kernel_rfl) n18
     have n23 : L 23 = false := Zq hsh (by kernel_rfl) n21
     refine Ye ho rfl (v := .slice (some ⟨w'.heap.size, 0, none⟩) 0 0) (w' := w'.alloc (.cells ((([] : List Nm)).map Y3).toArray 9)) (by simp [execOp, go_sem, Y3]; done) (hI.make 16 2 ([] : List Nm) (by decide) hz hbw11 rfl n23 h25 (by simp) (fun S q => q.made 16 2 _ ([] : List Nm) (hsz _ (by decide)) (fun e1 e2 => .inr ⟨by decide, by decide, (Zj (by decide)).symm.trans e1, (Zj (by decide)).symm.trans e2⟩) (fun e1 e2 => .inr ⟨by decide, by decide, (Zj (by decide)).symm.trans e1, (Zj (by decide)).symm.trans e2⟩) (fun e1 => .inr ⟨by decide, by decide, (Zj (by decide)).symm.trans e1⟩) (fun e1 => .inr ⟨by decide, by decide, (Zj (by decide)).symm.trans e1⟩) (fun _ _ => .inl ⟨rfl, rfl, rfl⟩) (fun e1 e2 => Bool.noConfusion (n18.symm.trans ((Zj (by decide)).symm.trans e1))) (fun e1 => Bool.noConfusion (n21.symm.trans ((Zj (by decide)).symm.trans e1))) (fun e1 => .inr ⟨by decide, by decide, (Zj (by decide)).symm.trans e1⟩)))
   | 17, ho, hL, hd =>
     cases Option.some.inj ho
     have h25 : L 25 = false := Zq hsh (by kernel_rfl) hL
     have hon := hI.core h25
     obtain ⟨y1, y2, y3, y4, y5, y6, y7, y8, y9⟩ := K11.out _ hon
     have k2 : a'.eval (.tmp 2) = _ := (hI.keep 2 (by decide)).trans e2
     have hp := hI.pure 17 rfl (by decide) hz _ (fun v' e => Option.some.inj e)
     exact Ye ho rfl (w' := w') (by simp [execOp, go_sem, evg k2]; done) hp
   | 18, ho, hL, hd =>
     cases Option.some.inj ho
     have h25 : L 25 = false := Zq hsh (by kernel_rfl) hL
     have hon := hI.core h25
     obtain ⟨y1, y2, y3, y4, y5, y6, y7, y8, y9⟩ := K11.out _ hon
     have n21 : L 21 = false := Zq hsh (by kernel_rfl) hL
     have n23 : L 23 = false := Zq hsh (by kernel_rfl) n21
     have d16 := hd { on := 16, ground := .data } (by simp) rfl
     have d17 := hd { on := 17, ground := .data } (by simp) rfl
     have u17 : a'.eval (.tmp 84) = _ := hI.vals 17 _ rfl d17
     obtain ⟨S, qs, qt⟩ := hI.slots n23
     have hsl := qt.c4 d16 hL
     have hown := qs.own 2 _ _ hsl
     have hstr : Zw w' (a'.eval (.tmp 84)) (mT) := by rw [u17]; exact (HV2.out.only (hon)).1
     obtain ⟨v9, w9x, hr9, ho9, hg9, hv9⟩ := Qx (P := prog) w' w11.heap.size 28 28 9 j0 underlying28 hj0 hy0 hy1 hy2 _ (([] : List Nm)) hown _ (mT) hstr (by simp; omega) hon.size
     refine Ye ho rfl (v := v9) (w' := w9x) (Z6k rfl hr9) (hI.grow 18 2 _ v9 (([] : List Nm)) (mT) (by decide) hz hbw11 rfl n23 h25 ho9 hg9 hv9 (fun q hq => (Yb hown hq).1) (fun S q => ⟨q.c4 d16 hL, q.made 18 2 v9 (mT) (hsz _ (by decide)) (fun e1 e2 => .inr ⟨by decide, by decide, (Zj (by decide)).symm.trans e1, (Zj (by decide)).symm.trans e2⟩) (fun e1 e2 => .inr ⟨by decide, by decide, (Zj (by decide)).symm.trans e1, (Zj (by decide)).symm.trans e2⟩) (fun e1 => .inr ⟨by decide, by decide, (Zj (by decide)).symm.trans e1⟩) (fun e1 => .inr ⟨by decide, by decide, (Zj (by decide)).symm.trans e1⟩) (fun e1 e2 => Bool.noConfusion ((Z4d L 18).symm.trans e2)) (fun _ _ => .inl ⟨rfl, rfl, rfl⟩) (fun e1 => Bool.noConfusion (n21.symm.trans ((Zj (by decide)).symm.trans e1))) (fun e1 => .inr ⟨by decide, by decide, (Zj (by decide)).symm.trans e1⟩)⟩))
   | 19, ho, hL, hd =>
     cases Option.some.inj ho
     have h25 : L 25 = false := Zq hsh (by kernel_rfl) hL
     have hon := hI.core h25
     obtain ⟨y1, y2, y3, y4, y5, y6, y7, y8, y9⟩ := K11.out _ hon
     have k12 : a'.eval (.tmp 12) = _ := (hI.keep 12 (by decide)).trans e12
     have hp := hI.pure 19 rfl (by decide) hz _ (fun v' e => Option.some.inj e)
     exact Ye ho rfl (w' := w') (by simp [execOp, go_sem, evg k12]; done) hp
   | 20, ho, hL, hd =>
     cases Option.some.inj ho
     have h25 : L 25 = false := Zq hsh (by kernel_rfl) hL
     have hon := hI.core h25
     obtain ⟨y1, y2, y3, y4, y5, y6, y7, y8, y9⟩ := K11.out _ hon
     have n21 : L 21 = false := Zq hsh (by kernel_rfl) hL
     have n23 : L 23 = false := Zq hsh (by kernel_rfl) n21
     have d19 := hd { on := 19, ground := .data } (by simp) rfl
     have u19 : a'.eval (.tmp 86) = _ := hI.vals 19 _ rfl d19
     refine Ye ho rfl (v := .slice (some ⟨w'.heap.size, 0, none⟩) 1 1) (w' := w'.alloc (.cells (([X]).map Y3).toArray 9)) (by simp [execOp, go_sem, Y3, evg u19]; done) (hI.make 20 3 [X] (by decide) hz hbw11 rfl n23 h25 (by simp) (fun S q => q.made 20 3 _ [X] (hsz _ (by decide)) (fun e1 e2 => .inr ⟨by decide, by decide, (Zj (by decide)).symm.trans e1, (Zj (by decide)).symm.trans e2⟩) (fun e1 e2 => .inr ⟨by decide, by decide, (Zj (by decide)).symm.trans e1, (Zj (by decide)).symm.trans e2⟩) (fun e1 => .inr ⟨by decide, by decide, (Zj (by decide)).symm.trans e1⟩) (fun e1 => .inr ⟨by decide, by decide, (Zj (by decide)).symm.trans e1⟩) (fun e1 e2 => .inr ⟨by decide, by decide, (Zj (by decide)).symm.trans e1, (Zj (by decide)).symm.trans e2⟩) (fun e1 e2 => .inr ⟨by decide, by decide, (Zj (by decide)).symm.trans e1, (Zj (by decide)).symm.trans e2⟩) (fun e1 => .inr ⟨by decide, by decide, (Zj (by decide)).symm.trans e1⟩) (fun _ => .inl ⟨rfl, rfl, rfl⟩)))
   | 21, ho, hL, hd =>
     cases Option.some.inj ho
     have h25 : L 25 = false := Zq hsh (by kernel_rfl) hL
     have hon := hI.core h25
     obtain ⟨y1, y2, y3, y4, y5, y6, y7, y8, y9⟩ := K11.out _ hon
     have n23 : L 23 = false := Zq hsh (by kernel_rfl) hL
     have d18 := hd { on := 18, ground := .data } (by simp) rfl
     have d20 := hd { on := 20, ground := .data } (by simp) rfl
     obtain ⟨S, qs, qt⟩ := hI.slots n23
     have hsl := qt.c5 d18 hL
     have hown := qs.own 2 _ _ hsl
     have hstr : Zw w' (a'.eval (.tmp 87)) [X] := Yh (qs.own 3 _ _ (qt.c7 d20)) (by simp)
     obtain ⟨v9, w9x, hr9, ho9, hg9, hv9⟩ := Qx (P := prog) w' w11.heap.size 28 28 9 j0 underlying28 hj0 hy0 hy1 hy2 _ (mT) hown _ ([X]) hstr (by simp; omega) hon.size
     refine Ye ho rfl (v := v9) (w' := w9x) (Z6k rfl hr9) (hI.grow 21 2 _ v9 (mT) (mT ++ [X]) (by decide) hz hbw11 rfl n23 h25 ho9 hg9 hv9 (fun q hq => (Yb hown hq).1) (fun S q => ⟨q.c5 d18 hL, q.made 21 2 v9 (mT ++ [X]) (hsz _ (by decide)) (fun e1 e2 => .inr ⟨by decide, by decide, (Zj (by decide)).symm.trans e1, (Zj (by decide)).symm.trans e2⟩) (fun e1 e2 => .inr ⟨by decide, by decide, (Zj (by decide)).symm.trans e1, (Zj (by decide)).symm.trans e2⟩) (fun e1 => .inr ⟨by decide, by decide, (Zj (by decide)).symm.trans e1⟩) (fun e1 => .inr ⟨by decide, by decide, (Zj (by decide)).symm.trans e1⟩) (fun e1 e2 => Bool.noConfusion (d18.symm.trans ((Zj (by decide)).symm.trans e2))) (fun e1 e2 => Bool.noConfusion ((Z4d L 21).symm.trans e2)) (fun _ => .inl ⟨rfl, rfl, rfl⟩) (fun e1 => .inr ⟨by decide, by decide, (Zj (by decide)).symm.trans e1⟩)⟩))
   | 22, ho, hL, hd =>
     cases Option.some.inj ho
     have h25 : L 25 = false := Zq hsh (by kernel_rfl) hL
     have hon := hI.core h25
     obtain ⟨y1, y2, y3, y4, y5, y6, y7, y8, y9⟩ := K11.out _ hon
     have k3 : a'.eval (.tmp 3) = _ := (hI.keep 3 (by decide)).trans e3
     have hp := hI.pure 22 rfl (by decide) hz _ (fun v' e => Option.some.inj e)
     exact Ye ho rfl (w' := w') (by simp [execOp, go_sem, evg k3]; done) hp
   | 23, ho, hL, hd =>
     cases Option.some.inj ho
     have h25 : L 25 = false := Zq hsh (by kernel_rfl) hL
     have hon := hI.core h25
     obtain ⟨y1, y2, y3, y4, y5, y6, y7, y8, y9⟩ := K11.out _ hon
     have d5 := hd { on := 5, ground := .data } (by simp) rfl
     have u5 : a'.eval (.tmp 72) = _ := hI.vals 5 _ rfl d5
     have d15 := hd { on := 15, ground := .data } (by simp) rfl
     have d21 := hd { on := 21, ground := .data } (by simp) rfl
     have d22 := hd { on := 22, ground := .data } (by simp) rfl
     have u22 : a'.eval (.tmp 89) = _ := hI.vals 22 _ rfl d22
     obtain ⟨S, qs, qt⟩ := hI.slots hL
     have ha1 := qs.own 0 _ _ (qt.c2 d15)
     have ha2 := qs.own 2 _ _ (qt.c6 d21)
     refine wpOp_enter ho rfl (f := 68) (args := #[.agg #[.string At3, .slice pc mc cc], a'.eval (.tmp 82), a'.eval (.tmp 88), .pointer (some ⟨b, 0, none⟩)]) (w' := w') (by simp [execOp, resolve, go_sem, evg u5, evg u22]; done) (C2.out w' _ _ (hon) (hI.rn hL) (LsT.more ha1 hbw11 (by simp; omega)) (LsT.more ha2 hbw11 (by simp; omega))) ?_
     rintro e9 w9x ⟨⟨p9, m9, c9, rfl, hv9⟩, hn9, ho9⟩
     refine ⟨_, rfl, ?_⟩
     have hne : ∀ t : Nat, t ≠ 90 → (a'.put (some 90) (.agg #[.string (bs (Z1 (Z0 fc))), .slice p9 m9 c9])).eval (.tmp t) = a'.eval (.tmp t) := fun t ht => by rw [Jr hsz2, if_neg ht]
     refine ⟨by rw [Z77]; exact hI.sz, fun t ht => (hne t (by omega)).trans (hI.keep t ht), by rw [Z40]; exact hI.dfr, fun j u hj hLj => ?_, fun _ => hon.trans ho9, fun e => by simp at e, fun e => by simp at e, fun _ _ => ⟨p9, m9, c9, ?_, ?_, hn9⟩, fun e => ?_⟩
     · by_cases ej : j = 23
       · subst ej; cases hj
       · exact (hne (67 + j) (by omega)).trans (hI.vals j u hj (by simpa [ej] using hLj))
     · exact (Jr hsz2).trans (if_pos rfl)
     · exact FV.wide hv9 (fun q hq => hq.imp id (fun h => ⟨Nat.le_trans hon.size h.1, h.2⟩))
     · rw [show (if (25 : Nat) = 23 then true else L 25) = L 25 from rfl, h25] at e; cases e
   | 24, ho, hL, hd =>
     cases Option.some.inj ho
     have h25 : L 25 = false := Zq hsh (by kernel_rfl) hL
     have hon := hI.core h25
     obtain ⟨y1, y2, y3, y4, y5, y6, y7, y8, y9⟩ := K11.out _ hon
     have d1 := hd { on := 1, ground := .data } (by simp) rfl
     have u1 : a'.eval (.tmp 68) = _ := hI.vals 1 _ rfl d1
     have hp := hI.pure 24 rfl (by decide) hz _ (fun v' e => Option.some.inj e)
     exact Ye ho rfl (w' := w') (by simp [execOp, go_sem, evg u1]; done) hp
   | 25, ho, hL, hd =>
     cases Option.some.inj ho
     have d24 := hd { on := 24, ground := .data } (by simp) rfl
     have u24 : a'.eval (.tmp 91) = _ := hI.vals 24 _ rfl d24
     have d23 := hd { on := 23, ground := .data } (by simp) rfl
     have hon := hI.core hL
     obtain ⟨y1, y2, y3, y4, y5, y6, y7, y8, y9⟩ := K11.out _ hon
     obtain ⟨p9, m9, c9, e90, hv9, hn9⟩ := hI.mid d23 hL
     refine wpOp_skip ho rfl (w' := (w'.setCell ⟨g, 6, none⟩ (.string (bs (Z1 (Z0 fc))))).setCell ⟨g, 7, none⟩ (.slice p9 m9 c9)) (by simp [execOp, go_sem, evg u24, evg e90, y6, y7, y8, y9]; done) ?_
     refine ⟨hI.sz, hI.keep, hI.dfr, fun j u hj hLj => ?_, fun e => by simp at e, fun e => ?_, fun e => ?_, fun _ e => by simp at e, fun _ => ⟨w', p9, m9, c9, hon, hn9, hv9, rfl⟩⟩
     · by_cases ej : j = 25
       · subst ej; cases hj
       · exact hI.vals j u hj (by simpa [ej] using hLj)
     · rw [show (if (23 : Nat) = 25 then true else L 23) = L 23 from rfl, d23] at e; cases e
     · rw [show (if (23 : Nat) = 25 then true else L 23) = L 23 from rfl, d23] at e; cases e
   | ix + 26, ho, _, _ => simp at ho
 · intro L a' w' hall hI
   exact he a' w' hI.keep hI.sz hI.dfr (hI.fin (hall 25 (by decide)))
end Go.Proofs.YtjaaalojcdbcpaaGreatDoor
