/- The reference model: the kids of a text. The reference model puts a closed expression for a name: lists. The reference makes expressions plain: atoms. The program's ExprPut. An expression with a closed one put for a name is an expression again, and its text is read as it if it keeps the limits. The plain mathematics of ExprOf: the plainest expression of a type. -/
import Derived.Test.YtjaaalojcdbcpaaGreatDoorpImpl2v
import Derived.Test.YtjaaalojcdbcpaaGreatDoorpPureMM
import Derived.Test.YtjaaalojcdbcpaaGreatDoorpImpl2xM
import Derived.Deep.RegionHeldLaw
import Derived.Test.YtjaaalojcdbcpaaGreatDoorpPureT
import Derived.Test.YtjaaalojcdbcpaaGreatDoorpSpec2c
set_option maxHeartbeats 20000000
set_option linter.unusedVariables false
set_option linter.unusedSimpArgs false
namespace Go.Proofs.YtjaaalojcdbcpaaGreatDoor
open Go.RowKit Go.Proofs.Tryz
set_option maxRecDepth 8000
theorem Tryz.infoT1 : (prog.info? 47).map (fun i => (i.zero, i.size, i.bytes)) = some (some (.agg #[.string ⟨#[]⟩, .slice none 0 0]), 2, 40) := by kernel_rfl
theorem Qp {P : Program} (w : World) {ops : Array Oper} {rest : List Oper} {o : Oper} {a : Act} {Q : Exit → Act → World → Prop} (hgd : o.guard = none) (s x : Operand) (t : TypeId)
 (ho : o.op = .call { callee := .builtin .append, args := #[s, x], argTypes := #[t, t] })
 (base : Nat) (e : TypeId) (i : TypeInfo) (z : Value) (size bytes : Nat) (ht : P.underlying t = some (.slice e)) (hi : P.info? e = some i) (hz : i.zero = some z)
 (hsize : i.size = size) (hby : i.bytes = bytes) (hzs : z.cells.size = size) (hsz : 0 < size)
 (v : Value) (n m N : Nat) (hN : N = n + m) (hm : 0 < m) (xs : List Value) (hs : a.eval s = v) (hown : w.ownsRow base e size v n xs)
 (ad : Addr) (c : Nat) (news : List Value) (hx : a.eval x = .slice (some ad) m c) (hl : news.length = m * size) (hnews : ∀ j u, news[j]? = some u → w.cell? (ad.add j) = some u) (h1 : ∀ u ∈ news, u.oneCell' = true)
 (h63 : N ≤ maxLen) (hbytes : N * bytes ≤ 140737488355328) (hbase : base ≤ w.heap.size)
 (h : ∀ g' c' w', w'.ownsRow base e size (.slice (some ⟨g', 0, none⟩) N c') N (xs ++ news) → w.grownBy w' v.ownBlock → (v.ownBlock = some g' ∨ g' = w.heap.size) → wpList P ops Q rest (a.put o.dst (.slice (some ⟨g', 0, none⟩) N c')) w') : wpList P ops Q (o :: rest) a w := by
 obtain ⟨g', c', w', hr, h2, h3, h4⟩ := Ky (P := P) w base t o.type e i z size bytes ht hi hz hsize hby hzs hsz v n m N hN hm xs hown ad c news hl hnews h1 h63 hbytes hbase
 refine wpList_plain hgd fun _ hK => ?_
 unfold Oper.wp execOp
 simp only [ho, resolve, invoke, builtin, Sem.run_bind, Sem.run_pure, Result.andThen_ok, List.map_toArray, List.map_cons, List.map_nil, hs, hx, hr]
 exact hK _ _ (h g' c' w' h2 h3 h4)
theorem FVs.one {w : World} {ok : Nat → Prop} : ∀ {ts : List Tr} {xs : List Value}, FVs nS w ok ts xs → ∀ u ∈ xs, u.oneCell' = true
 | [], xs, h, u, hu => by simp only [FVs] at h; subst h; cases hu
 | t :: ts, xs, h, u, hu => by
   simp only [FVs] at h
   obtain ⟨c, d, rfl, h1, h2⟩ := h
   obtain ⟨p, m, c', rfl⟩ := h1.node
   rcases List.mem_append.1 hu with h | h
   · simp only [nS, List.mem_cons, List.not_mem_nil, or_false] at h
     rcases h with rfl | rfl <;> rfl
   · exact FVs.one h2 u h
theorem own_row {w : World} {base g L c1 : Nat} {ys : List Value} (ho : w.ownsRow base 47 2 (.slice (some ⟨g, 0, none⟩) L c1) L ys) : ∃ cur, w.heap[g]? = some (.cells cur 47 (0, 0)) ∧ L * 2 ≤ cur.size ∧ cur.toList.take (L * 2) = ys ∧ base ≤ g := by
 rcases ho.2 with ⟨e, _⟩ | ⟨g2, cap, cur, e, h0, h3, h1, h2, h4, h5⟩
 · cases e
 · simp only [Value.slice.injEq, Option.some.injEq, Addr.mk.injEq, and_true, true_and] at e
   obtain ⟨rfl, rfl⟩ := e
   exact ⟨cur, h3, by omega, h5, h0⟩
theorem own_set {w : World} {base g L c1 : Nat} {ys : List Value} (ho : w.ownsRow base 47 2 (.slice (some ⟨g, 0, none⟩) L c1) L ys) (k : Nat) (u v : Value) :
 ((w.setCell ⟨g, k, none⟩ u).setCell ⟨g, k + 1, none⟩ v).ownsRow base 47 2 (.slice (some ⟨g, 0, none⟩) L c1) L ((ys.set k u).set (k + 1) v) := by
 refine ⟨by simpa using ho.1, ?_⟩
 rcases ho.2 with ⟨e, _⟩ | ⟨g2, cap, cur, e, h0, h3, h1, h2, h4, h5⟩
 · cases e
 · simp only [Value.slice.injEq, Option.some.injEq, Addr.mk.injEq, and_true, true_and] at e
   obtain ⟨rfl, rfl⟩ := e
   refine .inr ⟨g, c1, (cur.setIfInBounds k u).setIfInBounds (k + 1) v, rfl, h0, X5 (X5 h3 u) v, h1, h2, by simpa using h4, ?_⟩
   rw [← h5]
   simp [List.take_set]
theorem Z1h (w : World) (a b c : Obj) : (((w.alloc a).alloc b).alloc c).heap[w.heap.size + 2]? = some c := by
 have := heap_alloc_new ((w.alloc a).alloc b) c
 rwa [show ((w.alloc a).alloc b).heap.size = w.heap.size + 2 by simp] at this
theorem heap_new4 (w : World) (a b c d : Obj) : ((((w.alloc a).alloc b).alloc c).alloc d).heap[w.heap.size + 3]? = some d := by
 have := heap_alloc_new (((w.alloc a).alloc b).alloc c) d
 rwa [show (((w.alloc a).alloc b).alloc c).heap.size = w.heap.size + 3 by simp] at this
theorem V8 {W : World} {b base : Nat} (h : W.heap[b]? = some (.cells #[] 47 (0, 0))) (hb : base ≤ b) : W.ownsRow base 47 2 (.slice (some ⟨b, 0, none⟩) 0 0) 0 [] := ⟨rfl, .inr ⟨b, 0, _, rfl, hb, h, Nat.le_refl _, Nat.zero_le _, rfl, rfl⟩⟩
def LsT (w : World) (b : Nat) (v : Value) (l : List Nm) : Prop := Yh w v l ∧ ∀ q, v.ownBlock = some q → q ≠ b ∧ q < w.heap.size
theorem LsT.only {w w' : World} {b : Nat} {v : Value} {l : List Nm} (h : LsT w b v l) (ho : Only b w w') : LsT w' b v l := ⟨h.1.only ho h.2, fun q hq => ⟨(h.2 q hq).1, Nat.lt_of_lt_of_le (h.2 q hq).2 ho.size⟩⟩
theorem RN.below {w w' : World} {b k : Nat} {vf : Value} (h : RN w b vf k) (hb : Below w.heap.size w w') : RN w' b vf k := Z3 hb (lt_of_block h) h
def PlR (b B : Nat) (vf : Value) (R : Ex × Nat) (w : World) (e : Ending) (w' : World) : Prop :=
 (∃ p m c, e = .returned (.agg #[.string (bs (Z1 (Z0 R.1))), .slice p m c]) ∧ FV nS w' (fun q => q < B ∨ (w.heap.size ≤ q ∧ q < w'.heap.size)) (Z0 R.1) (nS (Z0 R.1) (.slice p m c))) ∧ RN w' b vf R.2 ∧ Only b w w'
def PlS (free : List Nm) (n : Nat) : Prop := ∀ (t : Tr) (x : Ex) (cs : List Value) (m : List (Nm × Nm)) (k : Nat) (v1 v2 vf : Value) (b B : Nat) (w : World), t.depth < n → t.wf → t.bytes ≤ 12000 → Zt t = some x → FV nS w (fun q => q < B) t cs → B ≤ b → RN w b vf k → LsT w b vf free → LsT w b v1 (Q2 m) → LsT w b v2 (J4 m) → m.length + 2 * t.depth ≤ 1000 → free.length ≤ 1000 → (plE free m k x).2 ≤ 1000 →
    Calls prog 68 #[.agg cs.toArray, v1, v2, .pointer (some ⟨b, 0, none⟩)] w fun e w' => PlR b B vf (plE free m k x) w e w'
theorem Z0x (s : ByteArray) (w : World) : Calls prog 110 #[.string s] w fun e w' => e = .returned (.agg #[.string s, .slice none 0 0]) ∧ Below w.heap.size w w' := by
 go_enter func110, ntmps110
 go_wp2_with fail
 refine bodyPost_ret (v := .agg #[.string s, .slice none 0 0]) (by simp [results, results110, go_sem]) rfl ?_
 exact ⟨rfl, (by (repeat (first | exact Below.refl _ _ | (refine Below.alloc ?_ (by first | (simp; done) | (simp; omega)) _) | (refine Below.setCell ?_ (by first | (simp; done) | (simp; omega)) _))))⟩
theorem atom_kind {a : List UInt8} {x : Ex} (h : Zt (.atom a) = some x) : (Y4 a = true → x = .name a) ∧ (Y4 a = false → ∃ n, x = .num n) := by
 simp only [Zt, Xt] at h
 cases hm : Xl a with
 | some n =>
   simp only [hm, Option.some.injEq] at h
   subst h
   exact ⟨fun e => (by rw [K5 hm] at e; cases e), fun _ => ⟨n, rfl⟩⟩
 | none =>
   simp only [hm] at h
   split at h
   · rename_i q
     simp only [Option.some.injEq] at h
     subst h
     exact ⟨fun _ => rfl, fun e => (by rw [q] at e; cases e)⟩
   · cases h
theorem l2Plain_atom (free : List Nm) (a : List UInt8) (x : Ex) (m : List (Nm × Nm)) (k : Nat) (v1 v2 vf : Value) (b B : Nat) (w : World) (ha0 : a ≠ []) (hal : a.length ≤ 1048576) (hx : Zt (.atom a) = some x) (hr : RN w b vf k) (h1 : LsT w b v1 (Q2 m)) (h2 : LsT w b v2 (J4 m)) (hm : m.length ≤ 1000) :
 Calls prog 68 #[.agg #[.string (bs a), .slice none 0 0], v1, v2, .pointer (some ⟨b, 0, none⟩)] w fun e w' => PlR b B vf (plE free m k x) w e w' := by
 obtain ⟨hk1, hk2⟩ := atom_kind hx
 have hf := Xf _ _ hx
 have ha := Z1l ha0
 have CN : Hid (∀ W, Calls prog 53 #[.string (bs a)] W fun e w' => e = .returned (.bool (Y4 a)) ∧ w' = W) := H_ (fun W => Ju a hal W)
 have HR := H_ hr
 have HL : Hid (∀ W, Only b w W → Calls prog 111 #[v1, v2, .string (bs a)] W fun e w' => e = .returned (.string (bs (Qf m a))) ∧ w' = W) := H_ (fun W hW => by
  have h := l2Look_c v1 v2 (Q2 m) (J4 m) a W (h1.only hW).1 (h2.only hW).1 (by rw [Ki, Z0v]) (by rw [Ki]; omega)
  rw [Ki, lookD_map] at h
  exact h)
 obtain ⟨p1, c1, e1, -, -⟩ := id h1.1
 obtain ⟨p2, c2, e2, -, -⟩ := id h2.1
 subst e1 e2
 clear h1 h2 hr hx
 cases hn : Y4 a with
 | false =>
   obtain ⟨n, rfl⟩ := hk2 hn
   have HF := H_ hf
   unfold Hid at CN
   rw [hn] at CN
   have CN := H_ CN
   clear hk1 hk2 hf hn HL
   show Calls _ _ _ _ fun e w' => PlR b B vf (.num n, k) w e w'
   go_enter func68, ntmps68
   go_wp2_with (go_at_call 53; go_must (refine (CN.out _).mono ?_; rintro e w1 ⟨rfl, rfl⟩))
   refine bodyPost_ret (v := .agg #[.string (bs a), .slice none 0 0]) (by simp [results, results68, go_sem]) rfl ?_
   refine ⟨⟨none, 0, 0, by rw [HF.out]; rfl, by rw [HF.out]; rfl⟩, HR.out.below ?_, Only.of ?_⟩
   · exact (by (repeat (first | exact Below.refl _ _ | (refine Below.alloc ?_ (by first | (simp; done) | (simp; omega)) _) | (refine Below.setCell ?_ (by first | (simp; done) | (simp; omega)) _))))
   · exact (by (repeat (first | exact Below.refl _ _ | (refine Below.alloc ?_ (by first | (simp; done) | (simp; omega)) _) | (refine Below.setCell ?_ (by first | (simp; done) | (simp; omega)) _))))
 | true =>
   obtain rfl := hk1 hn
   unfold Hid at CN
   rw [hn] at CN
   have CN := H_ CN
   clear hk1 hk2 hf hn
   show Calls _ _ _ _ fun e w' => PlR b B vf (.name (Qf m a), k) w e w'
   generalize Qf m a = A at *
   go_enter func68, ntmps68
   go_wp2_with (first | (go_at_call 53; go_must (refine (CN.out _).mono ?_; rintro e w1 ⟨rfl, rfl⟩)) | (go_at_call 111; go_must (refine (HL.out _ (by (repeat (first | exact Only.refl _ _ | (refine Only.alloc ?_ _) | (refine Only.setNew ?_ (by first | (simp; done) | (simp; omega)) _))))).mono ?_; rintro e w1 ⟨rfl, rfl⟩)) | (go_at_call 110; go_must (refine (Z0x _ _).mono ?_; rintro e w2 ⟨rfl, hb2⟩; have x2 : w2.heap[w.heap.size + 1]? = some (.cells #[.string ⟨#[]⟩, .slice none 0 0] 47 (0, 0)) := Z3 hb2 (by simp) (Zd _ _ _); obtain ⟨r0, r1⟩ := Zm x2; obtain ⟨f0, f1⟩ := X3 x2)))
   have kk := X5 (j := 1) (X5 (j := 0) x2 (.string (bs A))) (.slice none 0 0)
   obtain ⟨k0, k1⟩ := Zm kk
   refine bodyPost_ret (v := .agg #[.string (bs A), .slice none 0 0]) (by simp [results, results68, go_sem, k0, k1]) rfl ?_
   have hbw : Below w.heap.size w w2 := Below.trans (by (repeat (first | exact Below.refl _ _ | (refine Below.alloc ?_ (by first | (simp; done) | (simp; omega)) _) | (refine Below.setCell ?_ (by first | (simp; done) | (simp; omega)) _)))) (hb2.mono (by simp; omega))
   have hbx : Below w.heap.size w ((w2.setCell ⟨w.heap.size + 1, 0, none⟩ (.string (bs A))).setCell ⟨w.heap.size + 1, 1, none⟩ (.slice none 0 0)) := (hbw.setCell (by simp) _).setCell (by simp) _
   exact ⟨⟨none, 0, 0, rfl, rfl⟩, HR.out.below hbx, Only.of hbx⟩
def limT (T : Tr) : Option (List UInt8) := if T.size ≤ 120 ∧ T.bytes ≤ 12000 ∧ T.depth ≤ 60 then some T.text else none
def putTx (l n y : List UInt8) : Option (List UInt8) :=
 match Zy l with
 | none => none
 | some x => if Y4 n = true then (match readCl y with | none => none | some b => limT (Z0 (Z1c n b x))) else none
def TxPost (r : Option (List UInt8)) (e : Ending) : Prop := e = .returned (.tuple #[.string (bs (r.getD [])), .bool r.isSome])
def exOf : Tr → Ex
 | .list [x, a, b] => if Z1 x = [42] then .two .pair (exOf a) (exOf b) else .func [102] [120] a b (exOf b)
 | _ => .num 0
structure OfOK (t : Tr) : Prop where
 wf : (Z0 (exOf t)).wf
 bytes : (Z0 (exOf t)).bytes ≤ 100 * t.size
 ok : Xw (exOf t)
 good : Zt (Z0 (exOf t)) = some (exOf t)
def ofTx (l : List UInt8) : Option (List UInt8) := (Z1a l).bind (fun t => limT (Z0 (exOf t)))
end Go.Proofs.YtjaaalojcdbcpaaGreatDoor
