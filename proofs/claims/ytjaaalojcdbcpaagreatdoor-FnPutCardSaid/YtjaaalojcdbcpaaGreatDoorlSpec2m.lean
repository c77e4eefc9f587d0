/- The reference model puts a closed expression for a name: lists. -/
import Derived.Test.YtjaaalojcdbcpaaGreatDoorlSpec2lM
import Derived.Test.YtjaaalojcdbcpaaGreatDoorlIp1M
import Derived.Deep.RegionHeldLaw
set_option maxHeartbeats 20000000
set_option linter.unusedVariables false
set_option linter.unusedSimpArgs false
namespace Go.Proofs.YtjaaalojcdbcpaaGreatDoor
open Go.RowKit Go.Proofs.Tryz
set_option maxRecDepth 8000
theorem Tryz.infoT1 : (prog.info? 47).map (fun i => (i.zero, i.size, i.bytes)) = some (some (.agg #[.string ⟨#[]⟩, .slice none 0 0]), 2, 40) := by kernel_rfl
theorem Jb {P : Program} (w : World) {ops : Array Oper} {rest : List Oper} {o : Oper} {a : Act} {Q : Exit → Act → World → Prop} (hgd : o.guard = none) (s x : Operand) (t : TypeId)
 (ho : o.op = .call { callee := .builtin .append, args := #[s, x], argTypes := #[t, t] })
 (base : Nat) (e : TypeId) (i : TypeInfo) (z : Value) (size bytes : Nat) (ht : P.underlying t = some (.slice e)) (hi : P.info? e = some i) (hz : i.zero = some z)
 (hsize : i.size = size) (hby : i.bytes = bytes) (hzs : z.cells.size = size) (hsz : 0 < size)
 (v : Value) (n m N : Nat) (hN : N = n + m) (hm : 0 < m) (xs : List Value) (hs : a.eval s = v) (hown : w.ownsRow base e size v n xs)
 (ad : Addr) (c : Nat) (news : List Value) (hx : a.eval x = .slice (some ad) m c) (hl : news.length = m * size) (hnews : ∀ j u, news[j]? = some u → w.cell? (ad.add j) = some u) (h1 : ∀ u ∈ news, u.oneCell' = true)
 (h63 : N ≤ maxLen) (hbytes : N * bytes ≤ 140737488355328) (hbase : base ≤ w.heap.size)
 (h : ∀ g' c' w', w'.ownsRow base e size (.slice (some ⟨g', 0, none⟩) N c') N (xs ++ news) → w.grownBy w' v.ownBlock → (v.ownBlock = some g' ∨ g' = w.heap.size) → wpList P ops Q rest (a.put o.dst (.slice (some ⟨g', 0, none⟩) N c')) w') : wpList P ops Q (o :: rest) a w := by
 obtain ⟨g', c', w', hr, h2, h3, h4⟩ := Z1y (P := P) w base t o.type e i z size bytes ht hi hz hsize hby hzs hsz v n m N hN hm xs hown ad c news hl hnews h1 h63 hbytes hbase
 refine wpList_plain hgd fun _ hK => ?_
 unfold Oper.wp execOp
 simp only [ho, resolve, invoke, builtin, Sem.run_bind, Sem.run_pure, Result.andThen_ok, List.map_toArray, List.map_cons, List.map_nil, hs, hx, hr]
 exact hK _ _ (h g' c' w' h2 h3 h4)
theorem FVs.one {w : World} {ok : Nat → Prop} : ∀ {ts : List Tr} {xs : List Value}, FVs nS w ok ts xs → ∀ u ∈ xs, u.oneCell' = true
 | [], xs, h, u, hu => by simp only [FVs] at h; subst h; cases hu
 | t :: ts, xs, h, u, hu => by
   simp only [FVs] at h
   obtain ⟨c, d, rfl, h1, h2⟩ := h
   obtain ⟨p, m, c', rfl⟩ := h1.node
   rcases List.mem_append.1 hu with h | h
   · simp only [nS, List.mem_cons, List.not_mem_nil, or_false] at h
     rcases h with rfl | rfl <;> rfl
   · exact FVs.one h2 u h
theorem setKs_get (f : Nat → Tr) (ts : List Tr) (a : Nat) : ∀ (j i : Nat), a + j ≤ i → (Xg f ts a j)[i]? = ts[i]?
 | 0, i, h => rfl
 | j + 1, i, h => by
   simp only [Xg]
   rw [List.getElem?_set_ne (by omega)]
   exact setKs_get f ts a j i (by omega)
theorem setKs_skip {f : Nat → Tr} {ts : List Tr} {a j : Nat} (h : ts[a + j]? = some (f j)) : Xg f ts a (j + 1) = Xg f ts a j := by
 simp only [Xg]
 have h1 := setKs_get f ts a j (a + j) (Nat.le_refl _)
 rw [h] at h1
 obtain ⟨h2, h3⟩ := List.getElem?_eq_some_iff.1 h1
 rw [← h3]
 exact List.set_getElem_self h2
theorem put_done {B g L c1 O : Nat} {w wr w' : World} {ts : List Tr} {ys : List Value} (hL : ts.length = L) (hB : B ≤ w.heap.size) (hO : w.heap.size + 3 ≤ O) (ho : wr.ownsRow (w.heap.size + 3) 47 2 (.slice (some ⟨g, 0, none⟩) L c1) L ys)
 (hfv : FVs nS wr (fun q => q < B ∨ (O < q ∧ q < wr.heap.size)) ts ys) (hs : w'.heap.size = wr.heap.size) (hk : ∀ q, q ≠ w.heap.size + 2 → w'.heap[q]? = wr.heap[q]?) (hb : Below w.heap.size w w') :
 Z1x B (.list ts) w (.returned (.agg #[.string ⟨#[]⟩, .slice (some ⟨g, 0, none⟩) L c1])) w' := by
 obtain ⟨hg1, hg2⟩ := ho.lt g rfl
 have hrow := ho.cells (g := g) rfl
 rcases ho.2 with ⟨e, _⟩ | ⟨g2, cap, cur, e, _, _, h1, h2, _, _⟩
 · cases e
 · simp only [Value.slice.injEq, Option.some.injEq, Addr.mk.injEq, and_true, true_and] at e
   obtain ⟨rfl, rfl⟩ := e
   refine ⟨⟨some ⟨g, 0, none⟩, L, c1, rfl, ?_⟩, hb⟩
   simp only [FV]
   refine ⟨g, 0, c1, ys, by rw [hL], .inr ⟨by omega, by omega⟩, by omega, h2, fun j v hj => ?_, FVs.move (fun q hq => hq.imp id (fun h => ⟨by omega, by omega⟩)) (fun q hq => hk q (by omega)) _ _ hfv⟩
   have h3 := hrow j v hj
   rw [World.cell?_of_block (w := wr) (w' := w') (a := ⟨g, 0 + j, none⟩) (hk g (by omega))]
   rw [Nat.zero_add]
   have e : (⟨g, 0, none⟩ : Addr).add j = ⟨g, j, none⟩ := by unfold Addr.add; split <;> simp_all
   rw [← e]; exact h3
theorem Z4o {w : World} {base g L c1 : Nat} {ys : List Value} (ho : w.ownsRow base 47 2 (.slice (some ⟨g, 0, none⟩) L c1) L ys) : ∃ cur, w.heap[g]? = some (.cells cur 47 (0, 0)) ∧ L * 2 ≤ cur.size ∧ cur.toList.take (L * 2) = ys ∧ base ≤ g := by
 rcases ho.2 with ⟨e, _⟩ | ⟨g2, cap, cur, e, h0, h3, h1, h2, h4, h5⟩
 · cases e
 · simp only [Value.slice.injEq, Option.some.injEq, Addr.mk.injEq, and_true, true_and] at e
   obtain ⟨rfl, rfl⟩ := e
   exact ⟨cur, h3, by omega, h5, h0⟩
theorem Z6l {w : World} {base g L c1 : Nat} {ys : List Value} (ho : w.ownsRow base 47 2 (.slice (some ⟨g, 0, none⟩) L c1) L ys) (k : Nat) (u v : Value) :
 ((w.setCell ⟨g, k, none⟩ u).setCell ⟨g, k + 1, none⟩ v).ownsRow base 47 2 (.slice (some ⟨g, 0, none⟩) L c1) L ((ys.set k u).set (k + 1) v) := by
 refine ⟨by simpa using ho.1, ?_⟩
 rcases ho.2 with ⟨e, _⟩ | ⟨g2, cap, cur, e, h0, h3, h1, h2, h4, h5⟩
 · cases e
 · simp only [Value.slice.injEq, Option.some.injEq, Addr.mk.injEq, and_true, true_and] at e
   obtain ⟨rfl, rfl⟩ := e
   refine .inr ⟨g, c1, (cur.setIfInBounds k u).setIfInBounds (k + 1) v, rfl, h0, Yu (Yu h3 u) v, h1, h2, by simpa using h4, ?_⟩
   rw [← h5]
   simp [List.take_set]
theorem Z39 (w : World) (a b c : Obj) : (((w.alloc a).alloc b).alloc c).heap[w.heap.size + 2]? = some c := by
 have := heap_alloc_new ((w.alloc a).alloc b) c
 rwa [show ((w.alloc a).alloc b).heap.size = w.heap.size + 2 by simp] at this
theorem heap_new4 (w : World) (a b c d : Obj) : ((((w.alloc a).alloc b).alloc c).alloc d).heap[w.heap.size + 3]? = some d := by
 have := heap_alloc_new (((w.alloc a).alloc b).alloc c) d
 rwa [show (((w.alloc a).alloc b).alloc c).heap.size = w.heap.size + 3 by simp] at this
theorem Z0u {W : World} {b base : Nat} (h : W.heap[b]? = some (.cells #[] 47 (0, 0))) (hb : base ≤ b) : W.ownsRow base 47 2 (.slice (some ⟨b, 0, none⟩) 0 0) 0 [] := ⟨rfl, .inr ⟨b, 0, _, rfl, hb, h, Nat.le_refl _, Nat.zero_le _, rfl, rfl⟩⟩
theorem l2Put_list (n : Nat) (name : Nm) (b : Ex) (ih : PutS name b n) (h : Tr) (ps : List Tr) (x : Ex) (r off cap L : Nat) (xs cb : List Value) (B : Nat) (w : World) (hn : Yg name = true) (hd : (Tr.list (h :: ps)).depth < n + 1) (hwf : wfs (h :: ps)) (hby : Zi (h :: ps) ≤ 12000) (hx : Zy (.list (h :: ps)) = some x)
 (h2 : r < B) (h4 : cap ≤ maxLen) (hL : L = (h :: ps).length) (h3 : L ≤ cap) (h5 : Yv w r off xs) (h6 : FVs nS w (fun k => k < B) (h :: ps) xs) (hb : FV nS w (fun k => k < B) (Z0 b) cb) (hB : B ≤ w.heap.size) :
 Calls prog 55 #[.agg #[.string (bs []), .slice (some ⟨r, off, none⟩) L cap], .string (bs name), .agg cb.toArray] w fun e w' => Z1x B (Z0 (Zs name b x)) w e w' := by
 obtain ⟨a, V⟩ := Z07 hx
 have hrlt : r < w.heap.size := by omega
 have hemp := Jl
 have e0 : w.cell? ⟨r, off, none⟩ = some (.string (bs (Z1 h))) := by
  obtain ⟨p, m, c, _, q, _⟩ := Kb h6 h5 0 (by simp)
  simpa using q
 obtain ⟨K, hK⟩ : ∃ K, K = (Zb x).length := ⟨_, rfl⟩
 have hLm : L ≤ 9223372036854775807 := by have := Yl h4; omega
 have haK : a + K = L := by rw [hK, hL, V.len]; rfl
 have hKlt : K < L := by have := V.pos; omega
 have hL2 : L ≤ 12000 := by have := Xi (h :: ps); omega
 have hxl : xs.length = L * 2 := by rw [FVs.length Jn h6, hL]
 have CK : Hid (∀ W, Calls prog 98 #[.string (bs (Z1 h))] W fun e w' => e = .returned (.tuple #[.int .i64 (a : Int), .int .i64 (L : Int)]) ∧ w' = W) := H_ (fun W => Jw _ _ _ (by rw [V.at_, hL]; rfl) W)
 obtain ⟨i0, hi0, hz0, hz1, hz2⟩ := info_parts Tryz.infoT1
 have HR := H_ (putE_parts (name := name) (b := b) V hx)
 have H1 : Hid (∀ u ∈ xs, u.oneCell' = true) := H_ (FVs.one h6)
 obtain ⟨pb, mb, kb, rfl⟩ := hb.node
 obtain ⟨A2, hA2⟩ : ∃ A2, A2 = bs (Z1 (Z0 b)) := ⟨_, rfl⟩
 show Calls prog 55 #[.agg #[.string (bs []), .slice (some ⟨r, off, none⟩) L cap], .string (bs name), .agg #[.string (bs (Z1 (Z0 b))), .slice pb mb kb]] w fun e w' => Z1x B (Z0 (Zs name b x)) w e w'
 rw [HR.out, ← hA2]
 have HA2 := H_ hA2
 clear hA2
 have HV := H_ V
 have HI := H_ ih
 have HKe := H_ hK
 have HaK := H_ haK
 have haL : a ≤ L := by omega
 have hL0 : 0 < L := by omega
 have ROW : Hid (∀ W, Below w.heap.size w W → ∀ j u, xs[j]? = some u → W.cell? ((⟨r, off, none⟩ : Addr).add j) = some u) := H_ (fun W hW j u hj => by
  have e : (⟨r, off, none⟩ : Addr).add j = ⟨r, off + j, none⟩ := by unfold Addr.add; split <;> simp_all
  rw [e]
  exact (hW.cell (p := ⟨r, off + j, none⟩) hrlt).trans (h5 j u hj))
 have hX := H_ hx
 have HW := H_ hwf
 have HD := H_ hd
 have HBy := H_ hby
 have H6 := H_ h6
 have HBb := H_ hb
 have HLe := H_ hL
 clear V hK ih hwf hx haK hL h6 hd hby hb
 go_enter func55, ntmps55
 go_wp2_with (first | (go_at_call 98; go_must (refine (CK.out _).mono ?_; rintro e w5 ⟨rfl, rfl⟩)) | (at_builtin; go_must (refine Jb _ rfl _ _ 45 rfl (w.heap.size + 3) 47 i0 (.agg #[.string ⟨#[]⟩, .slice none 0 0]) 2 40 underlying45 hi0 hz0 hz1 hz2 rfl (by decide) (.slice (some ⟨w.heap.size + 3, 0, none⟩) 0 0) 0 L L (by omega) hL0 [] rfl (Z0u (heap_new4 _ _ _ _ _) (Nat.le_refl _)) ⟨r, off, none⟩ cap xs rfl hxl (ROW.out _ (by (repeat (first | exact Below.refl _ _ | (refine Below.alloc ?_ (by first | (simp; done) | (simp; omega)) _) | (refine Below.setCell ?_ (by first | (simp; done) | (simp; omega)) _))))) H1.out (Nat.le_trans hL2 (by decide)) (by omega) (by simp) ?_; intro g c1 w1 ho1 hg1 hgg; have x0 : w1.heap[w.heap.size]? = some (.cells #[.string (bs []), .slice (some ⟨r, off, none⟩) L cap] 47 (0, 0)) := Yc hg1 (Z8 (Z8 (Z8 (heap_alloc_new _ _)))) (by simp [Value.ownBlock]); have x1 : w1.heap[w.heap.size + 1]? = some (.cells #[.string A2, .slice pb mb kb] 47 (0, 0)) := Yc hg1 (Z8 (Z8 (Za _ _ _))) (by simp [Value.ownBlock]); have x2 : w1.heap[w.heap.size + 2]? = some (.cells #[.string ⟨#[]⟩, .slice none 0 0] 47 (0, 0)) := Yc hg1 (Z8 (Z39 _ _ _ _)) (by simp [Value.ownBlock]); have B1 : Below w.heap.size w w1 := Below.grown (by (repeat (first | exact Below.refl _ _ | (refine Below.alloc ?_ (by first | (simp; done) | (simp; omega)) _) | (refine Below.setCell ?_ (by first | (simp; done) | (simp; omega)) _)))) hg1 (by simp; omega) (fun k hk => by simp [Value.ownBlock] at hk; omega); have x3 := heap_alloc_new w1 (.cells #[.string ⟨#[]⟩, .slice (some ⟨g, 0, none⟩) L c1] 47); have y0 := Z4 (j := 1) (Z8 (o' := (.cells #[.string ⟨#[]⟩, .slice (some ⟨g, 0, none⟩) L c1] 47)) x0); have y1 : (w1.alloc (.cells #[.string ⟨#[]⟩, .slice (some ⟨g, 0, none⟩) L c1] 47)).cell? ⟨r, off, none⟩ = some (.string (bs (Z1 h))) := ((B1.alloc B1.size (.cells #[.string ⟨#[]⟩, .slice (some ⟨g, 0, none⟩) L c1] 47)).cell (p := ⟨r, off, none⟩) hrlt).trans e0; have hw1 : w.heap.size < w1.heap.size := lt_of_block x0)))
 go_loopg [10] K (fun q i wr => ∃ (k j : Nat) (ys : List Value), q + j = K ∧ Hid (k = a + j) ∧ j ≤ K ∧ i = .int .i64 k ∧ wr.heap[w.heap.size]? = some (.cells #[.string (bs []), .slice (some ⟨r, off, none⟩) L cap] 47 (0, 0)) ∧ wr.heap[w.heap.size + 1]? = some (.cells #[.string A2, .slice pb mb kb] 47 (0, 0)) ∧ wr.heap[w.heap.size + 2]? = some (.cells #[.string ⟨#[]⟩, .slice none 0 0] 47 (0, 0)) ∧ wr.heap[w1.heap.size]? = some (.cells #[.string ⟨#[]⟩, .slice (some ⟨g, 0, none⟩) L c1] 47 (0, 0)) ∧
  Hid (wr.ownsRow (w.heap.size + 3) 47 2 (.slice (some ⟨g, 0, none⟩) L c1) L ys) ∧ Hid (FVs nS wr (fun q => q < B ∨ (w1.heap.size < q ∧ q < wr.heap.size)) (Xg (fun j => Z0 (pkE name b x j)) (h :: ps) a j) ys) ∧ Hid (Below w.heap.size w wr))
 case atStart =>
  have hb2 := H_ (B1.alloc B1.size (.cells #[.string ⟨#[]⟩, .slice (some ⟨g, 0, none⟩) L c1] 47))
  refine ⟨a, 0, xs, by omega, H_ rfl, Nat.zero_le _, rfl, Z8 x0, Z8 x1, Z8 x2, x3, H_ (ho1.alloc _), H_ ?_, hb2⟩
  exact FVs.move (fun k hk => .inl hk) (fun _ _ => rfl) _ _ (FVs.below H6.out hb2.out (fun k hk => Nat.lt_of_lt_of_le hk hB))
 case round =>
  obtain ⟨k, j, ys, hq, hkj, hjK, rfl, hb0, hb1, hb2, hb3, ho, hfv, hbel⟩ := hrel
  have hN := lt_of_block hb3
  have hN2 := lt_of_block hb2
  have hN0 := lt_of_block hb0
  obtain ⟨v0, v1⟩ := Zh hb0
  obtain ⟨u0, u1⟩ := Zh hb3
  by_cases hlt : k < L
  · have hjlt : j < K := by have := hkj.out; have := HaK.out; omega
    have hjE : j < (Zb x).length := by rw [← HKe.out]; exact hjlt
    obtain ⟨tk, p, pn, pc, q1, q2, q3, q4, q5, q6, q7, hbk, q8⟩ := Z6q HV.out hkj.out hjE HD.out HW.out HBy.out h5 H6.out
    have hpk := pkE_some (name := name) (b := b) (x := x) hjE
    have hfk := X3 _ _ q7
    obtain ⟨kx, hkx⟩ : ∃ kx, kx = (Zb x)[j] := ⟨_, rfl⟩
    rw [← hkx] at hpk hfk q7
    obtain ⟨at0, hat0⟩ : ∃ at0, at0 = bs (Z1 tk) := ⟨_, rfl⟩
    rw [← hat0] at q2
    have hkL : k < (h :: ps).length := by rw [← HLe.out]; exact hlt
    have CB : Hid (∀ (W : World), Below wr.heap.size wr W → Calls prog 100 #[.agg #[.string (bs []), .slice (some ⟨r, off, none⟩) L cap], .int .i64 k] W fun e w' => (∃ v, e = .returned v ∧ Zw w' v (Zo x j)) ∧ Below W.heap.size W w') := H_ (fun W hW => by
     have hW2 := hbel.out.trans (hW.mono hbel.out.size)
     have hv : FV nS W (fun k => k < B) (.list (h :: ps)) [.string (bs []), .slice (some ⟨r, off, none⟩) L cap] := by
      simp only [FV, nS, Z1]
      exact ⟨r, off, cap, xs, by rw [HLe.out], h2, by rw [← HLe.out]; exact h3, h4, h5.move (hW2.block r hrlt), FVs.below H6.out hW2 (fun k hk => Nat.lt_of_lt_of_le hk hB)⟩
     rw [hkj.out]
     exact (l2Binds_c h ps x a j HV.out hjE _ _ W hv (fun q hq => by have := hW2.size; omega)).mono fun e w' ⟨⟨v, h1, h2, _⟩, h3⟩ => ⟨⟨v, h1, h2⟩, h3⟩)
    have CH : Hid (∀ (W : World) (v : Value), Zw W v (Zo x j) → Calls prog 99 #[v, .string (bs name)] W fun e w' => e = .returned (.bool (decide (name ∈ Zo x j))) ∧ w' = W) := H_ (fun W v hv => Z7u v (Zo x j) name W hv)
    have CP : Hid (∀ (W : World), Below wr.heap.size wr W → Calls prog 55 #[.agg #[.string at0, .slice p pn pc], .string (bs name), .agg #[.string A2, .slice pb mb kb]] W fun e w' => Z1x B (Z0 (Zs name b kx)) W e w') := H_ (fun W hW => by
     have hW2 := hbel.out.trans (hW.mono hbel.out.size)
     have h := HI.out tk kx (nS tk (.slice p pn pc)) (nS (Z0 b) (.slice pb mb kb)) B W hn q4 q6 q5 q7 (q1.below hW2 (fun k hk => Nat.lt_of_lt_of_le hk hB)) (HBb.out.below hW2 (fun k hk => Nat.lt_of_lt_of_le hk hB)) (Nat.le_trans hB hW2.size)
     rw [hat0, HA2.out]
     exact h)
    have S4 : Hid (wr.cell? ⟨r, off + k * 2, none⟩ = some (.string at0) ∧ wr.cell? ⟨r, off + k * 2 + 1, none⟩ = some (.slice p pn pc)) := H_ ⟨(hbel.out.cell (p := ⟨r, off + k * 2, none⟩) hrlt).trans q2, (hbel.out.cell (p := ⟨r, off + k * 2 + 1, none⟩) hrlt).trans q3⟩
    have HSK : Hid (name ∈ Zo x j → Xg (fun j => Z0 (pkE name b x j)) (h :: ps) a (j + 1) = Xg (fun j => Z0 (pkE name b x j)) (h :: ps) a j) := H_ (fun hm => setKs_skip (by rw [List.getElem?_eq_getElem hbk, ← q8]; simp only [hpk, if_pos hm, hfk]))
    have HST : Hid (¬ name ∈ Zo x j → Xg (fun j => Z0 (pkE name b x j)) (h :: ps) a (j + 1) = (Xg (fun j => Z0 (pkE name b x j)) (h :: ps) a j).set k (Z0 (Zs name b kx))) := H_ (fun hm => by simp only [Xg, hpk, if_neg hm]; rw [hkj.out])
    have HLS : Hid (k < (Xg (fun j => Z0 (pkE name b x j)) (h :: ps) a j).length) := H_ (by rw [Vc]; exact hkL)
    have hk0 : (0 : Int) ≤ (k : Int) := Int.natCast_nonneg _
    clear hpk hfk q7 q1 q2 q3 q4 q5 q6 q8 hbk hkx hat0
    by_cases hmem : name ∈ Zo x j
    · have hsk := H_ (HSK.out hmem)
      have hdm : decide (name ∈ Zo x j) = true := by simpa using hmem
      rw [hdm] at CH
      clear hmem hdm
      go_wp2_with (first | (go_at_call 100; go_must (refine (CB.out _ (Below.refl _ _)).mono ?_; rintro e w2 ⟨⟨v, rfl, hv⟩, hb5⟩)) | (go_at_call 99; go_must (refine (CH.out _ _ hv).mono ?_; rintro e w3 ⟨rfl, rfl⟩)))
      all_goals
       go_roundg (gk - 1)
       case measure => omega
       case rel =>
        have hs5 := hb5.size
        refine ⟨k + 1, j + 1, ys, by omega, H_ (by rw [hkj.out]; omega), by omega, by go_num, Z2 hb5 (lt_of_block hb0) hb0, Z2 hb5 (lt_of_block hb1) hb1, Z2 hb5 (lt_of_block hb2) hb2, Z2 hb5 hN hb3, H_ (Zx ho.out hb5), H_ ?_, H_ (hbel.out.trans (hb5.mono hbel.out.size))⟩
        rw [hsk.out]
        exact FVs.move (fun q hq => hq.imp id (fun h => ⟨h.1, by omega⟩)) (fun q hq => hb5.block q (by have := hbel.out.size; omega)) _ _ hfv.out
    · have hst := H_ (HST.out hmem)
      have hdm : decide (name ∈ Zo x j) = false := by simpa using hmem
      rw [hdm] at CH
      clear hmem hdm
      have hk1 : (k : Int) < (L : Int) := by omega
      have hL63 : (L : Int) < 9223372036854775808 := by omega
      obtain ⟨cur, hcur, hc0, hc1, hc2⟩ := Z4o ho.out
      obtain ⟨d0, hd0⟩ : ∃ d0, cur[k * 2]? = some d0 := ⟨_, Array.getElem?_eq_getElem (by omega)⟩
      obtain ⟨d1, hd1⟩ : ∃ d1, cur[k * 2 + 1]? = some d1 := ⟨_, Array.getElem?_eq_getElem (by omega)⟩
      have hgl := lt_of_block hcur
      have hrwr : r < wr.heap.size := Nat.lt_trans hrlt hN0
      have KS : Hid (∀ W, Below wr.heap.size wr W → (fun W => W.cell? ⟨w1.heap.size, 1, none⟩ = some (.slice (some ⟨g, 0, none⟩) L c1) ∧ W.cell? ⟨w.heap.size, 1, none⟩ = some (.slice (some ⟨r, off, none⟩) L cap) ∧ W.cell? ⟨r, off + k * 2, none⟩ = some (.string at0) ∧ W.cell? ⟨r, off + k * 2 + 1, none⟩ = some (.slice p pn pc) ∧ W.cell? ⟨w.heap.size + 1, 0, none⟩ = some (.string A2) ∧ W.cell? ⟨w.heap.size + 1, 1, none⟩ = some (.slice pb mb kb) ∧ W.cell? ⟨g, k * 2, none⟩ = some d0 ∧ W.cell? ⟨g, k * 2 + 1, none⟩ = some d1 ∧ W.frozen? ⟨g, k * 2, none⟩ = false ∧ W.frozen? ⟨g, k * 2 + 1, none⟩ = false) W) := H_ (fun W hW => ⟨(hW.cell hN).trans u1, (hW.cell hN0).trans v1, (hW.cell (p := ⟨r, off + k * 2, none⟩) hrwr).trans S4.out.1, (hW.cell (p := ⟨r, off + k * 2 + 1, none⟩) hrwr).trans S4.out.2, Z4 (Z2 hW (lt_of_block hb1) hb1), Z4 (Z2 hW (lt_of_block hb1) hb1), (Z4 (Z2 hW hgl hcur)).trans hd0, (Z4 (Z2 hW hgl hcur)).trans hd1, Yf (Z2 hW hgl hcur), Yf (Z2 hW hgl hcur)⟩)
      go_wp2_with (first | (go_at_call 100; go_must (refine (CB.out _ (Below.refl _ _)).mono ?_; rintro e w2 ⟨⟨v, rfl, hv⟩, hb5⟩)) | (go_at_call 99; go_must (refine (CH.out _ _ hv).mono ?_; rintro e w3 ⟨rfl, rfl⟩; have hD : Below wr.heap.size wr w3.drew := hb5.drew; have S0 := H_ (KS.out _ hD); have hSa := KS.out _ hb5)))
      obtain ⟨s1, s2, s3, s4, s5, s6, s7, s8, s9, s10⟩ := S0.out
      first | (go_region_with (first | (go_at_call 55; (with_reducible refine (CP.out _ hD).mono ?_); rintro e w6 ⟨⟨p5, m5, c5, rfl, hv5⟩, hb6⟩; have h6 := Below.trans hD (hb6.mono hD.size); obtain ⟨m1, m2, m3, m4, m5', m6, m7, m8, m9, m10⟩ := KS.out _ h6))) | fail
      all_goals
       go_wp2_with fail
       go_roundg (gk - 1)
       case measure => omega
       case rel =>
        have hs6 := h6.size
        have hs5 := hD.size
        have hgw1 := (ho1.lt g rfl).2
        have hz0 := hbel.out.size
        refine ⟨k + 1, j + 1, (ys.set (k * 2) (.string (bs (Z1 (Z0 (Zs name b kx)))))).set (k * 2 + 1) (.slice p5 m5 c5), by omega, H_ (by rw [hkj.out]; omega), by omega, by go_num, ?_, ?_, ?_, ?_, H_ ?_, H_ ?_, H_ ?_⟩
        · rw [Z3 _ (by show w.heap.size ≠ g; omega), Z3 _ (by show w.heap.size ≠ g; omega)]; exact Z2 h6 (lt_of_block hb0) hb0
        · rw [Z3 _ (by show w.heap.size + 1 ≠ g; omega), Z3 _ (by show w.heap.size + 1 ≠ g; omega)]; exact Z2 h6 (lt_of_block hb1) hb1
        · rw [Z3 _ (by show w.heap.size + 2 ≠ g; omega), Z3 _ (by show w.heap.size + 2 ≠ g; omega)]; exact Z2 h6 (lt_of_block hb2) hb2
        · rw [Z3 _ (by show w1.heap.size ≠ g; omega), Z3 _ (by show w1.heap.size ≠ g; omega)]; exact Z2 h6 hN hb3
        · exact Z6l (Zx ho.out h6) _ _ _
        · rw [hst.out]
          refine FVs.setS (FVs.move (fun q hq => hq.imp id (fun h => ⟨h.1, by simp; omega⟩)) (fun q hq => ?_) _ _ hfv.out) k HLS.out (FV.move (fun q hq => hq.imp id (fun h => ⟨by omega, by simp; omega⟩)) (fun q hq => ?_) _ _ hv5)
          · rw [Z3 _ (by show q ≠ g; omega), Z3 _ (by show q ≠ g; omega)]; exact h6.block q (by omega)
          · rw [Z3 _ (by show q ≠ g; omega), Z3 _ (by show q ≠ g; omega)]
        · exact ((hbel.out.trans (h6.mono hz0)).setCell (by show w.heap.size ≤ g; omega) _).setCell (by show w.heap.size ≤ g; omega) _
  · have hjK2 : j = K := by have := hkj.out; have := HaK.out; omega
    subst hjK2
    have hF : Hid (∀ w', w'.heap.size = wr.heap.size → (∀ q, q ≠ w.heap.size + 2 → w'.heap[q]? = wr.heap[q]?) → Below w.heap.size w w' → Z1x B (.list (Xg (fun j => Z0 (pkE name b x j)) (h :: ps) a (Zb x).length)) w (.returned (.agg #[.string ⟨#[]⟩, .slice (some ⟨g, 0, none⟩) L c1])) w') := H_ (fun w' h1 h2 h3 => put_done (O := w1.heap.size) (by rw [Vc, HLe.out]) hB (by have := lt_of_block x2; omega) ho.out (by rw [← HKe.out]; exact hfv.out) h1 h2 h3)
    obtain ⟨f0, f1⟩ := Xb hb2
    obtain ⟨r0, r1⟩ := Zh hb2
    clear hfv ho
    go_wp2_with fail
    have hb2' : wr.heap[w.heap.size + 1 + 1]? = some (.cells #[.string ⟨#[]⟩, .slice none 0 0] 47 (0, 0)) := hb2
    have kk := Yu (j := 1) (Yu (j := 0) hb2' (.string ⟨#[]⟩)) (.slice (some ⟨g, 0, none⟩) L c1)
    obtain ⟨k0, k1⟩ := Zh kk
    refine bodyPost_ret (v := .agg #[.string ⟨#[]⟩, .slice (some ⟨g, 0, none⟩) L c1]) (by simp [results, results55, go_sem, k0, k1]) rfl ?_
    refine hF.out _ (by simp) (fun q hq => ?_) ?_
    · rw [Z3 _ (by simpa using hq), Z3 _ (by simpa using hq)]
    · exact (hbel.out.setCell (by simp; omega) _).setCell (by simp; omega) _
theorem l2Put_all (name : Nm) (b : Ex) : ∀ n, PutS name b n
 | 0 => fun t _ _ _ _ _ _ h => by omega
 | n + 1 => fun t x cs cb B w hn hd hwf hby hx hv hb hB => by
   match t, hd, hwf, hby, hx, hv with
   | .atom a, hd, hwf, hby, hx, hv =>
     simp only [FV] at hv
     subst hv
     exact l2Put_atom a x name b cb B w hn hwf.1 hx hb hB
   | .list [], hd, hwf, hby, hx, hv => simp [Tr.wf] at hwf
   | .list (h :: ps), hd, hwf, hby, hx, hv =>
     simp only [FV] at hv
     obtain ⟨r, off, cap, xs, rfl, h2, h3, h4, h5, h6⟩ := hv
     simp only [Tr.wf] at hwf
     simp only [Tr.bytes] at hby
     exact l2Put_list n name b (l2Put_all name b n) h ps x r off cap _ xs cb B w hn hd hwf.2 (by omega) hx h2 h4 rfl h3 h5 h6 hb hB
end Go.Proofs.YtjaaalojcdbcpaaGreatDoor
