/- The reference makes expressions plain: the copy that is written, from statement to statement. The plain text of an expression: it is read back, has the same type and as many parts. Expressions without the names that they bind: what is alike, what is put, what is plain already (plain mathematics). -/
import Derived.Test.YtjaaalojcdbcpaaGreatDoorlSpec2sM
import Derived.Test.YtjaaalojcdbcpaaGreatDoorlPureA
import Derived.Test.YtjaaalojcdbcpaaGreatDoorlPureMM
import Derived.Test.YtjaaalojcdbcpaaGreatDoorlIp5
set_option maxHeartbeats 20000000
set_option linter.unusedVariables false
set_option linter.unusedSimpArgs false
namespace Go.Proofs.YtjaaalojcdbcpaaGreatDoor
open Go.RowKit Go.Proofs.Tryz
set_option maxRecDepth 8000
structure OutS (b B : Nat) (vf : Value) (w : World) (r off cap L g c1 O : Nat) (k : Nat) (ts : List Tr) (W : World) : Prop where
 b0 : W.heap[w.heap.size]? = some (.cells #[.string (bs []), .slice (some ⟨r, off, none⟩) L cap] 47 (0, 0))
 b2 : W.heap[w.heap.size + 1]? = some (.cells #[.string ⟨#[]⟩, .slice none 0 0] 47 (0, 0))
 b3 : W.heap[O]? = some (.cells #[.string ⟨#[]⟩, .slice (some ⟨g, 0, none⟩) L c1] 47 (0, 0))
 rn : RN W b vf k
 row : ∃ ys, W.ownsRow (w.heap.size + 2) 47 2 (.slice (some ⟨g, 0, none⟩) L c1) L ys ∧ FVs nS W (fun q => q < B ∨ (O < q ∧ q < W.heap.size)) ts ys
 on : Only b w W
 gO : g < O
 hO : w.heap.size + 1 < O
 Bb : B ≤ b
 bw : b < w.heap.size
 len : ts.length = L
section
variable {b B : Nat} {vf : Value} {w : World} {r off cap L g c1 O k : Nat} {ts : List Tr} {W W6 : World}
theorem OutS.gl (h : OutS b B vf w r off cap L g c1 O k ts W) : w.heap.size + 2 ≤ g ∧ g < W.heap.size := by
 obtain ⟨ys, h1, -⟩ := h.row
 have := h1.lt g rfl
 exact ⟨this.1, this.2⟩
theorem OutS.go (h : OutS b B vf w r off cap L g c1 O k ts W) (ho : Only b W W6) {k' : Nat} (hr : RN W6 b vf k') : OutS b B vf w r off cap L g c1 O k' ts W6 := by
 have hbw := h.bw
 have hBb := h.Bb
 have hO := h.hO
 have hgl := h.gl
 have hs := ho.size
 obtain ⟨ys, h1, h2⟩ := h.row
 refine ⟨ho.blk h.b0 (by omega), ho.blk h.b2 (by omega), ho.blk h.b3 (by omega), hr, ⟨ys, Z41 h1 ho (by omega), FVs.move (fun q hq => hq.imp id (fun h => ⟨h.1, by omega⟩)) (fun q hq => ho.block q (by have := lt_of_block h.b3; omega) (by omega)) _ _ h2⟩, h.on.trans ho, h.gO, h.hO, h.Bb, h.bw, h.len⟩
theorem OutS.set (h : OutS b B vf w r off cap L g c1 O k ts W) (ho : Only b W W6) {k' : Nat} (hr : RN W6 b vf k') {j : Nat} (hj : j < L) {t : Tr} {p : Option Addr} {m c : Nat} (hv : FV nS W6 (fun q => q < B ∨ (W.heap.size ≤ q ∧ q < W6.heap.size)) t (nS t (.slice p m c))) :
 OutS b B vf w r off cap L g c1 O k' (ts.set j t) ((W6.setCell ⟨g, j * 2, none⟩ (.string (bs (Z1 t)))).setCell ⟨g, j * 2 + 1, none⟩ (.slice p m c)) := by
 have h6 := h.go ho hr
 have hbw := h.bw
 have hBb := h.Bb
 have hO := h.hO
 have hgO := h.gO
 have hgl := h.gl
 have hs := ho.size
 have hOl := lt_of_block h.b3
 obtain ⟨ys, q1, q2⟩ := h6.row
 have hblk : ∀ q, q ≠ g → ((W6.setCell ⟨g, j * 2, none⟩ (.string (bs (Z1 t)))).setCell ⟨g, j * 2 + 1, none⟩ (.slice p m c)).heap[q]? = W6.heap[q]? := fun q hq => by
  rw [Z3 _ (by show q ≠ g; exact hq), Z3 _ (by show q ≠ g; exact hq)]
 refine ⟨?_, ?_, ?_, ?_, ⟨_, Z6l q1 _ _ _, ?_⟩, ?_, h.gO, h.hO, h.Bb, h.bw, by rw [List.length_set]; exact h.len⟩
 · rw [hblk _ (by omega)]; exact h6.b0
 · rw [hblk _ (by omega)]; exact h6.b2
 · rw [hblk _ (by omega)]; exact h6.b3
 · unfold RN; rw [hblk _ (by omega)]; exact hr
 · refine FVs.setS (FVs.move (fun q hq => hq.imp id (fun h => ⟨h.1, by simp; omega⟩)) (fun q hq => hblk q (by omega)) _ _ q2) j (by rw [h.len]; exact hj) (FV.move (fun q hq => hq.imp id (fun h => ⟨by omega, by simp; omega⟩)) (fun q hq => hblk q ?_) _ _ hv)
   rcases hq with h | ⟨h, -⟩ <;> omega
 · exact (h6.on.setNew (by show w.heap.size ≤ g; omega) _).setNew (by show w.heap.size ≤ g; omega) _
theorem OutS.read (h : OutS b B vf w r off cap L g c1 O k ts W) : W.cell? ⟨O, 1, none⟩ = some (.slice (some ⟨g, 0, none⟩) L c1) ∧ W.cell? ⟨w.heap.size, 1, none⟩ = some (.slice (some ⟨r, off, none⟩) L cap) := ⟨Z4 h.b3, Z4 h.b0⟩
theorem OutS.spot (h : OutS b B vf w r off cap L g c1 O k ts W) {j : Nat} (hj : j < L) : ∃ d0 d1, W.cell? ⟨g, j * 2, none⟩ = some d0 ∧ W.cell? ⟨g, j * 2 + 1, none⟩ = some d1 ∧ W.frozen? ⟨g, j * 2, none⟩ = false ∧ W.frozen? ⟨g, j * 2 + 1, none⟩ = false := by
 obtain ⟨ys, h1, -⟩ := h.row
 obtain ⟨cur, hcur, hc0, hc1, hc2⟩ := Z4o h1
 exact ⟨_, _, (Z4 hcur).trans (Array.getElem?_eq_getElem (by omega)), (Z4 hcur).trans (Array.getElem?_eq_getElem (by omega)), Yf hcur, Yf hcur⟩
theorem OutS.keepS (h : OutS b B vf w r off cap L g c1 O k ts W) {j : Nat} (hj : j < L) : ∃ d0 d1, ∀ W', Only b W W' → W'.cell? ⟨O, 1, none⟩ = some (.slice (some ⟨g, 0, none⟩) L c1) ∧ W'.cell? ⟨w.heap.size, 1, none⟩ = some (.slice (some ⟨r, off, none⟩) L cap) ∧ W'.cell? ⟨g, j * 2, none⟩ = some d0 ∧ W'.cell? ⟨g, j * 2 + 1, none⟩ = some d1 ∧ W'.frozen? ⟨g, j * 2, none⟩ = false ∧ W'.frozen? ⟨g, j * 2 + 1, none⟩ = false := by
 have hbw := h.bw
 have hO := h.hO
 have hgl := h.gl
 obtain ⟨ys, h1, -⟩ := h.row
 obtain ⟨cur, hcur, hc0, hc1, hc2⟩ := Z4o h1
 refine ⟨cur[j * 2], cur[j * 2 + 1], fun W' hW => ⟨Z4 (hW.blk h.b3 (by omega)), Z4 (hW.blk h.b0 (by omega)), ?_, ?_, Yf (hW.blk hcur (by omega)), Yf (hW.blk hcur (by omega))⟩⟩
 · exact (Z4 (hW.blk hcur (by omega))).trans (Array.getElem?_eq_getElem (by omega))
 · exact (Z4 (hW.blk hcur (by omega))).trans (Array.getElem?_eq_getElem (by omega))
theorem OutS.done {R : Ex × Nat} (h : OutS b B vf w r off cap L g c1 O k ts W) (hR : Z0 R.1 = .list ts) (hk : R.2 = k) {w' : World} (h1 : w'.heap.size = W.heap.size) (h2 : ∀ q, q ≠ w.heap.size + 1 → w'.heap[q]? = W.heap[q]?) (h3 : Only b w w') : PlR b B vf R w (.returned (.agg #[.string ⟨#[]⟩, .slice (some ⟨g, 0, none⟩) L c1])) w' := by
 have hbw := h.bw
 have hBb := h.Bb
 have hO := h.hO
 have hrn := h.rn
 obtain ⟨ys, q1, q2⟩ := h.row
 refine pl_done (O := O) (base := w.heap.size + 2) (rb := w.heap.size + 1) hR h.len (by omega) (by omega) q1 (by omega) (by omega) (by omega) q2 h1 h2 ?_ h3
 unfold RN
 rw [h2 b (by omega), hk]
 exact hrn
end
theorem Z7b {l : List UInt8} {x : Ex} (h : Zp l = some x) : Zp (Z0 (plX x)).text = some (plX x) ∧ (Z0 (plX x)).text.length ≤ 12000 := by
 obtain ⟨-, -, h1, h2, h3, h4, h5⟩ := Jv h
 have hf := Z4n h1
 have hg : good (plX x) := Ka (frE x) x [] 0 (fun q hq => by cases hq) h5 (by omega)
 obtain ⟨s1, s2⟩ := Jm (frE x) x [] 0
 have s1' : (Z0 (plX x)).size = (Z0 x).size := s1
 have s2' : (Z0 (plX x)).depth = (Z0 x).depth := s2
 have hb := Xy _ hg
 refine ⟨Z3z (by omega) (by omega) hg, ?_⟩
 rw [Y4 _ (Jz _ hg)]
 omega
inductive Db where
 | free (s : Nm)
 | bnd (i : Nat)
 | num (n : Int)
 | two (o : Op2) (a b : Db)
 | one (o : Op1) (a : Db)
 | cond (a b c : Db)
 | lete (e b : Db)
 | func (A B : Tr) (e : Db)
def ixN : List Nm → Nm → Option Nat
 | [], _ => none
 | a :: l, s => if a = s then some 0 else (ixN l s).map (fun i => i + 1)
def nmD (env : List Nm) (s : Nm) : Db := match ixN env s with | some i => .bnd i | none => .free s
def dbE : List Nm → Ex → Db
 | env, .name s => nmD env s
 | _, .num n => .num n
 | env, .two o a b => .two o (dbE env a) (dbE env b)
 | env, .one o a => .one o (dbE env a)
 | env, .cond a b c => .cond (dbE env a) (dbE env b) (dbE env c)
 | env, .lete x e b => .lete (dbE env e) (dbE (x :: env) b)
 | env, .func f x A B e => .func A B (dbE (x :: f :: env) e)
def exD (free : List Nm) : List Nm → Nat → Db → Ex × Nat
 | _, k, .free s => (.name s, k)
 | ns, k, .bnd i => (.name (ns.getD i []), k)
 | _, k, .num n => (.num n, k)
 | ns, k, .two o a b => let p := exD free ns k a; let q := exD free ns p.2 b; (.two o p.1 q.1, q.2)
 | ns, k, .one o a => let p := exD free ns k a; (.one o p.1, p.2)
 | ns, k, .cond a b c => let p := exD free ns k a; let q := exD free ns p.2 b; let r := exD free ns q.2 c; (.cond p.1 q.1 r.1, r.2)
 | ns, k, .lete e b => let i := Zk free k; let p := exD free ns (i + 1) e; let q := exD free (Zd i :: ns) p.2 b; (.lete (Zd i) p.1 q.1, q.2)
 | ns, k, .func A B e => let i := Zk free k; let j := Zk free (i + 1); let p := exD free (Zd j :: Zd i :: ns) (j + 1) e; (.func (Zd i) (Zd j) A B p.1, p.2)
theorem Z0l : ∀ {env : List Nm} {s : Nm}, ixN env s = none ↔ s ∉ env
 | [], s => by simp [ixN]
 | a :: l, s => by
   simp only [ixN]
   by_cases h : a = s
   · simp [h]
   · have h2 : ¬ s = a := fun e => h e.symm
     simp [h, h2, Z0l (env := l) (s := s)]
theorem ixN_lt : ∀ {env : List Nm} {s : Nm} {i : Nat}, ixN env s = some i → i < env.length
 | [], s, i, h => by simp [ixN] at h
 | a :: l, s, i, h => by
   simp only [ixN] at h
   by_cases e : a = s
   · simp only [e, if_true, Option.some.injEq] at h; subst h; simp
   · simp only [e, if_false] at h
     cases q : ixN l s with
     | none => simp [q] at h
     | some j =>
       simp only [q, Option.map_some, Option.some.injEq] at h
       subst h
       have := ixN_lt q
       simp only [List.length_cons]; omega
theorem ixN_nodup : ∀ {env : List Nm} {i : Nat}, env.Nodup → i < env.length → ixN env (env.getD i []) = some i
 | [], i, _, h => by simp at h
 | a :: l, 0, hn, h => by simp [ixN]
 | a :: l, i + 1, hn, h => by
   have hl : i < l.length := by simpa using h
   have h1 : l.getD i [] = l[i] := by simp [List.getD_eq_getElem?_getD, hl]
   have h2 : a ≠ l.getD i [] := fun e => by
    have := (List.nodup_cons.1 hn).1
    rw [e, h1] at this
    exact this (List.getElem_mem hl)
   simp only [ixN, List.getD_cons_succ, h2, if_false, ixN_nodup (List.nodup_cons.1 hn).2 hl, Option.map_some]
theorem Z6o : ∀ (m : List (Nm × Nm)) (s : Nm), Ex.name (J2 m s) = (exD [] (m.map (fun q => q.2)) 0 (nmD (m.map (fun q => q.1)) s)).1
 | [], s => rfl
 | (a, b) :: m, s => by
   have ih := Z6o m s
   simp only [J2, List.map_cons, nmD, ixN]
   by_cases h : a = s
   · simp [h, exD]
   · simp only [h, if_false]
     unfold nmD at ih
     cases q : ixN (m.map (fun q => q.1)) s with
     | none => rw [q] at ih; simpa [exD] using ih
     | some i => rw [q] at ih; simpa [exD] using ih
theorem Z0i (free : List Nm) : ∀ (x : Ex) (m : List (Nm × Nm)) (k : Nat), plE free m k x = exD free (m.map (fun q => q.2)) k (dbE (m.map (fun q => q.1)) x)
 | .name s, m, k => by
   have h := Z6o m s
   simp only [plE, dbE]
   rw [h]
   unfold nmD
   cases ixN (m.map (fun q => q.1)) s <;> rfl
 | .num n, m, k => rfl
 | .two o a b, m, k => by simp only [plE, dbE, exD, Z0i free a, Z0i free b]
 | .one o a, m, k => by simp only [plE, dbE, exD, Z0i free a]
 | .cond a b c, m, k => by simp only [plE, dbE, exD, Z0i free a, Z0i free b, Z0i free c]
 | .lete x e b, m, k => by
   simp only [plE, dbE, exD, Z0i free e, Z0i free b, List.map_cons]
 | .func f x A B e, m, k => by
   simp only [plE, dbE, exD, Z0i free e, List.map_cons]
structure PlIn (free : List Nm) (m : List (Nm × Nm)) (k : Nat) : Prop where
 nd : (m.map (fun q => q.2)).Nodup
 new : ∀ q ∈ m, q.2 ∉ free ∧ ∃ j, j < k ∧ q.2 = Zd j
theorem PlIn.mono {free : List Nm} {m : List (Nm × Nm)} {k k' : Nat} (h : PlIn free m k) (hk : k ≤ k') : PlIn free m k' := ⟨h.nd, fun q hq => ⟨(h.new q hq).1, by obtain ⟨j, h1, h2⟩ := (h.new q hq).2; exact ⟨j, by omega, h2⟩⟩⟩
theorem PlIn.cons {free : List Nm} {m : List (Nm × Nm)} {k : Nat} (h : PlIn free m k) (x : Nm) : PlIn free ((x, Zd (Zk free k)) :: m) (Zk free k + 1) := by
 have hk := (Qe free k).1
 refine ⟨?_, ?_⟩
 · simp only [List.map_cons, List.nodup_cons]
   refine ⟨fun hm => ?_, h.nd⟩
   obtain ⟨q, hq, e⟩ := List.mem_map.1 hm
   obtain ⟨j, h1, h2⟩ := (h.new q hq).2
   have := Z54 (h2.symm.trans e)
   omega
 · intro q hq
   rcases List.mem_cons.1 hq with rfl | hq
   · exact ⟨fresh_new free k, _, by omega, rfl⟩
   · obtain ⟨h1, j, h2, h3⟩ := h.new q hq
     exact ⟨h1, j, by omega, h3⟩
theorem plE_up (free : List Nm) (m : List (Nm × Nm)) (k : Nat) (x : Ex) : k ≤ (plE free m k x).2 := (Ym free x m k).1
theorem mem_rm1 {x s : Nm} {l : List Nm} (h : s ∈ l) : s = x ∨ s ∈ rm [x] l := by
 by_cases e : s = x
 · exact .inl e
 · exact .inr (by simp [rm, h, e])
theorem mem_rm2 {x y s : Nm} {l : List Nm} (h : s ∈ l) : s = x ∨ s = y ∨ s ∈ rm [x, y] l := by
 by_cases e : s = x
 · exact .inl e
 · by_cases e2 : s = y
   · exact .inr (.inl e2)
   · exact .inr (.inr (by simp [rm, h, e, e2]))
theorem Qd (free : List Nm) : ∀ (x : Ex) (m : List (Nm × Nm)) (k : Nat), PlIn free m k → (∀ s ∈ Ze x, s ∈ m.map (fun q => q.1) ∨ s ∈ free) → dbE (m.map (fun q => q.2)) (plE free m k x).1 = dbE (m.map (fun q => q.1)) x
 | .name s, m, k, hi, hf => by
   simp only [plE, dbE]
   cases q : ixN (m.map (fun q => q.1)) s with
   | some i =>
     have hl := ixN_lt q
     have h1 : J2 m s = (m.map (fun q => q.2)).getD i [] := by
      have h := Z6o m s
      simp only [nmD, q, exD, Ex.name.injEq] at h
      exact h
     rw [h1]
     unfold nmD
     rw [q, ixN_nodup hi.nd (by simpa using hl)]
   | none =>
     have h1 : J2 m s = s := by
      have h := Z6o m s
      simp only [nmD, q, exD, Ex.name.injEq] at h
      exact h
     have h2 := Z0l.1 q
     have h3 : s ∈ free := (hf s (by simp [Ze])).resolve_left h2
     have h4 : s ∉ m.map (fun q => q.2) := fun hm => by
      obtain ⟨p, hp, e⟩ := List.mem_map.1 hm
      exact (hi.new p hp).1 (by rw [e]; exact h3)
     rw [h1]
     unfold nmD
     rw [q, Z0l.2 h4]
 | .num n, m, k, hi, hf => rfl
 | .two o a b, m, k, hi, hf => by
   simp only [plE, dbE]
   rw [Qd free a m k hi (fun s hs => hf s (by simp [Ze, hs])), Qd free b m _ (hi.mono (plE_up free m k a)) (fun s hs => hf s (by simp [Ze, hs]))]
 | .one o a, m, k, hi, hf => by
   simp only [plE, dbE]
   rw [Qd free a m k hi (fun s hs => hf s (by simp [Ze, hs]))]
 | .cond a b c, m, k, hi, hf => by
   have h1 := plE_up free m k a
   have h2 := plE_up free m (plE free m k a).2 b
   simp only [plE, dbE]
   rw [Qd free a m k hi (fun s hs => hf s (by simp [Ze, hs])), Qd free b m _ (hi.mono h1) (fun s hs => hf s (by simp [Ze, hs])), Qd free c m _ (hi.mono (Nat.le_trans h1 h2)) (fun s hs => hf s (by simp [Ze, hs]))]
 | .lete x e b, m, k, hi, hf => by
   have h0 := (Qe free k).1
   have h1 := plE_up free m (Zk free k + 1) e
   have ih2 := Qd free b ((x, Zd (Zk free k)) :: m) (plE free m (Zk free k + 1) e).2 ((hi.cons x).mono h1) (fun s hs => by
    rcases mem_rm1 (x := x) hs with rfl | h
    · exact .inl (by simp)
    · rcases hf s (by simp [Ze, h]) with h | h
      · exact .inl (by simp only [List.map_cons, List.mem_cons]; exact .inr h)
      · exact .inr h)
   simp only [List.map_cons] at ih2
   simp only [plE, dbE]
   rw [Qd free e m _ (hi.mono (by omega)) (fun s hs => hf s (by simp [Ze, hs])), ih2]
 | .func f x A B e, m, k, hi, hf => by
   have ih2 := Qd free e ((x, Zd (Zk free (Zk free k + 1))) :: (f, Zd (Zk free k)) :: m) (Zk free (Zk free k + 1) + 1) ((hi.cons f).cons x) (fun s hs => by
    rcases mem_rm2 (x := f) (y := x) hs with rfl | rfl | h
    · exact .inl (by simp)
    · exact .inl (by simp)
    · rcases hf s (by simp [Ze, h]) with h | h
      · exact .inl (by simp only [List.map_cons, List.mem_cons]; exact .inr (.inr h))
      · exact .inr h)
   simp only [List.map_cons] at ih2
   simp only [plE, dbE]
   rw [ih2]
def Va : Db → List Nm
 | .free s => [s]
 | .bnd _ => []
 | .num _ => []
 | .two _ a b => Va a ++ Va b
 | .one _ a => Va a
 | .cond a b c => Va a ++ Va b ++ Va c
 | .lete e b => Va e ++ Va b
 | .func _ _ e => Va e
theorem rm_same {a b l : List Nm} (h : ∀ s, s ∈ a ↔ s ∈ b) : rm a l = rm b l := by
 unfold rm
 exact List.filter_congr (fun s _ => by simp [h s])
theorem Kd : ∀ (x : Ex) (env : List Nm), Va (dbE env x) = rm env (Ze x)
 | .name s, env => by
   simp only [dbE, Ze, nmD]
   cases q : ixN env s with
   | none => have := Z0l.1 q; simp [Va, rm, this]
   | some i =>
     have : s ∈ env := Decidable.byContradiction (fun h => by rw [Z0l.2 h] at q; cases q)
     simp [Va, rm, this]
 | .num n, env => rfl
 | .two o a b, env => by simp only [dbE, Va, Ze, Z2z, Kd a, Kd b]
 | .one o a, env => by simp only [dbE, Va, Ze, Kd a]
 | .cond a b c, env => by simp only [dbE, Va, Ze, Z2z, Kd a, Kd b, Kd c]
 | .lete x e b, env => by
   simp only [dbE, Va, Ze, Z2z, Kd e, Kd b, rm_rm]
   rw [rm_same (a := x :: env) (b := env ++ [x]) (fun s => by simp [or_comm])]
 | .func f x A B e, env => by
   simp only [dbE, Va, Ze, Kd e, rm_rm]
   exact rm_same (fun s => by
    simp only [List.mem_cons, List.mem_append, List.not_mem_nil, or_false]
    constructor
    · rintro (h | h | h)
      · exact .inr (.inr h)
      · exact .inr (.inl h)
      · exact .inl h
    · rintro (h | h | h)
      · exact .inr (.inr h)
      · exact .inr (.inl h)
      · exact .inl h)
theorem Z6r (x : Ex) : Ze x = Va (dbE [] x) := by rw [Kd, K5]
def Z05 (name : Nm) (d : Db) : Db → Db
 | .free s => if s = name then d else .free s
 | .bnd i => .bnd i
 | .num n => .num n
 | .two o a b => .two o (Z05 name d a) (Z05 name d b)
 | .one o a => .one o (Z05 name d a)
 | .cond a b c => .cond (Z05 name d a) (Z05 name d b) (Z05 name d c)
 | .lete e b => .lete (Z05 name d e) (Z05 name d b)
 | .func A B e => .func A B (Z05 name d e)
theorem ixN_app : ∀ {l env : List Nm} {s : Nm}, s ∈ l → ixN (l ++ env) s = ixN l s
 | [], env, s, h => by simp at h
 | a :: l, env, s, h => by
   simp only [List.cons_append, ixN]
   by_cases e : a = s
   · simp [e]
   · have h2 : s ∈ l := (List.mem_cons.1 h).resolve_left (fun q => e q.symm)
     simp [e, ixN_app (env := env) h2]
theorem Ke : ∀ (x : Ex) (l env : List Nm), (∀ s ∈ Ze x, s ∈ l) → dbE (l ++ env) x = dbE l x
 | .name s, l, env, h => by simp only [dbE, nmD, ixN_app (env := env) (h s (by simp [Ze]))]
 | .num n, l, env, h => rfl
 | .two o a b, l, env, h => by simp only [dbE, Ke a l env (fun s hs => h s (by simp [Ze, hs])), Ke b l env (fun s hs => h s (by simp [Ze, hs]))]
 | .one o a, l, env, h => by simp only [dbE, Ke a l env (fun s hs => h s (by simp [Ze, hs]))]
 | .cond a b c, l, env, h => by simp only [dbE, Ke a l env (fun s hs => h s (by simp [Ze, hs])), Ke b l env (fun s hs => h s (by simp [Ze, hs])), Ke c l env (fun s hs => h s (by simp [Ze, hs]))]
 | .lete x e b, l, env, h => by
   have ih := Ke b (x :: l) env (fun s hs => by
    rcases mem_rm1 (x := x) hs with rfl | q
    · simp
    · exact List.mem_cons_of_mem _ (h s (by simp [Ze, q])))
   simp only [List.cons_append] at ih
   simp only [dbE, Ke e l env (fun s hs => h s (by simp [Ze, hs])), ih]
 | .func f x A B e, l, env, h => by
   have ih := Ke e (x :: f :: l) env (fun s hs => by
    rcases mem_rm2 (x := f) (y := x) hs with rfl | rfl | q
    · simp
    · simp
    · exact List.mem_cons_of_mem _ (List.mem_cons_of_mem _ (h s (by simp [Ze, q]))))
   simp only [List.cons_append] at ih
   simp only [dbE, ih]
theorem dbE_closed {b : Ex} (h : Ze b = []) (env : List Nm) : dbE env b = dbE [] b := Ke b [] env (fun s hs => by rw [h] at hs; cases hs)
theorem Qy (name : Nm) (d : Db) : ∀ (x : Ex) (env : List Nm), name ∈ env → Z05 name d (dbE env x) = dbE env x
 | .name s, env, h => by
   simp only [dbE, nmD]
   cases q : ixN env s with
   | some i => rfl
   | none =>
     have h1 := Z0l.1 q
     have h2 : ¬ s = name := fun e => h1 (e ▸ h)
     simp [Z05, h2]
 | .num n, env, h => rfl
 | .two o a b, env, h => by simp only [dbE, Z05, Qy name d a env h, Qy name d b env h]
 | .one o a, env, h => by simp only [dbE, Z05, Qy name d a env h]
 | .cond a b c, env, h => by simp only [dbE, Z05, Qy name d a env h, Qy name d b env h, Qy name d c env h]
 | .lete x e b, env, h => by simp only [dbE, Z05, Qy name d e env h, Qy name d b (x :: env) (List.mem_cons_of_mem _ h)]
 | .func f x A B e, env, h => by simp only [dbE, Z05, Qy name d e (x :: f :: env) (List.mem_cons_of_mem _ (List.mem_cons_of_mem _ h))]
theorem Kz {name : Nm} {b : Ex} (hb : Ze b = []) : ∀ (x : Ex) (env : List Nm), name ∉ env → dbE env (Zs name b x) = Z05 name (dbE [] b) (dbE env x)
 | .name s, env, h => by
   simp only [Zs, dbE]
   by_cases e : s = name
   · rw [if_pos e, dbE_closed hb, e]
     unfold nmD
     rw [Z0l.2 h]
     simp [Z05]
   · rw [if_neg e]
     simp only [dbE, nmD]
     cases q : ixN env s with
     | some i => rfl
     | none => simp [Z05, e]
 | .num n, env, h => rfl
 | .two o x y, env, h => by simp only [Zs, dbE, Z05, Kz hb x env h, Kz hb y env h]
 | .one o x, env, h => by simp only [Zs, dbE, Z05, Kz hb x env h]
 | .cond x y z, env, h => by simp only [Zs, dbE, Z05, Kz hb x env h, Kz hb y env h, Kz hb z env h]
 | .lete s x y, env, h => by
   simp only [Zs, dbE, Z05, Kz hb x env h]
   by_cases e : s = name
   · rw [if_pos e, Qy name _ y (s :: env) (by simp [e])]
   · rw [if_neg e, Kz hb y (s :: env) (by simp only [List.mem_cons, not_or]; exact ⟨fun q => e q.symm, h⟩)]
 | .func f a A B x, env, h => by
   simp only [Zs, dbE, Z05]
   by_cases e : f = name ∨ a = name
   · rw [if_pos e, Qy name _ x (a :: f :: env) (by rcases e with e | e <;> simp [e])]
   · rw [if_neg e, Kz hb x (a :: f :: env) (by
      simp only [List.mem_cons, not_or]
      exact ⟨fun q => e (.inr q.symm), fun q => e (.inl q.symm), h⟩)]
theorem plIn0 (free : List Nm) : PlIn free [] 0 := ⟨List.nodup_nil, fun q hq => by cases hq⟩
theorem plX_db (x : Ex) : dbE [] (plX x) = dbE [] x := Qd (frE x) x [] 0 (plIn0 _) (fun s hs => .inr ((Z7g s _ []).2 (.inr hs)))
theorem plX_free (x : Ex) : Ze (plX x) = Ze x := by rw [Z6r, plX_db, ← Z6r]
theorem plX_alike {x y : Ex} (h : dbE [] x = dbE [] y) : plX x = plX y := by
 have hf : frE x = frE y := by unfold frE; rw [Z6r x, Z6r y, h]
 unfold plX
 rw [Z0i, Z0i, hf]
 simp only [List.map_nil, h]
theorem plX_idem (x : Ex) : plX (plX x) = plX x := plX_alike (plX_db x)
theorem plX_put {name : Nm} {b : Ex} (hb : Ze b = []) (x : Ex) : plX (Zs name b (plX x)) = plX (Zs name b x) := by
 apply plX_alike
 rw [Kz hb _ [] (by simp), Kz hb _ [] (by simp), plX_db]
theorem Z7a (x : Ex) : (Z0 (plX x)).size = (Z0 x).size ∧ (Z0 (plX x)).depth = (Z0 x).depth := Jm (frE x) x [] 0
theorem putX_size {name : Nm} {b : Ex} (hb : Ze b = []) (x : Ex) : (Z0 (Zs name b (plX x))).size = (Z0 (Zs name b x)).size ∧ (Z0 (Zs name b (plX x))).depth = (Z0 (Zs name b x)).depth := by
 have h1 := Z7a (Zs name b (plX x))
 have h2 := Z7a (Zs name b x)
 rw [plX_put hb x] at h1
 exact ⟨h1.1.symm.trans h2.1, h1.2.symm.trans h2.2⟩
end Go.Proofs.YtjaaalojcdbcpaaGreatDoor
