/- The reference: the first fault. -/
import Derived.Test.YtfknoigbkleanaaGreatDoorqSpec3f
namespace Go.Proofs.YtfknoigbkleanaaGreatDoor
open Go.RowKit Go.Proofs.Tryz
set_option maxRecDepth 8000
set_option maxHeartbeats 20000000
set_option linter.unusedVariables false
set_option linter.unusedSimpArgs false
def faS : Except Ex Tr → Nm
 | .ok _ => []
 | .error f => (Z2 f).text
theorem head_bad {h : Nm} {es : List Ex} {x : Ex} {env : List (Nm × Tr)} (hx : Yc h es = some x) {j : Nat} (hj : j < es.length) (hok : ∀ i (hi : i < j) (hl : i < es.length), ∃ t, tyR env es[i] = .ok t) {g : Ex} (hg : tyR env es[j] = .error g) : tyR env x = .error g := by
 match es, hx with
 | [], hx => cases hx
 | [a], hx =>
   simp only [Yc, Option.map_eq_some_iff] at hx
   obtain ⟨o, ho, rfl⟩ := hx
   match j, hj with
   | 0, _ => simp only [List.getElem_cons_zero] at hg; simp only [tyR, hg]
 | [a, b], hx =>
   simp only [Yc, Option.map_eq_some_iff] at hx
   obtain ⟨o, ho, rfl⟩ := hx
   match j, hj with
   | 0, _ => simp only [List.getElem_cons_zero] at hg; simp only [tyR, hg]
   | 1, _ =>
     obtain ⟨t, ht⟩ := hok 0 (by omega) (by simp)
     simp only [List.getElem_cons_zero, List.getElem_cons_succ] at hg ht; simp only [tyR, hg, ht]
 | [a, b, c], hx =>
   simp only [Yc] at hx
   split at hx
   · simp only [Option.some.injEq] at hx
     subst hx
     match j, hj with
     | 0, _ => simp only [List.getElem_cons_zero] at hg; simp only [tyR, hg]
     | 1, _ =>
       obtain ⟨t, ht⟩ := hok 0 (by omega) (by simp)
       simp only [List.getElem_cons_zero, List.getElem_cons_succ] at hg ht; simp only [tyR, hg, ht]
     | 2, _ =>
       obtain ⟨t, ht⟩ := hok 0 (by omega) (by simp)
       obtain ⟨u, hu⟩ := hok 1 (by omega) (by simp)
       simp only [List.getElem_cons_zero, List.getElem_cons_succ] at hg ht hu; simp only [tyR, hg, ht, hu]
   · cases hx
 | _ :: _ :: _ :: _ :: _, hx => cases hx
theorem Kc {x f : Ex} {o : Option Tr} (h : Jw x o = .error f) : f = x := by cases o <;> simp [Jw] at h; exact h.symm
theorem head_self {h : Nm} {es : List Ex} {x : Ex} {env : List (Nm × Tr)} (hx : Yc h es = some x) (hok : ∀ i (hl : i < es.length), ∃ t, tyR env es[i] = .ok t) {f : Ex} (hf : tyR env x = .error f) : f = x := by
 match es, hx with
 | [], hx => cases hx
 | [a], hx =>
   simp only [Yc, Option.map_eq_some_iff] at hx
   obtain ⟨o, ho, rfl⟩ := hx
   obtain ⟨t, ht⟩ := hok 0 (by simp)
   simp only [List.getElem_cons_zero] at ht
   simp only [tyR, ht] at hf
   exact Kc hf
 | [a, b], hx =>
   simp only [Yc, Option.map_eq_some_iff] at hx
   obtain ⟨o, ho, rfl⟩ := hx
   obtain ⟨t, ht⟩ := hok 0 (by simp)
   obtain ⟨u, hu⟩ := hok 1 (by simp)
   simp only [List.getElem_cons_zero, List.getElem_cons_succ] at ht hu
   simp only [tyR, ht, hu] at hf
   exact Kc hf
 | [a, b, c], hx =>
   simp only [Yc] at hx
   split at hx
   · simp only [Option.some.injEq] at hx
     subst hx
     obtain ⟨t, ht⟩ := hok 0 (by simp)
     obtain ⟨u, hu⟩ := hok 1 (by simp)
     obtain ⟨v, hv⟩ := hok 2 (by simp)
     simp only [List.getElem_cons_zero, List.getElem_cons_succ] at ht hu hv
     simp only [tyR, ht, hu, hv] at hf
     exact Kc hf
   · cases hx
 | _ :: _ :: _ :: _ :: _, hx => cases hx
theorem head_free {h : Nm} {es : List Ex} {x : Ex} (hx : Yc h es = some x) {P : Nm → Prop} (hP : ∀ s ∈ Ze x, P s) : ∀ e ∈ es, ∀ s ∈ Ze e, P s := by
 match es, hx with
 | [], hx => cases hx
 | [a], hx =>
   simp only [Yc, Option.map_eq_some_iff] at hx
   obtain ⟨o, ho, rfl⟩ := hx
   intro e he s hs
   simp only [List.mem_singleton] at he; subst he
   exact hP s (by simpa [Ze] using hs)
 | [a, b], hx =>
   simp only [Yc, Option.map_eq_some_iff] at hx
   obtain ⟨o, ho, rfl⟩ := hx
   intro e he s hs
   simp only [List.mem_cons, List.not_mem_nil, or_false] at he
   rcases he with rfl | rfl
   · exact hP s (by simp [Ze, hs])
   · exact hP s (by simp [Ze, hs])
 | [a, b, c], hx =>
   simp only [Yc] at hx
   split at hx
   · simp only [Option.some.injEq] at hx
     subst hx
     intro e he s hs
     simp only [List.mem_cons, List.not_mem_nil, or_false] at he
     rcases he with rfl | rfl | rfl
     · exact hP s (by simp [Ze, hs])
     · exact hP s (by simp [Ze, hs])
     · exact hP s (by simp [Ze, hs])
   · cases hx
 | _ :: _ :: _ :: _ :: _, hx => cases hx
theorem Kl : ∀ (x : Ex) (env : List (Nm × Tr)) (f : Ex), tyR env x = .error f → (Z2 x).wf → (Z2 f).wf
 | .name s, env, f, h, hw => by simp only [tyR] at h; rw [Kc h]; exact hw
 | .num n, env, f, h, hw => by simp [tyR] at h
 | .two o a b, env, f, h, hw => by
   have hw' := hw
   simp only [Z2, Tr.wf, wfs] at hw
   simp only [tyR] at h
   split at h
   · rename_i g h1; simp only [Except.error.injEq] at h; subst h; exact Kl a env _ h1 hw.2.2.1
   · split at h
     · rename_i g h1; simp only [Except.error.injEq] at h; subst h; exact Kl b env _ h1 hw.2.2.2.1
     · rw [Kc h]; exact hw'
 | .one o a, env, f, h, hw => by
   have hw' := hw
   simp only [Z2, Tr.wf, wfs] at hw
   simp only [tyR] at h
   split at h
   · rename_i g h1; simp only [Except.error.injEq] at h; subst h; exact Kl a env _ h1 hw.2.2.1
   · rw [Kc h]; exact hw'
 | .cond a b c, env, f, h, hw => by
   have hw' := hw
   simp only [Z2, Tr.wf, wfs] at hw
   simp only [tyR] at h
   split at h
   · rename_i g h1; simp only [Except.error.injEq] at h; subst h; exact Kl a env _ h1 hw.2.2.1
   · split at h
     · rename_i g h1; simp only [Except.error.injEq] at h; subst h; exact Kl b env _ h1 hw.2.2.2.1
     · split at h
       · rename_i g h1; simp only [Except.error.injEq] at h; subst h; exact Kl c env _ h1 hw.2.2.2.2.1
       · rw [Kc h]; exact hw'
 | .lete s e b, env, f, h, hw => by
   simp only [Z2, Tr.wf, wfs] at hw
   simp only [tyR] at h
   split at h
   · rename_i g h1; simp only [Except.error.injEq] at h; subst h; exact Kl e env _ h1 hw.2.2.2.1
   · exact Kl b _ f h hw.2.2.2.2.1
 | .func n s A B e, env, f, h, hw => by
   have hw' := hw
   simp only [Z2, Tr.wf, wfs] at hw
   simp only [tyR] at h
   split at h
   · simp only [Except.error.injEq] at h; subst h; exact hw'
   · split at h
     · rename_i g h1; simp only [Except.error.injEq] at h; subst h; exact Kl e _ _ h1 hw.2.2.2.2.2.2.1
     · rw [Kc h]; exact hw'
theorem Z31 {t : Tr} {x : Ex} (hax : Y9 t = some x) (hwf : t.wf) (env : List (Nm × Tr)) (f : Ex) (hr : tyR env x = .error f) : (Z2 f).text ≠ [] := Qh (Kl x env f hr (by rw [Jd _ _ hax]; exact hwf))
def Z3q (env : List (Nm × Tr)) (x : Ex) : Prop := ∀ s ∈ Ze x, Yv env s ≠ none
def FaS (n : Nat) : Prop := ∀ (t : Tr) (x : Ex) (env : List (Nm × Tr)) (cs : List Value) (v1 v2 : Value) (ok : Nat → Prop) (w : World), t.depth < n → t.wf → t.bytes ≤ 12000 → Y9 t = some x → Qe env → Z3q env x → env.length + 2 * t.depth ≤ 100000 → Zn w v1 (Kj env) → Zn w v2 (Ke env) → FV nS w ok t cs → (∀ k, ok k → k < w.heap.size) →
    Calls prog 60 #[.agg cs.toArray, v1, v2] w fun e w' => e = .returned (.string (bs (faS (tyR env x)))) ∧ Below w.heap.size w w'
theorem l3Fault_atom (a : List UInt8) (x : Ex) (env : List (Nm × Tr)) (v1 v2 : Value) (w : World) (ha0 : a ≠ []) (hx : Y9 (.atom a) = some x) (hkn : Z3q env x) (h1 : Zn w v1 (Kj env)) (h2 : Zn w v2 (Ke env)) :
 Calls prog 60 #[.agg #[.string (bs a), .slice none 0 0], v1, v2] w fun e w' => e = .returned (.string (bs (faS (tyR env x)))) ∧ Below w.heap.size w w' := by
 have ha := Vn ha0
 have HR := H_ (show bs (faS (tyR env x)) = ⟨#[]⟩ by
  simp only [Y9, Qm] at hx
  split at hx
  · simp only [Option.some.injEq] at hx; subst hx; rfl
  · split at hx
    · simp only [Option.some.injEq] at hx; subst hx
      have := hkn a (by simp [Ze])
      simp only [tyR]
      cases hl : Yv env a with
      | none => exact absurd hl this
      | some t => rfl
    · cases hx)
 rw [HR.out]
 obtain ⟨p1, c1, rfl, -, -⟩ := h1
 obtain ⟨p2, c2, rfl, -, -⟩ := h2
 clear HR hx hkn
 generalize bs a = A at *
 go_enter func60, ntmps60
 go_wp2_with fail
 try go_region
 all_goals
  go_wp2_with fail
  go_ret
  exact ⟨rfl, by first | exact Z4 _ _ | exact (Z4 _ _).drew⟩
theorem fv_self {h : Tr} {ps : List Tr} {r off cap L : Nat} {xs : List Value} {ok : Nat → Prop} {w : World} (h2 : ok r) (h4 : cap ≤ maxLen) (hL : L = (h :: ps).length) (h3 : L ≤ cap) (h5 : Y4 w r off xs) (h6 : FVs nS w ok (h :: ps) xs) (hok : ∀ k, ok k → k < w.heap.size) {W : World} (hW : Below w.heap.size w W) : FV nS W ok (.list (h :: ps)) [.string (bs []), .slice (some ⟨r, off, none⟩) L cap] := by
 simp only [FV, nS, Z0]
 exact ⟨r, off, cap, xs, by rw [hL], h2, by rw [← hL]; exact h3, h4, h5.move (hW.block r (hok r h2)), FVs.below h6 hW hok⟩
theorem Z47 (n : Nat) (h : Tr) (ps : List Tr) (x : Ex) (env : List (Nm × Tr)) (v1 v2 : Value) (r off cap L : Nat) (xs : List Value) (ok : Nat → Prop) (w : World) (hd : (Tr.list (h :: ps)).depth < n + 1) (hwf : wfs (h :: ps)) (hby : (Tr.list (h :: ps)).bytes ≤ 12000) (hax : Y9 (.list (h :: ps)) = some x)
 (henv : Qe env) (hlen : env.length + 2 * (Tr.list (h :: ps)).depth ≤ 100000) (h1 : Zn w v1 (Kj env)) (h2s : Zn w v2 (Ke env))
 (h2 : ok r) (h4 : cap ≤ maxLen) (hL : L = (h :: ps).length) (h3 : L ≤ cap) (h5 : Y4 w r off xs) (h6 : FVs nS w ok (h :: ps) xs) (hok : ∀ k, ok k → k < w.heap.size) (W : World) (hW : Below w.heap.size w W) :
 Calls prog 51 #[.agg #[.string (bs []), .slice (some ⟨r, off, none⟩) L cap], v1, v2] W fun e w' => e = .returned (.string (bs (tyS (tyR env x)))) ∧ Below W.heap.size W w' :=
 Vt (n + 1) (.list (h :: ps)) x env [.string (bs []), .slice (some ⟨r, off, none⟩) L cap] v1 v2 ok W hd (by simp only [Tr.wf]; exact ⟨by simp, hwf⟩) (by omega) hax henv hlen (h1.below hW) (h2s.below hW) (fv_self h2 h4 hL h3 h5 h6 hok hW) (Yp hok hW)
theorem self_text (n : Nat) (h : Tr) (ps : List Tr) (x : Ex) (env : List (Nm × Tr)) (v1 v2 : Value) (r off cap L : Nat) (xs : List Value) (ok : Nat → Prop) (w : World) (hd : (Tr.list (h :: ps)).depth < n + 1) (hwf : wfs (h :: ps)) (hby : (Tr.list (h :: ps)).bytes ≤ 12000) (hax : Y9 (.list (h :: ps)) = some x)
 (henv : Qe env) (hlen : env.length + 2 * (Tr.list (h :: ps)).depth ≤ 100000) (h1 : Zn w v1 (Kj env)) (h2s : Zn w v2 (Ke env))
 (h2 : ok r) (h4 : cap ≤ maxLen) (hL : L = (h :: ps).length) (h3 : L ≤ cap) (h5 : Y4 w r off xs) (h6 : FVs nS w ok (h :: ps) xs) (hok : ∀ k, ok k → k < w.heap.size) (W : World) (hW : Below w.heap.size w W) :
 Calls prog 77 #[.agg #[.string (bs []), .slice (some ⟨r, off, none⟩) L cap]] W fun e w' => e = .returned (.string (bs (Z2 x).text)) ∧ Below W.heap.size W w' := by
 rw [Jd _ _ hax]
 exact Kr (n + 1) (.list (h :: ps)) [.string (bs []), .slice (some ⟨r, off, none⟩) L cap] ok W hd (by simp only [Tr.wf]; exact ⟨by simp, hwf⟩) (by omega) (fv_self h2 h4 hL h3 h5 h6 hok hW) (Yp hok hW)
theorem l3Fault_ok (n : Nat) (h : Tr) (ps : List Tr) (x : Ex) (env : List (Nm × Tr)) (v1 v2 : Value) (r off cap L : Nat) (xs : List Value) (ok : Nat → Prop) (w : World) (hd : (Tr.list (h :: ps)).depth < n + 1) (hwf : wfs (h :: ps)) (hby : (Tr.list (h :: ps)).bytes ≤ 12000) (hax : Y9 (.list (h :: ps)) = some x)
 (henv : Qe env) (hlen : env.length + 2 * (Tr.list (h :: ps)).depth ≤ 100000) (h1 : Zn w v1 (Kj env)) (h2s : Zn w v2 (Ke env))
 (h2 : ok r) (h4 : cap ≤ maxLen) (hL : L = (h :: ps).length) (h3 : L ≤ cap) (h5 : Y4 w r off xs) (h6 : FVs nS w ok (h :: ps) xs) (hok : ∀ k, ok k → k < w.heap.size) (t : Tr) (hr : tyR env x = .ok t) (hty : Kn x) :
 Calls prog 60 #[.agg #[.string (bs []), .slice (some ⟨r, off, none⟩) L cap], v1, v2] w fun e w' => e = .returned (.string (bs [])) ∧ Below w.heap.size w w' := by
 have hemp := J3
 have hsl : Below w.heap.size w (w.alloc (.cells #[.string (bs []), .slice (some ⟨r, off, none⟩) L cap] 62)) := Z4 _ _
 have CT := H_ (Z47 n h ps x env v1 v2 r off cap L xs ok w hd hwf hby hax henv hlen h1 h2s h2 h4 hL h3 h5 h6 hok _ hsl)
 have hne := Qh (Zf (Qj x env t henv hty hr)).1
 rw [hr, show tyS (.ok t) = t.text from rfl] at CT
 have hx2 : ((bs t.text).toList == []) = false := by rw [Z5]; simpa using hne
 have hx3 : ¬ (bs t.text).toList = [] := by rw [Z5]; exact hne
 obtain ⟨p1, c1, rfl, -, -⟩ := h1
 obtain ⟨p2, c2, rfl, -, -⟩ := h2s
 have HSL := H_ hsl
 clear hd hwf hby hax henv hlen h5 h6 hok hr hty hL
 generalize bs t.text = TT at *
 go_enter func60, ntmps60
 go_wp2_with (go_at_call 51; go_must (refine (CT.out).mono ?_; rintro e w5 ⟨rfl, hb5⟩))
 go_ret
 exact ⟨rfl, HSL.out.trans (hb5.mono HSL.out.size)⟩
theorem l3Fault_ord (n : Nat) (h : Tr) (ps : List Tr) (x : Ex) (env : List (Nm × Tr)) (v1 v2 : Value) (r off cap L : Nat) (xs : List Value) (ok : Nat → Prop) (w : World) (hd : (Tr.list (h :: ps)).depth < n + 1) (hwf : wfs (h :: ps)) (hby : (Tr.list (h :: ps)).bytes ≤ 12000) (hax : Y9 (.list (h :: ps)) = some x)
 (henv : Qe env) (hlen : env.length + 2 * (Tr.list (h :: ps)).depth ≤ 100000) (h1 : Zn w v1 (Kj env)) (h2s : Zn w v2 (Ke env))
 (h2 : ok r) (h4 : cap ≤ maxLen) (hL : L = (h :: ps).length) (h3 : L ≤ cap) (h5 : Y4 w r off xs) (h6 : FVs nS w ok (h :: ps) xs) (hok : ∀ k, ok k → k < w.heap.size) (ih : FaS n) (es : List Ex) (hnl : ¬ Z0 h = Q3) (hnf : ¬ Z0 h = Q1) (hes : Yl ps = some es) (hmk : Yc (Z0 h) es = some x) (hkn : Z3q env x) (f : Ex) (hr : tyR env x = .error f) :
 Calls prog 60 #[.agg #[.string (bs []), .slice (some ⟨r, off, none⟩) L cap], v1, v2] w fun e w' => e = .returned (.string (bs (Z2 f).text)) ∧ Below w.heap.size w w' := by
 have hrlt := hok r h2
 have hemp := J3
 have hm := Zt h4
 have e0 : w.cell? ⟨r, off, none⟩ = some (.string (bs (Z0 h))) := by
  obtain ⟨p, m, c, _, q, _⟩ := Vp h6 h5 0 (by simp)
  simpa using q
 have hel := Z5d ps es hes
 have hby' : Zk (h :: ps) < 12000 := by have q := hby; simp only [Tr.bytes] at q; omega
 have hps : ps.length ≤ 12000 := by
  have := Xt (h :: ps)
  simp at this; omega
 have hL0 : 1 ≤ L := by rw [hL]; simp
 have hLs : L ≤ 20000 := by rw [hL]; simp; omega
 have hgl : es.length + 1 = L := by rw [hL]; simp [hel]
 have hsl : Below w.heap.size w (w.alloc (.cells #[.string (bs []), .slice (some ⟨r, off, none⟩) L cap] 62)) := Z4 _ _
 have CT := H_ (Z47 n h ps x env v1 v2 r off cap L xs ok w hd hwf hby hax henv hlen h1 h2s h2 h4 hL h3 h5 h6 hok _ hsl)
 rw [hr, show bs (tyS (.error f)) = ⟨#[]⟩ from rfl] at CT
 have CX : Hid (∀ W, Below w.heap.size w W → Calls prog 77 #[.agg #[.string (bs []), .slice (some ⟨r, off, none⟩) L cap]] W fun e w' => e = .returned (.string (bs (Z2 x).text)) ∧ Below W.heap.size W w') := H_ (fun W hW => self_text n h ps x env v1 v2 r off cap L xs ok w hd hwf hby hax henv hlen h1 h2s h2 h4 hL h3 h5 h6 hok W hW)
 obtain ⟨a, V⟩ := Z7v hax
 have ha1 : a = 1 := by
  have q1 := V.len
  have q2 := (Z70 hmk).1
  rw [q2, hel] at q1; omega
 have CK : Hid (∀ W, Calls prog 109 #[.string (bs (Z0 h))] W fun e w' => e = .returned (.tuple #[.int .i64 1, .int .i64 (L : Int)]) ∧ w' = W) := H_ (fun W => by
  have := Vd _ _ _ (by rw [V.at_]) W
  rw [ha1, show ps.length + 1 = L by rw [hL]; rfl] at this
  exact this)
 have HK : Hid (∀ (wr : World), Below w.heap.size w wr → ∀ k j, k = j + 1 → (hj : j < es.length) → ∃ at0 p pn pc, wr.cell? ⟨r, off + k * 2, none⟩ = some (.string at0) ∧ wr.cell? ⟨r, off + k * 2 + 1, none⟩ = some (.slice p pn pc) ∧
  ∀ W, Below w.heap.size w W → Calls prog 60 #[.agg #[.string at0, .slice p pn pc], v1, v2] W fun e w' => e = .returned (.string (bs (faS (tyR env es[j])))) ∧ Below W.heap.size W w') := H_ (fun wr hb k j hk hj => by
  subst hk
  have hjp : j < ps.length := by rw [← hel]; exact hj
  obtain ⟨cs, g1, g2⟩ := FVs.get Xr h6 h5 (j + 1) (by simp; omega)
  obtain ⟨p, pn, pc, rfl⟩ := g1.node
  simp only [List.getElem_cons_succ] at g1 g2
  have hbd : j + 1 < (h :: ps).length := by simp; omega
  have hdl := Ym hbd
  have hbl := Yn hbd
  have hwg := Xa hwf hbd
  simp only [List.getElem_cons_succ] at hdl hbl hwg
  simp only [Tr.bytes] at hbl
  refine ⟨bs (Z0 ps[j]), p, pn, pc, (hb.cell (p := ⟨r, off + (j + 1) * 2, none⟩) hrlt).trans (g2 0 _ rfl), (hb.cell (p := ⟨r, off + (j + 1) * 2 + 1, none⟩) hrlt).trans (g2 1 _ rfl), fun W hW => ?_⟩
  exact ih ps[j] es[j] env (nS ps[j] (.slice p pn pc)) v1 v2 ok W (by omega) hwg (by omega) (Z2v ps es hes j hjp hj) henv (head_free hmk hkn _ (List.getElem_mem hj)) (by omega) (h1.below hW) (h2s.below hW) (g1.below hW hok) (Yp hok hW))
 have HBAD : Hid (∀ j (hj : j < es.length) (g : Ex), (∀ i (hi : i < j) (hl : i < es.length), ∃ t, tyR env es[i] = .ok t) → tyR env es[j] = .error g → f = g) := H_ (fun j hj g q1 q2 => by have := head_bad hmk hj q1 q2; rw [hr] at this; simpa using this)
 have HSELF : Hid ((∀ i (hl : i < es.length), ∃ t, tyR env es[i] = .ok t) → f = x) := H_ (fun q => head_self hmk q hr)
 have HWF : Hid (∀ j (hj : j < es.length) (g : Ex), tyR env es[j] = .error g → f = g → (Z2 f).text ≠ []) := H_ (fun j hj g q1 q2 => Z31 hax (by simp only [Tr.wf]; exact ⟨by simp, hwf⟩) env f hr)
 obtain ⟨p1, c1, rfl, -, -⟩ := h1
 obtain ⟨p2, c2, rfl, -, -⟩ := h2s
 have hl1 : ((bs (Z0 h)).toList == [108, 101, 116]) = false := by rw [Z5]; simpa [Q3] using hnl
 have hl2 : ¬ (bs (Z0 h)).toList = [108, 101, 116] := by rw [Z5]; exact hnl
 have hl3 : ((bs (Z0 h)).toList == [102, 117, 110]) = false := by rw [Z5]; simpa [Q1] using hnf
 have hl4 : ¬ (bs (Z0 h)).toList = [102, 117, 110] := by rw [Z5]; exact hnf
 obtain ⟨sx, hsx⟩ : ∃ q, q = bs (Z0 h) := ⟨_, rfl⟩
 rw [← hsx] at e0 CK hl1 hl2 hl3 hl4
 have HGL := H_ hgl
 have HD0 := H_ e0
 have HSL := H_ hsl
 obtain ⟨FT, hFT⟩ : ∃ q, q = bs (Z2 f).text := ⟨_, rfl⟩
 rw [← hFT]
 have HFT := H_ hFT
 clear hFT
 clear hes hmk henv hlen ih hwf hby hby' hd h5 h6 hel hnl hnf hL hps hax hkn hr V ha1 hsl hsx
 go_enter func60, ntmps60
 go_wp2_with (first | (go_at_call 51; go_must (refine (CT.out).mono ?_; rintro e w5 ⟨rfl, hb5⟩; have HB5 := H_ (HSL.out.trans (hb5.mono HSL.out.size)); have x0 := Z1 hb5 (by simp) (heap_alloc_new w (.cells #[.string (bs []), .slice (some ⟨r, off, none⟩) L cap] 62)); obtain ⟨y0, y1⟩ := Zm x0; have e0b := (HB5.out.cell (p := ⟨r, off, none⟩) hrlt).trans HD0.out)) | (go_at_call 109; go_must (refine (CK.out _).mono ?_; rintro e w6 ⟨rfl, rfl⟩)))
 go_loopw [9] (fun i wr => ∃ k j : Nat, Hid (k = j + 1) ∧ k ≤ L ∧ i = .int .i64 k ∧ Hid (∀ i (hi : i < j) (hl : i < es.length), ∃ t, tyR env es[i] = .ok t) ∧ Hid (Below w6.heap.size w6 wr)) (fun i _ => L - (intOf i).toNat)
 case atStart => exact ⟨1, 0, H_ rfl, hL0, rfl, H_ (fun i hi => by omega), H_ (Below.refl _ _)⟩
 case round =>
  obtain ⟨k, j, hkj, hk, rfl, ho, hb⟩ := hrel
  have hbw : Below w.heap.size w wr := HB5.out.trans (hb.out.mono HB5.out.size)
  have x1 := Z1 hb.out (lt_of_block x0) x0
  obtain ⟨u0, u1⟩ := Zm x1
  have ex : wr.cell? ⟨r, off, none⟩ = some (.string sx) := (hbw.cell (p := ⟨r, off, none⟩) hrlt).trans HD0.out
  by_cases hlt : k < L
  · have hjl : j < es.length := by have := HGL.out; have := hkj.out; omega
    obtain ⟨at0, p, pn, pc, e1, e2, HC⟩ := HK.out wr hbw k j hkj.out hjl
    have CF := H_ (HC wr hbw)
    clear HC HK CX x0 x1 y0 y1 e0b
    cases hq : tyR env es[j] with
    | ok t =>
      rw [hq, show bs (faS (.ok t)) = ⟨#[]⟩ from rfl] at CF
      have HO : Hid (∀ i (hi : i < j + 1) (hl : i < es.length), ∃ t, tyR env es[i] = .ok t) := H_ (fun i hi hl => by
       by_cases hij : i < j
       · exact ho.out i hij hl
       · have : i = j := by omega
         subst this; exact ⟨t, hq⟩)
      clear hq
      go_wp2_with (go_at_call 60; go_must (refine (CF.out).mono ?_; rintro e w7 ⟨rfl, hb7⟩))
      go_roundw
      case rel => exact ⟨k + 1, j + 1, H_ (by have := hkj.out; omega), by omega, by go_num, HO, H_ (hb.out.trans (hb7.mono hb.out.size))⟩
      case measure => simp [intOf]; omega
    | error g =>
      have hfg := HBAD.out j hjl g ho.out hq
      have hne := HWF.out j hjl g hq hfg
      subst hfg
      rw [hq, show faS (.error f) = (Z2 f).text from rfl] at CF
      have hx2 : ((bs (Z2 f).text).toList == []) = false := by rw [Z5]; simpa using hne
      have hx3 : ¬ (bs (Z2 f).text).toList = [] := by rw [Z5]; exact hne
      rw [← HFT.out] at CF hx2 hx3
      clear hq HBAD HSELF HWF hne
      go_wp2_with (go_at_call 60; go_must (refine (CF.out).mono ?_; rintro e w7 ⟨rfl, hb7⟩))
      go_ret
      exact ⟨rfl, hbw.trans (hb7.mono hbw.size)⟩
  · have hjl : j = es.length := by have := HGL.out; have := hkj.out; omega
    have hfx := HSELF.out (fun i hl => ho.out i (by omega) hl)
    have CC := H_ (CX.out wr hbw)
    rw [← hfx, ← HFT.out] at CC
    clear x0 x1 y0 y1 e0b CX HK HBAD HSELF HWF
    go_wp2_with (go_at_call 77; go_must (refine (CC.out).mono ?_; rintro e w7 ⟨rfl, hb7⟩))
    go_ret
    exact ⟨rfl, hbw.trans (hb7.mono hbw.size)⟩
theorem let_free {s : Nm} {e b : Ex} {env : List (Nm × Tr)} {t : Tr} (h : Z3q env (.lete s e b)) : Z3q env e ∧ Z3q ((s, t) :: env) b :=
 ⟨fun q hq => h q (by simp [Ze, hq]), fun q hq => by
   by_cases e1 : q = s
   · subst e1; simp [Yv]
   · rw [Vs e1]; exact h q (by simp only [Ze, List.mem_append]; right; simp [rm, hq, e1])⟩
theorem fun_free {f s : Nm} {A B T : Tr} {e : Ex} {env : List (Nm × Tr)} (h : Z3q env (.func f s A B e)) : Z3q ((s, A) :: (f, T) :: env) e := fun q hq => by
 by_cases e1 : q = s
 · subst e1; simp [Yv]
 · rw [Vs e1]
   by_cases e2 : q = f
   · subst e2; simp [Yv]
   · rw [Vs e2]; exact h q (by simp [Ze, rm, hq, e1, e2])
theorem l3Fault_let (n : Nat) (h xn te tb : Tr) (x : Ex) (env : List (Nm × Tr)) (v1 v2 : Value) (r off cap : Nat) (xs : List Value) (ok : Nat → Prop) (w : World) (hd : (Tr.list [h, xn, te, tb]).depth < n + 1) (hwf : wfs [h, xn, te, tb]) (hby : (Tr.list [h, xn, te, tb]).bytes ≤ 12000) (hax : Y9 (.list [h, xn, te, tb]) = some x)
 (henv : Qe env) (hlen : env.length + 2 * (Tr.list [h, xn, te, tb]).depth ≤ 100000) (h1 : Zn w v1 (Kj env)) (h2s : Zn w v2 (Ke env))
 (h2 : ok r) (h4 : cap ≤ maxLen) (h3 : 4 ≤ cap) (h5 : Y4 w r off xs) (h6 : FVs nS w ok [h, xn, te, tb] xs) (hok : ∀ k, ok k → k < w.heap.size) (ih : FaS n) (hk : Z0 h = Q3) (e' b' : Ex) (he : Y9 te = some e') (hb' : Y9 tb = some b') (hxe : x = .lete (Z0 xn) e' b') (hte : Kn e') (hkn : Z3q env (.lete (Z0 xn) e' b')) (f : Ex) (hr : tyR env x = .error f) :
 Calls prog 60 #[.agg #[.string (bs []), .slice (some ⟨r, off, none⟩) 4 cap], v1, v2] w fun e w' => e = .returned (.string (bs (Z2 f).text)) ∧ Below w.heap.size w w' := by
 have hrlt := hok r h2
 have hemp := J3
 have hm := Zt h4
 have hby' : Zk [h, xn, te, tb] < 12000 := by have q := hby; simp only [Tr.bytes] at q; omega
 have E0 : w.cell? ⟨r, off, none⟩ = some (.string (bs (Z0 h))) := by
  obtain ⟨p, m, c, _, q, _⟩ := Vp h6 h5 0 (by simp)
  simpa using q
 have hb1 : 1 < [h, xn, te, tb].length := by simp
 obtain ⟨cs1, g1, z1⟩ := FVs.get Xr h6 h5 1 (by simp)
 obtain ⟨p1, n1, q1, rfl⟩ := g1.node
 have d1 := Ym hb1
 have b1 := Yn hb1
 have f1 := Xa hwf hb1
 simp only [List.getElem_cons_zero, List.getElem_cons_succ] at g1 z1 d1 b1 f1
 simp only [Tr.bytes] at b1
 have E1 : w.cell? ⟨r, off + 2, none⟩ = some (.string (bs (Z0 xn))) := z1 0 _ rfl
 have F1 : w.cell? ⟨r, off + 2 + 1, none⟩ = some (.slice p1 n1 q1) := z1 1 _ rfl
 have hb2 : 2 < [h, xn, te, tb].length := by simp
 obtain ⟨cs2, g2, z2⟩ := FVs.get Xr h6 h5 2 (by simp)
 obtain ⟨p2, n2, q2, rfl⟩ := g2.node
 have d2 := Ym hb2
 have b2 := Yn hb2
 have f2 := Xa hwf hb2
 simp only [List.getElem_cons_zero, List.getElem_cons_succ] at g2 z2 d2 b2 f2
 simp only [Tr.bytes] at b2
 have E2 : w.cell? ⟨r, off + 4, none⟩ = some (.string (bs (Z0 te))) := z2 0 _ rfl
 have F2 : w.cell? ⟨r, off + 4 + 1, none⟩ = some (.slice p2 n2 q2) := z2 1 _ rfl
 have hb3 : 3 < [h, xn, te, tb].length := by simp
 obtain ⟨cs3, g3, z3⟩ := FVs.get Xr h6 h5 3 (by simp)
 obtain ⟨p3, n3, q3, rfl⟩ := g3.node
 have d3 := Ym hb3
 have b3 := Yn hb3
 have f3 := Xa hwf hb3
 simp only [List.getElem_cons_zero, List.getElem_cons_succ] at g3 z3 d3 b3 f3
 simp only [Tr.bytes] at b3
 have E3 : w.cell? ⟨r, off + 6, none⟩ = some (.string (bs (Z0 tb))) := z3 0 _ rfl
 have F3 : w.cell? ⟨r, off + 6 + 1, none⟩ = some (.slice p3 n3 q3) := z3 1 _ rfl
 have hsl : Below w.heap.size w (w.alloc (.cells #[.string (bs []), .slice (some ⟨r, off, none⟩) 4 cap] 62)) := Z4 _ _
 have CT := H_ (Z47 n h [xn, te, tb] x env v1 v2 r off cap 4 xs ok w hd hwf hby hax henv hlen h1 h2s h2 h4 rfl h3 h5 h6 hok _ hsl)
 rw [hr, show bs (tyS (.error f)) = ⟨#[]⟩ from rfl] at CT
 have hft := Z31 hax (by simp only [Tr.wf]; exact ⟨by simp, hwf⟩) env f hr
 obtain ⟨FT, hFT⟩ : ∃ q, q = bs (Z2 f).text := ⟨_, rfl⟩
 have hx2 : (FT.toList == []) = false := by rw [hFT, Z5]; simpa using hft
 have hx3 : ¬ FT.toList = [] := by rw [hFT, Z5]; exact hft
 rw [← hFT]
 have CK : Hid (∀ W, Calls prog 109 #[.string (bs (Z0 h))] W fun e w' => e = .returned (.tuple #[.int .i64 2, .int .i64 4]) ∧ w' = W) := H_ (fun W => Vd _ _ _ (by rw [hk]; rfl) W)
 have CE : Hid (∀ W, Below w.heap.size w W → Calls prog 60 #[.agg #[.string (bs (Z0 te)), .slice p2 n2 q2], v1, v2] W fun e w' => e = .returned (.string (bs (faS (tyR env e')))) ∧ Below W.heap.size W w') := H_ (fun W hW => ih te e' env (nS te (.slice p2 n2 q2)) v1 v2 ok W (by omega) f2 (by omega) he henv (let_free (t := tI) hkn).1 (by omega) (h1.below hW) (h2s.below hW) (g2.below hW hok) (Yp hok hW))
 have hy2 : ((bs (Z0 h)).toList == [108, 101, 116]) = true := by rw [Z5]; simpa [Q3] using hk
 have hy3 : (bs (Z0 h)).toList = [108, 101, 116] := by rw [Z5]; exact hk
 have hy4 : ((bs (Z0 h)).toList == [102, 117, 110]) = false := by rw [Z5, hk]; rfl
 have hy5 : ¬ (bs (Z0 h)).toList = [102, 117, 110] := by rw [Z5, hk]; simp [Q3]
 have KC : Hid (∀ W, Below w.heap.size w W → W.cell? ⟨r, off, none⟩ = some (.string (bs (Z0 h))) ∧ W.cell? ⟨r, off + 2, none⟩ = some (.string (bs (Z0 xn))) ∧ W.cell? ⟨r, off + 4, none⟩ = some (.string (bs (Z0 te))) ∧ W.cell? ⟨r, off + 4 + 1, none⟩ = some (.slice p2 n2 q2) ∧ W.cell? ⟨r, off + 6, none⟩ = some (.string (bs (Z0 tb))) ∧ W.cell? ⟨r, off + 6 + 1, none⟩ = some (.slice p3 n3 q3)) := H_ (fun W hW => ⟨(hW.cell (p := ⟨r, off, none⟩) hrlt).trans E0, (hW.cell (p := ⟨r, off + 2, none⟩) hrlt).trans E1, (hW.cell (p := ⟨r, off + 4, none⟩) hrlt).trans E2, (hW.cell (p := ⟨r, off + 4 + 1, none⟩) hrlt).trans F2, (hW.cell (p := ⟨r, off + 6, none⟩) hrlt).trans E3, (hW.cell (p := ⟨r, off + 6 + 1, none⟩) hrlt).trans F3⟩)
 cases hre : tyR env e' with
 | error g =>
   have hfg : f = g := by rw [hxe] at hr; simp only [tyR, hre] at hr; simpa using hr.symm
   subst hfg
   rw [hre, show faS (.error f) = (Z2 f).text from rfl, ← hFT] at CE
   obtain ⟨p1', c1, rfl, -, -⟩ := h1
   obtain ⟨p2', c2, rfl, -, -⟩ := h2s
   obtain ⟨an, han⟩ : ∃ q, q = Z0 xn := ⟨_, rfl⟩
   rw [← han] at KC
   generalize bs (Z0 te) = sa at *
   generalize bs (Z0 tb) = sb at *
   generalize bs (Z0 h) = sx at *
   have HSL := H_ hsl
   clear hk he hb' hxe hte hkn hr hre ih hwf hby hby' hd hax henv hlen h5 h6 hft hFT han E0 hsl g1 z1 d1 b1 f1 hb1 E1 F1 g2 z2 d2 b2 f2 hb2 E2 F2 g3 z3 d3 b3 f3 hb3 E3 F3
   go_enter func60, ntmps60
   go_wp2_with (first | (go_at_call 51; go_must (refine (CT.out).mono ?_; rintro e w5 ⟨rfl, hb5⟩; have HB5 := H_ (HSL.out.trans (hb5.mono HSL.out.size)); have x0 := Z1 hb5 (by simp) (heap_alloc_new w (.cells #[.string (bs []), .slice (some ⟨r, off, none⟩) 4 cap] 62)); obtain ⟨y0, y1⟩ := Zm x0; obtain ⟨m0, m1, m2, m3, m4, m5⟩ := KC.out _ HB5.out)) | (go_at_call 109; go_must (refine (CK.out _).mono ?_; rintro e w6 ⟨rfl, rfl⟩)))
   go_loopw [9] (fun i wr => i = .int .i64 2 ∧ Hid (Below w6.heap.size w6 wr)) (fun i _ => 4 - (intOf i).toNat)
   case atStart => exact ⟨rfl, H_ (Below.refl _ _)⟩
   case round =>
    obtain ⟨rfl, hb⟩ := hrel
    have hbw : Below w.heap.size w wr := HB5.out.trans (hb.out.mono HB5.out.size)
    have x1 := Z1 hb.out (lt_of_block x0) x0
    obtain ⟨u0, u1⟩ := Zm x1
    obtain ⟨k0, k1, k2, k3, k4, k5⟩ := KC.out _ hbw
    have CF := H_ (CE.out wr hbw)
    clear x0 x1 y0 y1 m0  m1  m2  m3  m4  m5
    go_wp2_with (go_at_call 60; go_must (refine (CF.out).mono ?_; rintro e w7 ⟨rfl, hb7⟩))
    go_ret
    exact ⟨rfl, hbw.trans (hb7.mono hbw.size)⟩
 | ok t =>
   have htL := Qj e' env t henv hte hre
   have hrb : tyR ((Z0 xn, t) :: env) b' = .error f := by rw [hxe] at hr; simpa only [tyR, hre] using hr
   rw [hre, show bs (faS (.ok t)) = ⟨#[]⟩ from rfl] at CE
   have CTE : Hid (∀ W, Below w.heap.size w W → Calls prog 51 #[.agg #[.string (bs (Z0 te)), .slice p2 n2 q2], v1, v2] W fun e w' => e = .returned (.string (bs t.text)) ∧ Below W.heap.size W w') := H_ (fun W hW => by
    have q := Vt n te e' env (nS te (.slice p2 n2 q2)) v1 v2 ok W (by omega) f2 (by omega) he henv (by omega) (h1.below hW) (h2s.below hW) (g2.below hW hok) (Yp hok hW)
    rw [hre] at q
    exact q)
   have CW1 : Hid (∀ W, Below w.heap.size w W → Calls prog 81 #[v1, .slice (some ⟨W.heap.size, 0, none⟩) 1 1] (W.alloc (.cells #[.string (bs (Z0 xn))] 9)) fun e w' => (∃ u, e = .returned u ∧ Zn w' u (Kj ((Z0 xn, t) :: env))) ∧ Below W.heap.size W w') := H_ (fun W hW => by
    have hb := Z4 W (.cells #[.string (bs (Z0 xn))] 9)
    rw [Vw]
    exact (Z0e v1 (.slice (some ⟨W.heap.size, 0, none⟩) 1 1) (Kj env) [Z0 xn] _ (h1.below (hW.trans (hb.mono hW.size))) (Z0j (l := [Z0 xn]) (heap_alloc_new W _) (by simp)) (by rw [Z0h]; simp; omega)).mono fun e w' ⟨k1, k2⟩ => ⟨k1, hb.trans (k2.mono hb.size)⟩)
   have CW2 : Hid (∀ W, Below w.heap.size w W → Calls prog 81 #[v2, .slice (some ⟨W.heap.size, 0, none⟩) 1 1] (W.alloc (.cells #[.string (bs t.text)] 9)) fun e w' => (∃ u, e = .returned u ∧ Zn w' u (Ke ((Z0 xn, t) :: env))) ∧ Below W.heap.size W w') := H_ (fun W hW => by
    have hb := Z4 W (.cells #[.string (bs t.text)] 9)
    rw [Vv]
    exact (Z0e v2 (.slice (some ⟨W.heap.size, 0, none⟩) 1 1) (Ke env) [t.text] _ (h2s.below (hW.trans (hb.mono hW.size))) (Z0j (l := [t.text]) (heap_alloc_new W _) (by simp)) (by rw [Z2g]; simp; omega)).mono fun e w' ⟨k1, k2⟩ => ⟨k1, hb.trans (k2.mono hb.size)⟩)
   have CB : Hid (∀ W a b, Below w.heap.size w W → Zn W a (Kj ((Z0 xn, t) :: env)) → Zn W b (Ke ((Z0 xn, t) :: env)) → Calls prog 60 #[.agg #[.string (bs (Z0 tb)), .slice p3 n3 q3], a, b] W fun e w' => e = .returned (.string FT) ∧ Below W.heap.size W w') := H_ (fun W a b hW ha hb => by
    have q := ih tb b' _ (nS tb (.slice p3 n3 q3)) a b ok W (by omega) f3 (by omega) hb' (henv.cons htL) (let_free hkn).2 (by simp only [List.length_cons]; omega) ha hb (g3.below hW hok) (Yp hok hW)
    rw [hrb, show faS (.error f) = (Z2 f).text from rfl, ← hFT] at q
    exact q)
   obtain ⟨p1', c1, rfl, -, -⟩ := h1
   obtain ⟨p2', c2, rfl, -, -⟩ := h2s
   obtain ⟨an, han⟩ : ∃ q, q = Z0 xn := ⟨_, rfl⟩
   rw [← han] at KC CW1 CW2 CB
   generalize Kj ((an, t) :: env) = NN at *
   generalize Ke ((an, t) :: env) = TT at *
   generalize t.text = tt at *
   generalize bs (Z0 te) = sa at *
   generalize bs (Z0 tb) = sb at *
   generalize bs (Z0 h) = sx at *
   have HSL := H_ hsl
   clear hk he hb' hxe hte hkn hr hre ih hwf hby hby' hd hax henv hlen h5 h6 hft hFT han htL hrb E0 hsl g1 z1 d1 b1 f1 hb1 E1 F1 g2 z2 d2 b2 f2 hb2 E2 F2 g3 z3 d3 b3 f3 hb3 E3 F3
   go_enter func60, ntmps60
   go_wp2_with (first | (go_at_call 51; go_must (refine (CT.out).mono ?_; rintro e w5 ⟨rfl, hb5⟩; have HB5 := H_ (HSL.out.trans (hb5.mono HSL.out.size)); have x0 := Z1 hb5 (by simp) (heap_alloc_new w (.cells #[.string (bs []), .slice (some ⟨r, off, none⟩) 4 cap] 62)); obtain ⟨y0, y1⟩ := Zm x0; obtain ⟨m0, m1, m2, m3, m4, m5⟩ := KC.out _ HB5.out)) | (go_at_call 109; go_must (refine (CK.out _).mono ?_; rintro e w6 ⟨rfl, rfl⟩)))
   go_loopw [9] (fun i wr => (i = .int .i64 2 ∨ i = .int .i64 3) ∧ Hid (Below w6.heap.size w6 wr)) (fun i _ => 4 - (intOf i).toNat)
   case atStart => exact ⟨.inl rfl, H_ (Below.refl _ _)⟩
   case round =>
    obtain ⟨hi, hb⟩ := hrel
    have hbw : Below w.heap.size w wr := HB5.out.trans (hb.out.mono HB5.out.size)
    have x1 := Z1 hb.out (lt_of_block x0) x0
    obtain ⟨u0, u1⟩ := Zm x1
    obtain ⟨k0, k1, k2, k3, k4, k5⟩ := KC.out _ hbw
    clear x0 y0 y1 m0  m1  m2  m3  m4  m5
    rcases hi with rfl | rfl
    · have CF := H_ (CE.out wr hbw)
      clear x1
      go_wp2_with (go_at_call 60; go_must (refine (CF.out).mono ?_; rintro e w7 ⟨rfl, hb7⟩))
      go_roundw
      case rel => exact ⟨.inr (by go_num), H_ (hb.out.trans (hb7.mono hb.out.size))⟩
      case measure => simp [intOf]
    · have HBW := H_ hbw
      go_wp2_with (first | (go_at_call 81; first | ((with_reducible refine (CW1.out _ HBW.out).mono ?_); rintro e w7 ⟨⟨u7, rfl, hu7⟩, hb7⟩; have HB7 := H_ (HBW.out.trans (hb7.mono HBW.out.size)); have x7 := Z1 hb7 (lt_of_block x1) x1; obtain ⟨a0, a1⟩ := Zm x7; obtain ⟨s0, s1, s2, s3, s4, s5⟩ := KC.out _ HB7.out) | ((with_reducible refine (CW2.out _ HB8.out).mono ?_); rintro e w9 ⟨⟨u9, rfl, hu9⟩, hb9⟩; have HB9 := H_ (HB8.out.trans (hb9.mono HB8.out.size)); have x9 := Z1 hb9 (lt_of_block x8) x8; obtain ⟨c0, c1⟩ := Zm x9; obtain ⟨j0, j1, j2, j3, j4, j5⟩ := KC.out _ HB9.out; have hu79 := (hu7.below hb8).below hb9)) | (go_at_call 51; go_must (refine (CTE.out _ HB7.out).mono ?_; rintro e w8 ⟨rfl, hb8⟩; have HB8 := H_ (HB7.out.trans (hb8.mono HB7.out.size)); have x8 := Z1 hb8 (lt_of_block x7) x7; obtain ⟨b0, b1⟩ := Zm x8; obtain ⟨i0, i1, i2, i3, i4, i5⟩ := KC.out _ HB8.out)) | (go_at_call 60; go_must (refine (CB.out _ _ _ HB9.out hu79 hu9).mono ?_; rintro e w10 ⟨rfl, hb10⟩)))
      go_ret
      exact ⟨rfl, HB9.out.trans (hb10.mono HB9.out.size)⟩
theorem l3Fault_fun (n : Nat) (h fn xn tA tB te : Tr) (x : Ex) (env : List (Nm × Tr)) (v1 v2 : Value) (r off cap : Nat) (xs : List Value) (ok : Nat → Prop) (w : World) (hd : (Tr.list [h, fn, xn, tA, tB, te]).depth < n + 1) (hwf : wfs [h, fn, xn, tA, tB, te]) (hby : (Tr.list [h, fn, xn, tA, tB, te]).bytes ≤ 12000) (hax : Y9 (.list [h, fn, xn, tA, tB, te]) = some x)
 (henv : Qe env) (hlen : env.length + 2 * (Tr.list [h, fn, xn, tA, tB, te]).depth ≤ 100000) (h1 : Zn w v1 (Kj env)) (h2s : Zn w v2 (Ke env))
 (h2 : ok r) (h4 : cap ≤ maxLen) (h3 : 6 ≤ cap) (h5 : Y4 w r off xs) (h6 : FVs nS w ok [h, fn, xn, tA, tB, te] xs) (hok : ∀ k, ok k → k < w.heap.size) (ih : FaS n) (hk : Z0 h = Q1) (e' : Ex) (he : Y9 te = some e') (hA : Zp tA = true) (hB : Zp tB = true) (hxe : x = .func (Z0 fn) (Z0 xn) tA tB e') (hkn : Z3q env (.func (Z0 fn) (Z0 xn) tA tB e')) (f : Ex) (hr : tyR env x = .error f) :
 Calls prog 60 #[.agg #[.string (bs []), .slice (some ⟨r, off, none⟩) 6 cap], v1, v2] w fun e w' => e = .returned (.string (bs (Z2 f).text)) ∧ Below w.heap.size w w' := by
 have hrlt := hok r h2
 have hemp := J3
 have hm := Zt h4
 have hby' : Zk [h, fn, xn, tA, tB, te] < 12000 := by have q := hby; simp only [Tr.bytes] at q; omega
 have E0 : w.cell? ⟨r, off, none⟩ = some (.string (bs (Z0 h))) := by
  obtain ⟨p, m, c, _, q, _⟩ := Vp h6 h5 0 (by simp)
  simpa using q
 have hb1 : 1 < [h, fn, xn, tA, tB, te].length := by simp
 obtain ⟨cs1, g1, z1⟩ := FVs.get Xr h6 h5 1 (by simp)
 obtain ⟨p1, n1, q1, rfl⟩ := g1.node
 have d1 := Ym hb1
 have b1 := Yn hb1
 have f1 := Xa hwf hb1
 simp only [List.getElem_cons_zero, List.getElem_cons_succ] at g1 z1 d1 b1 f1
 simp only [Tr.bytes] at b1
 have E1 : w.cell? ⟨r, off + 2, none⟩ = some (.string (bs (Z0 fn))) := z1 0 _ rfl
 have F1 : w.cell? ⟨r, off + 2 + 1, none⟩ = some (.slice p1 n1 q1) := z1 1 _ rfl
 have hb2 : 2 < [h, fn, xn, tA, tB, te].length := by simp
 obtain ⟨cs2, g2, z2⟩ := FVs.get Xr h6 h5 2 (by simp)
 obtain ⟨p2, n2, q2, rfl⟩ := g2.node
 have d2 := Ym hb2
 have b2 := Yn hb2
 have f2 := Xa hwf hb2
 simp only [List.getElem_cons_zero, List.getElem_cons_succ] at g2 z2 d2 b2 f2
 simp only [Tr.bytes] at b2
 have E2 : w.cell? ⟨r, off + 4, none⟩ = some (.string (bs (Z0 xn))) := z2 0 _ rfl
 have F2 : w.cell? ⟨r, off + 4 + 1, none⟩ = some (.slice p2 n2 q2) := z2 1 _ rfl
 have hb3 : 3 < [h, fn, xn, tA, tB, te].length := by simp
 obtain ⟨cs3, g3, z3⟩ := FVs.get Xr h6 h5 3 (by simp)
 obtain ⟨p3, n3, q3, rfl⟩ := g3.node
 have d3 := Ym hb3
 have b3 := Yn hb3
 have f3 := Xa hwf hb3
 simp only [List.getElem_cons_zero, List.getElem_cons_succ] at g3 z3 d3 b3 f3
 simp only [Tr.bytes] at b3
 have E3 : w.cell? ⟨r, off + 6, none⟩ = some (.string (bs (Z0 tA))) := z3 0 _ rfl
 have F3 : w.cell? ⟨r, off + 6 + 1, none⟩ = some (.slice p3 n3 q3) := z3 1 _ rfl
 have hb4 : 4 < [h, fn, xn, tA, tB, te].length := by simp
 obtain ⟨cs4, g4, z4⟩ := FVs.get Xr h6 h5 4 (by simp)
 obtain ⟨p4, n4, q4, rfl⟩ := g4.node
 have d4 := Ym hb4
 have b4 := Yn hb4
 have f4 := Xa hwf hb4
 simp only [List.getElem_cons_zero, List.getElem_cons_succ] at g4 z4 d4 b4 f4
 simp only [Tr.bytes] at b4
 have E4 : w.cell? ⟨r, off + 8, none⟩ = some (.string (bs (Z0 tB))) := z4 0 _ rfl
 have F4 : w.cell? ⟨r, off + 8 + 1, none⟩ = some (.slice p4 n4 q4) := z4 1 _ rfl
 have hb5 : 5 < [h, fn, xn, tA, tB, te].length := by simp
 obtain ⟨cs5, g5, z5⟩ := FVs.get Xr h6 h5 5 (by simp)
 obtain ⟨p5, n5, q5, rfl⟩ := g5.node
 have d5 := Ym hb5
 have b5 := Yn hb5
 have f5 := Xa hwf hb5
 simp only [List.getElem_cons_zero, List.getElem_cons_succ] at g5 z5 d5 b5 f5
 simp only [Tr.bytes] at b5
 have E5 : w.cell? ⟨r, off + 10, none⟩ = some (.string (bs (Z0 te))) := z5 0 _ rfl
 have F5 : w.cell? ⟨r, off + 10 + 1, none⟩ = some (.slice p5 n5 q5) := z5 1 _ rfl
 have hsl : Below w.heap.size w (w.alloc (.cells #[.string (bs []), .slice (some ⟨r, off, none⟩) 6 cap] 62)) := Z4 _ _
 have CT := H_ (Z47 n h [fn, xn, tA, tB, te] x env v1 v2 r off cap 6 xs ok w hd hwf hby hax henv hlen h1 h2s h2 h4 rfl h3 h5 h6 hok _ hsl)
 rw [hr, show bs (tyS (.error f)) = ⟨#[]⟩ from rfl] at CT
 have hft := Z31 hax (by simp only [Tr.wf]; exact ⟨by simp, hwf⟩) env f hr
 obtain ⟨FT, hFT⟩ : ∃ q, q = bs (Z2 f).text := ⟨_, rfl⟩
 have hx2 : (FT.toList == []) = false := by rw [hFT, Z5]; simpa using hft
 have hx3 : ¬ FT.toList = [] := by rw [hFT, Z5]; exact hft
 rw [← hFT]
 have CK : Hid (∀ W, Calls prog 109 #[.string (bs (Z0 h))] W fun e w' => e = .returned (.tuple #[.int .i64 5, .int .i64 6]) ∧ w' = W) := H_ (fun W => Vd _ _ _ (by rw [hk]; rfl) W)
 have ka := Zf hA
 have kb := Zf hB
 have TA : Hid (∀ W, Below w.heap.size w W → Calls prog 77 #[.agg #[.string (bs (Z0 tA)), .slice p3 n3 q3]] W fun e w' => e = .returned (.string (bs tA.text)) ∧ Below W.heap.size W w') := H_ (fun W hW => Kr (tA.depth + 1) tA (nS tA (.slice p3 n3 q3)) ok W (by omega) ka.1 (by omega) (g3.below hW hok) (Yp hok hW))
 have TB : Hid (∀ W, Below w.heap.size w W → Calls prog 77 #[.agg #[.string (bs (Z0 tB)), .slice p4 n4 q4]] W fun e w' => e = .returned (.string (bs tB.text)) ∧ Below W.heap.size W w') := H_ (fun W hW => Kr (tB.depth + 1) tB (nS tB (.slice p4 n4 q4)) ok W (by omega) kb.1 (by omega) (g4.below hW hok) (Yp hok hW))
 have CX : Hid (∀ W, Below w.heap.size w W → Calls prog 77 #[.agg #[.string (bs []), .slice (some ⟨r, off, none⟩) 6 cap]] W fun e w' => e = .returned (.string (bs (Z2 x).text)) ∧ Below W.heap.size W w') := H_ (fun W hW => self_text n h [fn, xn, tA, tB, te] x env v1 v2 r off cap 6 xs ok w hd hwf hby hax henv hlen h1 h2s h2 h4 rfl h3 h5 h6 hok W hW)
 have hy2 : ((bs (Z0 h)).toList == [102, 117, 110]) = true := by rw [Z5]; simpa [Q1] using hk
 have hy3 : (bs (Z0 h)).toList = [102, 117, 110] := by rw [Z5]; exact hk
 have hy4 : ((bs (Z0 h)).toList == [108, 101, 116]) = false := by rw [Z5, hk]; rfl
 have hy5 : ¬ (bs (Z0 h)).toList = [108, 101, 116] := by rw [Z5, hk]; simp [Q1]
 obtain ⟨k1, k2, hkk⟩ := Z17 (Z16 62 tA.text tB.text)
 have e1 : Z16 62 tA.text tB.text = mkT 62 tA tB := by rw [Z15 (Jg hA) (Jg hB)]; rfl
 have CM : Hid (∀ W, Calls prog 100 #[.bool true, .string (bs tA.text), .string (bs tB.text)] W fun e w' => e = .returned (.tuple #[.string k1, .bool k2]) ∧ Below W.heap.size W w') := H_ (fun W => by
  have h := Z13 true (bs tA.text) (bs tB.text) (V9 hA) (V9 hB) W
  rw [Xy, Xy] at h
  exact h.mono fun e w' ⟨h1, h2⟩ => ⟨hkk e h1, h2⟩)
 have KC : Hid (∀ W, Below w.heap.size w W → W.cell? ⟨r, off, none⟩ = some (.string (bs (Z0 h))) ∧ W.cell? ⟨r, off + 2, none⟩ = some (.string (bs (Z0 fn))) ∧ W.cell? ⟨r, off + 4, none⟩ = some (.string (bs (Z0 xn))) ∧ W.cell? ⟨r, off + 6, none⟩ = some (.string (bs (Z0 tA))) ∧ W.cell? ⟨r, off + 6 + 1, none⟩ = some (.slice p3 n3 q3) ∧ W.cell? ⟨r, off + 8, none⟩ = some (.string (bs (Z0 tB))) ∧ W.cell? ⟨r, off + 8 + 1, none⟩ = some (.slice p4 n4 q4) ∧ W.cell? ⟨r, off + 10, none⟩ = some (.string (bs (Z0 te))) ∧ W.cell? ⟨r, off + 10 + 1, none⟩ = some (.slice p5 n5 q5)) := H_ (fun W hW => ⟨(hW.cell (p := ⟨r, off, none⟩) hrlt).trans E0, (hW.cell (p := ⟨r, off + 2, none⟩) hrlt).trans E1, (hW.cell (p := ⟨r, off + 4, none⟩) hrlt).trans E2, (hW.cell (p := ⟨r, off + 6, none⟩) hrlt).trans E3, (hW.cell (p := ⟨r, off + 6 + 1, none⟩) hrlt).trans F3, (hW.cell (p := ⟨r, off + 8, none⟩) hrlt).trans E4, (hW.cell (p := ⟨r, off + 8 + 1, none⟩) hrlt).trans F4, (hW.cell (p := ⟨r, off + 10, none⟩) hrlt).trans E5, (hW.cell (p := ⟨r, off + 10 + 1, none⟩) hrlt).trans F5⟩)
 obtain ⟨ttA, httA⟩ : ∃ q, q = tA.text := ⟨_, rfl⟩
 obtain ⟨tb, htb⟩ : ∃ q, q = bs tB.text := ⟨_, rfl⟩
 obtain ⟨af, haf⟩ : ∃ q, q = Z0 fn := ⟨_, rfl⟩
 obtain ⟨an, han⟩ : ∃ q, q = Z0 xn := ⟨_, rfl⟩
 rw [← httA] at TA CM
 rw [← htb] at TB CM
 rw [← haf, ← han] at KC
 obtain ⟨XT, hXT⟩ : ∃ q, q = bs (Z2 x).text := ⟨_, rfl⟩
 rw [← hXT] at CX
 have HXF : Hid (f = x → FT = XT) := H_ (fun q => by rw [hFT, hXT, q])
 cases hT : mkT 62 tA tB with
 | none =>
   have hfx : f = x := by rw [hxe] at hr ⊢; simp only [tyR, hT] at hr; simpa using hr.symm
   have hk2 : k2 = false := by rw [e1, hT] at hkk; have h := hkk _ rfl; simp at h; exact h.2
   subst hk2
   have hFX := HXF.out hfx
   obtain ⟨p1', c1, rfl, -, -⟩ := h1
   obtain ⟨p2', c2, rfl, -, -⟩ := h2s
   generalize bs (Z0 te) = sb at *
   generalize bs (Z0 tA) = sA at *
   generalize bs (Z0 tB) = sB at *
   generalize bs (Z0 h) = sx at *
   have HSL := H_ hsl
   have HFX := H_ hFX
   clear HXF hFX hfx hk he hA hB ka kb hxe hkn hr ih hwf hby hby' hd hax henv hlen h5 h6 hft hFT hXT han haf httA htb hT e1 hkk E0 hsl g1 z1 d1 b1 f1 hb1 E1 F1 g2 z2 d2 b2 f2 hb2 E2 F2 g3 z3 d3 b3 f3 hb3 E3 F3 g4 z4 d4 b4 f4 hb4 E4 F4 g5 z5 d5 b5 f5 hb5 E5 F5
   go_enter func60, ntmps60
   go_wp2_with (first | (go_at_call 51; go_must (refine (CT.out).mono ?_; rintro e w5 ⟨rfl, hb5⟩; have HB5 := H_ (HSL.out.trans (hb5.mono HSL.out.size)); have x0 := Z1 hb5 (by simp) (heap_alloc_new w (.cells #[.string (bs []), .slice (some ⟨r, off, none⟩) 6 cap] 62)); obtain ⟨y0, y1⟩ := Zm x0; obtain ⟨m0, m1, m2, m3, m4, m5, m6, m7, m8⟩ := KC.out _ HB5.out)) | (go_at_call 109; go_must (refine (CK.out _).mono ?_; rintro e w6 ⟨rfl, rfl⟩)))
   go_loopw [9] (fun i wr => i = .int .i64 5 ∧ Hid (Below w6.heap.size w6 wr)) (fun i _ => 6 - (intOf i).toNat)
   case atStart => exact ⟨rfl, H_ (Below.refl _ _)⟩
   case round =>
    obtain ⟨rfl, hb⟩ := hrel
    have hbw : Below w.heap.size w wr := HB5.out.trans (hb.out.mono HB5.out.size)
    have x1 := Z1 hb.out (lt_of_block x0) x0
    have lx1 := lt_of_block x1
    have HBW := H_ hbw
    obtain ⟨k0, k1, k2, k3, k4, k5, k6, k7, k8⟩ := KC.out _ hbw
    obtain ⟨u0, u1⟩ := Zm x1
    have K : Hid (∀ W, Below wr.heap.size wr W → (fun W => Below wr.heap.size wr W ∧ (W.cell? ⟨w.heap.size, 0, none⟩ = some (.string (bs [])) ∧ W.cell? ⟨w.heap.size, 1, none⟩ = some (.slice (some ⟨r, off, none⟩) 6 cap)) ∧ W.cell? ⟨r, off, none⟩ = some (.string sx) ∧ W.cell? ⟨r, off + 2, none⟩ = some (.string (bs af)) ∧ W.cell? ⟨r, off + 4, none⟩ = some (.string (bs an)) ∧ W.cell? ⟨r, off + 6, none⟩ = some (.string sA) ∧ W.cell? ⟨r, off + 6 + 1, none⟩ = some (.slice p3 n3 q3) ∧ W.cell? ⟨r, off + 8, none⟩ = some (.string sB) ∧ W.cell? ⟨r, off + 8 + 1, none⟩ = some (.slice p4 n4 q4) ∧ W.cell? ⟨r, off + 10, none⟩ = some (.string sb) ∧ W.cell? ⟨r, off + 10 + 1, none⟩ = some (.slice p5 n5 q5)) W) := H_ (fun W hW => ⟨hW, ⟨(hW.cell (p := ⟨w.heap.size, 0, none⟩) lx1).trans u0, (hW.cell (p := ⟨w.heap.size, 1, none⟩) lx1).trans u1⟩, KC.out _ (HBW.out.trans (hW.mono HBW.out.size))⟩)
    have S0 := H_ (K.out _ ((Below.refl _ wr).drew))
    clear x0 x1 y0 y1 m0  m1  m2  m3  m4  m5  m6  m7  m8
    go_wp2_with fail
    first | (go_region_held3 (fun W => Below wr.heap.size wr W ∧ (W.cell? ⟨w.heap.size, 0, none⟩ = some (.string (bs [])) ∧ W.cell? ⟨w.heap.size, 1, none⟩ = some (.slice (some ⟨r, off, none⟩) 6 cap)) ∧ W.cell? ⟨r, off, none⟩ = some (.string sx) ∧ W.cell? ⟨r, off + 2, none⟩ = some (.string (bs af)) ∧ W.cell? ⟨r, off + 4, none⟩ = some (.string (bs an)) ∧ W.cell? ⟨r, off + 6, none⟩ = some (.string sA) ∧ W.cell? ⟨r, off + 6 + 1, none⟩ = some (.slice p3 n3 q3) ∧ W.cell? ⟨r, off + 8, none⟩ = some (.string sB) ∧ W.cell? ⟨r, off + 8 + 1, none⟩ = some (.slice p4 n4 q4) ∧ W.cell? ⟨r, off + 10, none⟩ = some (.string sb) ∧ W.cell? ⟨r, off + 10 + 1, none⟩ = some (.slice p5 n5 q5)) (first | exact S0.out | assumption | fail) (first | (go_at_call 77; have hh := And.left (by assumption : Below wr.heap.size wr _ ∧ _); first | ((with_reducible refine (TA.out _ (HBW.out.trans (hh.mono HBW.out.size))).mono ?_); rintro e w7 ⟨rfl, hb7⟩; have hB7 := hh.trans (hb7.mono hh.size); have hS7 := K.out _ hB7) | ((with_reducible refine (TB.out _ (HBW.out.trans (hh.mono HBW.out.size))).mono ?_); rintro e w8 ⟨rfl, hb8⟩; have hB8 := hh.trans (hb8.mono hh.size); have hS8 := K.out _ hB8)) | (go_at_call 100; have hh := And.left (by assumption : Below wr.heap.size wr _ ∧ _); (with_reducible refine (CM.out _).mono ?_); rintro e w9 ⟨rfl, hb9⟩; have hB9 := hh.trans (hb9.mono hh.size); have hS9 := K.out _ hB9) | fail)) | fail
    all_goals
     obtain ⟨hq9, ⟨b90, b91⟩, t0, t1, t2, t3, t4, t5, t6, t7, t8⟩ := hS9
     go_wp2_with (go_at_call 77; go_must (refine (CX.out _ (HBW.out.trans (hB9.mono HBW.out.size))).mono ?_; rintro e w10 ⟨rfl, hb10⟩))
     go_ret
     exact ⟨by rw [HFX.out]; rfl, (HBW.out.trans (hB9.mono HBW.out.size)).trans (hb10.mono (by have := (HBW.out.trans (hB9.mono HBW.out.size)).size; omega))⟩
 | some T =>
   have hTL := Z8q (.inl rfl) hA hB hT
   have hk12 : k1 = bs T.text ∧ k2 = true := by rw [e1, hT] at hkk; have h := hkk _ rfl; simp at h; exact ⟨h.1.symm, h.2⟩
   obtain ⟨hk1, rfl⟩ := hk12
   obtain ⟨env2, henv2⟩ : ∃ q, q = (Z0 xn, tA) :: (Z0 fn, T) :: env := ⟨_, rfl⟩
   have hok2 : Qe env2 := by rw [henv2]; exact (henv.cons hTL).cons hA
   have hl2 : env2.length = env.length + 2 := by rw [henv2]; simp
   have CW1 : Hid (∀ W v, Below w.heap.size w W → Zn W v [Z0 fn, Z0 xn] → Calls prog 81 #[v1, v] W fun e w' => (∃ u, e = .returned u ∧ Zn w' u (Kj env2)) ∧ Below W.heap.size W w') := H_ (fun W v hW hv => by
    rw [henv2, Vw, Vw, List.append_assoc]
    exact Z0e v1 v _ _ W (h1.below hW) hv (by rw [Z0h]; simp; omega))
   have CW2 : Hid (∀ W, Below w.heap.size w W → Calls prog 81 #[v2, .slice (some ⟨W.heap.size, 0, none⟩) 2 2] (W.alloc (.cells #[.string (bs T.text), .string (bs tA.text)] 9)) fun e w' => (∃ u, e = .returned u ∧ Zn w' u (Ke env2)) ∧ Below W.heap.size W w') := H_ (fun W hW => by
    have hb := Z4 W (.cells #[.string (bs T.text), .string (bs tA.text)] 9)
    rw [henv2, Vv, Vv, List.append_assoc]
    exact (Z0e v2 (.slice (some ⟨W.heap.size, 0, none⟩) 2 2) (Ke env) [T.text, tA.text] _ (h2s.below (hW.trans (hb.mono hW.size))) (Z0j (l := [T.text, tA.text]) (heap_alloc_new W _) (by simp)) (by rw [Z2g]; simp; omega)).mono fun e w' ⟨k1, k2⟩ => ⟨k1, hb.trans (k2.mono hb.size)⟩)
   have hkn2 : Z3q env2 e' := by rw [henv2]; exact fun_free hkn
   have CB : Hid (∀ W a b, Below w.heap.size w W → Zn W a (Kj env2) → Zn W b (Ke env2) → Calls prog 60 #[.agg #[.string (bs (Z0 te)), .slice p5 n5 q5], a, b] W fun e w' => e = .returned (.string (bs (faS (tyR env2 e')))) ∧ Below W.heap.size W w') := H_ (fun W a b hW ha hb =>
    ih te e' env2 (nS te (.slice p5 n5 q5)) a b ok W (by omega) f5 (by omega) he hok2 hkn2 (by omega) ha hb (g5.below hW hok) (Yp hok hW))
   have hcase : (faS (tyR env2 e') = (Z2 f).text) ∨ (faS (tyR env2 e') = [] ∧ f = x) := by
    rw [hxe] at hr ⊢
    simp only [tyR, hT] at hr
    rw [← henv2] at hr
    cases hre : tyR env2 e' with
    | error g => rw [hre] at hr; simp only [Except.error.injEq] at hr; subst hr; exact .inl rfl
    | ok t => rw [hre] at hr; exact .inr ⟨rfl, Kc hr⟩
   obtain ⟨tT, htT⟩ : ∃ q, q = T.text := ⟨_, rfl⟩
   rw [← htT] at hk1
   rw [hk1] at CM
   rw [← htT, ← httA] at CW2
   rw [← haf, ← han] at CW1
   obtain ⟨p1', c1, rfl, -, -⟩ := h1
   obtain ⟨p2', c2, rfl, -, -⟩ := h2s
   generalize Kj env2 = NN at *
   generalize Ke env2 = TT at *
   generalize bs (Z0 te) = sb at *
   generalize bs (Z0 tA) = sA at *
   generalize bs (Z0 tB) = sB at *
   generalize bs (Z0 h) = sx at *
   have HSL := H_ hsl
   obtain ⟨GT, hGT⟩ : ∃ q, q = bs (faS (tyR env2 e')) := ⟨_, rfl⟩
   rw [← hGT] at CB
   have hc2 : (GT = FT) ∨ (GT = ⟨#[]⟩ ∧ f = x) := by
    rcases hcase with q | ⟨q, q2⟩
    · left; rw [hGT, q, hFT]
    · right; exact ⟨by rw [hGT, q]; rfl, q2⟩
   have HC2 := H_ hc2
   clear hc2 hcase hGT hk he hA hB ka kb hxe hkn hkn2 hr ih hwf hby hby' hd hax henv hlen h5 h6 hft hFT hXT han haf httA htb htT hk1 hT hTL hok2 hl2 henv2 e1 hkk E0 hsl g1 z1 d1 b1 f1 hb1 E1 F1 g2 z2 d2 b2 f2 hb2 E2 F2 g3 z3 d3 b3 f3 hb3 E3 F3 g4 z4 d4 b4 f4 hb4 E4 F4 g5 z5 d5 b5 f5 hb5 E5 F5
   go_enter func60, ntmps60
   go_wp2_with (first | (go_at_call 51; go_must (refine (CT.out).mono ?_; rintro e w5 ⟨rfl, hb5⟩; have HB5 := H_ (HSL.out.trans (hb5.mono HSL.out.size)); have x0 := Z1 hb5 (by simp) (heap_alloc_new w (.cells #[.string (bs []), .slice (some ⟨r, off, none⟩) 6 cap] 62)); obtain ⟨y0, y1⟩ := Zm x0; obtain ⟨m0, m1, m2, m3, m4, m5, m6, m7, m8⟩ := KC.out _ HB5.out)) | (go_at_call 109; go_must (refine (CK.out _).mono ?_; rintro e w6 ⟨rfl, rfl⟩)))
   go_loopw [9] (fun i wr => (i = .int .i64 5 ∨ (i = .int .i64 6 ∧ Hid (f = x))) ∧ Hid (Below w6.heap.size w6 wr)) (fun i _ => 6 - (intOf i).toNat)
   case atStart => exact ⟨.inl rfl, H_ (Below.refl _ _)⟩
   case round =>
    obtain ⟨hi, hb⟩ := hrel
    have hbw : Below w.heap.size w wr := HB5.out.trans (hb.out.mono HB5.out.size)
    have x1 := Z1 hb.out (lt_of_block x0) x0
    have lx1 := lt_of_block x1
    have HBW := H_ hbw
    obtain ⟨k0, k1, k2, k3, k4, k5, k6, k7, k8⟩ := KC.out _ hbw
    obtain ⟨u0, u1⟩ := Zm x1
    have K : Hid (∀ W, Below wr.heap.size wr W → (fun W => Below wr.heap.size wr W ∧ (W.cell? ⟨w.heap.size, 0, none⟩ = some (.string (bs [])) ∧ W.cell? ⟨w.heap.size, 1, none⟩ = some (.slice (some ⟨r, off, none⟩) 6 cap)) ∧ W.cell? ⟨r, off, none⟩ = some (.string sx) ∧ W.cell? ⟨r, off + 2, none⟩ = some (.string (bs af)) ∧ W.cell? ⟨r, off + 4, none⟩ = some (.string (bs an)) ∧ W.cell? ⟨r, off + 6, none⟩ = some (.string sA) ∧ W.cell? ⟨r, off + 6 + 1, none⟩ = some (.slice p3 n3 q3) ∧ W.cell? ⟨r, off + 8, none⟩ = some (.string sB) ∧ W.cell? ⟨r, off + 8 + 1, none⟩ = some (.slice p4 n4 q4) ∧ W.cell? ⟨r, off + 10, none⟩ = some (.string sb) ∧ W.cell? ⟨r, off + 10 + 1, none⟩ = some (.slice p5 n5 q5)) W) := H_ (fun W hW => ⟨hW, ⟨(hW.cell (p := ⟨w.heap.size, 0, none⟩) lx1).trans u0, (hW.cell (p := ⟨w.heap.size, 1, none⟩) lx1).trans u1⟩, KC.out _ (HBW.out.trans (hW.mono HBW.out.size))⟩)
    have S0 := H_ (K.out _ ((Below.refl _ wr).drew))
    clear x0 y0 y1 m0  m1  m2  m3  m4  m5  m6  m7  m8
    rcases hi with rfl | ⟨rfl, hfx⟩
    · clear CX
      go_wp2_with fail
      first | (go_region_held3 (fun W => Below wr.heap.size wr W ∧ (W.cell? ⟨w.heap.size, 0, none⟩ = some (.string (bs [])) ∧ W.cell? ⟨w.heap.size, 1, none⟩ = some (.slice (some ⟨r, off, none⟩) 6 cap)) ∧ W.cell? ⟨r, off, none⟩ = some (.string sx) ∧ W.cell? ⟨r, off + 2, none⟩ = some (.string (bs af)) ∧ W.cell? ⟨r, off + 4, none⟩ = some (.string (bs an)) ∧ W.cell? ⟨r, off + 6, none⟩ = some (.string sA) ∧ W.cell? ⟨r, off + 6 + 1, none⟩ = some (.slice p3 n3 q3) ∧ W.cell? ⟨r, off + 8, none⟩ = some (.string sB) ∧ W.cell? ⟨r, off + 8 + 1, none⟩ = some (.slice p4 n4 q4) ∧ W.cell? ⟨r, off + 10, none⟩ = some (.string sb) ∧ W.cell? ⟨r, off + 10 + 1, none⟩ = some (.slice p5 n5 q5)) (first | exact S0.out | assumption | fail) (first | (go_at_call 77; have hh := And.left (by assumption : Below wr.heap.size wr _ ∧ _); first | ((with_reducible refine (TA.out _ (HBW.out.trans (hh.mono HBW.out.size))).mono ?_); rintro e w7 ⟨rfl, hb7⟩; have hB7 := hh.trans (hb7.mono hh.size); have hS7 := K.out _ hB7) | ((with_reducible refine (TB.out _ (HBW.out.trans (hh.mono HBW.out.size))).mono ?_); rintro e w8 ⟨rfl, hb8⟩; have hB8 := hh.trans (hb8.mono hh.size); have hS8 := K.out _ hB8)) | (go_at_call 100; have hh := And.left (by assumption : Below wr.heap.size wr _ ∧ _); (with_reducible refine (CM.out _).mono ?_); rintro e w9 ⟨rfl, hb9⟩; have hB9 := hh.trans (hb9.mono hh.size); have hS9 := K.out _ hB9) | fail)) | fail
      all_goals
       obtain ⟨wb, hwb⟩ : ∃ q, q = w9 := ⟨_, rfl⟩
       rw [← hwb]
       have HBB := H_ (show Below w.heap.size w wb by rw [hwb]; exact HBW.out.trans (hB9.mono HBW.out.size))
       have KV : Hid (∀ W, Below wb.heap.size wb W → (fun W => Below wb.heap.size wb W ∧ (W.cell? ⟨w.heap.size, 0, none⟩ = some (.string (bs [])) ∧ W.cell? ⟨w.heap.size, 1, none⟩ = some (.slice (some ⟨r, off, none⟩) 6 cap)) ∧ W.cell? ⟨r, off, none⟩ = some (.string sx) ∧ W.cell? ⟨r, off + 2, none⟩ = some (.string (bs af)) ∧ W.cell? ⟨r, off + 4, none⟩ = some (.string (bs an)) ∧ W.cell? ⟨r, off + 6, none⟩ = some (.string sA) ∧ W.cell? ⟨r, off + 6 + 1, none⟩ = some (.slice p3 n3 q3) ∧ W.cell? ⟨r, off + 8, none⟩ = some (.string sB) ∧ W.cell? ⟨r, off + 8 + 1, none⟩ = some (.slice p4 n4 q4) ∧ W.cell? ⟨r, off + 10, none⟩ = some (.string sb) ∧ W.cell? ⟨r, off + 10 + 1, none⟩ = some (.slice p5 n5 q5)) W) := H_ (fun W hW => by
        have q := K.out W (hB9.trans ((hwb ▸ hW).mono hB9.size))
        exact ⟨hW, q.2⟩)
       have T0 := H_ (KV.out _ ((Below.refl _ wb).drew))
       obtain ⟨hq9, ⟨b90, b91⟩, t0, t1, t2, t3, t4, t5, t6, t7, t8⟩ := KV.out _ (Below.refl _ wb)
       have HB9 := H_ (show Below wr.heap.size wr wb by rw [hwb]; exact hB9)
       clear hS9 hwb
       go_wp2_with fail
       first | (go_region_held3 (fun W => Below wb.heap.size wb W ∧ (W.cell? ⟨w.heap.size, 0, none⟩ = some (.string (bs [])) ∧ W.cell? ⟨w.heap.size, 1, none⟩ = some (.slice (some ⟨r, off, none⟩) 6 cap)) ∧ W.cell? ⟨r, off, none⟩ = some (.string sx) ∧ W.cell? ⟨r, off + 2, none⟩ = some (.string (bs af)) ∧ W.cell? ⟨r, off + 4, none⟩ = some (.string (bs an)) ∧ W.cell? ⟨r, off + 6, none⟩ = some (.string sA) ∧ W.cell? ⟨r, off + 6 + 1, none⟩ = some (.slice p3 n3 q3) ∧ W.cell? ⟨r, off + 8, none⟩ = some (.string sB) ∧ W.cell? ⟨r, off + 8 + 1, none⟩ = some (.slice p4 n4 q4) ∧ W.cell? ⟨r, off + 10, none⟩ = some (.string sb) ∧ W.cell? ⟨r, off + 10 + 1, none⟩ = some (.slice p5 n5 q5)) (first | exact T0.out | assumption | exact KAS KV.out (And.left (by assumption)) | fail) (first | (go_at_call 81; have hh := And.left (by assumption : Below wb.heap.size wb _ ∧ _); (with_reducible refine (CW1.out _ _ ?_ ?_).mono ?_); (· exact HBB.out.trans (hh.mono HBB.out.size)); (· exact Z0j (l := [af, an]) (by first | exact heap_alloc_new _ _ | exact Z9 _ _ _ | exact Z8 (heap_alloc_new _ _) | assumption) (by simp)); rintro e w10 ⟨⟨u10, rfl, hu10⟩, hb10⟩; have hB10 := hh.trans (hb10.mono hh.size); have hS10 := KV.out _ hB10) | fail)) | fail
       all_goals
        have HB10 := H_ (HBB.out.trans (hB10.mono HBB.out.size))
        obtain ⟨hq10, ⟨ba0, ba1⟩, ta0, ta1, ta2, ta3, ta4, ta5, ta6, ta7, ta8⟩ := KV.out _ hB10
        go_wp2_with (first | (go_at_call 77; go_must (refine (TA.out _ HB10.out).mono ?_; rintro e w11 ⟨rfl, hb11⟩; have HB11 := H_ (HB10.out.trans (hb11.mono HB10.out.size)))) | (go_at_call 81; go_must (refine (CW2.out _ HB11.out).mono ?_; rintro e w12 ⟨⟨u12, rfl, hu12⟩, hb12⟩; have HB12 := H_ (HB11.out.trans (hb12.mono HB11.out.size)); obtain ⟨hq12, ⟨bc0, bc1⟩, tc0, tc1, tc2, tc3, tc4, tc5, tc6, tc7, tc8⟩ := KV.out _ (hB10.trans ((hb11.trans (hb12.mono hb11.size)).mono hB10.size)); have hu1012 := (hu10.below hb11).below hb12)) | (go_at_call 60; go_must (refine (CB.out _ _ _ HB12.out hu1012 hu12).mono ?_; rintro e w13 ⟨rfl, hb13⟩; have HB13 := H_ (HB12.out.trans (hb13.mono HB12.out.size)); have hC2 := HC2.out; rcases hC2 with rfl | ⟨rfl, hfx⟩)))
        · go_ret
          exact ⟨rfl, HB13.out⟩
        · go_roundw
          case rel => exact ⟨.inr ⟨by go_num, H_ hfx⟩, H_ (hb.out.trans (((HB9.out.trans ((hB10.trans ((hb11.trans ((hb12.trans (hb13.mono hb12.size)).mono hb11.size)).mono hB10.size)).mono HB9.out.size))).mono hb.out.size))⟩
          case measure => simp [intOf]
    · have HFX := H_ (HXF.out hfx.out)
      clear S0 K
      go_wp2_with (go_at_call 77; go_must (refine (CX.out _ HBW.out).mono ?_; rintro e w10 ⟨rfl, hb10⟩))
      go_ret
      exact ⟨by rw [HFX.out]; rfl, HBW.out.trans (hb10.mono HBW.out.size)⟩
theorem Z1m : ∀ n, FaS n
 | 0 => fun t _ _ _ _ _ _ _ h => by omega
 | n + 1 => fun t x env cs v1 v2 ok w hd hwf hby hax henv hkn hlen h1 h2s hv hok => by
   match t, hd, hwf, hby, hax, hlen, hv with
   | .atom a, hd, hwf, hby, hax, hlen, hv =>
     simp only [FV] at hv
     subst hv
     exact l3Fault_atom a x env v1 v2 w hwf.1 hax hkn h1 h2s
   | .list [], hd, hwf, hby, hax, hlen, hv => simp [Tr.wf] at hwf
   | .list (h :: ps), hd, hwf, hby, hax, hlen, hv =>
     have hte := Vx _ _ hax
     simp only [FV] at hv
     obtain ⟨r, off, cap, xs, rfl, h2, h3, h4, h5, h6⟩ := hv
     simp only [Tr.wf] at hwf
     cases hr : tyR env x with
     | ok t => exact l3Fault_ok n h ps x env v1 v2 r off cap _ xs ok w hd hwf.2 hby hax henv hlen h1 h2s h2 h4 rfl h3 h5 h6 hok t hr hte
     | error f =>
       have hx := hax
       simp only [Y9, Qu] at hx
       split at hx
       · rename_i hk
         match ps, hx with
         | [xn, te, tb], hx =>
           simp only [Q6] at hx
           split at hx
           · split at hx
             · cases hx
             · rename_i e' he
               split at hx
               · cases hx
               · rename_i b' hb
                 simp only [Option.some.injEq] at hx
                 exact l3Fault_let n h xn te tb x env v1 v2 r off cap xs ok w hd hwf.2 hby hax henv hlen h1 h2s h2 h4 h3 h5 h6 hok (Z1m n) hk e' b' he hb hx.symm (by rw [← hx] at hte; exact hte.1) (by rw [hx]; exact hkn) f hr
           · cases hx
       · rename_i hkl
         split at hx
         · rename_i hk
           match ps, hx with
           | [fn, xn, tA, tB, te], hx =>
             simp only [Xf] at hx
             split at hx
             · split at hx
               · cases hx
               · rename_i e' he
                 simp only [Option.some.injEq] at hx
                 exact l3Fault_fun n h fn xn tA tB te x env v1 v2 r off cap xs ok w hd hwf.2 hby hax henv hlen h1 h2s h2 h4 h3 h5 h6 hok (Z1m n) hk e' he (by rw [← hx] at hte; exact hte.1) (by rw [← hx] at hte; exact hte.2.1) hx.symm (by rw [hx]; exact hkn) f hr
             · cases hx
         · rename_i hkf
           simp only [Option.bind_eq_some_iff] at hx
           obtain ⟨es, hes, hmk⟩ := hx
           exact l3Fault_ord n h ps x env v1 v2 r off cap _ xs ok w hd hwf.2 hby hax henv hlen h1 h2s h2 h4 rfl h3 h5 h6 hok (Z1m n) es hkl hkf hes hmk hkn f hr
end Go.Proofs.YtfknoigbkleanaaGreatDoor
