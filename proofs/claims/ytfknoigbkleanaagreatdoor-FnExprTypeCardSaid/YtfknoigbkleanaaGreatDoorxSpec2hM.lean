/- The program changes the kids of an expression by a closure. What ExprPut's outcome weighs: leaves of an expression. The program: closed expressions, counting, free names. The program: free names of a text. The program: expressions as texts; the kids of a text. The program puts a closed expression for a name. The program's ExprPut. An expression with a closed one put for a name is an expression again, and its text is read as it if it keeps the limits. The plain mathematics of ExprOf: the plainest expression of a type. The reference model: the free names of a text, and whether it is closed. -/
import Derived.Test.YtfknoigbkleanaaGreatDoorxImpl2u
import Derived.Deep.RegionHeldLaw
import Derived.Test.YtfknoigbkleanaaGreatDoorxI2n
import Derived.Test.YtfknoigbkleanaaGreatDoorxS2fM
import Derived.Test.YtfknoigbkleanaaGreatDoorxShelf
import Derived.Test.YtfknoigbkleanaaGreatDoorxImpl1rM
import Derived.Test.YtfknoigbkleanaaGreatDoorxPureT
import Derived.Test.YtfknoigbkleanaaGreatDoorxSpec2cM
namespace Go.Proofs.YtfknoigbkleanaaGreatDoor
open Go.RowKit Go.Proofs.Tryz
set_option maxRecDepth 8000
set_option maxHeartbeats 20000000
set_option linter.unusedVariables false
set_option linter.unusedSimpArgs false
def Z6w (name : Nm) (b : Ex) : Ex → Ex
 | .name s => if s = name then b else .name s
 | .num n => .num n
 | .two o x y => .two o (Z6w name b x) (Z6w name b y)
 | .one o x => .one o (Z6w name b x)
 | .cond x y z => .cond (Z6w name b x) (Z6w name b y) (Z6w name b z)
 | .lete s x y => .lete s (Z6w name b x) (if s = name then y else Z6w name b y)
 | .func f a A B x => .func f a A B (if f = name ∨ a = name then x else Z6w name b x)
def ChC (B : Nat) (w : World) (p1 p2 : Value) (T : TypeId) (u : Value) (f : Ex) : Prop := ∀ W, Below w.heap.size w W → Calls prog 129 #[.iface T u, p1, p2] W fun e w' => (∃ x', e = .returned x' ∧ EV w' (fun k => k < B) f x') ∧ Below W.heap.size W w'
theorem EV.on {B : Nat} {w w' : World} {x : Ex} {v : Value} (h : EV w (fun k => k < B) x v) (hB : B ≤ w.heap.size) (hb : Below w.heap.size w w') : EV w' (fun k => k < B) x v := h.below hb (fun k hk => Nat.lt_of_lt_of_le hk hB)
theorem map_number_c (vs : Array Value) (v0 : Value) (hv : vs = #[v0]) (f : Value) (w : World) : Calls prog 256 #[.agg vs, f] w fun e w' => e = .returned (.iface 130 (.agg vs)) ∧ Below w.heap.size w w' := by
 subst hv
 go_enter func256, ntmps256
 go_wp2_with fail
 go_ret
 exact ⟨rfl, Z4 _ _⟩
def Z46 : Ex → Nat
 | .name _ => 1
 | .num _ => 1
 | .two _ a b => Z46 a + Z46 b
 | .one _ a => Z46 a
 | .cond a b c => Z46 a + Z46 b + Z46 c
 | .lete _ e b => Z46 e + Z46 b + 1
 | .func _ _ _ _ e => Z46 e + 2
def Z3e : List Ex → Nat
 | [] => 0
 | k :: ks => lvs k + Z3e ks
theorem sumL_snoc (e : Ex) : ∀ ks : List Ex, Z3e (ks ++ [e]) = Z3e ks + lvs e
 | [] => by simp [Z3e]
 | k :: ks => by simp only [List.cons_append, Z3e, sumL_snoc e ks]; omega
theorem lvs_kids : ∀ x : Ex, lvs x ≤ max 1 (Z3e (Zd x))
 | .name _ => by simp [lvs, Zd, Z3e]
 | .num _ => by simp [lvs, Zd, Z3e]
 | .two _ a b => by simp only [lvs, Zd, Z3e]; omega
 | .one _ a => by simp only [lvs, Zd, Z3e]; omega
 | .cond a b c => by simp only [lvs, Zd, Z3e]; omega
 | .lete x e b => by simp only [lvs, Zd, Z3e]; omega
 | .func f x _ _ e => by simp only [lvs, Zd, Z3e]; omega
theorem lvs_le : ∀ (n : Nat) (t : Tr) (x : Ex), t.depth < n → t.wf → Ye t = some x → lvs x ≤ t.size
 | 0, t, x, h, _, _ => by omega
 | n + 1, .atom a, x, _, _, h => by
   simp only [Ye, Qh] at h
   simp only [Tr.size]
   split at h
   · simp only [Option.some.injEq] at h; subst h; simp [lvs]
   · split at h
     · simp only [Option.some.injEq] at h; subst h; simp [lvs]
     · cases h
 | n + 1, .list [], x, _, hw, h => by simp [Tr.wf] at hw
 | n + 1, .list (h :: ps), x, hd, hw, e => by
   obtain ⟨a, V⟩ := kidView e
   have hsp := size_pos (.list (h :: ps)) hw
   simp only [Tr.wf] at hw
   have hstep : ∀ j, j ≤ (Zd x).length → Z3e ((Zd x).take j) ≤ Ys ((h :: ps).take (a + j)) := by
    intro j
    induction j with
    | zero => intro _; simp [Z3e]
    | succ j ih =>
      intro hj
      have hj' : j < (Zd x).length := by omega
      have hb := Z79 V hj'
      have h1 := ih (by omega)
      have h2 := V.kid j hj' hb
      have h3 := lvs_le n _ _ (by have := Xf hb; omega) (Xz hw.2 hb) h2
      have h5 := Z12 (h :: ps) (a + j) hb
      rw [List.take_succ_eq_append_getElem hj', sumL_snoc, show a + (j + 1) = a + j + 1 by omega, h5]
      omega
   have h1 := hstep _ (Nat.le_refl _)
   rw [List.take_length] at h1
   have h2 := K8 (h :: ps) (a + (Zd x).length)
   have h3 := lvs_kids x
   simp only [Tr.size] at hsp ⊢
   omega
theorem Z3k {l : List UInt8} {x : Ex} (h : Yf l = some x) : lvs x ≤ 120 := by
 cases hp : Zt l with
 | none => rw [Kl hp] at h; cases h
 | some t =>
   rw [J9 hp] at h
   split at h
   · rename_i hs
     have := lvs_le (t.depth + 1) t x (by omega) (Yp hp).1 h
     omega
   · cases h
def readCl (l : List UInt8) : Option Ex := (Yf l).filter (fun x => (Zj x).isEmpty)
theorem clone_c (s : ByteArray) (hs : s.size ≤ 281474976710656) (w : World) : Calls prog 53 #[.string s] w fun e w' => e = .returned (.string s) ∧ Below w.heap.size w w' := by
 have C := H_ (fun W => Tryz.stringslite_Clone s W hs)
 go_enter func53, ntmps53
 go_wp2_with (go_at_call 104; go_must (refine (C.out _).mono ?_; rintro e w1 ⟨rfl, hb1⟩))
 go_ret
 exact ⟨rfl, hb1⟩
def Z4c (l : List UInt8) : Option (List Nm) := (Yf l).map (fun x => (Zj x).foldl Ji [])
theorem freeE_none {l : List UInt8} (h : Yf l = none) : Z4c l = none := by simp [Z4c, h]
theorem Z1b {l : List UInt8} {x : Ex} (h : Yf l = some x) : Z4c l = some ((Zj x).foldl Ji []) := by simp [Z4c, h]
theorem freeE_len {l : List UInt8} : ((Z4c l).getD []).length ≤ 120 := by
 cases h : Yf l with
 | none => simp [Z4c, h]
 | some x =>
   have h1 := Z3k h
   have h2 := Yr x
   have h3 := (Z2q (Zj x) []).2
   simp only [Z1b h, Option.getD_some, List.length_nil] at h3 ⊢
   omega
theorem Z5n : ∀ (n : Nat) (t : Tr) (x : Ex), t.depth < n → t.wf → Ye t = some x → ∀ a ∈ Zj x, a.length ≤ 4
 | 0, t, x, h, _, _ => by omega
 | n + 1, .atom a, x, _, _, h => by
   simp only [Ye, Qh] at h
   split at h
   · simp only [Option.some.injEq] at h; subst h; simp [Zj]
   · split at h
     · rename_i hm
       simp only [Option.some.injEq] at h; subst h
       intro b hb
       simp only [Zj, List.mem_singleton] at hb
       subst hb
       cases b with
       | nil => simp
       | cons c r => simp only [Yi, Bool.and_eq_true, decide_eq_true_eq] at hm; simp only [List.length_cons]; omega
     · cases h
 | n + 1, .list [], x, _, hw, h => by simp [Tr.wf] at hw
 | n + 1, .list (h :: ps), x, hd, hw, e => by
   obtain ⟨a, V⟩ := kidView e
   rw [Yz x V.nn]
   simp only [Tr.wf] at hw
   have hstep : ∀ j, j ≤ (Zd x).length → ∀ b ∈ Y2 (Yd x) 0 ((Zd x).take j), b.length ≤ 4 := by
    intro j
    induction j with
    | zero => intro _; simp [Y2]
    | succ j ih =>
      intro hj b hb
      have hj' : j < (Zd x).length := by omega
      have hbd := Z79 V hj'
      have h2 := V.kid j hj' hbd
      have h3 := Z5n n _ _ (by have := Xf hbd; omega) (Xz hw.2 hbd) h2
      rw [Qu _ _ _ hj', List.mem_append] at hb
      rcases hb with hb | hb
      · exact ih (by omega) b hb
      · exact h3 b (List.mem_filter.1 hb).1
   have h1 := hstep _ (Nat.le_refl _)
   rw [List.take_length] at h1
   exact h1
theorem foldA_mem (P : List Nm) : ∀ l : List Nm, ∀ a ∈ P.foldl Ji l, a ∈ l ∨ a ∈ P := by
 induction P with
 | nil => intro l a h; exact .inl h
 | cons b P ih =>
   intro l a h
   rcases ih (Ji l b) a h with h | h
   · unfold Ji at h
     split at h
     · exact .inl h
     · rcases List.mem_append.1 h with h | h
       · exact .inl h
       · exact .inr (by simp at h; simp [h])
   · exact .inr (List.mem_cons_of_mem _ h)
theorem readEx_short {l : List UInt8} {x : Ex} (h : Yf l = some x) : ∀ a ∈ (Zj x).foldl Ji [], a.length ≤ 4 := by
 cases hp : Zt l with
 | none => rw [Kl hp] at h; cases h
 | some t =>
   rw [J9 hp] at h
   split at h
   · intro a ha
     rcases foldA_mem _ _ a ha with h1 | h1
     · cases h1
     · exact Z5n (t.depth + 1) t x (by omega) (Yp hp).1 h a h1
   · cases h
theorem set_self (l : List Nm) (j : Nat) (h : j < l.length) : (l.map Yc).set j (Yc l[j]) = l.map Yc := by
 apply List.ext_getElem?
 intro i
 by_cases hi : i = j
 · subst hi; simp [h]
 · rw [List.getElem?_set_ne (fun e => hi e.symm)]
theorem Z7f (s : ByteArray) (hs : s.size ≤ 1048576) (w : World) :
 Calls prog 13 #[.string s] w fun e w' => PartsPost w.heap.size (Z4c s.data.toList) e w' ∧ Below w.heap.size w w' := by
 cases hp : Yf s.data.toList with
 | none =>
   have C := H_ (Z0j hs hp)
   have HR := H_ (freeE_none hp)
   clear hp
   go_enter func13, ntmps13
   go_wp2_with (go_at_call 46; go_must (refine (C.out _).mono ?_; rintro e w1 ⟨⟨v, rfl⟩, hb1⟩))
   go_ret2
   exact ⟨by rw [HR.out]; exact ⟨_, rfl, World.ownsRow_nil _ _ _ _⟩, hb1⟩
 | some x =>
   have C := H_ (Z0i hs hp)
   have hl := Z3k hp
   have HR := H_ (Z1b hp)
   have HSh := H_ (readEx_short hp)
   have hlen : ((Zj x).foldl Ji []).length ≤ 120 := by have := freeE_len (l := s.data.toList); rw [HR.out] at this; exact this
   have CF : Hid (∀ (w1 : World) (B : Nat) (v : Value), EV w1 (fun k => B ≤ k ∧ k < w1.heap.size) x v → Calls prog 52 #[v] w1 (Kv w1 ((Zj x).foldl Ji []))) := H_ (fun w1 B v hv => Z5o x v _ w1 (by omega) hv (fun k hk => hk.2))
   generalize (Zj x).foldl Ji [] = l at *
   clear hp
   go_enter func13, ntmps13
   go_wp2_with (first | (go_at_call 46; go_must (refine (C.out _).mono ?_; rintro e w1 ⟨⟨v, rfl, hv⟩, hb1⟩; obtain ⟨T, u, rfl⟩ := hv.iface)) | (go_at_call 52; go_must (refine (CF.out _ _ _ hv).mono ?_; rintro e w2 ⟨⟨v2, rfl, ho2⟩, hb2⟩; obtain ⟨p2, c2, rfl⟩ := Zw ho2)))
   have HO := H_ ho2
   have hb12 := hb1.trans (hb2.mono hb1.size)
   have hz12 := hb1.size
   clear ho2
   go_loopw [20] (fun i wr => ∃ j : Nat, j ≤ l.length ∧ i = .int .i64 j ∧ Hid (wr.ownsRow w1.heap.size 9 1 (.slice p2 l.length c2) l.length (l.map Yc)) ∧ Below w1.heap.size w1 wr) (fun i _ => l.length - (intOf i).toNat)
   case atStart => exact ⟨0, Nat.zero_le _, rfl, HO, hb2⟩
   case round =>
    obtain ⟨j, hj, rfl, hO, hb⟩ := hrel
    by_cases hlt : j < l.length
    · obtain ⟨g, hg⟩ : ∃ g, p2 = some ⟨g, 0, none⟩ := by
       rcases hO.out.2 with ⟨h0, h00⟩ | ⟨g, cap, cur, h0, _⟩
       · omega
       · simp only [Value.slice.injEq] at h0; exact ⟨g, h0.1⟩
      subst hg
      have hrow := Yx hO.out
      have c0 : wr.cell? ⟨g, j, none⟩ = some (.string (bs l[j])) := by have := Zl.cell hrow hlt; simpa using this
      have hsh := HSh.out l[j] (List.getElem_mem hlt)
      have CC := H_ (clone_c (bs l[j]) (by rw [Y3]; omega) wr)
      have HSet := H_ (set_self l j hlt)
      have hbg := (Xr hO.out (k := g) rfl)
      have hj0 : (0 : Int) ≤ (j : Int) := by omega
      have HX : Hid (∀ w3, Below wr.heap.size wr w3 → (w3.setCell ⟨g, j, none⟩ (.string (bs l[j]))).ownsRow w1.heap.size 9 1 (.slice (some ⟨g, 0, none⟩) l.length c2) l.length (l.map Yc) ∧ Below w1.heap.size w1 (w3.setCell ⟨g, j, none⟩ (.string (bs l[j]))) ∧ w3.frozen? ⟨g, j, none⟩ = false ∧ w3.cell? ⟨g, j, none⟩ = some (.string (bs l[j]))) := H_ (fun w3 h3 => by
       have h4 := Y9 hO.out h3
       have h5 := h4.stored j (Yc l[j])
       rw [HSet.out] at h5
       refine ⟨h5.1, (hb.trans (h3.mono hb.size)).setCell hbg.1 _, ?_, ?_⟩
       · rcases h4.2 with ⟨h0, _⟩ | ⟨g', cap, cur, h0, _, hgg, _⟩
         · cases h0
         · simp only [Value.slice.injEq, Option.some.injEq, Addr.mk.injEq] at h0
           obtain ⟨⟨rfl, _⟩, _⟩ := h0
           exact Xb hgg
       · have := Zl.cell (Yx h4) hlt; simpa using this)
      clear hrow hsh HSet HSh
      generalize l[j] = a at *
      go_wp2_with (go_at_call 53; go_must (refine (CC.out).mono ?_; rintro e w3 ⟨rfl, hb3⟩; obtain ⟨x1, x2, x3, x4⟩ := HX.out _ hb3; have X1 := H_ x1; clear x1))
      go_roundw
      case rel => exact ⟨j + 1, by omega, by go_num, X1, x2⟩
      case measure => simp [intOf]; omega
    · have : j = l.length := by omega
      subst this
      go_wp2_with fail
      go_ret2
      exact ⟨by rw [HR.out]; exact ⟨_, rfl, Vs hO.out hb1.size⟩, hb1.trans (hb.mono hb1.size)⟩
theorem nm_len {a : List UInt8} (h : Yi a = true) : a.length ≤ 4 := by
 cases a with
 | nil => simp
 | cons c r => simp only [Yi, Bool.and_eq_true, decide_eq_true_eq] at h; simp only [List.length_cons]; omega
def oksE : List Ex → Prop
 | [] => True
 | e :: es => Qw e ∧ oksE es
mutual
theorem Z4k : ∀ (t : Tr) (x : Ex), Ye t = some x → Qw x
 | .atom a, x, h => by
   simp only [Ye, Qh] at h
   cases hn : Qb a with
   | some n => simp only [hn, Option.some.injEq] at h; subst h; exact numOf_range hn
   | none =>
     simp only [hn] at h
     split at h
     · rename_i hm; simp only [Option.some.injEq] at h; subst h; exact nm_len hm
     · cases h
 | .list [], x, h => by simp [Ye, Qo] at h
 | .list (h0 :: ps), x, h => by
   simp only [Ye, Qo] at h
   split at h
   · match ps, h with
     | [x0, e0, b0], h =>
       simp only [Q4] at h
       split at h
       · rename_i hx
         split at h
         · cases h
         · rename_i e' he
           split at h
           · cases h
           · rename_i b' hb
             simp only [Option.some.injEq] at h
             subst h
             exact ⟨nm_len hx, Z4k e0 e' he, Z4k b0 b' hb⟩
       · cases h
     | [], h => cases h
     | [_], h => cases h
     | [_, _], h => cases h
     | _ :: _ :: _ :: _ :: _, h => cases h
   · split at h
     · match ps, h with
       | [f0, x0, A0, B0, e0], h =>
         simp only [X9] at h
         split at h
         · rename_i hx
           simp only [Bool.and_eq_true] at hx
           split at h
           · cases h
           · rename_i e' he
             simp only [Option.some.injEq] at h
             subst h
             exact ⟨nm_len hx.1.1.1.1, nm_len hx.1.1.1.2, Z4k e0 e' he⟩
         · cases h
       | [], h => cases h
       | [_], h => cases h
       | [_, _], h => cases h
       | [_, _, _], h => cases h
       | [_, _, _, _], h => cases h
       | _ :: _ :: _ :: _ :: _ :: _ :: _, h => cases h
     · cases hk : Yg ps with
       | none => simp [hk] at h
       | some es =>
         simp only [hk, Option.bind_some] at h
         have hp := kidsEx_ok ps es hk
         match es, h, hp with
         | [], h, hp => cases h
         | [a], h, hp =>
           simp only [Yj, Option.map_eq_some_iff] at h
           obtain ⟨o, ho, rfl⟩ := h
           exact hp.1
         | [a, b], h, hp =>
           simp only [Yj, Option.map_eq_some_iff] at h
           obtain ⟨o, ho, rfl⟩ := h
           exact ⟨hp.1, hp.2.1⟩
         | [a, b, c], h, hp =>
           simp only [Yj] at h
           split at h
           · simp only [Option.some.injEq] at h; subst h; exact ⟨hp.1, hp.2.1, hp.2.2.1⟩
           · cases h
         | _ :: _ :: _ :: _ :: _, h, hp => cases h
theorem kidsEx_ok : ∀ (ts : List Tr) (es : List Ex), Yg ts = some es → oksE es
 | [], es, h => by simp only [Yg, Option.some.injEq] at h; subst h; trivial
 | t :: ts, es, h => by
   simp only [Yg] at h
   split at h
   · cases h
   · rename_i e he
     split at h
     · cases h
     · rename_i es' hs
       simp only [Option.some.injEq] at h
       subst h
       exact ⟨Z4k t e he, kidsEx_ok ts es' hs⟩
end
theorem exprText_c (x : Ex) (v : Value) (B : Nat) (w : World) (hn : Qw x) (hw : (Z3 x).wf) (hb : (Z3 x).bytes ≤ 500000000) (hv : EV w (fun k => k < B) x v) (hB : B ≤ w.heap.size) (hT : Tab w) :
 Calls prog 55 #[v] w fun e w' => e = .returned (.string (bs (Z3 x).text)) ∧ Below w.heap.size w w' := by
 obtain ⟨s, o1, o2, o3, -, -, -, -, hq⟩ := Zx (Z3 x)
 have C : Hid (Calls prog 106 #[v] w fun e w' => (∃ p m c, e = .returned (.agg #[.string s, .slice p m c, .int .i64 o1, .int .i64 o2, .int .i64 o3]) ∧ FV nI w' (fun k => k < B ∨ (w.heap.size ≤ k ∧ k < w'.heap.size)) (Z3 x) (nI (Z3 x) (.slice p m c))) ∧ Below w.heap.size w w') := H_ ((Jh x v B w hn hw hb hv hB hT).mono fun e w' ⟨⟨p, m, c, h1, h2⟩, h3⟩ => ⟨⟨p, m, c, by rw [h1, hq], h2⟩, h3⟩)
 have CT : Hid (∀ (w1 : World) p m c, FV nI w1 (fun k => k < B ∨ (w.heap.size ≤ k ∧ k < w1.heap.size)) (Z3 x) (nI (Z3 x) (.slice p m c)) → w.heap.size ≤ w1.heap.size → Calls prog 48 #[.agg #[.string s, .slice p m c, .int .i64 o1, .int .i64 o2, .int .i64 o3]] w1 fun e w' => e = .returned (.string (bs (Z3 x).text)) ∧ Below w1.heap.size w1 w') := H_ (fun w1 p m c hf hs => by
  have h := text_c (Z3 x) p m c _ w1 hw (by omega) hf (fun k hk => by omega)
  have e : (nI (Z3 x) (.slice p m c)).toArray = #[.string s, .slice p m c, .int .i64 o1, .int .i64 o2, .int .i64 o3] := by rw [hq]
  have e2 : (nI (Z3 x) (.slice p m c)).toArray = #[.string (bs (Z0 (Z3 x))), .slice p m c, .int .i64 (Z3 x).bytes, .int .i64 (Z3 x).size, .int .i64 (Z3 x).depth] := rfl
  rw [← e2, e] at h
  exact h)
 obtain ⟨T, u, rfl⟩ := hv.iface
 generalize bs (Z3 x).text = tx at *
 clear hn hw hb hv hT hq
 go_enter func55, ntmps55
 go_wp2_with (first | (go_at_call 106; go_must (refine (C.out).mono ?_; rintro e w1 ⟨⟨p, m, c, rfl, hf⟩, hb1⟩)) | (go_at_call 48; go_must (refine (CT.out _ _ _ _ hf hb1.size).mono ?_; rintro e w2 ⟨rfl, hb2⟩)))
 go_ret
 exact ⟨rfl, hb1.trans (hb2.mono hb1.size)⟩
def kidsTx (l : List UInt8) : Option (List Nm) := (Yf l).map (fun x => (Zd x).map (fun k => (Z3 k).text))
theorem readEx_tree {l : List UInt8} {x : Ex} (h : Yf l = some x) : (Z3 x).wf ∧ (Z3 x).bytes ≤ 12000 ∧ Qw x := by
 cases hp : Zt l with
 | none => rw [Kl hp] at h; cases h
 | some t =>
   rw [J9 hp] at h
   split at h
   · have hg := Yp hp
     rw [Jw t x h]
     exact ⟨hg.1, hg.2.1, Z4k t x h⟩
   · cases h
def KidCT (w : World) (ks : List Ex) (kvs : List Value) : Prop := ∀ j (hj : j < ks.length), ∃ T u, kvs[j]? = some (.iface T u) ∧ ∀ W, Below w.heap.size w W → Calls prog 55 #[.iface T u] W fun e w' => e = .returned (.string (bs (Z3 ks[j]).text)) ∧ Below W.heap.size W w'
def PtC (name : Nm) (b x : Ex) : Prop := ∀ (v vb : Value) (B : Nat) (w : World), EV w (fun k => k < B) x v → EV w (fun k => k < B) b vb → B ≤ w.heap.size →
    Calls prog 80 #[v, .string (bs name), vb] w fun e w' => (∃ v', e = .returned v' ∧ EV w' (fun k => k < B) (Z6w name b x) v') ∧ Below w.heap.size w w'
def limT (T : Tr) : Option (List UInt8) := if T.size ≤ 120 ∧ T.bytes ≤ 12000 ∧ T.depth ≤ 60 then some T.text else none
def putTx (l n y : List UInt8) : Option (List UInt8) :=
 match Yf l with
 | none => none
 | some x => if Yi n = true then (match readCl y with | none => none | some b => limT (Z3 (Z6w n b x))) else none
def TxPost (r : Option (List UInt8)) (e : Ending) : Prop := e = .returned (.tuple #[.string (bs (r.getD [])), .bool r.isSome])
theorem limT_valid {X : Ex} (hw : (Z3 X).wf) (hg : Ye (Z3 X) = some X) : limT (Z3 X) = if (Qp (Z3 X).text).isSome then some (Z3 X).text else none := by
 have hi : Jz (Z3 X) = true := by simp [Jz, hg]
 unfold limT
 by_cases h1 : (Z3 X).bytes ≤ 12000 ∧ (Z3 X).depth ≤ 60
 · have hp := V0 hw h1.1 h1.2
   by_cases h2 : (Z3 X).size ≤ 120
   · rw [Z1u hp hi h2]; simp [h1, h2]
   · rw [Z1w hp h2]; simp [h2]
 · have hp := Z1k hw h1
   rw [Z1v hp]
   rw [if_neg (fun h => h1 h.2)]; simp
def Qv : Tr → Ex
 | .list [x, a, b] => if Z0 x = [42] then .two .pair (Qv a) (Qv b) else .func [102] [120] a b (Qv b)
 | _ => .num 0
theorem Z0y (a : List UInt8) : Qv (.atom a) = .num 0 := by simp [Qv]
theorem Z1c (x a b : Tr) : Qv (.list [x, a, b]) = if Z0 x = [42] then .two .pair (Qv a) (Qv b) else .func [102] [120] a b (Qv b) := by rw [Qv]
theorem Z2h : Z3 (.num 0) = .atom [48] := by simp [Z3, Lib.itoa, dd1]
structure OfOK (t : Tr) : Prop where
 wf : (Z3 (Qv t)).wf
 bytes : (Z3 (Qv t)).bytes ≤ 100 * t.size
 ok : Qw (Qv t)
 good : Ye (Z3 (Qv t)) = some (Qv t)
theorem Z1d : ∀ (n : Nat) (t : Tr), t.depth ≤ n → Zs t = true → OfOK t
 | _, .atom a, _, h => by
   refine ⟨?_, ?_, ?_, ?_⟩
   · rw [Z0y, Z2h]; exact ⟨by simp, by decide⟩
   · rw [Z0y, Z2h]; simp [Tr.bytes, Tr.size]
   · rw [Z0y]; simp [Qw]
   · rw [Z0y, Z2h]; simp [Ye, Qh, Qb]
 | 0, .list ts, hd, h => by
   obtain ⟨x, a, b, rfl, -⟩ := Ju (Yh h).1
   have := Z1f x a b
   omega
 | n + 1, .list ts, hd, h => by
   obtain ⟨x, a, b, rfl, hx, -⟩ := Ju (Yh h).1
   have hdd := Z1f x a b
   have hsz := (Yh h).2
   have hxc : Z0 x = [42] ∨ (¬ Z0 x = [42] ∧ Z0 x = [62]) := by
    rcases hx with hx | hx
    · exact .inr ⟨by rw [hx]; decide, hx⟩
    · exact .inl hx
   have hab : Zs a = true ∧ Zs b = true := by
    rcases hxc with e | ⟨_, e⟩
    · exact Jl (c := 42) h (by simp [Yk, e])
    · exact Jl (c := 62) h (by simp [Yk, e])
   have hsz2 : (Tr.list [x, a, b]).size = x.size + (a.size + (b.size + 0)) := by simp only [Tr.size, Ys]
   have hx1 : 1 ≤ x.size := by
    cases x with
    | atom y => simp [Tr.size]
    | list l => rcases hx with hx | hx <;> cases hx
   have kb := Z1d n b (by omega) hab.2
   have sa := Zf hab.1
   have sb := Zf hab.2
   rw [hsz2] at hsz
   rcases hxc with e | ⟨e, e2⟩
   · have ka := Z1d n a (by omega) hab.1
     have he : Qv (.list [x, a, b]) = .two .pair (Qv a) (Qv b) := by rw [Z1c, if_pos e]
     refine ⟨?_, ?_, ?_, ?_⟩
     · rw [he]; simp only [Z3, Tr.wf, wfs]; exact ⟨by simp, ⟨by decide, by decide⟩, ka.wf, kb.wf, trivial⟩
     · rw [he, hsz2]
       have h1 := ka.bytes
       have h2 := kb.bytes
       have h3 : (Z1y .pair).length = 4 := rfl
       simp only [Z3, Tr.bytes, Zo]; omega
     · rw [he]; exact ⟨ka.ok, kb.ok⟩
     · rw [he]; exact (Z27 _ _ _).2 ⟨ka.good, kb.good⟩
   · have he : Qv (.list [x, a, b]) = .func [102] [120] a b (Qv b) := by rw [Z1c, if_neg e]
     refine ⟨?_, ?_, ?_, ?_⟩
     · rw [he]; simp only [Z3, Tr.wf, wfs]; exact ⟨by simp, ⟨by decide, by decide⟩, ⟨by decide, by decide⟩, ⟨by decide, by decide⟩, sa.1, sb.1, kb.wf, trivial⟩
     · rw [he, hsz2]
       have h2 := kb.bytes
       have h3 : Qd.length = 3 := rfl
       have h4 := sa.2.1
       have h5 := sb.2.1
       have h6 := (Jo _ _ (Nat.le_refl _) sa.2.2.2.2).1
       have h7 := (Jo _ _ (Nat.le_refl _) sb.2.2.2.2).1
       simp only [Z3, Tr.bytes, Zo, List.length_cons, List.length_nil]; omega
     · rw [he]; exact ⟨by decide, by decide, kb.ok⟩
     · rw [he]; exact (Z0x _ _ _ _ _).2 ⟨by rw [hab.1, hab.2]; decide, kb.good⟩
def ofTx (l : List UInt8) : Option (List UInt8) := (Y0 l).bind (fun t => limT (Z3 (Qv t)))
theorem Z4w {l : List UInt8} (h : Y0 l = none) : ofTx l = none := by simp [ofTx, h]
theorem ofTx_some {l : List UInt8} {t : Tr} (h : Y0 l = some t) : ofTx l = limT (Z3 (Qv t)) := by simp [ofTx, h]
theorem readTy_L {l : List UInt8} {t : Tr} (h : Y0 l = some t) : Zs t = true := by
 obtain ⟨_, _, _, _, h1, h2⟩ := Qy h
 simp [Zs, h1, h2]
end Go.Proofs.YtfknoigbkleanaaGreatDoor
