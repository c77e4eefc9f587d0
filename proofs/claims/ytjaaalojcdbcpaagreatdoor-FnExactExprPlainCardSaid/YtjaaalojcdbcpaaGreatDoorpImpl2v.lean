/- The program: expressions as texts; the kids of a text. -/
import Derived.Test.YtjaaalojcdbcpaaGreatDoorpImpl2u
import Derived.Test.YtjaaalojcdbcpaaGreatDoorpImpl1jM
import Derived.Test.YtjaaalojcdbcpaaGreatDoorpPureMM
set_option maxHeartbeats 20000000
set_option linter.unusedVariables false
set_option linter.unusedSimpArgs false
namespace Go.Proofs.YtjaaalojcdbcpaaGreatDoor
open Go.RowKit Go.Proofs.Tryz
set_option maxRecDepth 8000
theorem nm_len {a : List UInt8} (h : Y4 a = true) : a.length ≤ 4 := by
 cases a with
 | nil => simp
 | cons c r => simp only [Y4, Bool.and_eq_true, decide_eq_true_eq] at h; simp only [List.length_cons]; omega
def oksE : List Ex → Prop
 | [] => True
 | e :: es => Xw e ∧ oksE es
mutual
theorem Z16 : ∀ (t : Tr) (x : Ex), Zt t = some x → Xw x
 | .atom a, x, h => by
   simp only [Zt, Xt] at h
   cases hn : Xl a with
   | some n => simp only [hn, Option.some.injEq] at h; subst h; exact numOf_range hn
   | none =>
     simp only [hn] at h
     split at h
     · rename_i hm; simp only [Option.some.injEq] at h; subst h; exact nm_len hm
     · cases h
 | .list [], x, h => by simp [Zt, Q5] at h
 | .list (h0 :: ps), x, h => by
   simp only [Zt, Q5] at h
   split at h
   · match ps, h with
     | [x0, e0, b0], h =>
       simp only [Xk] at h
       split at h
       · rename_i hx
         split at h
         · cases h
         · rename_i e' he
           split at h
           · cases h
           · rename_i b' hb
             simp only [Option.some.injEq] at h
             subst h
             exact ⟨nm_len hx, Z16 e0 e' he, Z16 b0 b' hb⟩
       · cases h
     | [], h => cases h
     | [_], h => cases h
     | [_, _], h => cases h
     | _ :: _ :: _ :: _ :: _, h => cases h
   · split at h
     · match ps, h with
       | [f0, x0, A0, B0, e0], h =>
         simp only [Yr] at h
         split at h
         · rename_i hx
           simp only [Bool.and_eq_true] at hx
           split at h
           · cases h
           · rename_i e' he
             simp only [Option.some.injEq] at h
             subst h
             exact ⟨nm_len hx.1.1.1.1, nm_len hx.1.1.1.2, Z16 e0 e' he⟩
         · cases h
       | [], h => cases h
       | [_], h => cases h
       | [_, _], h => cases h
       | [_, _, _], h => cases h
       | [_, _, _, _], h => cases h
       | _ :: _ :: _ :: _ :: _ :: _ :: _, h => cases h
     · cases hk : Y3 ps with
       | none => simp [hk] at h
       | some es =>
         simp only [hk, Option.bind_some] at h
         have hp := kidsEx_ok ps es hk
         match es, h, hp with
         | [], h, hp => cases h
         | [a], h, hp =>
           simp only [Yd, Option.map_eq_some_iff] at h
           obtain ⟨o, ho, rfl⟩ := h
           exact hp.1
         | [a, b], h, hp =>
           simp only [Yd, Option.map_eq_some_iff] at h
           obtain ⟨o, ho, rfl⟩ := h
           exact ⟨hp.1, hp.2.1⟩
         | [a, b, c], h, hp =>
           simp only [Yd] at h
           split at h
           · simp only [Option.some.injEq] at h; subst h; exact ⟨hp.1, hp.2.1, hp.2.2.1⟩
           · cases h
         | _ :: _ :: _ :: _ :: _, h, hp => cases h
theorem kidsEx_ok : ∀ (ts : List Tr) (es : List Ex), Y3 ts = some es → oksE es
 | [], es, h => by simp only [Y3, Option.some.injEq] at h; subst h; trivial
 | t :: ts, es, h => by
   simp only [Y3] at h
   split at h
   · cases h
   · rename_i e he
     split at h
     · cases h
     · rename_i es' hs
       simp only [Option.some.injEq] at h
       subst h
       exact ⟨Z16 t e he, kidsEx_ok ts es' hs⟩
end
theorem Z2y (x : Ex) (v : Value) (B : Nat) (w : World) (hn : Xw x) (hw : (Z0 x).wf) (hb : (Z0 x).bytes ≤ 500000000) (hv : EV w (fun k => k < B) x v) (hB : B ≤ w.heap.size) (hT : Tab w) :
 Calls prog 33 #[v] w fun e w' => e = .returned (.string (bs (Z0 x).text)) ∧ Below w.heap.size w w' := by
 obtain ⟨s, o1, o2, o3, -, -, -, -, hq⟩ := Jo (Z0 x)
 have C : Hid (Calls prog 69 #[v] w fun e w' => (∃ p m c, e = .returned (.agg #[.string s, .slice p m c, .int .i64 o1, .int .i64 o2, .int .i64 o3]) ∧ FV nI w' (fun k => k < B ∨ (w.heap.size ≤ k ∧ k < w'.heap.size)) (Z0 x) (nI (Z0 x) (.slice p m c))) ∧ Below w.heap.size w w') := H_ ((Qb x v B w hn hw hb hv hB hT).mono fun e w' ⟨⟨p, m, c, h1, h2⟩, h3⟩ => ⟨⟨p, m, c, by rw [h1, hq], h2⟩, h3⟩)
 have CT : Hid (∀ (w1 : World) p m c, FV nI w1 (fun k => k < B ∨ (w.heap.size ≤ k ∧ k < w1.heap.size)) (Z0 x) (nI (Z0 x) (.slice p m c)) → w.heap.size ≤ w1.heap.size → Calls prog 45 #[.agg #[.string s, .slice p m c, .int .i64 o1, .int .i64 o2, .int .i64 o3]] w1 fun e w' => e = .returned (.string (bs (Z0 x).text)) ∧ Below w1.heap.size w1 w') := H_ (fun w1 p m c hf hs => by
  have h := text_c (Z0 x) p m c _ w1 hw (by omega) hf (fun k hk => by omega)
  have e : (nI (Z0 x) (.slice p m c)).toArray = #[.string s, .slice p m c, .int .i64 o1, .int .i64 o2, .int .i64 o3] := by rw [hq]
  have e2 : (nI (Z0 x) (.slice p m c)).toArray = #[.string (bs (Z1 (Z0 x))), .slice p m c, .int .i64 (Z0 x).bytes, .int .i64 (Z0 x).size, .int .i64 (Z0 x).depth] := rfl
  rw [← e2, e] at h
  exact h)
 obtain ⟨T, u, rfl⟩ := hv.iface
 generalize bs (Z0 x).text = tx at *
 clear hn hw hb hv hT hq
 go_enter func33, ntmps33
 go_wp2_with (first | (go_at_call 69; go_must (refine (C.out).mono ?_; rintro e w1 ⟨⟨p, m, c, rfl, hf⟩, hb1⟩)) | (go_at_call 45; go_must (refine (CT.out _ _ _ _ hf hb1.size).mono ?_; rintro e w2 ⟨rfl, hb2⟩)))
 go_ret
 exact ⟨rfl, hb1.trans (hb2.mono hb1.size)⟩
def kidsTx (l : List UInt8) : Option (List Nm) := (Zy l).map (fun x => (Z4 x).map (fun k => (Z0 k).text))
theorem Z1p {l : List UInt8} {x : Ex} (h : Zy l = some x) : (Z0 x).wf ∧ (Z0 x).bytes ≤ 12000 ∧ Xw x := by
 cases hp : Yt l with
 | none => rw [K4 hp] at h; cases h
 | some t =>
   rw [Qx hp] at h
   split at h
   · have hg := Jt hp
     rw [Xf t x h]
     exact ⟨hg.1, hg.2.1, Z16 t x h⟩
   · cases h
def KidCT (w : World) (ks : List Ex) (kvs : List Value) : Prop := ∀ j (hj : j < ks.length), ∃ T u, kvs[j]? = some (.iface T u) ∧ ∀ W, Below w.heap.size w W → Calls prog 33 #[.iface T u] W fun e w' => e = .returned (.string (bs (Z0 ks[j]).text)) ∧ Below W.heap.size W w'
end Go.Proofs.YtjaaalojcdbcpaaGreatDoor
