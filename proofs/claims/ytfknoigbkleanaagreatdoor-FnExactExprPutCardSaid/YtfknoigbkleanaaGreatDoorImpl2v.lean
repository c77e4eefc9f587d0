/- The program: expressions as texts; the kids of a text. -/
import Derived.Test.YtfknoigbkleanaaGreatDoorImpl2u
import Derived.Test.YtfknoigbkleanaaGreatDoorImpl1j
import Derived.Test.YtfknoigbkleanaaGreatDoorI2p
namespace Go.Proofs.YtfknoigbkleanaaGreatDoor
open Go.RowKit
set_option maxRecDepth 8000
set_option linter.unusedSimpArgs false
set_option linter.unusedVariables false
theorem nm_len {a : List UInt8} (h : isNm a = true) : a.length ≤ 4 := by
  cases a with
  | nil => simp
  | cons c r => simp only [isNm, Bool.and_eq_true, decide_eq_true_eq] at h; simp only [List.length_cons]; omega
def oksE : List Ex → Prop
  | [] => True
  | e :: es => exOK e ∧ oksE es
mutual
theorem asEx_ok : ∀ (t : Tr) (x : Ex), asEx t = some x → exOK x
  | .atom a, x, h => by
    simp only [asEx, atomEx] at h
    cases hn : numOf a with
    | some n => simp only [hn, Option.some.injEq] at h; subst h; exact numOf_range hn
    | none =>
      simp only [hn] at h
      split at h
      · rename_i hm; simp only [Option.some.injEq] at h; subst h; exact nm_len hm
      · cases h
  | .list [], x, h => by simp [asEx, asExs] at h
  | .list (h0 :: ps), x, h => by
    simp only [asEx, asExs] at h
    split at h
    · match ps, h with
      | [x0, e0, b0], h =>
        simp only [asLetE] at h
        split at h
        · rename_i hx
          split at h
          · cases h
          · rename_i e' he
            split at h
            · cases h
            · rename_i b' hb
              simp only [Option.some.injEq] at h
              subst h
              exact ⟨nm_len hx, asEx_ok e0 e' he, asEx_ok b0 b' hb⟩
        · cases h
      | [], h => cases h
      | [_], h => cases h
      | [_, _], h => cases h
      | _ :: _ :: _ :: _ :: _, h => cases h
    · split at h
      · match ps, h with
        | [f0, x0, A0, B0, e0], h =>
          simp only [asFunE] at h
          split at h
          · rename_i hx
            simp only [Bool.and_eq_true] at hx
            split at h
            · cases h
            · rename_i e' he
              simp only [Option.some.injEq] at h
              subst h
              exact ⟨nm_len hx.1.1.1.1, nm_len hx.1.1.1.2, asEx_ok e0 e' he⟩
          · cases h
        | [], h => cases h
        | [_], h => cases h
        | [_, _], h => cases h
        | [_, _, _], h => cases h
        | [_, _, _, _], h => cases h
        | _ :: _ :: _ :: _ :: _ :: _ :: _, h => cases h
      · cases hk : kidsEx ps with
        | none => simp [hk] at h
        | some es =>
          simp only [hk, Option.bind_some] at h
          have hp := kidsEx_ok ps es hk
          match es, h, hp with
          | [], h, hp => cases h
          | [a], h, hp =>
            simp only [mkHead, Option.map_eq_some_iff] at h
            obtain ⟨o, ho, rfl⟩ := h
            exact hp.1
          | [a, b], h, hp =>
            simp only [mkHead, Option.map_eq_some_iff] at h
            obtain ⟨o, ho, rfl⟩ := h
            exact ⟨hp.1, hp.2.1⟩
          | [a, b, c], h, hp =>
            simp only [mkHead] at h
            split at h
            · simp only [Option.some.injEq] at h; subst h; exact ⟨hp.1, hp.2.1, hp.2.2.1⟩
            · cases h
          | _ :: _ :: _ :: _ :: _, h, hp => cases h
theorem kidsEx_ok : ∀ (ts : List Tr) (es : List Ex), kidsEx ts = some es → oksE es
  | [], es, h => by simp only [kidsEx, Option.some.injEq] at h; subst h; trivial
  | t :: ts, es, h => by
    simp only [kidsEx] at h
    split at h
    · cases h
    · rename_i e he
      split at h
      · cases h
      · rename_i es' hs
        simp only [Option.some.injEq] at h
        subst h
        exact ⟨asEx_ok t e he, kidsEx_ok ts es' hs⟩
end
set_option maxHeartbeats 400000 in
theorem exprText_c (x : Ex) (v : Value) (B : Nat) (w : World) (hn : exOK x) (hw : (formOf x).wf) (hb : (formOf x).bytes ≤ 500000000) (hv : EV w (fun k => k < B) x v) (hB : B ≤ w.heap.size) (hT : Tab w) :
    Calls Tryz.prog 55 #[v] w fun e w' => e = .returned (.string (bs (formOf x).text)) ∧ Below w.heap.size w w' := by
  obtain ⟨s, o1, o2, o3, -, -, -, -, hq⟩ := nI_named (formOf x)
  have C : Hid (Calls Tryz.prog 106 #[v] w fun e w' => (∃ p m c, e = .returned (.agg #[.string s, .slice p m c, .int .i64 o1, .int .i64 o2, .int .i64 o3]) ∧ FV nI w' (fun k => k < B ∨ (w.heap.size ≤ k ∧ k < w'.heap.size)) (formOf x) (nI (formOf x) (.slice p m c))) ∧ Below w.heap.size w w') := Lib.hid ((fm_all x v B w hn hw hb hv hB hT).mono fun e w' ⟨⟨p, m, c, h1, h2⟩, h3⟩ => ⟨⟨p, m, c, by rw [h1, hq], h2⟩, h3⟩)
  have CT : Hid (∀ (w1 : World) p m c, FV nI w1 (fun k => k < B ∨ (w.heap.size ≤ k ∧ k < w1.heap.size)) (formOf x) (nI (formOf x) (.slice p m c)) → w.heap.size ≤ w1.heap.size → Calls Tryz.prog 48 #[.agg #[.string s, .slice p m c, .int .i64 o1, .int .i64 o2, .int .i64 o3]] w1 fun e w' => e = .returned (.string (bs (formOf x).text)) ∧ Below w1.heap.size w1 w') := Lib.hid (fun w1 p m c hf hs => by
    have h := text_c (formOf x) p m c _ w1 hw (by omega) hf (fun k hk => by omega)
    have e : (nI (formOf x) (.slice p m c)).toArray = #[.string s, .slice p m c, .int .i64 o1, .int .i64 o2, .int .i64 o3] := by rw [hq]
    have e2 : (nI (formOf x) (.slice p m c)).toArray = #[.string (bs (atomOf (formOf x))), .slice p m c, .int .i64 (formOf x).bytes, .int .i64 (formOf x).size, .int .i64 (formOf x).depth] := rfl
    rw [← e2, e] at h
    exact h)
  obtain ⟨T, u, rfl⟩ := hv.iface
  generalize bs (formOf x).text = tx at *
  clear hn hw hb hv hT hq
  go_enter Tryz.func55, Tryz.ntmps55
  go_wp2_with (first | (go_at_call 106; go_must (refine (C.out).mono ?_; rintro e w1 ⟨⟨p, m, c, rfl, hf⟩, hb1⟩)) | (go_at_call 48; go_must (refine (CT.out _ _ _ _ hf hb1.size).mono ?_; rintro e w2 ⟨rfl, hb2⟩)))
  go_ret
  exact ⟨rfl, hb1.trans (hb2.mono hb1.size)⟩
/-- The texts of the kids of the expression that is a text. -/
def kidsTx (l : List UInt8) : Option (List Nm) := (readEx l).map (fun x => (kidsE x).map (fun k => (formOf k).text))
theorem kidsTx_none {l : List UInt8} (h : readEx l = none) : kidsTx l = none := by simp [kidsTx, h]
theorem kidsTx_some {l : List UInt8} {x : Ex} (h : readEx l = some x) : kidsTx l = some ((kidsE x).map (fun k => (formOf k).text)) := by simp [kidsTx, h]
theorem readEx_tree {l : List UInt8} {x : Ex} (h : readEx l = some x) : (formOf x).wf ∧ (formOf x).bytes ≤ 12000 ∧ exOK x := by
  cases hp : parse l with
  | none => rw [readEx_none hp] at h; cases h
  | some t =>
    rw [readEx_some hp] at h
    split at h
    · have hg := parse_got hp
      rw [formOf_eq t x h]
      exact ⟨hg.1, hg.2.1, asEx_ok t x h⟩
    · cases h
/-- The kids' texts by their contracts. -/
def KidCT (w : World) (ks : List Ex) (kvs : List Value) : Prop := ∀ j (hj : j < ks.length), ∃ T u, kvs[j]? = some (.iface T u) ∧ ∀ W, Below w.heap.size w W → Calls Tryz.prog 55 #[.iface T u] W fun e w' => e = .returned (.string (bs (formOf ks[j]).text)) ∧ Below W.heap.size W w'
theorem kidT_of {x : Ex} {T : TypeId} {u : Value} {w : World} {N : Nat} (hn : exOK x) (hw : (formOf x).wf) (hb : (formOf x).bytes ≤ 500000000) (hv : EV w (fun k => N ≤ k ∧ k < w.heap.size) x (.iface T u)) (hT : Tab w) :
    ∀ W, Below w.heap.size w W → Calls Tryz.prog 55 #[.iface T u] W fun e w' => e = .returned (.string (bs (formOf x).text)) ∧ Below W.heap.size W w' :=
  fun W hW => exprText_c x _ w.heap.size W hn hw hb (EV.move (fun k hk => hk.2) (fun k hk => hW.block k hk.2) _ _ hv) hW.size (hT.below hW)
end Go.Proofs.YtfknoigbkleanaaGreatDoor
