/- The reference model puts a closed expression for a name: atoms. -/
import Derived.Test.YtfknoigbkleanaaGreatDoorS2f
import Derived.Test.YtfknoigbkleanaaGreatDoorPureP
namespace Go.Proofs.YtfknoigbkleanaaGreatDoor
open Go.RowKit
set_option maxRecDepth 8000
set_option linter.unusedSimpArgs false
set_option linter.unusedVariables false
/-- What a turn of l2Put leaves. -/
def PtPost (B : Nat) (T : Tr) (w : World) (e : Ending) (w' : World) : Prop := (∃ p m c, e = .returned (.agg #[.string (bs (atomOf T)), .slice p m c]) ∧ FV nS w' (fun k => k < B ∨ (w.heap.size ≤ k ∧ k < w'.heap.size)) T (nS T (.slice p m c))) ∧ Below w.heap.size w w'
def PutS (name : Nm) (b : Ex) (n : Nat) : Prop := ∀ (t : Tr) (x : Ex) (cs cb : List Value) (B : Nat) (w : World), isNm name = true → t.depth < n → t.wf → t.bytes ≤ 12000 → asEx t = some x → FV nS w (fun k => k < B) t cs → FV nS w (fun k => k < B) (formOf b) cb → B ≤ w.heap.size →
    Calls Tryz.prog 78 #[.agg cs.toArray, .string (bs name), .agg cb.toArray] w fun e w' => PtPost B (formOf (putE name b x)) w e w'
theorem putE_atom {a : List UInt8} {x : Ex} {name : Nm} {b : Ex} (h : asEx (.atom a) = some x) (hn : isNm name = true) : putE name b x = if a = name then b else x := by
  simp only [asEx, atomEx] at h
  cases hm : numOf a with
  | some n =>
    simp only [hm, Option.some.injEq] at h
    subst h
    have hne : ¬ a = name := fun e => by subst e; rw [numOf_notNm hm] at hn; cases hn
    rw [if_neg hne]; rfl
  | none =>
    simp only [hm] at h
    split at h
    · simp only [Option.some.injEq] at h
      subst h
      rfl
    · cases h
set_option maxHeartbeats 1000000 in
theorem l2Put_atom (a : List UInt8) (x : Ex) (name : Nm) (b : Ex) (cb : List Value) (B : Nat) (w : World) (hn : isNm name = true) (ha0 : a ≠ []) (hx : asEx (.atom a) = some x) (hb : FV nS w (fun k => k < B) (formOf b) cb) (hB : B ≤ w.heap.size) :
    Calls Tryz.prog 78 #[.agg #[.string (bs a), .slice none 0 0], .string (bs name), .agg cb.toArray] w fun e w' => PtPost B (formOf (putE name b x)) w e w' := by
  have hc := putE_atom (b := b) hx hn
  have ha := atomne ha0
  have hf := formOf_eq _ _ hx
  obtain ⟨p, m, c, rfl⟩ := hb.node
  by_cases he : a = name
  · have HC := Lib.hid (show putE name b x = b by rw [hc, if_pos he])
    rw [HC.out]
    subst he
    clear hc hx hn hf
    have HF : Hid (∀ W, Below w.heap.size w W → FV nS W (fun k => k < B ∨ (w.heap.size ≤ k ∧ k < W.heap.size)) (formOf b) (nS (formOf b) (.slice p m c))) := Lib.hid (fun W hW => FV.wide (hb.below hW (fun k hk => Nat.lt_of_lt_of_le hk hB)) (fun k hk => .inl hk))
    clear hb
    simp only [nS, List.toArray]
    generalize formOf b = T at *
    generalize hA : bs (atomOf T) = A
    go_enter Tryz.func78, Tryz.ntmps78
    go_wp2_with fail
    refine bodyPost_ret (v := .agg #[.string A, .slice p m c]) (by simp [results, Tryz.results78, go_sem]) rfl ?_
    rw [← hA]
    refine ⟨⟨p, m, c, rfl, HF.out _ ?_⟩, ?_⟩
    all_goals (repeat (first | exact Below.refl _ _ | (refine Below.alloc ?_ (by first | (simp; done) | (simp; omega)) _) | (refine Below.setCell ?_ (by first | (simp; done) | (simp; omega)) _)))
  · have HC := Lib.hid (show formOf (putE name b x) = .atom a by rw [hc, if_neg he, hf])
    rw [HC.out]
    have hx2 : ((bs a).toList == (bs name).toList) = false := by rw [bs_toList, bs_toList]; simpa using he
    have hx3 : ¬ (bs a).toList = (bs name).toList := by rw [bs_toList, bs_toList]; exact he
    have hat : bs (atomOf (.atom a)) = bs a := rfl
    clear he hc hx hn hf hb
    simp only [nS, List.toArray]
    generalize bs (atomOf (formOf b)) = A2
    go_enter Tryz.func78, Tryz.ntmps78
    go_wp2_with fail
    refine bodyPost_ret (v := .agg #[.string (bs a), .slice none 0 0]) (by simp [results, Tryz.results78, go_sem]) rfl ?_
    refine ⟨⟨none, 0, 0, rfl, rfl⟩, ?_⟩
    (repeat (first | exact Below.refl _ _ | (refine Below.alloc ?_ (by first | (simp; done) | (simp; omega)) _) | (refine Below.setCell ?_ (by first | (simp; done) | (simp; omega)) _)))
end Go.Proofs.YtfknoigbkleanaaGreatDoor
