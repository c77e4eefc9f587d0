/- The program reads 'let'. -/
import Derived.Test.YtlinjnflhpldfaaGreatDoorImpl2b
import Derived.Test.YtlinjnflhpldfaaGreatDoorImpl1f
namespace Go.Proofs.YtlinjnflhpldfaaGreatDoor
open Go.RowKit
set_option maxRecDepth 8000
set_option linter.unusedSimpArgs false
set_option linter.unusedVariables false
theorem size_ofI {ok : Nat → Prop} {w w' : World} {B : Nat} (hok : ∀ k, ok k → k < w.heap.size) (h : Below B w w') : ∀ k, ok k → k < w'.heap.size := fun k hk => Nat.lt_of_lt_of_le (hok k hk) h.size
theorem atomOf_lenI : ∀ t : Tr, (atomOf t).length ≤ t.bytes
  | .atom a => Nat.le_refl _
  | .list ts => Nat.zero_le _
/-- The contract of asExpr at forms of a depth below n. -/
def AsExC (n : Nat) : Prop := ∀ (t : Tr) (p : Option Addr) (m c : Nat) (ok : Nat → Prop) (w : World), t.depth < n → t.wf → t.bytes ≤ 12000 → FV nI w ok t (nI t (.slice p m c)) → (∀ k, ok k → k < w.heap.size) →
    Calls Tryz.prog 58 #[.agg #[.string (bs (atomOf t)), .slice p m c, .int .i64 t.bytes, .int .i64 t.size, .int .i64 t.depth]] w fun e w' => ExPost ok (asEx t) e w' ∧ Below w.heap.size w w'
/-- What asExpr hands back, when it is known. -/
theorem asEx_none {n : Nat} (ih : AsExC n) {t : Tr} {p : Option Addr} {m c : Nat} {ok : Nat → Prop} {w : World} (hd : t.depth < n) (hw : t.wf) (hb : t.bytes ≤ 12000) (hv : FV nI w ok t (nI t (.slice p m c))) (hok : ∀ k, ok k → k < w.heap.size) (he : asEx t = none) :
    Hid (∀ W, Below w.heap.size w W → Calls Tryz.prog 58 #[.agg #[.string (bs (atomOf t)), .slice p m c, .int .i64 t.bytes, .int .i64 t.size, .int .i64 t.depth]] W fun e w' => (e = .returned (.tuple #[.nilIface, .bool false]) ∨ ∃ T u, e = .returned (.tuple #[.iface T u, .bool false])) ∧ Below W.heap.size W w') :=
  Lib.hid (fun W hW => (ih t p m c ok W hd hw hb (hv.below hW hok) (size_ofI hok hW)).mono fun e w' ⟨h1, h2⟩ => ⟨by rw [he] at h1; exact h1, h2⟩)
theorem asEx_some {n : Nat} (ih : AsExC n) {t : Tr} {p : Option Addr} {m c : Nat} {ok : Nat → Prop} {w : World} (hd : t.depth < n) (hw : t.wf) (hb : t.bytes ≤ 12000) (hv : FV nI w ok t (nI t (.slice p m c))) (hok : ∀ k, ok k → k < w.heap.size) {x : Ex} (he : asEx t = some x) :
    Hid (∀ W, Below w.heap.size w W → Calls Tryz.prog 58 #[.agg #[.string (bs (atomOf t)), .slice p m c, .int .i64 t.bytes, .int .i64 t.size, .int .i64 t.depth]] W fun e w' => (∃ v, e = .returned (.tuple #[v, .bool true]) ∧ EV w' ok x v) ∧ Below W.heap.size W w') :=
  Lib.hid (fun W hW => (ih t p m c ok W hd hw hb (hv.below hW hok) (size_ofI hok hW)).mono fun e w' ⟨h1, h2⟩ => ⟨by rw [he] at h1; exact h1, h2⟩)
set_option maxHeartbeats 400000 in
theorem asLet_bad (p : Option Addr) (m c : Nat) (hm : m ≠ 3) (hm2 : m ≤ 1000000000) (w : World) :
    Calls Tryz.prog 81 #[.slice p m c] w fun e w' => e = .returned (.tuple #[.nilIface, .bool false]) ∧ Below w.heap.size w w' := by
  have hl' : ((m : Int) == 3) = false := by simp; omega
  have hl2 : ¬ (m : Int) = 3 := by omega
  go_enter Tryz.func81, Tryz.ntmps81
  go_wp2_with fail
  go_ret2
  exact ⟨rfl, Below.refl _ _⟩
set_option maxHeartbeats 2000000 in
theorem asLet_c (n : Nat) (ih : AsExC n) (x a b : Tr) (c : Nat) (ok : Nat → Prop) (w : World) (r off : Nat) (xs : List Value) (hda : a.depth < n) (hdb : b.depth < n) (hwa : a.wf) (hwb : b.wf) (hbx : x.bytes ≤ 12000) (hba : a.bytes ≤ 12000) (hbb : b.bytes ≤ 12000)
    (h5 : hasRow w r off xs) (h6 : FVs nI w ok [x, a, b] xs) (hrlt : r < w.heap.size) (hok : ∀ k, ok k → k < w.heap.size) (hc : 3 ≤ c) (hc2 : c ≤ maxLen) :
    Calls Tryz.prog 81 #[.slice (some ⟨r, off, none⟩) 3 c] w fun e w' => ExPost ok (asLetE [x, a, b]) e w' ∧ Below w.heap.size w w' := by
  have hc3 := maxLen_le hc2
  obtain ⟨⟨p0, n0, q0, v0, r0⟩, ⟨p1, n1, q1, v1, r1⟩, ⟨p2, n2, q2, v2, r2⟩⟩ := FVs.three nI_len h6 h5
  have e0 : w.cell? ⟨r, off, none⟩ = some (.string (bs (atomOf x))) := r0 0 _ rfl
  have a1 : w.cell? ⟨r, off + 5, none⟩ = some (.string (bs (atomOf a))) := r1 0 _ rfl
  have a2 : w.cell? ⟨r, off + 5 + 1, none⟩ = some (.slice p1 n1 q1) := r1 1 _ rfl
  have a3 : w.cell? ⟨r, off + 5 + 2, none⟩ = some (.int .i64 a.bytes) := r1 2 _ rfl
  have a4 : w.cell? ⟨r, off + 5 + 3, none⟩ = some (.int .i64 a.size) := r1 3 _ rfl
  have a5 : w.cell? ⟨r, off + 5 + 4, none⟩ = some (.int .i64 a.depth) := r1 4 _ rfl
  have b1 : w.cell? ⟨r, off + 10, none⟩ = some (.string (bs (atomOf b))) := r2 0 _ rfl
  have b2 : w.cell? ⟨r, off + 10 + 1, none⟩ = some (.slice p2 n2 q2) := r2 1 _ rfl
  have b3 : w.cell? ⟨r, off + 10 + 2, none⟩ = some (.int .i64 b.bytes) := r2 2 _ rfl
  have b4 : w.cell? ⟨r, off + 10 + 3, none⟩ = some (.int .i64 b.size) := r2 3 _ rfl
  have b5 : w.cell? ⟨r, off + 10 + 4, none⟩ = some (.int .i64 b.depth) := r2 4 _ rfl
  have hlx : (atomOf x).length ≤ 1048576 := by have := atomOf_lenI x; omega
  have CN : Hid (∀ W, Calls Tryz.prog 46 #[.string (bs (atomOf x))] W fun e w' => e = .returned (.bool (isNm (atomOf x))) ∧ w' = W) := Lib.hid (fun W => isName_bs _ hlx W)
  clear r0 r1 r2 h5 h6 hlx
  cases hx : isNm (atomOf x) with
  | false =>
    have HA := Lib.hid (show asLetE [x, a, b] = none by simp [asLetE, hx])
    rw [hx] at CN
    clear ih hx
    go_enter Tryz.func81, Tryz.ntmps81
    go_wp2_with (go_at_call 46; go_must (refine (CN.out _).mono ?_; rintro e w1 ⟨rfl, rfl⟩))
    go_ret2
    exact ⟨ExPost.nil HA.out, Below.refl _ _⟩
  | true =>
    rw [hx] at CN
    cases ha : asEx a with
    | none =>
      have HA := Lib.hid (show asLetE [x, a, b] = none by simp [asLetE, hx, ha])
      have CE := asEx_none ih hda hwa hba v1 hok ha
      clear ih hx ha
      go_enter Tryz.func81, Tryz.ntmps81
      go_wp2_with (first | (go_at_call 46; go_must (refine (CN.out _).mono ?_; rintro e w1 ⟨rfl, rfl⟩)) | (go_at_call 58; (with_reducible refine (CE.out _ (Below.refl _ _)).mono ?_); rintro e w1 ⟨(rfl | ⟨T1, u1, rfl⟩), hb1⟩; have g0 := (hb1.cell (p := ⟨r, off, none⟩) hrlt).trans e0; have k1 := (hb1.cell (p := ⟨r, off + 10, none⟩) hrlt).trans b1; have k2 := (hb1.cell (p := ⟨r, off + 10 + 1, none⟩) hrlt).trans b2; have k3 := (hb1.cell (p := ⟨r, off + 10 + 2, none⟩) hrlt).trans b3; have k4 := (hb1.cell (p := ⟨r, off + 10 + 3, none⟩) hrlt).trans b4; have k5 := (hb1.cell (p := ⟨r, off + 10 + 4, none⟩) hrlt).trans b5))
      all_goals
        go_ret2
        exact ⟨ExPost.nil HA.out, (by assumption)⟩
    | some ea =>
      have CE := asEx_some ih hda hwa hba v1 hok ha
      cases hb : asEx b with
      | none =>
        have HA := Lib.hid (show asLetE [x, a, b] = none by simp [asLetE, hx, ha, hb])
        have CB := asEx_none ih hdb hwb hbb v2 hok hb
        clear ih hx ha hb
        go_enter Tryz.func81, Tryz.ntmps81
        go_wp2_with (first | (go_at_call 46; go_must (refine (CN.out _).mono ?_; rintro e w1 ⟨rfl, rfl⟩)) | (go_at_call 58; (with_reducible refine (CE.out _ (Below.refl _ _)).mono ?_); rintro e w1 ⟨⟨v1, rfl, hev1⟩, hb1⟩; obtain ⟨T1, u1, rfl⟩ := hev1.iface; have g0 := (hb1.cell (p := ⟨r, off, none⟩) hrlt).trans e0; have k1 := (hb1.cell (p := ⟨r, off + 10, none⟩) hrlt).trans b1; have k2 := (hb1.cell (p := ⟨r, off + 10 + 1, none⟩) hrlt).trans b2; have k3 := (hb1.cell (p := ⟨r, off + 10 + 2, none⟩) hrlt).trans b3; have k4 := (hb1.cell (p := ⟨r, off + 10 + 3, none⟩) hrlt).trans b4; have k5 := (hb1.cell (p := ⟨r, off + 10 + 4, none⟩) hrlt).trans b5) | (go_at_call 58; refine (CB.out _ hb1).mono ?_; (rintro e w2 ⟨(rfl | ⟨T2, u2, rfl⟩), hb2⟩) <;> have j0 := (hb2.cell (p := ⟨r, off, none⟩) (Nat.lt_of_lt_of_le hrlt hb1.size)).trans g0))
        all_goals
          go_ret2
          exact ⟨ExPost.none HA.out _ _, hb1.trans (hb2.mono hb1.size)⟩
      | some eb =>
        have HA := Lib.hid (show asLetE [x, a, b] = some (.lete (atomOf x) ea eb) by simp [asLetE, hx, ha, hb])
        have CB := asEx_some ih hdb hwb hbb v2 hok hb
        clear ih hx ha hb
        go_enter Tryz.func81, Tryz.ntmps81
        go_wp2_with (first | (go_at_call 46; go_must (refine (CN.out _).mono ?_; rintro e w1 ⟨rfl, rfl⟩)) | (go_at_call 58; (with_reducible refine (CE.out _ (Below.refl _ _)).mono ?_); rintro e w1 ⟨⟨v1, rfl, hev1⟩, hb1⟩; obtain ⟨T1, u1, rfl⟩ := hev1.iface; have g0 := (hb1.cell (p := ⟨r, off, none⟩) hrlt).trans e0; have k1 := (hb1.cell (p := ⟨r, off + 10, none⟩) hrlt).trans b1; have k2 := (hb1.cell (p := ⟨r, off + 10 + 1, none⟩) hrlt).trans b2; have k3 := (hb1.cell (p := ⟨r, off + 10 + 2, none⟩) hrlt).trans b3; have k4 := (hb1.cell (p := ⟨r, off + 10 + 3, none⟩) hrlt).trans b4; have k5 := (hb1.cell (p := ⟨r, off + 10 + 4, none⟩) hrlt).trans b5) | (go_at_call 58; refine (CB.out _ hb1).mono ?_; (rintro e w2 ⟨⟨v2, rfl, hev2⟩, hb2⟩; obtain ⟨T2, u2, rfl⟩ := hev2.iface) <;> have j0 := (hb2.cell (p := ⟨r, off, none⟩) (Nat.lt_of_lt_of_le hrlt hb1.size)).trans g0))
        go_ret2
        exact ⟨ExPost.some HA.out ⟨_, _, rfl, hev1.below hb2 (size_ofI hok hb1), hev2⟩, hb1.trans (hb2.mono hb1.size)⟩
end Go.Proofs.YtlinjnflhpldfaaGreatDoor
