/- The program's free places: what binds no names. -/
import Derived.Test.YtjfjlfhckfoehaaGreatDoorI2j
namespace Go.Proofs.YtjfjlfhckfoehaaGreatDoor
open Go.RowKit
set_option maxRecDepth 8000
set_option linter.unusedSimpArgs false
set_option linter.unusedVariables false
/-- How many names and numerals there are. -/
def lvs : Ex → Nat
  | .name _ => 1
  | .num _ => 1
  | .two _ a b => lvs a + lvs b
  | .one _ a => lvs a
  | .cond a b c => lvs a + lvs b + lvs c
  | .lete _ e b => lvs e + lvs b
  | .func _ _ _ _ e => lvs e
theorem freeP_lvs : ∀ x : Ex, (freeP x).length ≤ lvs x
  | .name _ => Nat.le_refl _
  | .num _ => Nat.zero_le _
  | .two _ a b => by have := freeP_lvs a; have := freeP_lvs b; simp only [freeP, lvs, List.length_append]; omega
  | .one _ a => freeP_lvs a
  | .cond a b c => by have := freeP_lvs a; have := freeP_lvs b; have := freeP_lvs c; simp only [freeP, lvs, List.length_append]; omega
  | .lete x e b => by have := freeP_lvs e; have := freeP_lvs b; have := rm_len [x] (freeP b); simp only [freeP, lvs, List.length_append]; omega
  | .func f x _ _ e => by have := freeP_lvs e; have := rm_len [f, x] (freeP e); simp only [freeP, lvs]; omega
def FpPost (w : World) (P : List Nm) (e : Ending) (w' : World) : Prop := (∃ v, e = .returned v ∧ w'.ownsRow w.heap.size 9 1 v P.length (P.map strV)) ∧ Below w.heap.size w w'
def FpC (x : Ex) : Prop := ∀ (v : Value) (ok : Nat → Prop) (w : World), lvs x ≤ 100000 → EV w ok x v → (∀ k, ok k → k < w.heap.size) → Calls Tryz.prog 108 #[v] w (FpPost w (freeP x))
theorem owns_made {w : World} {b base : Nat} {l : List Nm} (h : w.heap[b]? = some (.cells (l.map strV).toArray 9 (0, 0))) (hb : base ≤ b) (hl : l.length ≤ 1000000) : w.ownsRow base 9 1 (.slice (some ⟨b, 0, none⟩) l.length l.length) l.length (l.map strV) :=
  ⟨by simp, .inr ⟨b, l.length, _, rfl, hb, h, Nat.le_refl _, by unfold maxLen; omega, by simp, List.take_of_length_le (by simp)⟩⟩
theorem own_lt {w : World} {base : Nat} {e : TypeId} {size : Nat} {v : Value} {n : Nat} {xs : List Value} (h : w.ownsRow base e size v n xs) {k : Nat} (hk : v.ownBlock = some k) : base ≤ k ∧ k < w.heap.size := h.lt k hk
structure FpInv (w : World) (b : Nat) (kvs : List Value) (P : List Nm) (v1 : Value) (wr : World) : Prop where
  own : wr.ownsRow w.heap.size 9 1 v1 P.length (P.map strV)
  below : Below w.heap.size w wr
  blk : wr.heap[b]? = some (.cells kvs.toArray 48 (0, 0))
  ne : v1.ownBlock ≠ some b
theorem below_grown2 {w wr w2 w3 : World} {row : Option Nat} (h : Below w.heap.size w wr) (h2 : Below wr.heap.size wr w2) (hg : w2.grownBy w3 row) (hr : ∀ k, row = some k → w.heap.size ≤ k) : Below w.heap.size w w3 :=
  have h12 := h.trans (h2.mono h.size)
  ⟨hg.os.trans h12.os, hg.tape.trans h12.tape, hg.output.trans h12.output, Nat.le_trans h12.size hg.size, fun k hk => (hg.block k (Nat.lt_of_lt_of_le hk h12.size) (fun e => by have := hr k e.symm; omega)).trans (h12.block k hk)⟩
theorem FpInv.step {w wr w2 w3 : World} {b : Nat} {kvs : List Value} {P Q : List Nm} {v1 v3 : Value} (h : FpInv w b kvs P v1 wr) (h2 : Below wr.heap.size wr w2) (hg : w2.grownBy w3 v1.ownBlock)
    (ho : w3.ownsRow w.heap.size 9 1 v3 (P ++ Q).length ((P ++ Q).map strV)) (hv : v3.ownBlock = v1.ownBlock ∨ v3.ownBlock = some w2.heap.size) : FpInv w b kvs (P ++ Q) v3 w3 where
  own := ho
  below := below_grown2 h.below h2 hg (fun k hk => (own_lt h.own hk).1)
  blk := by
    have hb := lt_of_block h.blk
    rw [hg.block b (Nat.lt_of_lt_of_le hb h2.size) (fun e => h.ne e.symm), h2.block b hb]
    exact h.blk
  ne := by
    have hb := lt_of_block h.blk
    rcases hv with hv | hv
    · rw [hv]; exact h.ne
    · rw [hv]; intro e; have := h2.size; simp at e; omega
theorem FpInv.start {w w1 : World} {b : Nat} {kvs : List Value} (h1 : Below w.heap.size w w1) (hb : w1.heap[b]? = some (.cells kvs.toArray 48 (0, 0))) : FpInv w b kvs [] (.slice none 0 0) w1 where
  own := World.ownsRow_nil w1 _ _ _
  below := h1
  blk := hb
  ne := by simp [Value.ownBlock]
theorem FpInv.fin {w wr : World} {b : Nat} {kvs : List Value} {P : List Nm} {v1 : Value} (h : FpInv w b kvs P v1 wr) : FpPost w P (.returned v1) wr := ⟨⟨v1, rfl, h.own⟩, h.below⟩
/-- The kids, and their values with their contracts. -/
def KidC (w : World) (ks : List Ex) (kvs : List Value) : Prop := ∀ j (hj : j < ks.length), ∃ T u, kvs[j]? = some (.iface T u) ∧ ∀ W, Below w.heap.size w W → Calls Tryz.prog 108 #[.iface T u] W (FpPost W (freeP ks[j]))
theorem kidC_of {x : Ex} {T : TypeId} {u : Value} {w : World} {ok : Nat → Prop} (ih : FpC x) (hl : lvs x ≤ 100000) (hv : EV w ok x (.iface T u)) (hok : ∀ k, ok k → k < w.heap.size) : ∀ W, Below w.heap.size w W → Calls Tryz.prog 108 #[.iface T u] W (FpPost W (freeP x)) :=
  fun W hW => ih _ ok W hl (hv.below hW hok) (fun k hk => Nat.lt_of_lt_of_le (hok k hk) hW.size)
theorem fp_name (s : Nm) : FpC (.name s) := by
  intro v ok w hl hv hok
  simp only [EV] at hv
  subst hv
  rw [show freeP (.name s) = [s] from rfl]
  clear hl
  go_enter Tryz.func108, Tryz.ntmps108
  go_wp2_with fail
  go_ret
  exact ⟨⟨_, rfl, owns_made (l := [s]) (heap_alloc_new2 _ _ _) (by omega) (by simp)⟩, (below2 _ _ _).trans (Below.refl _ _)⟩
theorem fp_num (n : Int) : FpC (.num n) := by
  intro v ok w hl hv hok
  simp only [EV] at hv
  subst hv
  rw [show freeP (.num n) = [] from rfl]
  clear hl
  go_enter Tryz.func108, Tryz.ntmps108
  go_wp2_with (go_at_call 263; go_must (refine (kids_numberExpr_c _ _).mono ?_; rintro e w1 ⟨rfl, hb1⟩))
  refine wp_loop_rounds 1 ?_
  rw [rounds_succ]
  go_wp2_with fail
  go_ret
  exact ⟨⟨_, rfl, World.ownsRow_nil _ _ _ _⟩, hb1⟩
set_option maxHeartbeats 1000000 in
theorem fp_add (a b : Ex) (iha : FpC a) (ihb : FpC b) : FpC (Ex.two Op2.add a b) := by
  intro v ok w hl hv hok
  simp only [EV] at hv
  obtain ⟨x, y, rfl, hx, hy⟩ := hv
  obtain ⟨Tx, ux, rfl⟩ := hx.iface
  obtain ⟨Ty, uy, rfl⟩ := hy.iface
  simp only [lvs] at hl
  have HK : Hid (KidC w (kidsE (Ex.two Op2.add a b)) [Value.iface Tx ux, Value.iface Ty uy]) := Lib.hid (by
    intro j hj
    match j, hj with
    | 0, _ => exact ⟨_, _, rfl, kidC_of (x := a) iha (by omega) hx hok⟩
    | 1, _ => exact ⟨_, _, rfl, kidC_of (x := b) ihb (by omega) hy hok⟩
    )
  have HE := Lib.hid (freeP_kids (Ex.two Op2.add a b) trivial)
  have HB : Hid (∀ j, bindE (Ex.two Op2.add a b) j = []) := Lib.hid (fun _ => rfl)
  have hlen : (kidsE (Ex.two Op2.add a b)).length = 2 := rfl
  have hLv : Hid (∀ j, (freeKs (bindE (Ex.two Op2.add a b)) 0 ((kidsE (Ex.two Op2.add a b)).take j)).length ≤ 100000) := Lib.hid (fun j => by
    have h1 := (freeKs_pre (bindE (Ex.two Op2.add a b)) (kidsE (Ex.two Op2.add a b)) j 0).length_le
    rw [← freeP_kids (Ex.two Op2.add a b) trivial] at h1
    have h2 := freeP_lvs (Ex.two Op2.add a b)
    simp only [lvs] at h2
    omega)
  obtain ⟨i0, hi0, hz0, hz1, hz2⟩ := info_parts Tryz.infoStr
  rw [HE.out]
  generalize hX : (Ex.two Op2.add a b) = X at *
  try simp only [op2T, op1T]
  obtain ⟨kvs, hkvs⟩ : ∃ kvs, kvs = [Value.iface Tx ux, Value.iface Ty uy] := ⟨_, rfl⟩
  rw [← hkvs] at HK
  have Hkv := Lib.hid hkvs
  clear hkvs
  clear HE hx hy iha ihb hl
  go_enter Tryz.func108, Tryz.ntmps108
  go_wp2_with (go_at_call 258; go_must (refine (kids_twoKids_c Tx Ty ux uy _).mono ?_; rintro e w1 ⟨⟨b, rfl, hbB, hbl, hblk⟩, hb1⟩))
  have hS := Lib.hid (FpInv.start hb1 hblk)
  clear hblk
  rw [← Hkv.out] at hS
  clear Hkv
  go_loopw [6, 45] (fun v1 i wr => ∃ j : Nat, j ≤ 2 ∧ i = .int .i64 j ∧ Hid (FpInv w b kvs (freeKs (bindE X) 0 ((kidsE X).take j)) v1 wr)) (fun _ i _ => 2 - (intOf i).toNat)
  case atStart => exact ⟨0, Nat.zero_le _, rfl, hS⟩
  case round =>
    obtain ⟨j, hj, rfl, hI⟩ := hrel
    by_cases hlt : j < 2
    · have hjl : j < (kidsE X).length := by omega
      obtain ⟨T, u, hkv, HC⟩ := HK.out j hjl
      have c0 : wr.cell? ⟨b, j, none⟩ = some (.iface T u) := by rw [cell_of hI.out.blk]; simpa using hkv
      have C := Lib.hid (HC wr hI.out.below)
      have HS := Lib.hid (show freeKs (bindE X) 0 ((kidsE X).take (j + 1)) = freeKs (bindE X) 0 ((kidsE X).take j) ++ freeP ((kidsE X)[j]) by rw [freeKs_take _ _ _ hjl, HB.out, rm_nil])
      have hl2 := hLv.out (j + 1)
      rw [HS.out, List.length_append] at hl2
      have hsz := hI.out.below.size
      have HO := Lib.hid hI.out.own
      generalize freeP ((kidsE X)[j]) = Q at *
      generalize freeKs (bindE X) 0 ((kidsE X).take j) = P0 at *
      obtain ⟨p1, c1, rfl⟩ := owns_slice HO.out
      clear HC hkv HB HK hLv
      go_wp2_with (first | (go_at_call 108; go_must (refine (C.out).mono ?_; rintro e w2 ⟨⟨v2, rfl, ho2⟩, hb2⟩)) | (at_builtin; go_must (refine wpList_append_str _ rfl _ _ 27 rfl w.heap.size 9 i0 Tryz.underlying27 hi0 hz0 hz1 hz2 _ P0 rfl (owns_below HO.out hb2) _ Q rfl (owns_strS6 ho2 (by omega)) (by omega) (by have := hb2.size; omega) ?_; intro v3 w3 ho3 hg3 hv3)))
      go_roundw
      case rel => exact ⟨j + 1, by omega, by go_num, Lib.hid (by rw [HS.out]; exact hI.out.step hb2 hg3 ho3 hv3)⟩
      case measure => simp [intOf]; omega
    · have : j = 2 := by omega
      subst this
      have hF := hI.out.fin
      rw [List.take_of_length_le (by omega)] at hF
      have hF := Lib.hid hF
      clear hI HK HB hLv
      go_wp2_with fail
      go_ret
      exact hF.out
set_option maxHeartbeats 1000000 in
theorem fp_sub (a b : Ex) (iha : FpC a) (ihb : FpC b) : FpC (Ex.two Op2.sub a b) := by
  intro v ok w hl hv hok
  simp only [EV] at hv
  obtain ⟨x, y, rfl, hx, hy⟩ := hv
  obtain ⟨Tx, ux, rfl⟩ := hx.iface
  obtain ⟨Ty, uy, rfl⟩ := hy.iface
  simp only [lvs] at hl
  have HK : Hid (KidC w (kidsE (Ex.two Op2.sub a b)) [Value.iface Tx ux, Value.iface Ty uy]) := Lib.hid (by
    intro j hj
    match j, hj with
    | 0, _ => exact ⟨_, _, rfl, kidC_of (x := a) iha (by omega) hx hok⟩
    | 1, _ => exact ⟨_, _, rfl, kidC_of (x := b) ihb (by omega) hy hok⟩
    )
  have HE := Lib.hid (freeP_kids (Ex.two Op2.sub a b) trivial)
  have HB : Hid (∀ j, bindE (Ex.two Op2.sub a b) j = []) := Lib.hid (fun _ => rfl)
  have hlen : (kidsE (Ex.two Op2.sub a b)).length = 2 := rfl
  have hLv : Hid (∀ j, (freeKs (bindE (Ex.two Op2.sub a b)) 0 ((kidsE (Ex.two Op2.sub a b)).take j)).length ≤ 100000) := Lib.hid (fun j => by
    have h1 := (freeKs_pre (bindE (Ex.two Op2.sub a b)) (kidsE (Ex.two Op2.sub a b)) j 0).length_le
    rw [← freeP_kids (Ex.two Op2.sub a b) trivial] at h1
    have h2 := freeP_lvs (Ex.two Op2.sub a b)
    simp only [lvs] at h2
    omega)
  obtain ⟨i0, hi0, hz0, hz1, hz2⟩ := info_parts Tryz.infoStr
  rw [HE.out]
  generalize hX : (Ex.two Op2.sub a b) = X at *
  try simp only [op2T, op1T]
  obtain ⟨kvs, hkvs⟩ : ∃ kvs, kvs = [Value.iface Tx ux, Value.iface Ty uy] := ⟨_, rfl⟩
  rw [← hkvs] at HK
  have Hkv := Lib.hid hkvs
  clear hkvs
  clear HE hx hy iha ihb hl
  go_enter Tryz.func108, Tryz.ntmps108
  go_wp2_with (go_at_call 258; go_must (refine (kids_twoKids_c Tx Ty ux uy _).mono ?_; rintro e w1 ⟨⟨b, rfl, hbB, hbl, hblk⟩, hb1⟩))
  have hS := Lib.hid (FpInv.start hb1 hblk)
  clear hblk
  rw [← Hkv.out] at hS
  clear Hkv
  go_loopw [6, 45] (fun v1 i wr => ∃ j : Nat, j ≤ 2 ∧ i = .int .i64 j ∧ Hid (FpInv w b kvs (freeKs (bindE X) 0 ((kidsE X).take j)) v1 wr)) (fun _ i _ => 2 - (intOf i).toNat)
  case atStart => exact ⟨0, Nat.zero_le _, rfl, hS⟩
  case round =>
    obtain ⟨j, hj, rfl, hI⟩ := hrel
    by_cases hlt : j < 2
    · have hjl : j < (kidsE X).length := by omega
      obtain ⟨T, u, hkv, HC⟩ := HK.out j hjl
      have c0 : wr.cell? ⟨b, j, none⟩ = some (.iface T u) := by rw [cell_of hI.out.blk]; simpa using hkv
      have C := Lib.hid (HC wr hI.out.below)
      have HS := Lib.hid (show freeKs (bindE X) 0 ((kidsE X).take (j + 1)) = freeKs (bindE X) 0 ((kidsE X).take j) ++ freeP ((kidsE X)[j]) by rw [freeKs_take _ _ _ hjl, HB.out, rm_nil])
      have hl2 := hLv.out (j + 1)
      rw [HS.out, List.length_append] at hl2
      have hsz := hI.out.below.size
      have HO := Lib.hid hI.out.own
      generalize freeP ((kidsE X)[j]) = Q at *
      generalize freeKs (bindE X) 0 ((kidsE X).take j) = P0 at *
      obtain ⟨p1, c1, rfl⟩ := owns_slice HO.out
      clear HC hkv HB HK hLv
      go_wp2_with (first | (go_at_call 108; go_must (refine (C.out).mono ?_; rintro e w2 ⟨⟨v2, rfl, ho2⟩, hb2⟩)) | (at_builtin; go_must (refine wpList_append_str _ rfl _ _ 27 rfl w.heap.size 9 i0 Tryz.underlying27 hi0 hz0 hz1 hz2 _ P0 rfl (owns_below HO.out hb2) _ Q rfl (owns_strS6 ho2 (by omega)) (by omega) (by have := hb2.size; omega) ?_; intro v3 w3 ho3 hg3 hv3)))
      go_roundw
      case rel => exact ⟨j + 1, by omega, by go_num, Lib.hid (by rw [HS.out]; exact hI.out.step hb2 hg3 ho3 hv3)⟩
      case measure => simp [intOf]; omega
    · have : j = 2 := by omega
      subst this
      have hF := hI.out.fin
      rw [List.take_of_length_le (by omega)] at hF
      have hF := Lib.hid hF
      clear hI HK HB hLv
      go_wp2_with fail
      go_ret
      exact hF.out
set_option maxHeartbeats 1000000 in
theorem fp_mul (a b : Ex) (iha : FpC a) (ihb : FpC b) : FpC (Ex.two Op2.mul a b) := by
  intro v ok w hl hv hok
  simp only [EV] at hv
  obtain ⟨x, y, rfl, hx, hy⟩ := hv
  obtain ⟨Tx, ux, rfl⟩ := hx.iface
  obtain ⟨Ty, uy, rfl⟩ := hy.iface
  simp only [lvs] at hl
  have HK : Hid (KidC w (kidsE (Ex.two Op2.mul a b)) [Value.iface Tx ux, Value.iface Ty uy]) := Lib.hid (by
    intro j hj
    match j, hj with
    | 0, _ => exact ⟨_, _, rfl, kidC_of (x := a) iha (by omega) hx hok⟩
    | 1, _ => exact ⟨_, _, rfl, kidC_of (x := b) ihb (by omega) hy hok⟩
    )
  have HE := Lib.hid (freeP_kids (Ex.two Op2.mul a b) trivial)
  have HB : Hid (∀ j, bindE (Ex.two Op2.mul a b) j = []) := Lib.hid (fun _ => rfl)
  have hlen : (kidsE (Ex.two Op2.mul a b)).length = 2 := rfl
  have hLv : Hid (∀ j, (freeKs (bindE (Ex.two Op2.mul a b)) 0 ((kidsE (Ex.two Op2.mul a b)).take j)).length ≤ 100000) := Lib.hid (fun j => by
    have h1 := (freeKs_pre (bindE (Ex.two Op2.mul a b)) (kidsE (Ex.two Op2.mul a b)) j 0).length_le
    rw [← freeP_kids (Ex.two Op2.mul a b) trivial] at h1
    have h2 := freeP_lvs (Ex.two Op2.mul a b)
    simp only [lvs] at h2
    omega)
  obtain ⟨i0, hi0, hz0, hz1, hz2⟩ := info_parts Tryz.infoStr
  rw [HE.out]
  generalize hX : (Ex.two Op2.mul a b) = X at *
  try simp only [op2T, op1T]
  obtain ⟨kvs, hkvs⟩ : ∃ kvs, kvs = [Value.iface Tx ux, Value.iface Ty uy] := ⟨_, rfl⟩
  rw [← hkvs] at HK
  have Hkv := Lib.hid hkvs
  clear hkvs
  clear HE hx hy iha ihb hl
  go_enter Tryz.func108, Tryz.ntmps108
  go_wp2_with (go_at_call 258; go_must (refine (kids_twoKids_c Tx Ty ux uy _).mono ?_; rintro e w1 ⟨⟨b, rfl, hbB, hbl, hblk⟩, hb1⟩))
  have hS := Lib.hid (FpInv.start hb1 hblk)
  clear hblk
  rw [← Hkv.out] at hS
  clear Hkv
  go_loopw [6, 45] (fun v1 i wr => ∃ j : Nat, j ≤ 2 ∧ i = .int .i64 j ∧ Hid (FpInv w b kvs (freeKs (bindE X) 0 ((kidsE X).take j)) v1 wr)) (fun _ i _ => 2 - (intOf i).toNat)
  case atStart => exact ⟨0, Nat.zero_le _, rfl, hS⟩
  case round =>
    obtain ⟨j, hj, rfl, hI⟩ := hrel
    by_cases hlt : j < 2
    · have hjl : j < (kidsE X).length := by omega
      obtain ⟨T, u, hkv, HC⟩ := HK.out j hjl
      have c0 : wr.cell? ⟨b, j, none⟩ = some (.iface T u) := by rw [cell_of hI.out.blk]; simpa using hkv
      have C := Lib.hid (HC wr hI.out.below)
      have HS := Lib.hid (show freeKs (bindE X) 0 ((kidsE X).take (j + 1)) = freeKs (bindE X) 0 ((kidsE X).take j) ++ freeP ((kidsE X)[j]) by rw [freeKs_take _ _ _ hjl, HB.out, rm_nil])
      have hl2 := hLv.out (j + 1)
      rw [HS.out, List.length_append] at hl2
      have hsz := hI.out.below.size
      have HO := Lib.hid hI.out.own
      generalize freeP ((kidsE X)[j]) = Q at *
      generalize freeKs (bindE X) 0 ((kidsE X).take j) = P0 at *
      obtain ⟨p1, c1, rfl⟩ := owns_slice HO.out
      clear HC hkv HB HK hLv
      go_wp2_with (first | (go_at_call 108; go_must (refine (C.out).mono ?_; rintro e w2 ⟨⟨v2, rfl, ho2⟩, hb2⟩)) | (at_builtin; go_must (refine wpList_append_str _ rfl _ _ 27 rfl w.heap.size 9 i0 Tryz.underlying27 hi0 hz0 hz1 hz2 _ P0 rfl (owns_below HO.out hb2) _ Q rfl (owns_strS6 ho2 (by omega)) (by omega) (by have := hb2.size; omega) ?_; intro v3 w3 ho3 hg3 hv3)))
      go_roundw
      case rel => exact ⟨j + 1, by omega, by go_num, Lib.hid (by rw [HS.out]; exact hI.out.step hb2 hg3 ho3 hv3)⟩
      case measure => simp [intOf]; omega
    · have : j = 2 := by omega
      subst this
      have hF := hI.out.fin
      rw [List.take_of_length_le (by omega)] at hF
      have hF := Lib.hid hF
      clear hI HK HB hLv
      go_wp2_with fail
      go_ret
      exact hF.out
set_option maxHeartbeats 1000000 in
theorem fp_call (a b : Ex) (iha : FpC a) (ihb : FpC b) : FpC (Ex.two Op2.call a b) := by
  intro v ok w hl hv hok
  simp only [EV] at hv
  obtain ⟨x, y, rfl, hx, hy⟩ := hv
  obtain ⟨Tx, ux, rfl⟩ := hx.iface
  obtain ⟨Ty, uy, rfl⟩ := hy.iface
  simp only [lvs] at hl
  have HK : Hid (KidC w (kidsE (Ex.two Op2.call a b)) [Value.iface Tx ux, Value.iface Ty uy]) := Lib.hid (by
    intro j hj
    match j, hj with
    | 0, _ => exact ⟨_, _, rfl, kidC_of (x := a) iha (by omega) hx hok⟩
    | 1, _ => exact ⟨_, _, rfl, kidC_of (x := b) ihb (by omega) hy hok⟩
    )
  have HE := Lib.hid (freeP_kids (Ex.two Op2.call a b) trivial)
  have HB : Hid (∀ j, bindE (Ex.two Op2.call a b) j = []) := Lib.hid (fun _ => rfl)
  have hlen : (kidsE (Ex.two Op2.call a b)).length = 2 := rfl
  have hLv : Hid (∀ j, (freeKs (bindE (Ex.two Op2.call a b)) 0 ((kidsE (Ex.two Op2.call a b)).take j)).length ≤ 100000) := Lib.hid (fun j => by
    have h1 := (freeKs_pre (bindE (Ex.two Op2.call a b)) (kidsE (Ex.two Op2.call a b)) j 0).length_le
    rw [← freeP_kids (Ex.two Op2.call a b) trivial] at h1
    have h2 := freeP_lvs (Ex.two Op2.call a b)
    simp only [lvs] at h2
    omega)
  obtain ⟨i0, hi0, hz0, hz1, hz2⟩ := info_parts Tryz.infoStr
  rw [HE.out]
  generalize hX : (Ex.two Op2.call a b) = X at *
  try simp only [op2T, op1T]
  obtain ⟨kvs, hkvs⟩ : ∃ kvs, kvs = [Value.iface Tx ux, Value.iface Ty uy] := ⟨_, rfl⟩
  rw [← hkvs] at HK
  have Hkv := Lib.hid hkvs
  clear hkvs
  clear HE hx hy iha ihb hl
  go_enter Tryz.func108, Tryz.ntmps108
  go_wp2_with (go_at_call 258; go_must (refine (kids_twoKids_c Tx Ty ux uy _).mono ?_; rintro e w1 ⟨⟨b, rfl, hbB, hbl, hblk⟩, hb1⟩))
  have hS := Lib.hid (FpInv.start hb1 hblk)
  clear hblk
  rw [← Hkv.out] at hS
  clear Hkv
  go_loopw [6, 45] (fun v1 i wr => ∃ j : Nat, j ≤ 2 ∧ i = .int .i64 j ∧ Hid (FpInv w b kvs (freeKs (bindE X) 0 ((kidsE X).take j)) v1 wr)) (fun _ i _ => 2 - (intOf i).toNat)
  case atStart => exact ⟨0, Nat.zero_le _, rfl, hS⟩
  case round =>
    obtain ⟨j, hj, rfl, hI⟩ := hrel
    by_cases hlt : j < 2
    · have hjl : j < (kidsE X).length := by omega
      obtain ⟨T, u, hkv, HC⟩ := HK.out j hjl
      have c0 : wr.cell? ⟨b, j, none⟩ = some (.iface T u) := by rw [cell_of hI.out.blk]; simpa using hkv
      have C := Lib.hid (HC wr hI.out.below)
      have HS := Lib.hid (show freeKs (bindE X) 0 ((kidsE X).take (j + 1)) = freeKs (bindE X) 0 ((kidsE X).take j) ++ freeP ((kidsE X)[j]) by rw [freeKs_take _ _ _ hjl, HB.out, rm_nil])
      have hl2 := hLv.out (j + 1)
      rw [HS.out, List.length_append] at hl2
      have hsz := hI.out.below.size
      have HO := Lib.hid hI.out.own
      generalize freeP ((kidsE X)[j]) = Q at *
      generalize freeKs (bindE X) 0 ((kidsE X).take j) = P0 at *
      obtain ⟨p1, c1, rfl⟩ := owns_slice HO.out
      clear HC hkv HB HK hLv
      go_wp2_with (first | (go_at_call 108; go_must (refine (C.out).mono ?_; rintro e w2 ⟨⟨v2, rfl, ho2⟩, hb2⟩)) | (at_builtin; go_must (refine wpList_append_str _ rfl _ _ 27 rfl w.heap.size 9 i0 Tryz.underlying27 hi0 hz0 hz1 hz2 _ P0 rfl (owns_below HO.out hb2) _ Q rfl (owns_strS6 ho2 (by omega)) (by omega) (by have := hb2.size; omega) ?_; intro v3 w3 ho3 hg3 hv3)))
      go_roundw
      case rel => exact ⟨j + 1, by omega, by go_num, Lib.hid (by rw [HS.out]; exact hI.out.step hb2 hg3 ho3 hv3)⟩
      case measure => simp [intOf]; omega
    · have : j = 2 := by omega
      subst this
      have hF := hI.out.fin
      rw [List.take_of_length_le (by omega)] at hF
      have hF := Lib.hid hF
      clear hI HK HB hLv
      go_wp2_with fail
      go_ret
      exact hF.out
set_option maxHeartbeats 1000000 in
theorem fp_pair (a b : Ex) (iha : FpC a) (ihb : FpC b) : FpC (Ex.two Op2.pair a b) := by
  intro v ok w hl hv hok
  simp only [EV] at hv
  obtain ⟨x, y, rfl, hx, hy⟩ := hv
  obtain ⟨Tx, ux, rfl⟩ := hx.iface
  obtain ⟨Ty, uy, rfl⟩ := hy.iface
  simp only [lvs] at hl
  have HK : Hid (KidC w (kidsE (Ex.two Op2.pair a b)) [Value.iface Tx ux, Value.iface Ty uy]) := Lib.hid (by
    intro j hj
    match j, hj with
    | 0, _ => exact ⟨_, _, rfl, kidC_of (x := a) iha (by omega) hx hok⟩
    | 1, _ => exact ⟨_, _, rfl, kidC_of (x := b) ihb (by omega) hy hok⟩
    )
  have HE := Lib.hid (freeP_kids (Ex.two Op2.pair a b) trivial)
  have HB : Hid (∀ j, bindE (Ex.two Op2.pair a b) j = []) := Lib.hid (fun _ => rfl)
  have hlen : (kidsE (Ex.two Op2.pair a b)).length = 2 := rfl
  have hLv : Hid (∀ j, (freeKs (bindE (Ex.two Op2.pair a b)) 0 ((kidsE (Ex.two Op2.pair a b)).take j)).length ≤ 100000) := Lib.hid (fun j => by
    have h1 := (freeKs_pre (bindE (Ex.two Op2.pair a b)) (kidsE (Ex.two Op2.pair a b)) j 0).length_le
    rw [← freeP_kids (Ex.two Op2.pair a b) trivial] at h1
    have h2 := freeP_lvs (Ex.two Op2.pair a b)
    simp only [lvs] at h2
    omega)
  obtain ⟨i0, hi0, hz0, hz1, hz2⟩ := info_parts Tryz.infoStr
  rw [HE.out]
  generalize hX : (Ex.two Op2.pair a b) = X at *
  try simp only [op2T, op1T]
  obtain ⟨kvs, hkvs⟩ : ∃ kvs, kvs = [Value.iface Tx ux, Value.iface Ty uy] := ⟨_, rfl⟩
  rw [← hkvs] at HK
  have Hkv := Lib.hid hkvs
  clear hkvs
  clear HE hx hy iha ihb hl
  go_enter Tryz.func108, Tryz.ntmps108
  go_wp2_with (go_at_call 258; go_must (refine (kids_twoKids_c Tx Ty ux uy _).mono ?_; rintro e w1 ⟨⟨b, rfl, hbB, hbl, hblk⟩, hb1⟩))
  have hS := Lib.hid (FpInv.start hb1 hblk)
  clear hblk
  rw [← Hkv.out] at hS
  clear Hkv
  go_loopw [6, 45] (fun v1 i wr => ∃ j : Nat, j ≤ 2 ∧ i = .int .i64 j ∧ Hid (FpInv w b kvs (freeKs (bindE X) 0 ((kidsE X).take j)) v1 wr)) (fun _ i _ => 2 - (intOf i).toNat)
  case atStart => exact ⟨0, Nat.zero_le _, rfl, hS⟩
  case round =>
    obtain ⟨j, hj, rfl, hI⟩ := hrel
    by_cases hlt : j < 2
    · have hjl : j < (kidsE X).length := by omega
      obtain ⟨T, u, hkv, HC⟩ := HK.out j hjl
      have c0 : wr.cell? ⟨b, j, none⟩ = some (.iface T u) := by rw [cell_of hI.out.blk]; simpa using hkv
      have C := Lib.hid (HC wr hI.out.below)
      have HS := Lib.hid (show freeKs (bindE X) 0 ((kidsE X).take (j + 1)) = freeKs (bindE X) 0 ((kidsE X).take j) ++ freeP ((kidsE X)[j]) by rw [freeKs_take _ _ _ hjl, HB.out, rm_nil])
      have hl2 := hLv.out (j + 1)
      rw [HS.out, List.length_append] at hl2
      have hsz := hI.out.below.size
      have HO := Lib.hid hI.out.own
      generalize freeP ((kidsE X)[j]) = Q at *
      generalize freeKs (bindE X) 0 ((kidsE X).take j) = P0 at *
      obtain ⟨p1, c1, rfl⟩ := owns_slice HO.out
      clear HC hkv HB HK hLv
      go_wp2_with (first | (go_at_call 108; go_must (refine (C.out).mono ?_; rintro e w2 ⟨⟨v2, rfl, ho2⟩, hb2⟩)) | (at_builtin; go_must (refine wpList_append_str _ rfl _ _ 27 rfl w.heap.size 9 i0 Tryz.underlying27 hi0 hz0 hz1 hz2 _ P0 rfl (owns_below HO.out hb2) _ Q rfl (owns_strS6 ho2 (by omega)) (by omega) (by have := hb2.size; omega) ?_; intro v3 w3 ho3 hg3 hv3)))
      go_roundw
      case rel => exact ⟨j + 1, by omega, by go_num, Lib.hid (by rw [HS.out]; exact hI.out.step hb2 hg3 ho3 hv3)⟩
      case measure => simp [intOf]; omega
    · have : j = 2 := by omega
      subst this
      have hF := hI.out.fin
      rw [List.take_of_length_le (by omega)] at hF
      have hF := Lib.hid hF
      clear hI HK HB hLv
      go_wp2_with fail
      go_ret
      exact hF.out
set_option maxHeartbeats 1000000 in
theorem fp_fst (a : Ex) (iha : FpC a) : FpC (Ex.one Op1.fst a) := by
  intro v ok w hl hv hok
  simp only [EV] at hv
  obtain ⟨x, rfl, hx⟩ := hv
  obtain ⟨Tx, ux, rfl⟩ := hx.iface
  simp only [lvs] at hl
  have HK : Hid (KidC w (kidsE (Ex.one Op1.fst a)) [Value.iface Tx ux]) := Lib.hid (by
    intro j hj
    match j, hj with
    | 0, _ => exact ⟨_, _, rfl, kidC_of (x := a) iha (by omega) hx hok⟩
    )
  have HE := Lib.hid (freeP_kids (Ex.one Op1.fst a) trivial)
  have HB : Hid (∀ j, bindE (Ex.one Op1.fst a) j = []) := Lib.hid (fun _ => rfl)
  have hlen : (kidsE (Ex.one Op1.fst a)).length = 1 := rfl
  have hLv : Hid (∀ j, (freeKs (bindE (Ex.one Op1.fst a)) 0 ((kidsE (Ex.one Op1.fst a)).take j)).length ≤ 100000) := Lib.hid (fun j => by
    have h1 := (freeKs_pre (bindE (Ex.one Op1.fst a)) (kidsE (Ex.one Op1.fst a)) j 0).length_le
    rw [← freeP_kids (Ex.one Op1.fst a) trivial] at h1
    have h2 := freeP_lvs (Ex.one Op1.fst a)
    simp only [lvs] at h2
    omega)
  obtain ⟨i0, hi0, hz0, hz1, hz2⟩ := info_parts Tryz.infoStr
  rw [HE.out]
  generalize hX : (Ex.one Op1.fst a) = X at *
  try simp only [op2T, op1T]
  obtain ⟨kvs, hkvs⟩ : ∃ kvs, kvs = [Value.iface Tx ux] := ⟨_, rfl⟩
  rw [← hkvs] at HK
  have Hkv := Lib.hid hkvs
  clear hkvs
  clear HE hx iha hl
  go_enter Tryz.func108, Tryz.ntmps108
  go_wp2_with (go_at_call 280; go_must (refine (kids_oneKid_c Tx ux _).mono ?_; rintro e w1 ⟨⟨b, rfl, hbB, hbl, hblk⟩, hb1⟩))
  have hS := Lib.hid (FpInv.start hb1 hblk)
  clear hblk
  rw [← Hkv.out] at hS
  clear Hkv
  go_loopw [6, 45] (fun v1 i wr => ∃ j : Nat, j ≤ 1 ∧ i = .int .i64 j ∧ Hid (FpInv w b kvs (freeKs (bindE X) 0 ((kidsE X).take j)) v1 wr)) (fun _ i _ => 1 - (intOf i).toNat)
  case atStart => exact ⟨0, Nat.zero_le _, rfl, hS⟩
  case round =>
    obtain ⟨j, hj, rfl, hI⟩ := hrel
    by_cases hlt : j < 1
    · have hjl : j < (kidsE X).length := by omega
      obtain ⟨T, u, hkv, HC⟩ := HK.out j hjl
      have c0 : wr.cell? ⟨b, j, none⟩ = some (.iface T u) := by rw [cell_of hI.out.blk]; simpa using hkv
      have C := Lib.hid (HC wr hI.out.below)
      have HS := Lib.hid (show freeKs (bindE X) 0 ((kidsE X).take (j + 1)) = freeKs (bindE X) 0 ((kidsE X).take j) ++ freeP ((kidsE X)[j]) by rw [freeKs_take _ _ _ hjl, HB.out, rm_nil])
      have hl2 := hLv.out (j + 1)
      rw [HS.out, List.length_append] at hl2
      have hsz := hI.out.below.size
      have HO := Lib.hid hI.out.own
      generalize freeP ((kidsE X)[j]) = Q at *
      generalize freeKs (bindE X) 0 ((kidsE X).take j) = P0 at *
      obtain ⟨p1, c1, rfl⟩ := owns_slice HO.out
      clear HC hkv HB HK hLv
      go_wp2_with (first | (go_at_call 108; go_must (refine (C.out).mono ?_; rintro e w2 ⟨⟨v2, rfl, ho2⟩, hb2⟩)) | (at_builtin; go_must (refine wpList_append_str _ rfl _ _ 27 rfl w.heap.size 9 i0 Tryz.underlying27 hi0 hz0 hz1 hz2 _ P0 rfl (owns_below HO.out hb2) _ Q rfl (owns_strS6 ho2 (by omega)) (by omega) (by have := hb2.size; omega) ?_; intro v3 w3 ho3 hg3 hv3)))
      go_roundw
      case rel => exact ⟨j + 1, by omega, by go_num, Lib.hid (by rw [HS.out]; exact hI.out.step hb2 hg3 ho3 hv3)⟩
      case measure => simp [intOf]; omega
    · have : j = 1 := by omega
      subst this
      have hF := hI.out.fin
      rw [List.take_of_length_le (by omega)] at hF
      have hF := Lib.hid hF
      clear hI HK HB hLv
      go_wp2_with fail
      go_ret
      exact hF.out
set_option maxHeartbeats 1000000 in
theorem fp_snd (a : Ex) (iha : FpC a) : FpC (Ex.one Op1.snd a) := by
  intro v ok w hl hv hok
  simp only [EV] at hv
  obtain ⟨x, rfl, hx⟩ := hv
  obtain ⟨Tx, ux, rfl⟩ := hx.iface
  simp only [lvs] at hl
  have HK : Hid (KidC w (kidsE (Ex.one Op1.snd a)) [Value.iface Tx ux]) := Lib.hid (by
    intro j hj
    match j, hj with
    | 0, _ => exact ⟨_, _, rfl, kidC_of (x := a) iha (by omega) hx hok⟩
    )
  have HE := Lib.hid (freeP_kids (Ex.one Op1.snd a) trivial)
  have HB : Hid (∀ j, bindE (Ex.one Op1.snd a) j = []) := Lib.hid (fun _ => rfl)
  have hlen : (kidsE (Ex.one Op1.snd a)).length = 1 := rfl
  have hLv : Hid (∀ j, (freeKs (bindE (Ex.one Op1.snd a)) 0 ((kidsE (Ex.one Op1.snd a)).take j)).length ≤ 100000) := Lib.hid (fun j => by
    have h1 := (freeKs_pre (bindE (Ex.one Op1.snd a)) (kidsE (Ex.one Op1.snd a)) j 0).length_le
    rw [← freeP_kids (Ex.one Op1.snd a) trivial] at h1
    have h2 := freeP_lvs (Ex.one Op1.snd a)
    simp only [lvs] at h2
    omega)
  obtain ⟨i0, hi0, hz0, hz1, hz2⟩ := info_parts Tryz.infoStr
  rw [HE.out]
  generalize hX : (Ex.one Op1.snd a) = X at *
  try simp only [op2T, op1T]
  obtain ⟨kvs, hkvs⟩ : ∃ kvs, kvs = [Value.iface Tx ux] := ⟨_, rfl⟩
  rw [← hkvs] at HK
  have Hkv := Lib.hid hkvs
  clear hkvs
  clear HE hx iha hl
  go_enter Tryz.func108, Tryz.ntmps108
  go_wp2_with (go_at_call 280; go_must (refine (kids_oneKid_c Tx ux _).mono ?_; rintro e w1 ⟨⟨b, rfl, hbB, hbl, hblk⟩, hb1⟩))
  have hS := Lib.hid (FpInv.start hb1 hblk)
  clear hblk
  rw [← Hkv.out] at hS
  clear Hkv
  go_loopw [6, 45] (fun v1 i wr => ∃ j : Nat, j ≤ 1 ∧ i = .int .i64 j ∧ Hid (FpInv w b kvs (freeKs (bindE X) 0 ((kidsE X).take j)) v1 wr)) (fun _ i _ => 1 - (intOf i).toNat)
  case atStart => exact ⟨0, Nat.zero_le _, rfl, hS⟩
  case round =>
    obtain ⟨j, hj, rfl, hI⟩ := hrel
    by_cases hlt : j < 1
    · have hjl : j < (kidsE X).length := by omega
      obtain ⟨T, u, hkv, HC⟩ := HK.out j hjl
      have c0 : wr.cell? ⟨b, j, none⟩ = some (.iface T u) := by rw [cell_of hI.out.blk]; simpa using hkv
      have C := Lib.hid (HC wr hI.out.below)
      have HS := Lib.hid (show freeKs (bindE X) 0 ((kidsE X).take (j + 1)) = freeKs (bindE X) 0 ((kidsE X).take j) ++ freeP ((kidsE X)[j]) by rw [freeKs_take _ _ _ hjl, HB.out, rm_nil])
      have hl2 := hLv.out (j + 1)
      rw [HS.out, List.length_append] at hl2
      have hsz := hI.out.below.size
      have HO := Lib.hid hI.out.own
      generalize freeP ((kidsE X)[j]) = Q at *
      generalize freeKs (bindE X) 0 ((kidsE X).take j) = P0 at *
      obtain ⟨p1, c1, rfl⟩ := owns_slice HO.out
      clear HC hkv HB HK hLv
      go_wp2_with (first | (go_at_call 108; go_must (refine (C.out).mono ?_; rintro e w2 ⟨⟨v2, rfl, ho2⟩, hb2⟩)) | (at_builtin; go_must (refine wpList_append_str _ rfl _ _ 27 rfl w.heap.size 9 i0 Tryz.underlying27 hi0 hz0 hz1 hz2 _ P0 rfl (owns_below HO.out hb2) _ Q rfl (owns_strS6 ho2 (by omega)) (by omega) (by have := hb2.size; omega) ?_; intro v3 w3 ho3 hg3 hv3)))
      go_roundw
      case rel => exact ⟨j + 1, by omega, by go_num, Lib.hid (by rw [HS.out]; exact hI.out.step hb2 hg3 ho3 hv3)⟩
      case measure => simp [intOf]; omega
    · have : j = 1 := by omega
      subst this
      have hF := hI.out.fin
      rw [List.take_of_length_le (by omega)] at hF
      have hF := Lib.hid hF
      clear hI HK HB hLv
      go_wp2_with fail
      go_ret
      exact hF.out
set_option maxHeartbeats 1000000 in
theorem fp_cond (a b c : Ex) (iha : FpC a) (ihb : FpC b) (ihc : FpC c) : FpC (Ex.cond a b c) := by
  intro v ok w hl hv hok
  simp only [EV] at hv
  obtain ⟨x, y, z, rfl, hx, hy, hz⟩ := hv
  obtain ⟨Tx, ux, rfl⟩ := hx.iface
  obtain ⟨Ty, uy, rfl⟩ := hy.iface
  obtain ⟨Tz, uz, rfl⟩ := hz.iface
  simp only [lvs] at hl
  have HK : Hid (KidC w (kidsE (Ex.cond a b c)) [Value.iface Tx ux, Value.iface Ty uy, Value.iface Tz uz]) := Lib.hid (by
    intro j hj
    match j, hj with
    | 0, _ => exact ⟨_, _, rfl, kidC_of (x := a) iha (by omega) hx hok⟩
    | 1, _ => exact ⟨_, _, rfl, kidC_of (x := b) ihb (by omega) hy hok⟩
    | 2, _ => exact ⟨_, _, rfl, kidC_of (x := c) ihc (by omega) hz hok⟩
    )
  have HE := Lib.hid (freeP_kids (Ex.cond a b c) trivial)
  have HB : Hid (∀ j, bindE (Ex.cond a b c) j = []) := Lib.hid (fun _ => rfl)
  have hlen : (kidsE (Ex.cond a b c)).length = 3 := rfl
  have hLv : Hid (∀ j, (freeKs (bindE (Ex.cond a b c)) 0 ((kidsE (Ex.cond a b c)).take j)).length ≤ 100000) := Lib.hid (fun j => by
    have h1 := (freeKs_pre (bindE (Ex.cond a b c)) (kidsE (Ex.cond a b c)) j 0).length_le
    rw [← freeP_kids (Ex.cond a b c) trivial] at h1
    have h2 := freeP_lvs (Ex.cond a b c)
    simp only [lvs] at h2
    omega)
  obtain ⟨i0, hi0, hz0, hz1, hz2⟩ := info_parts Tryz.infoStr
  rw [HE.out]
  generalize hX : (Ex.cond a b c) = X at *
  try simp only [op2T, op1T]
  obtain ⟨kvs, hkvs⟩ : ∃ kvs, kvs = [Value.iface Tx ux, Value.iface Ty uy, Value.iface Tz uz] := ⟨_, rfl⟩
  rw [← hkvs] at HK
  have Hkv := Lib.hid hkvs
  clear hkvs
  clear HE hx hy hz iha ihb ihc hl
  go_enter Tryz.func108, Tryz.ntmps108
  go_wp2_with (go_at_call 276; go_must (refine (kids_ifExpr_c Tx Ty Tz ux uy uz _).mono ?_; rintro e w1 ⟨⟨b, rfl, hbB, hbl, hblk⟩, hb1⟩))
  have hS := Lib.hid (FpInv.start hb1 hblk)
  clear hblk
  rw [← Hkv.out] at hS
  clear Hkv
  go_loopw [6, 45] (fun v1 i wr => ∃ j : Nat, j ≤ 3 ∧ i = .int .i64 j ∧ Hid (FpInv w b kvs (freeKs (bindE X) 0 ((kidsE X).take j)) v1 wr)) (fun _ i _ => 3 - (intOf i).toNat)
  case atStart => exact ⟨0, Nat.zero_le _, rfl, hS⟩
  case round =>
    obtain ⟨j, hj, rfl, hI⟩ := hrel
    by_cases hlt : j < 3
    · have hjl : j < (kidsE X).length := by omega
      obtain ⟨T, u, hkv, HC⟩ := HK.out j hjl
      have c0 : wr.cell? ⟨b, j, none⟩ = some (.iface T u) := by rw [cell_of hI.out.blk]; simpa using hkv
      have C := Lib.hid (HC wr hI.out.below)
      have HS := Lib.hid (show freeKs (bindE X) 0 ((kidsE X).take (j + 1)) = freeKs (bindE X) 0 ((kidsE X).take j) ++ freeP ((kidsE X)[j]) by rw [freeKs_take _ _ _ hjl, HB.out, rm_nil])
      have hl2 := hLv.out (j + 1)
      rw [HS.out, List.length_append] at hl2
      have hsz := hI.out.below.size
      have HO := Lib.hid hI.out.own
      generalize freeP ((kidsE X)[j]) = Q at *
      generalize freeKs (bindE X) 0 ((kidsE X).take j) = P0 at *
      obtain ⟨p1, c1, rfl⟩ := owns_slice HO.out
      clear HC hkv HB HK hLv
      go_wp2_with (first | (go_at_call 108; go_must (refine (C.out).mono ?_; rintro e w2 ⟨⟨v2, rfl, ho2⟩, hb2⟩)) | (at_builtin; go_must (refine wpList_append_str _ rfl _ _ 27 rfl w.heap.size 9 i0 Tryz.underlying27 hi0 hz0 hz1 hz2 _ P0 rfl (owns_below HO.out hb2) _ Q rfl (owns_strS6 ho2 (by omega)) (by omega) (by have := hb2.size; omega) ?_; intro v3 w3 ho3 hg3 hv3)))
      go_roundw
      case rel => exact ⟨j + 1, by omega, by go_num, Lib.hid (by rw [HS.out]; exact hI.out.step hb2 hg3 ho3 hv3)⟩
      case measure => simp [intOf]; omega
    · have : j = 3 := by omega
      subst this
      have hF := hI.out.fin
      rw [List.take_of_length_le (by omega)] at hF
      have hF := Lib.hid hF
      clear hI HK HB hLv
      go_wp2_with fail
      go_ret
      exact hF.out
end Go.Proofs.YtjfjlfhckfoehaaGreatDoor
