/- The program counts the bindings of an expression. -/
import Derived.Test.YtjfjlfhckfoehaaGreatDoorI2p
import Derived.Test.YtjfjlfhckfoehaaGreatDoorPureM
import Derived.Test.YtjfjlfhckfoehaaGreatDoorNf3
namespace Go.Proofs.YtjfjlfhckfoehaaGreatDoor
open Go.RowKit
set_option maxRecDepth 8000
set_option linter.unusedSimpArgs false
set_option linter.unusedVariables false
def sumZ : List Ex → Nat
  | [] => 0
  | e :: es => letsE e + sumZ es
theorem sumZ_take : ∀ (ks : List Ex) (j : Nat) (h : j < ks.length), sumZ (ks.take (j + 1)) = sumZ (ks.take j) + letsE ks[j]
  | [], j, h => by simp at h
  | e :: es, 0, h => by simp [sumZ]
  | e :: es, j + 1, h => by
    have ih := sumZ_take es j (by simpa using h)
    simp only [List.take_succ_cons, sumZ, List.getElem_cons_succ, ih]
    omega
theorem sumZ_take_le : ∀ (ks : List Ex) (j : Nat), sumZ (ks.take j) ≤ sumZ ks
  | [], j => by simp
  | e :: es, 0 => by simp [sumZ]
  | e :: es, j + 1 => by
    have ih := sumZ_take_le es j
    simp only [List.take_succ_cons, sumZ]
    omega
def baseZ : Ex → Nat
  | .lete _ _ _ => 1
  | _ => 0
theorem lets_kids (x : Ex) : letsE x = baseZ x + sumZ (kidsE x) := by
  cases x <;> simp only [letsE, baseZ, kidsE, sumZ] <;> omega
theorem lets_many : ∀ x : Ex, letsE x ≤ manyE x
  | .name _ => by simp [letsE]
  | .num _ => by simp [letsE]
  | .two _ a b => by have := lets_many a; have := lets_many b; simp only [letsE, manyE]; omega
  | .one _ a => by have := lets_many a; simp only [letsE, manyE]; omega
  | .cond a b d => by have := lets_many a; have := lets_many b; have := lets_many d; simp only [letsE, manyE]; omega
  | .lete _ a b => by have := lets_many a; have := lets_many b; simp only [letsE, manyE]; omega
  | .func _ _ _ _ e => by have := lets_many e; simp only [letsE, manyE]; omega
theorem readNf_lets {l : List UInt8} {x : Ex} (h : readNf l = some x) : letsE x ≤ 120 := Nat.le_trans (lets_many x) (readEx_many (readNf_got h).1)
theorem readNormal_none {s : ByteArray} (hs : s.size ≤ 1048576) (hp : readNf s.data.toList = none) (W : World) : Calls Tryz.prog 76 #[.string s] W fun e w' => (∃ v, e = .returned (.tuple #[v, .bool false])) ∧ Below W.heap.size W w' :=
  (readNormal_c s hs W).mono fun e w' ⟨h1, h2⟩ => ⟨by rw [hp] at h1; exact h1, h2⟩
theorem readNormal_some {s : ByteArray} (hs : s.size ≤ 1048576) {x : Ex} (hp : readNf s.data.toList = some x) (W : World) : Calls Tryz.prog 76 #[.string s] W fun e w' => (∃ v, e = .returned (.tuple #[v, .bool true]) ∧ EV w' (fun k => W.heap.size ≤ k ∧ k < w'.heap.size) x v) ∧ Below W.heap.size W w' :=
  (readNormal_c s hs W).mono fun e w' ⟨h1, h2⟩ => ⟨by rw [hp] at h1; exact h1, h2⟩
def LtC (x : Ex) : Prop := ∀ (v : Value) (ok : Nat → Prop) (w : World), letsE x ≤ 100000 → EV w ok x v → (∀ k, ok k → k < w.heap.size) → Calls Tryz.prog 80 #[v] w fun e w' => e = .returned (.int .i64 (letsE x : Nat)) ∧ Below w.heap.size w w'
def KidL (w : World) (ks : List Ex) (kvs : List Value) : Prop := ∀ j (hj : j < ks.length), ∃ T u, kvs[j]? = some (.iface T u) ∧ ∀ W, Below w.heap.size w W → Calls Tryz.prog 80 #[.iface T u] W fun e w' => e = .returned (.int .i64 (letsE ks[j] : Nat)) ∧ Below W.heap.size W w'
theorem kidL_of {x : Ex} {T : TypeId} {u : Value} {w : World} {ok : Nat → Prop} (ih : LtC x) (hl : letsE x ≤ 100000) (hv : EV w ok x (.iface T u)) (hok : ∀ k, ok k → k < w.heap.size) : ∀ W, Below w.heap.size w W → Calls Tryz.prog 80 #[.iface T u] W fun e w' => e = .returned (.int .i64 (letsE x : Nat)) ∧ Below W.heap.size W w' :=
  fun W hW => ih _ ok W hl (hv.below hW hok) (fun k hk => Nat.lt_of_lt_of_le (hok k hk) hW.size)
theorem lt_name (s : Nm) : LtC (.name s) := by
  intro v ok w hl hv hok
  simp only [EV] at hv
  subst hv
  rw [show letsE (.name s) = 0 from rfl]
  clear hl
  go_enter Tryz.func80, Tryz.ntmps80
  go_wp2_with (go_at_call 266; go_must (refine (kids_nameExpr_c _ _).mono ?_; rintro e w1 ⟨rfl, hb1⟩; have hb1 : Below w.heap.size w w1 := (by first | exact hb1 | exact (below1 _ _).trans (hb1.mono (by simp)) | exact ((below1 _ _).alloc (by simp) _).trans (hb1.mono (by simp)))))
  refine wp_loop_rounds 1 ?_
  rw [rounds_succ]
  go_wp2_with fail
  go_ret
  exact ⟨rfl, hb1⟩
theorem lt_num (n : Int) : LtC (.num n) := by
  intro v ok w hl hv hok
  simp only [EV] at hv
  subst hv
  rw [show letsE (.num n) = 0 from rfl]
  clear hl
  go_enter Tryz.func80, Tryz.ntmps80
  go_wp2_with (go_at_call 263; go_must (refine (kids_numberExpr_c _ _).mono ?_; rintro e w1 ⟨rfl, hb1⟩; have hb1 : Below w.heap.size w w1 := (by first | exact hb1 | exact (below1 _ _).trans (hb1.mono (by simp)) | exact ((below1 _ _).alloc (by simp) _).trans (hb1.mono (by simp)))))
  refine wp_loop_rounds 1 ?_
  rw [rounds_succ]
  go_wp2_with fail
  go_ret
  exact ⟨rfl, hb1⟩
set_option maxHeartbeats 1000000 in
theorem lt_add (a c : Ex) (iha : LtC a) (ihc : LtC c) : LtC (Ex.two Op2.add a c) := by
  intro v ok w hl hv hok
  simp only [EV] at hv
  obtain ⟨x, y, rfl, hx, hy⟩ := hv
  obtain ⟨Tx, ux, rfl⟩ := hx.iface
  obtain ⟨Ty, uy, rfl⟩ := hy.iface
  have hl2 := hl
  simp only [letsE] at hl2
  have HK : Hid (KidL w (kidsE (Ex.two Op2.add a c)) [Value.iface Tx ux, Value.iface Ty uy]) := Lib.hid (by
    intro j hj
    match j, hj with
    | 0, _ => exact ⟨_, _, rfl, kidL_of (x := a) iha (by omega) hx hok⟩
    | 1, _ => exact ⟨_, _, rfl, kidL_of (x := c) ihc (by omega) hy hok⟩
    )
  have HE := Lib.hid (lets_kids (Ex.two Op2.add a c))
  have hlen : (kidsE (Ex.two Op2.add a c)).length = 2 := rfl
  have hLv : Hid (∀ j, sumZ ((kidsE (Ex.two Op2.add a c)).take j) ≤ 100000) := Lib.hid (fun j => by
    have h1 := sumZ_take_le (kidsE (Ex.two Op2.add a c)) j
    have h2 := lets_kids (Ex.two Op2.add a c)
    omega)
  rw [HE.out]
  simp only [baseZ]
  generalize hX : (Ex.two Op2.add a c) = X at *
  try simp only [op2T, op1T]
  obtain ⟨kvs, hkvs⟩ : ∃ kvs, kvs = [Value.iface Tx ux, Value.iface Ty uy] := ⟨_, rfl⟩
  rw [← hkvs] at HK
  have Hkv := Lib.hid hkvs
  clear hkvs
  clear HE hx hy iha ihc hl hl2
  go_enter Tryz.func80, Tryz.ntmps80
  go_wp2_with (go_at_call 258; go_must (refine (kids_twoKids_c Tx Ty ux uy _).mono ?_; rintro e w1 ⟨⟨b, rfl, hbB, hbl, hblk⟩, hb1⟩; have hb1 : Below w.heap.size w w1 := (by first | exact hb1 | exact (below1 _ _).trans (hb1.mono (by simp)) | exact ((below1 _ _).alloc (by simp) _).trans (hb1.mono (by simp)))))
  have hS : w1.heap[b]? = some (.cells kvs.toArray 48 (0, 0)) := by rw [Hkv.out]; exact hblk
  clear hblk
  clear Hkv
  go_loopw [3, 19] (fun c i wr => ∃ j Sm : Nat, j ≤ 2 ∧ i = .int .i64 j ∧ c = .int .i64 (0 + Sm : Nat) ∧ Hid (Sm = sumZ ((kidsE X).take j)) ∧ wr.heap[b]? = some (.cells kvs.toArray 48 (0, 0)) ∧ Below w.heap.size w wr) (fun _ i _ => 2 - (intOf i).toNat)
  case atStart => exact ⟨0, 0, Nat.zero_le _, rfl, rfl, Lib.hid rfl, hS, hb1⟩
  case round =>
    obtain ⟨j, Sm, hj, rfl, rfl, hI, hblk, hbl2⟩ := hrel
    by_cases hlt : j < 2
    · have hjl : j < (kidsE X).length := by omega
      obtain ⟨T, u, hkv, HC⟩ := HK.out j hjl
      have c0 : wr.cell? ⟨b, j, none⟩ = some (.iface T u) := by rw [cell_of hblk]; simpa using hkv
      have C := Lib.hid (HC wr hbl2)
      have HS := Lib.hid (sumZ_take (kidsE X) j hjl)
      have hl2 := hLv.out (j + 1)
      rw [HS.out, ← hI.out] at hl2
      have hsz := hbl2.size
      generalize letsE ((kidsE X)[j]) = Q at *
      clear HC hkv HK hLv
      go_wp2_with (go_at_call 80; go_must (refine (C.out).mono ?_; rintro e w2 ⟨rfl, hb2⟩))
      go_roundw
      case rel => exact ⟨j + 1, Sm + Q, by omega, by go_num, by go_num, Lib.hid (by rw [HS.out, ← hI.out]), below_blk hb2 (lt_of_block hblk) hblk, hbl2.trans (hb2.mono hbl2.size)⟩
      case measure => simp [intOf]; omega
    · have : j = 2 := by omega
      subst this
      have hF := hI.out
      rw [List.take_of_length_le (by omega)] at hF
      have hF := Lib.hid hF
      clear hI HK hLv
      go_wp2_with fail
      go_ret
      exact ⟨ret_int (by rw [hF.out]), hbl2⟩
set_option maxHeartbeats 1000000 in
theorem lt_sub (a c : Ex) (iha : LtC a) (ihc : LtC c) : LtC (Ex.two Op2.sub a c) := by
  intro v ok w hl hv hok
  simp only [EV] at hv
  obtain ⟨x, y, rfl, hx, hy⟩ := hv
  obtain ⟨Tx, ux, rfl⟩ := hx.iface
  obtain ⟨Ty, uy, rfl⟩ := hy.iface
  have hl2 := hl
  simp only [letsE] at hl2
  have HK : Hid (KidL w (kidsE (Ex.two Op2.sub a c)) [Value.iface Tx ux, Value.iface Ty uy]) := Lib.hid (by
    intro j hj
    match j, hj with
    | 0, _ => exact ⟨_, _, rfl, kidL_of (x := a) iha (by omega) hx hok⟩
    | 1, _ => exact ⟨_, _, rfl, kidL_of (x := c) ihc (by omega) hy hok⟩
    )
  have HE := Lib.hid (lets_kids (Ex.two Op2.sub a c))
  have hlen : (kidsE (Ex.two Op2.sub a c)).length = 2 := rfl
  have hLv : Hid (∀ j, sumZ ((kidsE (Ex.two Op2.sub a c)).take j) ≤ 100000) := Lib.hid (fun j => by
    have h1 := sumZ_take_le (kidsE (Ex.two Op2.sub a c)) j
    have h2 := lets_kids (Ex.two Op2.sub a c)
    omega)
  rw [HE.out]
  simp only [baseZ]
  generalize hX : (Ex.two Op2.sub a c) = X at *
  try simp only [op2T, op1T]
  obtain ⟨kvs, hkvs⟩ : ∃ kvs, kvs = [Value.iface Tx ux, Value.iface Ty uy] := ⟨_, rfl⟩
  rw [← hkvs] at HK
  have Hkv := Lib.hid hkvs
  clear hkvs
  clear HE hx hy iha ihc hl hl2
  go_enter Tryz.func80, Tryz.ntmps80
  go_wp2_with (go_at_call 258; go_must (refine (kids_twoKids_c Tx Ty ux uy _).mono ?_; rintro e w1 ⟨⟨b, rfl, hbB, hbl, hblk⟩, hb1⟩; have hb1 : Below w.heap.size w w1 := (by first | exact hb1 | exact (below1 _ _).trans (hb1.mono (by simp)) | exact ((below1 _ _).alloc (by simp) _).trans (hb1.mono (by simp)))))
  have hS : w1.heap[b]? = some (.cells kvs.toArray 48 (0, 0)) := by rw [Hkv.out]; exact hblk
  clear hblk
  clear Hkv
  go_loopw [3, 19] (fun c i wr => ∃ j Sm : Nat, j ≤ 2 ∧ i = .int .i64 j ∧ c = .int .i64 (0 + Sm : Nat) ∧ Hid (Sm = sumZ ((kidsE X).take j)) ∧ wr.heap[b]? = some (.cells kvs.toArray 48 (0, 0)) ∧ Below w.heap.size w wr) (fun _ i _ => 2 - (intOf i).toNat)
  case atStart => exact ⟨0, 0, Nat.zero_le _, rfl, rfl, Lib.hid rfl, hS, hb1⟩
  case round =>
    obtain ⟨j, Sm, hj, rfl, rfl, hI, hblk, hbl2⟩ := hrel
    by_cases hlt : j < 2
    · have hjl : j < (kidsE X).length := by omega
      obtain ⟨T, u, hkv, HC⟩ := HK.out j hjl
      have c0 : wr.cell? ⟨b, j, none⟩ = some (.iface T u) := by rw [cell_of hblk]; simpa using hkv
      have C := Lib.hid (HC wr hbl2)
      have HS := Lib.hid (sumZ_take (kidsE X) j hjl)
      have hl2 := hLv.out (j + 1)
      rw [HS.out, ← hI.out] at hl2
      have hsz := hbl2.size
      generalize letsE ((kidsE X)[j]) = Q at *
      clear HC hkv HK hLv
      go_wp2_with (go_at_call 80; go_must (refine (C.out).mono ?_; rintro e w2 ⟨rfl, hb2⟩))
      go_roundw
      case rel => exact ⟨j + 1, Sm + Q, by omega, by go_num, by go_num, Lib.hid (by rw [HS.out, ← hI.out]), below_blk hb2 (lt_of_block hblk) hblk, hbl2.trans (hb2.mono hbl2.size)⟩
      case measure => simp [intOf]; omega
    · have : j = 2 := by omega
      subst this
      have hF := hI.out
      rw [List.take_of_length_le (by omega)] at hF
      have hF := Lib.hid hF
      clear hI HK hLv
      go_wp2_with fail
      go_ret
      exact ⟨ret_int (by rw [hF.out]), hbl2⟩
set_option maxHeartbeats 1000000 in
theorem lt_mul (a c : Ex) (iha : LtC a) (ihc : LtC c) : LtC (Ex.two Op2.mul a c) := by
  intro v ok w hl hv hok
  simp only [EV] at hv
  obtain ⟨x, y, rfl, hx, hy⟩ := hv
  obtain ⟨Tx, ux, rfl⟩ := hx.iface
  obtain ⟨Ty, uy, rfl⟩ := hy.iface
  have hl2 := hl
  simp only [letsE] at hl2
  have HK : Hid (KidL w (kidsE (Ex.two Op2.mul a c)) [Value.iface Tx ux, Value.iface Ty uy]) := Lib.hid (by
    intro j hj
    match j, hj with
    | 0, _ => exact ⟨_, _, rfl, kidL_of (x := a) iha (by omega) hx hok⟩
    | 1, _ => exact ⟨_, _, rfl, kidL_of (x := c) ihc (by omega) hy hok⟩
    )
  have HE := Lib.hid (lets_kids (Ex.two Op2.mul a c))
  have hlen : (kidsE (Ex.two Op2.mul a c)).length = 2 := rfl
  have hLv : Hid (∀ j, sumZ ((kidsE (Ex.two Op2.mul a c)).take j) ≤ 100000) := Lib.hid (fun j => by
    have h1 := sumZ_take_le (kidsE (Ex.two Op2.mul a c)) j
    have h2 := lets_kids (Ex.two Op2.mul a c)
    omega)
  rw [HE.out]
  simp only [baseZ]
  generalize hX : (Ex.two Op2.mul a c) = X at *
  try simp only [op2T, op1T]
  obtain ⟨kvs, hkvs⟩ : ∃ kvs, kvs = [Value.iface Tx ux, Value.iface Ty uy] := ⟨_, rfl⟩
  rw [← hkvs] at HK
  have Hkv := Lib.hid hkvs
  clear hkvs
  clear HE hx hy iha ihc hl hl2
  go_enter Tryz.func80, Tryz.ntmps80
  go_wp2_with (go_at_call 258; go_must (refine (kids_twoKids_c Tx Ty ux uy _).mono ?_; rintro e w1 ⟨⟨b, rfl, hbB, hbl, hblk⟩, hb1⟩; have hb1 : Below w.heap.size w w1 := (by first | exact hb1 | exact (below1 _ _).trans (hb1.mono (by simp)) | exact ((below1 _ _).alloc (by simp) _).trans (hb1.mono (by simp)))))
  have hS : w1.heap[b]? = some (.cells kvs.toArray 48 (0, 0)) := by rw [Hkv.out]; exact hblk
  clear hblk
  clear Hkv
  go_loopw [3, 19] (fun c i wr => ∃ j Sm : Nat, j ≤ 2 ∧ i = .int .i64 j ∧ c = .int .i64 (0 + Sm : Nat) ∧ Hid (Sm = sumZ ((kidsE X).take j)) ∧ wr.heap[b]? = some (.cells kvs.toArray 48 (0, 0)) ∧ Below w.heap.size w wr) (fun _ i _ => 2 - (intOf i).toNat)
  case atStart => exact ⟨0, 0, Nat.zero_le _, rfl, rfl, Lib.hid rfl, hS, hb1⟩
  case round =>
    obtain ⟨j, Sm, hj, rfl, rfl, hI, hblk, hbl2⟩ := hrel
    by_cases hlt : j < 2
    · have hjl : j < (kidsE X).length := by omega
      obtain ⟨T, u, hkv, HC⟩ := HK.out j hjl
      have c0 : wr.cell? ⟨b, j, none⟩ = some (.iface T u) := by rw [cell_of hblk]; simpa using hkv
      have C := Lib.hid (HC wr hbl2)
      have HS := Lib.hid (sumZ_take (kidsE X) j hjl)
      have hl2 := hLv.out (j + 1)
      rw [HS.out, ← hI.out] at hl2
      have hsz := hbl2.size
      generalize letsE ((kidsE X)[j]) = Q at *
      clear HC hkv HK hLv
      go_wp2_with (go_at_call 80; go_must (refine (C.out).mono ?_; rintro e w2 ⟨rfl, hb2⟩))
      go_roundw
      case rel => exact ⟨j + 1, Sm + Q, by omega, by go_num, by go_num, Lib.hid (by rw [HS.out, ← hI.out]), below_blk hb2 (lt_of_block hblk) hblk, hbl2.trans (hb2.mono hbl2.size)⟩
      case measure => simp [intOf]; omega
    · have : j = 2 := by omega
      subst this
      have hF := hI.out
      rw [List.take_of_length_le (by omega)] at hF
      have hF := Lib.hid hF
      clear hI HK hLv
      go_wp2_with fail
      go_ret
      exact ⟨ret_int (by rw [hF.out]), hbl2⟩
set_option maxHeartbeats 1000000 in
theorem lt_call (a c : Ex) (iha : LtC a) (ihc : LtC c) : LtC (Ex.two Op2.call a c) := by
  intro v ok w hl hv hok
  simp only [EV] at hv
  obtain ⟨x, y, rfl, hx, hy⟩ := hv
  obtain ⟨Tx, ux, rfl⟩ := hx.iface
  obtain ⟨Ty, uy, rfl⟩ := hy.iface
  have hl2 := hl
  simp only [letsE] at hl2
  have HK : Hid (KidL w (kidsE (Ex.two Op2.call a c)) [Value.iface Tx ux, Value.iface Ty uy]) := Lib.hid (by
    intro j hj
    match j, hj with
    | 0, _ => exact ⟨_, _, rfl, kidL_of (x := a) iha (by omega) hx hok⟩
    | 1, _ => exact ⟨_, _, rfl, kidL_of (x := c) ihc (by omega) hy hok⟩
    )
  have HE := Lib.hid (lets_kids (Ex.two Op2.call a c))
  have hlen : (kidsE (Ex.two Op2.call a c)).length = 2 := rfl
  have hLv : Hid (∀ j, sumZ ((kidsE (Ex.two Op2.call a c)).take j) ≤ 100000) := Lib.hid (fun j => by
    have h1 := sumZ_take_le (kidsE (Ex.two Op2.call a c)) j
    have h2 := lets_kids (Ex.two Op2.call a c)
    omega)
  rw [HE.out]
  simp only [baseZ]
  generalize hX : (Ex.two Op2.call a c) = X at *
  try simp only [op2T, op1T]
  obtain ⟨kvs, hkvs⟩ : ∃ kvs, kvs = [Value.iface Tx ux, Value.iface Ty uy] := ⟨_, rfl⟩
  rw [← hkvs] at HK
  have Hkv := Lib.hid hkvs
  clear hkvs
  clear HE hx hy iha ihc hl hl2
  go_enter Tryz.func80, Tryz.ntmps80
  go_wp2_with (go_at_call 258; go_must (refine (kids_twoKids_c Tx Ty ux uy _).mono ?_; rintro e w1 ⟨⟨b, rfl, hbB, hbl, hblk⟩, hb1⟩; have hb1 : Below w.heap.size w w1 := (by first | exact hb1 | exact (below1 _ _).trans (hb1.mono (by simp)) | exact ((below1 _ _).alloc (by simp) _).trans (hb1.mono (by simp)))))
  have hS : w1.heap[b]? = some (.cells kvs.toArray 48 (0, 0)) := by rw [Hkv.out]; exact hblk
  clear hblk
  clear Hkv
  go_loopw [3, 19] (fun c i wr => ∃ j Sm : Nat, j ≤ 2 ∧ i = .int .i64 j ∧ c = .int .i64 (0 + Sm : Nat) ∧ Hid (Sm = sumZ ((kidsE X).take j)) ∧ wr.heap[b]? = some (.cells kvs.toArray 48 (0, 0)) ∧ Below w.heap.size w wr) (fun _ i _ => 2 - (intOf i).toNat)
  case atStart => exact ⟨0, 0, Nat.zero_le _, rfl, rfl, Lib.hid rfl, hS, hb1⟩
  case round =>
    obtain ⟨j, Sm, hj, rfl, rfl, hI, hblk, hbl2⟩ := hrel
    by_cases hlt : j < 2
    · have hjl : j < (kidsE X).length := by omega
      obtain ⟨T, u, hkv, HC⟩ := HK.out j hjl
      have c0 : wr.cell? ⟨b, j, none⟩ = some (.iface T u) := by rw [cell_of hblk]; simpa using hkv
      have C := Lib.hid (HC wr hbl2)
      have HS := Lib.hid (sumZ_take (kidsE X) j hjl)
      have hl2 := hLv.out (j + 1)
      rw [HS.out, ← hI.out] at hl2
      have hsz := hbl2.size
      generalize letsE ((kidsE X)[j]) = Q at *
      clear HC hkv HK hLv
      go_wp2_with (go_at_call 80; go_must (refine (C.out).mono ?_; rintro e w2 ⟨rfl, hb2⟩))
      go_roundw
      case rel => exact ⟨j + 1, Sm + Q, by omega, by go_num, by go_num, Lib.hid (by rw [HS.out, ← hI.out]), below_blk hb2 (lt_of_block hblk) hblk, hbl2.trans (hb2.mono hbl2.size)⟩
      case measure => simp [intOf]; omega
    · have : j = 2 := by omega
      subst this
      have hF := hI.out
      rw [List.take_of_length_le (by omega)] at hF
      have hF := Lib.hid hF
      clear hI HK hLv
      go_wp2_with fail
      go_ret
      exact ⟨ret_int (by rw [hF.out]), hbl2⟩
set_option maxHeartbeats 1000000 in
theorem lt_pair (a c : Ex) (iha : LtC a) (ihc : LtC c) : LtC (Ex.two Op2.pair a c) := by
  intro v ok w hl hv hok
  simp only [EV] at hv
  obtain ⟨x, y, rfl, hx, hy⟩ := hv
  obtain ⟨Tx, ux, rfl⟩ := hx.iface
  obtain ⟨Ty, uy, rfl⟩ := hy.iface
  have hl2 := hl
  simp only [letsE] at hl2
  have HK : Hid (KidL w (kidsE (Ex.two Op2.pair a c)) [Value.iface Tx ux, Value.iface Ty uy]) := Lib.hid (by
    intro j hj
    match j, hj with
    | 0, _ => exact ⟨_, _, rfl, kidL_of (x := a) iha (by omega) hx hok⟩
    | 1, _ => exact ⟨_, _, rfl, kidL_of (x := c) ihc (by omega) hy hok⟩
    )
  have HE := Lib.hid (lets_kids (Ex.two Op2.pair a c))
  have hlen : (kidsE (Ex.two Op2.pair a c)).length = 2 := rfl
  have hLv : Hid (∀ j, sumZ ((kidsE (Ex.two Op2.pair a c)).take j) ≤ 100000) := Lib.hid (fun j => by
    have h1 := sumZ_take_le (kidsE (Ex.two Op2.pair a c)) j
    have h2 := lets_kids (Ex.two Op2.pair a c)
    omega)
  rw [HE.out]
  simp only [baseZ]
  generalize hX : (Ex.two Op2.pair a c) = X at *
  try simp only [op2T, op1T]
  obtain ⟨kvs, hkvs⟩ : ∃ kvs, kvs = [Value.iface Tx ux, Value.iface Ty uy] := ⟨_, rfl⟩
  rw [← hkvs] at HK
  have Hkv := Lib.hid hkvs
  clear hkvs
  clear HE hx hy iha ihc hl hl2
  go_enter Tryz.func80, Tryz.ntmps80
  go_wp2_with (go_at_call 258; go_must (refine (kids_twoKids_c Tx Ty ux uy _).mono ?_; rintro e w1 ⟨⟨b, rfl, hbB, hbl, hblk⟩, hb1⟩; have hb1 : Below w.heap.size w w1 := (by first | exact hb1 | exact (below1 _ _).trans (hb1.mono (by simp)) | exact ((below1 _ _).alloc (by simp) _).trans (hb1.mono (by simp)))))
  have hS : w1.heap[b]? = some (.cells kvs.toArray 48 (0, 0)) := by rw [Hkv.out]; exact hblk
  clear hblk
  clear Hkv
  go_loopw [3, 19] (fun c i wr => ∃ j Sm : Nat, j ≤ 2 ∧ i = .int .i64 j ∧ c = .int .i64 (0 + Sm : Nat) ∧ Hid (Sm = sumZ ((kidsE X).take j)) ∧ wr.heap[b]? = some (.cells kvs.toArray 48 (0, 0)) ∧ Below w.heap.size w wr) (fun _ i _ => 2 - (intOf i).toNat)
  case atStart => exact ⟨0, 0, Nat.zero_le _, rfl, rfl, Lib.hid rfl, hS, hb1⟩
  case round =>
    obtain ⟨j, Sm, hj, rfl, rfl, hI, hblk, hbl2⟩ := hrel
    by_cases hlt : j < 2
    · have hjl : j < (kidsE X).length := by omega
      obtain ⟨T, u, hkv, HC⟩ := HK.out j hjl
      have c0 : wr.cell? ⟨b, j, none⟩ = some (.iface T u) := by rw [cell_of hblk]; simpa using hkv
      have C := Lib.hid (HC wr hbl2)
      have HS := Lib.hid (sumZ_take (kidsE X) j hjl)
      have hl2 := hLv.out (j + 1)
      rw [HS.out, ← hI.out] at hl2
      have hsz := hbl2.size
      generalize letsE ((kidsE X)[j]) = Q at *
      clear HC hkv HK hLv
      go_wp2_with (go_at_call 80; go_must (refine (C.out).mono ?_; rintro e w2 ⟨rfl, hb2⟩))
      go_roundw
      case rel => exact ⟨j + 1, Sm + Q, by omega, by go_num, by go_num, Lib.hid (by rw [HS.out, ← hI.out]), below_blk hb2 (lt_of_block hblk) hblk, hbl2.trans (hb2.mono hbl2.size)⟩
      case measure => simp [intOf]; omega
    · have : j = 2 := by omega
      subst this
      have hF := hI.out
      rw [List.take_of_length_le (by omega)] at hF
      have hF := Lib.hid hF
      clear hI HK hLv
      go_wp2_with fail
      go_ret
      exact ⟨ret_int (by rw [hF.out]), hbl2⟩
set_option maxHeartbeats 1000000 in
theorem lt_fst (a : Ex) (iha : LtC a) : LtC (Ex.one Op1.fst a) := by
  intro v ok w hl hv hok
  simp only [EV] at hv
  obtain ⟨x, rfl, hx⟩ := hv
  obtain ⟨Tx, ux, rfl⟩ := hx.iface
  have hl2 := hl
  simp only [letsE] at hl2
  have HK : Hid (KidL w (kidsE (Ex.one Op1.fst a)) [Value.iface Tx ux]) := Lib.hid (by
    intro j hj
    match j, hj with
    | 0, _ => exact ⟨_, _, rfl, kidL_of (x := a) iha (by omega) hx hok⟩
    )
  have HE := Lib.hid (lets_kids (Ex.one Op1.fst a))
  have hlen : (kidsE (Ex.one Op1.fst a)).length = 1 := rfl
  have hLv : Hid (∀ j, sumZ ((kidsE (Ex.one Op1.fst a)).take j) ≤ 100000) := Lib.hid (fun j => by
    have h1 := sumZ_take_le (kidsE (Ex.one Op1.fst a)) j
    have h2 := lets_kids (Ex.one Op1.fst a)
    omega)
  rw [HE.out]
  simp only [baseZ]
  generalize hX : (Ex.one Op1.fst a) = X at *
  try simp only [op2T, op1T]
  obtain ⟨kvs, hkvs⟩ : ∃ kvs, kvs = [Value.iface Tx ux] := ⟨_, rfl⟩
  rw [← hkvs] at HK
  have Hkv := Lib.hid hkvs
  clear hkvs
  clear HE hx iha hl hl2
  go_enter Tryz.func80, Tryz.ntmps80
  go_wp2_with (go_at_call 280; go_must (refine (kids_oneKid_c Tx ux _).mono ?_; rintro e w1 ⟨⟨b, rfl, hbB, hbl, hblk⟩, hb1⟩; have hb1 : Below w.heap.size w w1 := (by first | exact hb1 | exact (below1 _ _).trans (hb1.mono (by simp)) | exact ((below1 _ _).alloc (by simp) _).trans (hb1.mono (by simp)))))
  have hS : w1.heap[b]? = some (.cells kvs.toArray 48 (0, 0)) := by rw [Hkv.out]; exact hblk
  clear hblk
  clear Hkv
  go_loopw [3, 19] (fun c i wr => ∃ j Sm : Nat, j ≤ 1 ∧ i = .int .i64 j ∧ c = .int .i64 (0 + Sm : Nat) ∧ Hid (Sm = sumZ ((kidsE X).take j)) ∧ wr.heap[b]? = some (.cells kvs.toArray 48 (0, 0)) ∧ Below w.heap.size w wr) (fun _ i _ => 1 - (intOf i).toNat)
  case atStart => exact ⟨0, 0, Nat.zero_le _, rfl, rfl, Lib.hid rfl, hS, hb1⟩
  case round =>
    obtain ⟨j, Sm, hj, rfl, rfl, hI, hblk, hbl2⟩ := hrel
    by_cases hlt : j < 1
    · have hjl : j < (kidsE X).length := by omega
      obtain ⟨T, u, hkv, HC⟩ := HK.out j hjl
      have c0 : wr.cell? ⟨b, j, none⟩ = some (.iface T u) := by rw [cell_of hblk]; simpa using hkv
      have C := Lib.hid (HC wr hbl2)
      have HS := Lib.hid (sumZ_take (kidsE X) j hjl)
      have hl2 := hLv.out (j + 1)
      rw [HS.out, ← hI.out] at hl2
      have hsz := hbl2.size
      generalize letsE ((kidsE X)[j]) = Q at *
      clear HC hkv HK hLv
      go_wp2_with (go_at_call 80; go_must (refine (C.out).mono ?_; rintro e w2 ⟨rfl, hb2⟩))
      go_roundw
      case rel => exact ⟨j + 1, Sm + Q, by omega, by go_num, by go_num, Lib.hid (by rw [HS.out, ← hI.out]), below_blk hb2 (lt_of_block hblk) hblk, hbl2.trans (hb2.mono hbl2.size)⟩
      case measure => simp [intOf]; omega
    · have : j = 1 := by omega
      subst this
      have hF := hI.out
      rw [List.take_of_length_le (by omega)] at hF
      have hF := Lib.hid hF
      clear hI HK hLv
      go_wp2_with fail
      go_ret
      exact ⟨ret_int (by rw [hF.out]), hbl2⟩
set_option maxHeartbeats 1000000 in
theorem lt_snd (a : Ex) (iha : LtC a) : LtC (Ex.one Op1.snd a) := by
  intro v ok w hl hv hok
  simp only [EV] at hv
  obtain ⟨x, rfl, hx⟩ := hv
  obtain ⟨Tx, ux, rfl⟩ := hx.iface
  have hl2 := hl
  simp only [letsE] at hl2
  have HK : Hid (KidL w (kidsE (Ex.one Op1.snd a)) [Value.iface Tx ux]) := Lib.hid (by
    intro j hj
    match j, hj with
    | 0, _ => exact ⟨_, _, rfl, kidL_of (x := a) iha (by omega) hx hok⟩
    )
  have HE := Lib.hid (lets_kids (Ex.one Op1.snd a))
  have hlen : (kidsE (Ex.one Op1.snd a)).length = 1 := rfl
  have hLv : Hid (∀ j, sumZ ((kidsE (Ex.one Op1.snd a)).take j) ≤ 100000) := Lib.hid (fun j => by
    have h1 := sumZ_take_le (kidsE (Ex.one Op1.snd a)) j
    have h2 := lets_kids (Ex.one Op1.snd a)
    omega)
  rw [HE.out]
  simp only [baseZ]
  generalize hX : (Ex.one Op1.snd a) = X at *
  try simp only [op2T, op1T]
  obtain ⟨kvs, hkvs⟩ : ∃ kvs, kvs = [Value.iface Tx ux] := ⟨_, rfl⟩
  rw [← hkvs] at HK
  have Hkv := Lib.hid hkvs
  clear hkvs
  clear HE hx iha hl hl2
  go_enter Tryz.func80, Tryz.ntmps80
  go_wp2_with (go_at_call 280; go_must (refine (kids_oneKid_c Tx ux _).mono ?_; rintro e w1 ⟨⟨b, rfl, hbB, hbl, hblk⟩, hb1⟩; have hb1 : Below w.heap.size w w1 := (by first | exact hb1 | exact (below1 _ _).trans (hb1.mono (by simp)) | exact ((below1 _ _).alloc (by simp) _).trans (hb1.mono (by simp)))))
  have hS : w1.heap[b]? = some (.cells kvs.toArray 48 (0, 0)) := by rw [Hkv.out]; exact hblk
  clear hblk
  clear Hkv
  go_loopw [3, 19] (fun c i wr => ∃ j Sm : Nat, j ≤ 1 ∧ i = .int .i64 j ∧ c = .int .i64 (0 + Sm : Nat) ∧ Hid (Sm = sumZ ((kidsE X).take j)) ∧ wr.heap[b]? = some (.cells kvs.toArray 48 (0, 0)) ∧ Below w.heap.size w wr) (fun _ i _ => 1 - (intOf i).toNat)
  case atStart => exact ⟨0, 0, Nat.zero_le _, rfl, rfl, Lib.hid rfl, hS, hb1⟩
  case round =>
    obtain ⟨j, Sm, hj, rfl, rfl, hI, hblk, hbl2⟩ := hrel
    by_cases hlt : j < 1
    · have hjl : j < (kidsE X).length := by omega
      obtain ⟨T, u, hkv, HC⟩ := HK.out j hjl
      have c0 : wr.cell? ⟨b, j, none⟩ = some (.iface T u) := by rw [cell_of hblk]; simpa using hkv
      have C := Lib.hid (HC wr hbl2)
      have HS := Lib.hid (sumZ_take (kidsE X) j hjl)
      have hl2 := hLv.out (j + 1)
      rw [HS.out, ← hI.out] at hl2
      have hsz := hbl2.size
      generalize letsE ((kidsE X)[j]) = Q at *
      clear HC hkv HK hLv
      go_wp2_with (go_at_call 80; go_must (refine (C.out).mono ?_; rintro e w2 ⟨rfl, hb2⟩))
      go_roundw
      case rel => exact ⟨j + 1, Sm + Q, by omega, by go_num, by go_num, Lib.hid (by rw [HS.out, ← hI.out]), below_blk hb2 (lt_of_block hblk) hblk, hbl2.trans (hb2.mono hbl2.size)⟩
      case measure => simp [intOf]; omega
    · have : j = 1 := by omega
      subst this
      have hF := hI.out
      rw [List.take_of_length_le (by omega)] at hF
      have hF := Lib.hid hF
      clear hI HK hLv
      go_wp2_with fail
      go_ret
      exact ⟨ret_int (by rw [hF.out]), hbl2⟩
set_option maxHeartbeats 1000000 in
theorem lt_cond (a c d : Ex) (iha : LtC a) (ihc : LtC c) (ihd : LtC d) : LtC (Ex.cond a c d) := by
  intro v ok w hl hv hok
  simp only [EV] at hv
  obtain ⟨x, y, z, rfl, hx, hy, hz⟩ := hv
  obtain ⟨Tx, ux, rfl⟩ := hx.iface
  obtain ⟨Ty, uy, rfl⟩ := hy.iface
  obtain ⟨Tz, uz, rfl⟩ := hz.iface
  have hl2 := hl
  simp only [letsE] at hl2
  have HK : Hid (KidL w (kidsE (Ex.cond a c d)) [Value.iface Tx ux, Value.iface Ty uy, Value.iface Tz uz]) := Lib.hid (by
    intro j hj
    match j, hj with
    | 0, _ => exact ⟨_, _, rfl, kidL_of (x := a) iha (by omega) hx hok⟩
    | 1, _ => exact ⟨_, _, rfl, kidL_of (x := c) ihc (by omega) hy hok⟩
    | 2, _ => exact ⟨_, _, rfl, kidL_of (x := d) ihd (by omega) hz hok⟩
    )
  have HE := Lib.hid (lets_kids (Ex.cond a c d))
  have hlen : (kidsE (Ex.cond a c d)).length = 3 := rfl
  have hLv : Hid (∀ j, sumZ ((kidsE (Ex.cond a c d)).take j) ≤ 100000) := Lib.hid (fun j => by
    have h1 := sumZ_take_le (kidsE (Ex.cond a c d)) j
    have h2 := lets_kids (Ex.cond a c d)
    omega)
  rw [HE.out]
  simp only [baseZ]
  generalize hX : (Ex.cond a c d) = X at *
  try simp only [op2T, op1T]
  obtain ⟨kvs, hkvs⟩ : ∃ kvs, kvs = [Value.iface Tx ux, Value.iface Ty uy, Value.iface Tz uz] := ⟨_, rfl⟩
  rw [← hkvs] at HK
  have Hkv := Lib.hid hkvs
  clear hkvs
  clear HE hx hy hz iha ihc ihd hl hl2
  go_enter Tryz.func80, Tryz.ntmps80
  go_wp2_with (go_at_call 276; go_must (refine (kids_ifExpr_c Tx Ty Tz ux uy uz _).mono ?_; rintro e w1 ⟨⟨b, rfl, hbB, hbl, hblk⟩, hb1⟩; have hb1 : Below w.heap.size w w1 := (by first | exact hb1 | exact (below1 _ _).trans (hb1.mono (by simp)) | exact ((below1 _ _).alloc (by simp) _).trans (hb1.mono (by simp)))))
  have hS : w1.heap[b]? = some (.cells kvs.toArray 48 (0, 0)) := by rw [Hkv.out]; exact hblk
  clear hblk
  clear Hkv
  go_loopw [3, 19] (fun c i wr => ∃ j Sm : Nat, j ≤ 3 ∧ i = .int .i64 j ∧ c = .int .i64 (0 + Sm : Nat) ∧ Hid (Sm = sumZ ((kidsE X).take j)) ∧ wr.heap[b]? = some (.cells kvs.toArray 48 (0, 0)) ∧ Below w.heap.size w wr) (fun _ i _ => 3 - (intOf i).toNat)
  case atStart => exact ⟨0, 0, Nat.zero_le _, rfl, rfl, Lib.hid rfl, hS, hb1⟩
  case round =>
    obtain ⟨j, Sm, hj, rfl, rfl, hI, hblk, hbl2⟩ := hrel
    by_cases hlt : j < 3
    · have hjl : j < (kidsE X).length := by omega
      obtain ⟨T, u, hkv, HC⟩ := HK.out j hjl
      have c0 : wr.cell? ⟨b, j, none⟩ = some (.iface T u) := by rw [cell_of hblk]; simpa using hkv
      have C := Lib.hid (HC wr hbl2)
      have HS := Lib.hid (sumZ_take (kidsE X) j hjl)
      have hl2 := hLv.out (j + 1)
      rw [HS.out, ← hI.out] at hl2
      have hsz := hbl2.size
      generalize letsE ((kidsE X)[j]) = Q at *
      clear HC hkv HK hLv
      go_wp2_with (go_at_call 80; go_must (refine (C.out).mono ?_; rintro e w2 ⟨rfl, hb2⟩))
      go_roundw
      case rel => exact ⟨j + 1, Sm + Q, by omega, by go_num, by go_num, Lib.hid (by rw [HS.out, ← hI.out]), below_blk hb2 (lt_of_block hblk) hblk, hbl2.trans (hb2.mono hbl2.size)⟩
      case measure => simp [intOf]; omega
    · have : j = 3 := by omega
      subst this
      have hF := hI.out
      rw [List.take_of_length_le (by omega)] at hF
      have hF := Lib.hid hF
      clear hI HK hLv
      go_wp2_with fail
      go_ret
      exact ⟨ret_int (by rw [hF.out]), hbl2⟩
set_option maxHeartbeats 1000000 in
theorem lt_let (s : Nm) (a c : Ex) (iha : LtC a) (ihc : LtC c) : LtC (Ex.lete s a c) := by
  intro v ok w hl hv hok
  simp only [EV] at hv
  obtain ⟨x, y, rfl, hx, hy⟩ := hv
  obtain ⟨Tx, ux, rfl⟩ := hx.iface
  obtain ⟨Ty, uy, rfl⟩ := hy.iface
  have hl2 := hl
  simp only [letsE] at hl2
  have HK : Hid (KidL w (kidsE (Ex.lete s a c)) [Value.iface Tx ux, Value.iface Ty uy]) := Lib.hid (by
    intro j hj
    match j, hj with
    | 0, _ => exact ⟨_, _, rfl, kidL_of (x := a) iha (by omega) hx hok⟩
    | 1, _ => exact ⟨_, _, rfl, kidL_of (x := c) ihc (by omega) hy hok⟩
    )
  have HE := Lib.hid (lets_kids (Ex.lete s a c))
  have hlen : (kidsE (Ex.lete s a c)).length = 2 := rfl
  have hLv : Hid (∀ j, sumZ ((kidsE (Ex.lete s a c)).take j) ≤ 100000) := Lib.hid (fun j => by
    have h1 := sumZ_take_le (kidsE (Ex.lete s a c)) j
    have h2 := lets_kids (Ex.lete s a c)
    omega)
  rw [HE.out]
  simp only [baseZ]
  generalize hX : (Ex.lete s a c) = X at *
  try simp only [op2T, op1T]
  obtain ⟨kvs, hkvs⟩ : ∃ kvs, kvs = [Value.iface Tx ux, Value.iface Ty uy] := ⟨_, rfl⟩
  rw [← hkvs] at HK
  have Hkv := Lib.hid hkvs
  clear hkvs
  clear HE hx hy iha ihc hl hl2
  go_enter Tryz.func80, Tryz.ntmps80
  go_wp2_with (go_at_call 254; go_must (refine (kids_letExpr_c Tx Ty _ ux uy _).mono ?_; rintro e w1 ⟨⟨b, rfl, hbB, hbl, hblk⟩, hb1⟩; have hb1 : Below w.heap.size w w1 := (by first | exact hb1 | exact (below1 _ _).trans (hb1.mono (by simp)) | exact ((below1 _ _).alloc (by simp) _).trans (hb1.mono (by simp)))))
  have hS : w1.heap[b]? = some (.cells kvs.toArray 48 (0, 0)) := by rw [Hkv.out]; exact hblk
  clear hblk
  clear Hkv
  go_loopw [3, 19] (fun c i wr => ∃ j Sm : Nat, j ≤ 2 ∧ i = .int .i64 j ∧ c = .int .i64 (1 + Sm : Nat) ∧ Hid (Sm = sumZ ((kidsE X).take j)) ∧ wr.heap[b]? = some (.cells kvs.toArray 48 (0, 0)) ∧ Below w.heap.size w wr) (fun _ i _ => 2 - (intOf i).toNat)
  case atStart => exact ⟨0, 0, Nat.zero_le _, rfl, rfl, Lib.hid rfl, hS, hb1⟩
  case round =>
    obtain ⟨j, Sm, hj, rfl, rfl, hI, hblk, hbl2⟩ := hrel
    by_cases hlt : j < 2
    · have hjl : j < (kidsE X).length := by omega
      obtain ⟨T, u, hkv, HC⟩ := HK.out j hjl
      have c0 : wr.cell? ⟨b, j, none⟩ = some (.iface T u) := by rw [cell_of hblk]; simpa using hkv
      have C := Lib.hid (HC wr hbl2)
      have HS := Lib.hid (sumZ_take (kidsE X) j hjl)
      have hl2 := hLv.out (j + 1)
      rw [HS.out, ← hI.out] at hl2
      have hsz := hbl2.size
      generalize letsE ((kidsE X)[j]) = Q at *
      clear HC hkv HK hLv
      go_wp2_with (go_at_call 80; go_must (refine (C.out).mono ?_; rintro e w2 ⟨rfl, hb2⟩))
      go_roundw
      case rel => exact ⟨j + 1, Sm + Q, by omega, by go_num, by go_num, Lib.hid (by rw [HS.out, ← hI.out]), below_blk hb2 (lt_of_block hblk) hblk, hbl2.trans (hb2.mono hbl2.size)⟩
      case measure => simp [intOf]; omega
    · have : j = 2 := by omega
      subst this
      have hF := hI.out
      rw [List.take_of_length_le (by omega)] at hF
      have hF := Lib.hid hF
      clear hI HK hLv
      go_wp2_with fail
      go_ret
      exact ⟨ret_int (by rw [hF.out]), hbl2⟩
set_option maxHeartbeats 1000000 in
theorem lt_fun (f s : Nm) (A B : Tr) (c : Ex) (ihc : LtC c) : LtC (Ex.func f s A B c) := by
  intro v ok w hl hv hok
  simp only [EV] at hv
  obtain ⟨pa, na, ca, pb, nb, cb, y, rfl, hA, hBt, hy⟩ := hv
  obtain ⟨Ty, uy, rfl⟩ := hy.iface
  obtain ⟨la, lb, lc, ld, -, -, -, -, hnA⟩ := nI_named A
  obtain ⟨ma, mb, mc, md, -, -, -, -, hnB⟩ := nI_named B
  rw [hnA, hnB]
  simp only [List.cons_append, List.nil_append]
  have hl2 := hl
  simp only [letsE] at hl2
  have HK : Hid (KidL w (kidsE (Ex.func f s A B c)) [Value.iface Ty uy]) := Lib.hid (by
    intro j hj
    match j, hj with
    | 0, _ => exact ⟨_, _, rfl, kidL_of (x := c) ihc (by omega) hy hok⟩
    )
  have HE := Lib.hid (lets_kids (Ex.func f s A B c))
  have hlen : (kidsE (Ex.func f s A B c)).length = 1 := rfl
  have hLv : Hid (∀ j, sumZ ((kidsE (Ex.func f s A B c)).take j) ≤ 100000) := Lib.hid (fun j => by
    have h1 := sumZ_take_le (kidsE (Ex.func f s A B c)) j
    have h2 := lets_kids (Ex.func f s A B c)
    omega)
  rw [HE.out]
  simp only [baseZ]
  generalize hX : (Ex.func f s A B c) = X at *
  try simp only [op2T, op1T]
  obtain ⟨kvs, hkvs⟩ : ∃ kvs, kvs = [Value.iface Ty uy] := ⟨_, rfl⟩
  rw [← hkvs] at HK
  have Hkv := Lib.hid hkvs
  clear hkvs
  clear HE hy ihc hnA hnB hA hBt hl hl2
  go_enter Tryz.func80, Tryz.ntmps80
  go_wp2_with (go_at_call 257; go_must (refine (kids_funExpr_c Ty _ _ _ _ _ _ _ _ _ _ _ _ uy _).mono ?_; rintro e w1 ⟨⟨b, rfl, hbB, hbl, hblk⟩, hb1⟩; have hb1 : Below w.heap.size w w1 := (by first | exact hb1 | exact (below1 _ _).trans (hb1.mono (by simp)) | exact ((below1 _ _).alloc (by simp) _).trans (hb1.mono (by simp)))))
  have hS : w1.heap[b]? = some (.cells kvs.toArray 48 (0, 0)) := by rw [Hkv.out]; exact hblk
  clear hblk
  clear Hkv
  go_loopw [3, 19] (fun c i wr => ∃ j Sm : Nat, j ≤ 1 ∧ i = .int .i64 j ∧ c = .int .i64 (0 + Sm : Nat) ∧ Hid (Sm = sumZ ((kidsE X).take j)) ∧ wr.heap[b]? = some (.cells kvs.toArray 48 (0, 0)) ∧ Below w.heap.size w wr) (fun _ i _ => 1 - (intOf i).toNat)
  case atStart => exact ⟨0, 0, Nat.zero_le _, rfl, rfl, Lib.hid rfl, hS, hb1⟩
  case round =>
    obtain ⟨j, Sm, hj, rfl, rfl, hI, hblk, hbl2⟩ := hrel
    by_cases hlt : j < 1
    · have hjl : j < (kidsE X).length := by omega
      obtain ⟨T, u, hkv, HC⟩ := HK.out j hjl
      have c0 : wr.cell? ⟨b, j, none⟩ = some (.iface T u) := by rw [cell_of hblk]; simpa using hkv
      have C := Lib.hid (HC wr hbl2)
      have HS := Lib.hid (sumZ_take (kidsE X) j hjl)
      have hl2 := hLv.out (j + 1)
      rw [HS.out, ← hI.out] at hl2
      have hsz := hbl2.size
      generalize letsE ((kidsE X)[j]) = Q at *
      clear HC hkv HK hLv
      go_wp2_with (go_at_call 80; go_must (refine (C.out).mono ?_; rintro e w2 ⟨rfl, hb2⟩))
      go_roundw
      case rel => exact ⟨j + 1, Sm + Q, by omega, by go_num, by go_num, Lib.hid (by rw [HS.out, ← hI.out]), below_blk hb2 (lt_of_block hblk) hblk, hbl2.trans (hb2.mono hbl2.size)⟩
      case measure => simp [intOf]; omega
    · have : j = 1 := by omega
      subst this
      have hF := hI.out
      rw [List.take_of_length_le (by omega)] at hF
      have hF := Lib.hid hF
      clear hI HK hLv
      go_wp2_with fail
      go_ret
      exact ⟨ret_int (by rw [hF.out]), hbl2⟩
theorem lt_all : ∀ x : Ex, LtC x
  | .name s => lt_name s
  | .num n => lt_num n
  | .two .add x y => lt_add x y (lt_all x) (lt_all y)
  | .two .sub x y => lt_sub x y (lt_all x) (lt_all y)
  | .two .mul x y => lt_mul x y (lt_all x) (lt_all y)
  | .two .call x y => lt_call x y (lt_all x) (lt_all y)
  | .two .pair x y => lt_pair x y (lt_all x) (lt_all y)
  | .one .fst x => lt_fst x (lt_all x)
  | .one .snd x => lt_snd x (lt_all x)
  | .cond x y z => lt_cond x y z (lt_all x) (lt_all y) (lt_all z)
  | .lete s x y => lt_let s x y (lt_all x) (lt_all y)
  | .func f z A B x => lt_fun f z A B x (lt_all x)
set_option maxHeartbeats 1000000 in
theorem implNormalLets_c (s : ByteArray) (hs : s.size ≤ 1048576) (w : World) :
    Calls Tryz.prog 35 #[.string s] w fun e w' => e = .returned (.int .i64 (letsOf s.data.toList)) ∧ Below w.heap.size w w' := by
  cases hp : readNf s.data.toList with
  | none =>
    have C := Lib.hid (readNormal_none hs hp)
    rw [letsOf_none hp]
    clear hp
    go_enter Tryz.func35, Tryz.ntmps35
    go_wp2_with (go_at_call 76; go_must (refine (C.out _).mono ?_; rintro e w1 ⟨⟨v, rfl⟩, hb1⟩))
    go_ret
    exact ⟨rfl, hb1⟩
  | some x =>
    have C := Lib.hid (readNormal_some hs hp)
    have hl := readNf_lets hp
    rw [letsOf_some hp]
    have CF : Hid (∀ (w1 : World) (B : Nat) (v : Value), EV w1 (fun k => B ≤ k ∧ k < w1.heap.size) x v → Calls Tryz.prog 80 #[v] w1 fun e w' => e = .returned (.int .i64 (letsE x : Nat)) ∧ Below w1.heap.size w1 w') := Lib.hid (fun w1 B v hv => lt_all x v _ w1 (by omega) hv (fun k hk => hk.2))
    generalize letsE x = M at *
    clear hp
    go_enter Tryz.func35, Tryz.ntmps35
    go_wp2_with (first | (go_at_call 76; go_must (refine (C.out _).mono ?_; rintro e w1 ⟨⟨v, rfl, hv⟩, hb1⟩; obtain ⟨T, u, rfl⟩ := hv.iface)) | (go_at_call 80; go_must (refine (CF.out _ _ _ hv).mono ?_; rintro e w2 ⟨rfl, hb2⟩)))
    go_ret
    exact ⟨rfl, hb1.trans (hb2.mono hb1.size)⟩
end Go.Proofs.YtjfjlfhckfoehaaGreatDoor
