/- The program counts an expression and its parts. -/
import Derived.Test.YtjncmmnbdabjnaaGreatDoorI2p
import Derived.Test.YtjncmmnbdabjnaaGreatDoorSpec3aM
namespace Go.Proofs.YtjncmmnbdabjnaaGreatDoor
open Go.RowKit
set_option maxRecDepth 8000
set_option linter.unusedSimpArgs false
set_option linter.unusedVariables false
def MnC (x : Ex) : Prop := ∀ (v : Value) (ok : Nat → Prop) (w : World), manyE x ≤ 100000 → EV w ok x v → (∀ k, ok k → k < w.heap.size) → Calls Tryz.prog 50 #[v] w fun e w' => e = .returned (.int .i64 (manyE x : Nat)) ∧ Below w.heap.size w w'
def KidM (w : World) (ks : List Ex) (kvs : List Value) : Prop := ∀ j (hj : j < ks.length), ∃ T u, kvs[j]? = some (.iface T u) ∧ ∀ W, Below w.heap.size w W → Calls Tryz.prog 50 #[.iface T u] W fun e w' => e = .returned (.int .i64 (manyE ks[j] : Nat)) ∧ Below W.heap.size W w'
theorem kidM_of {x : Ex} {T : TypeId} {u : Value} {w : World} {ok : Nat → Prop} (ih : MnC x) (hl : manyE x ≤ 100000) (hv : EV w ok x (.iface T u)) (hok : ∀ k, ok k → k < w.heap.size) : ∀ W, Below w.heap.size w W → Calls Tryz.prog 50 #[.iface T u] W fun e w' => e = .returned (.int .i64 (manyE x : Nat)) ∧ Below W.heap.size W w' :=
  fun W hW => ih _ ok W hl (hv.below hW hok) (fun k hk => Nat.lt_of_lt_of_le (hok k hk) hW.size)
theorem mn_name (s : Nm) : MnC (.name s) := by
  intro v ok w hl hv hok
  simp only [EV] at hv
  subst hv
  rw [show manyE (.name s) = 1 from rfl]
  clear hl
  go_enter Tryz.func50, Tryz.ntmps50
  go_wp2_with (go_at_call 213; go_must (refine (kids_nameExpr_c _ _).mono ?_; rintro e w1 ⟨rfl, hb1⟩))
  refine wp_loop_rounds 1 ?_
  rw [rounds_succ]
  go_wp2_with fail
  go_ret
  exact ⟨rfl, hb1⟩
theorem mn_num (n : Int) : MnC (.num n) := by
  intro v ok w hl hv hok
  simp only [EV] at hv
  subst hv
  rw [show manyE (.num n) = 1 from rfl]
  clear hl
  go_enter Tryz.func50, Tryz.ntmps50
  go_wp2_with (go_at_call 216; go_must (refine (kids_numberExpr_c _ _).mono ?_; rintro e w1 ⟨rfl, hb1⟩))
  refine wp_loop_rounds 1 ?_
  rw [rounds_succ]
  go_wp2_with fail
  go_ret
  exact ⟨rfl, hb1⟩
set_option maxHeartbeats 1000000 in
theorem mn_add (a c : Ex) (iha : MnC a) (ihc : MnC c) : MnC (Ex.two Op2.add a c) := by
  intro v ok w hl hv hok
  simp only [EV] at hv
  obtain ⟨x, y, rfl, hx, hy⟩ := hv
  obtain ⟨Tx, ux, rfl⟩ := hx.iface
  obtain ⟨Ty, uy, rfl⟩ := hy.iface
  have hl2 := hl
  simp only [manyE] at hl2
  have HK : Hid (KidM w (kidsE (Ex.two Op2.add a c)) [Value.iface Tx ux, Value.iface Ty uy]) := Lib.hid (by
    intro j hj
    match j, hj with
    | 0, _ => exact ⟨_, _, rfl, kidM_of (x := a) iha (by omega) hx hok⟩
    | 1, _ => exact ⟨_, _, rfl, kidM_of (x := c) ihc (by omega) hy hok⟩
    )
  have HE := Lib.hid (many_kids (Ex.two Op2.add a c))
  have hlen : (kidsE (Ex.two Op2.add a c)).length = 2 := rfl
  have hLv : Hid (∀ j, sumM ((kidsE (Ex.two Op2.add a c)).take j) ≤ 100000) := Lib.hid (fun j => by
    have h1 := sumM_take_le (kidsE (Ex.two Op2.add a c)) j
    have h2 := many_kids (Ex.two Op2.add a c)
    omega)
  rw [HE.out]
  generalize hX : (Ex.two Op2.add a c) = X at *
  try simp only [op2T, op1T]
  obtain ⟨kvs, hkvs⟩ : ∃ kvs, kvs = [Value.iface Tx ux, Value.iface Ty uy] := ⟨_, rfl⟩
  rw [← hkvs] at HK
  have Hkv := Lib.hid hkvs
  clear hkvs
  clear HE hx hy iha ihc hl hl2
  go_enter Tryz.func50, Tryz.ntmps50
  go_wp2_with (go_at_call 218; go_must (refine (kids_twoKids_c Tx Ty ux uy _).mono ?_; rintro e w1 ⟨⟨b, rfl, hbB, hbl, hblk⟩, hb1⟩))
  have hS : w1.heap[b]? = some (.cells kvs.toArray 56 (0, 0)) := by rw [Hkv.out]; exact hblk
  clear hblk
  clear Hkv
  go_loopw [3, 9] (fun c i wr => ∃ j Sm : Nat, j ≤ 2 ∧ i = .int .i64 j ∧ c = .int .i64 (1 + Sm : Nat) ∧ Hid (Sm = sumM ((kidsE X).take j)) ∧ wr.heap[b]? = some (.cells kvs.toArray 56 (0, 0)) ∧ Below w.heap.size w wr) (fun _ i _ => 2 - (intOf i).toNat)
  case atStart => exact ⟨0, 0, Nat.zero_le _, rfl, rfl, Lib.hid rfl, hS, hb1⟩
  case round =>
    obtain ⟨j, Sm, hj, rfl, rfl, hI, hblk, hbl2⟩ := hrel
    by_cases hlt : j < 2
    · have hjl : j < (kidsE X).length := by omega
      obtain ⟨T, u, hkv, HC⟩ := HK.out j hjl
      have c0 : wr.cell? ⟨b, j, none⟩ = some (.iface T u) := by rw [cell_of hblk]; simpa using hkv
      have C := Lib.hid (HC wr hbl2)
      have HS := Lib.hid (sumM_take (kidsE X) j hjl)
      have hl2 := hLv.out (j + 1)
      rw [HS.out, ← hI.out] at hl2
      have hsz := hbl2.size
      generalize manyE ((kidsE X)[j]) = Q at *
      clear HC hkv HK hLv
      go_wp2_with (go_at_call 50; go_must (refine (C.out).mono ?_; rintro e w2 ⟨rfl, hb2⟩))
      go_roundw
      case rel => exact ⟨j + 1, Sm + Q, by omega, by go_num, by go_num, Lib.hid (by rw [HS.out, ← hI.out]), below_blk hb2 (lt_of_block hblk) hblk, hbl2.trans (hb2.mono hbl2.size)⟩
      case measure => simp [intOf]; omega
    · have : j = 2 := by omega
      subst this
      have hF := hI.out
      rw [List.take_of_length_le (by omega)] at hF
      have hF := Lib.hid hF
      clear hI HK hLv
      go_wp2_with fail
      go_ret
      exact ⟨ret_int (by rw [hF.out]), hbl2⟩
set_option maxHeartbeats 1000000 in
theorem mn_sub (a c : Ex) (iha : MnC a) (ihc : MnC c) : MnC (Ex.two Op2.sub a c) := by
  intro v ok w hl hv hok
  simp only [EV] at hv
  obtain ⟨x, y, rfl, hx, hy⟩ := hv
  obtain ⟨Tx, ux, rfl⟩ := hx.iface
  obtain ⟨Ty, uy, rfl⟩ := hy.iface
  have hl2 := hl
  simp only [manyE] at hl2
  have HK : Hid (KidM w (kidsE (Ex.two Op2.sub a c)) [Value.iface Tx ux, Value.iface Ty uy]) := Lib.hid (by
    intro j hj
    match j, hj with
    | 0, _ => exact ⟨_, _, rfl, kidM_of (x := a) iha (by omega) hx hok⟩
    | 1, _ => exact ⟨_, _, rfl, kidM_of (x := c) ihc (by omega) hy hok⟩
    )
  have HE := Lib.hid (many_kids (Ex.two Op2.sub a c))
  have hlen : (kidsE (Ex.two Op2.sub a c)).length = 2 := rfl
  have hLv : Hid (∀ j, sumM ((kidsE (Ex.two Op2.sub a c)).take j) ≤ 100000) := Lib.hid (fun j => by
    have h1 := sumM_take_le (kidsE (Ex.two Op2.sub a c)) j
    have h2 := many_kids (Ex.two Op2.sub a c)
    omega)
  rw [HE.out]
  generalize hX : (Ex.two Op2.sub a c) = X at *
  try simp only [op2T, op1T]
  obtain ⟨kvs, hkvs⟩ : ∃ kvs, kvs = [Value.iface Tx ux, Value.iface Ty uy] := ⟨_, rfl⟩
  rw [← hkvs] at HK
  have Hkv := Lib.hid hkvs
  clear hkvs
  clear HE hx hy iha ihc hl hl2
  go_enter Tryz.func50, Tryz.ntmps50
  go_wp2_with (go_at_call 218; go_must (refine (kids_twoKids_c Tx Ty ux uy _).mono ?_; rintro e w1 ⟨⟨b, rfl, hbB, hbl, hblk⟩, hb1⟩))
  have hS : w1.heap[b]? = some (.cells kvs.toArray 56 (0, 0)) := by rw [Hkv.out]; exact hblk
  clear hblk
  clear Hkv
  go_loopw [3, 9] (fun c i wr => ∃ j Sm : Nat, j ≤ 2 ∧ i = .int .i64 j ∧ c = .int .i64 (1 + Sm : Nat) ∧ Hid (Sm = sumM ((kidsE X).take j)) ∧ wr.heap[b]? = some (.cells kvs.toArray 56 (0, 0)) ∧ Below w.heap.size w wr) (fun _ i _ => 2 - (intOf i).toNat)
  case atStart => exact ⟨0, 0, Nat.zero_le _, rfl, rfl, Lib.hid rfl, hS, hb1⟩
  case round =>
    obtain ⟨j, Sm, hj, rfl, rfl, hI, hblk, hbl2⟩ := hrel
    by_cases hlt : j < 2
    · have hjl : j < (kidsE X).length := by omega
      obtain ⟨T, u, hkv, HC⟩ := HK.out j hjl
      have c0 : wr.cell? ⟨b, j, none⟩ = some (.iface T u) := by rw [cell_of hblk]; simpa using hkv
      have C := Lib.hid (HC wr hbl2)
      have HS := Lib.hid (sumM_take (kidsE X) j hjl)
      have hl2 := hLv.out (j + 1)
      rw [HS.out, ← hI.out] at hl2
      have hsz := hbl2.size
      generalize manyE ((kidsE X)[j]) = Q at *
      clear HC hkv HK hLv
      go_wp2_with (go_at_call 50; go_must (refine (C.out).mono ?_; rintro e w2 ⟨rfl, hb2⟩))
      go_roundw
      case rel => exact ⟨j + 1, Sm + Q, by omega, by go_num, by go_num, Lib.hid (by rw [HS.out, ← hI.out]), below_blk hb2 (lt_of_block hblk) hblk, hbl2.trans (hb2.mono hbl2.size)⟩
      case measure => simp [intOf]; omega
    · have : j = 2 := by omega
      subst this
      have hF := hI.out
      rw [List.take_of_length_le (by omega)] at hF
      have hF := Lib.hid hF
      clear hI HK hLv
      go_wp2_with fail
      go_ret
      exact ⟨ret_int (by rw [hF.out]), hbl2⟩
set_option maxHeartbeats 1000000 in
theorem mn_mul (a c : Ex) (iha : MnC a) (ihc : MnC c) : MnC (Ex.two Op2.mul a c) := by
  intro v ok w hl hv hok
  simp only [EV] at hv
  obtain ⟨x, y, rfl, hx, hy⟩ := hv
  obtain ⟨Tx, ux, rfl⟩ := hx.iface
  obtain ⟨Ty, uy, rfl⟩ := hy.iface
  have hl2 := hl
  simp only [manyE] at hl2
  have HK : Hid (KidM w (kidsE (Ex.two Op2.mul a c)) [Value.iface Tx ux, Value.iface Ty uy]) := Lib.hid (by
    intro j hj
    match j, hj with
    | 0, _ => exact ⟨_, _, rfl, kidM_of (x := a) iha (by omega) hx hok⟩
    | 1, _ => exact ⟨_, _, rfl, kidM_of (x := c) ihc (by omega) hy hok⟩
    )
  have HE := Lib.hid (many_kids (Ex.two Op2.mul a c))
  have hlen : (kidsE (Ex.two Op2.mul a c)).length = 2 := rfl
  have hLv : Hid (∀ j, sumM ((kidsE (Ex.two Op2.mul a c)).take j) ≤ 100000) := Lib.hid (fun j => by
    have h1 := sumM_take_le (kidsE (Ex.two Op2.mul a c)) j
    have h2 := many_kids (Ex.two Op2.mul a c)
    omega)
  rw [HE.out]
  generalize hX : (Ex.two Op2.mul a c) = X at *
  try simp only [op2T, op1T]
  obtain ⟨kvs, hkvs⟩ : ∃ kvs, kvs = [Value.iface Tx ux, Value.iface Ty uy] := ⟨_, rfl⟩
  rw [← hkvs] at HK
  have Hkv := Lib.hid hkvs
  clear hkvs
  clear HE hx hy iha ihc hl hl2
  go_enter Tryz.func50, Tryz.ntmps50
  go_wp2_with (go_at_call 218; go_must (refine (kids_twoKids_c Tx Ty ux uy _).mono ?_; rintro e w1 ⟨⟨b, rfl, hbB, hbl, hblk⟩, hb1⟩))
  have hS : w1.heap[b]? = some (.cells kvs.toArray 56 (0, 0)) := by rw [Hkv.out]; exact hblk
  clear hblk
  clear Hkv
  go_loopw [3, 9] (fun c i wr => ∃ j Sm : Nat, j ≤ 2 ∧ i = .int .i64 j ∧ c = .int .i64 (1 + Sm : Nat) ∧ Hid (Sm = sumM ((kidsE X).take j)) ∧ wr.heap[b]? = some (.cells kvs.toArray 56 (0, 0)) ∧ Below w.heap.size w wr) (fun _ i _ => 2 - (intOf i).toNat)
  case atStart => exact ⟨0, 0, Nat.zero_le _, rfl, rfl, Lib.hid rfl, hS, hb1⟩
  case round =>
    obtain ⟨j, Sm, hj, rfl, rfl, hI, hblk, hbl2⟩ := hrel
    by_cases hlt : j < 2
    · have hjl : j < (kidsE X).length := by omega
      obtain ⟨T, u, hkv, HC⟩ := HK.out j hjl
      have c0 : wr.cell? ⟨b, j, none⟩ = some (.iface T u) := by rw [cell_of hblk]; simpa using hkv
      have C := Lib.hid (HC wr hbl2)
      have HS := Lib.hid (sumM_take (kidsE X) j hjl)
      have hl2 := hLv.out (j + 1)
      rw [HS.out, ← hI.out] at hl2
      have hsz := hbl2.size
      generalize manyE ((kidsE X)[j]) = Q at *
      clear HC hkv HK hLv
      go_wp2_with (go_at_call 50; go_must (refine (C.out).mono ?_; rintro e w2 ⟨rfl, hb2⟩))
      go_roundw
      case rel => exact ⟨j + 1, Sm + Q, by omega, by go_num, by go_num, Lib.hid (by rw [HS.out, ← hI.out]), below_blk hb2 (lt_of_block hblk) hblk, hbl2.trans (hb2.mono hbl2.size)⟩
      case measure => simp [intOf]; omega
    · have : j = 2 := by omega
      subst this
      have hF := hI.out
      rw [List.take_of_length_le (by omega)] at hF
      have hF := Lib.hid hF
      clear hI HK hLv
      go_wp2_with fail
      go_ret
      exact ⟨ret_int (by rw [hF.out]), hbl2⟩
set_option maxHeartbeats 1000000 in
theorem mn_call (a c : Ex) (iha : MnC a) (ihc : MnC c) : MnC (Ex.two Op2.call a c) := by
  intro v ok w hl hv hok
  simp only [EV] at hv
  obtain ⟨x, y, rfl, hx, hy⟩ := hv
  obtain ⟨Tx, ux, rfl⟩ := hx.iface
  obtain ⟨Ty, uy, rfl⟩ := hy.iface
  have hl2 := hl
  simp only [manyE] at hl2
  have HK : Hid (KidM w (kidsE (Ex.two Op2.call a c)) [Value.iface Tx ux, Value.iface Ty uy]) := Lib.hid (by
    intro j hj
    match j, hj with
    | 0, _ => exact ⟨_, _, rfl, kidM_of (x := a) iha (by omega) hx hok⟩
    | 1, _ => exact ⟨_, _, rfl, kidM_of (x := c) ihc (by omega) hy hok⟩
    )
  have HE := Lib.hid (many_kids (Ex.two Op2.call a c))
  have hlen : (kidsE (Ex.two Op2.call a c)).length = 2 := rfl
  have hLv : Hid (∀ j, sumM ((kidsE (Ex.two Op2.call a c)).take j) ≤ 100000) := Lib.hid (fun j => by
    have h1 := sumM_take_le (kidsE (Ex.two Op2.call a c)) j
    have h2 := many_kids (Ex.two Op2.call a c)
    omega)
  rw [HE.out]
  generalize hX : (Ex.two Op2.call a c) = X at *
  try simp only [op2T, op1T]
  obtain ⟨kvs, hkvs⟩ : ∃ kvs, kvs = [Value.iface Tx ux, Value.iface Ty uy] := ⟨_, rfl⟩
  rw [← hkvs] at HK
  have Hkv := Lib.hid hkvs
  clear hkvs
  clear HE hx hy iha ihc hl hl2
  go_enter Tryz.func50, Tryz.ntmps50
  go_wp2_with (go_at_call 218; go_must (refine (kids_twoKids_c Tx Ty ux uy _).mono ?_; rintro e w1 ⟨⟨b, rfl, hbB, hbl, hblk⟩, hb1⟩))
  have hS : w1.heap[b]? = some (.cells kvs.toArray 56 (0, 0)) := by rw [Hkv.out]; exact hblk
  clear hblk
  clear Hkv
  go_loopw [3, 9] (fun c i wr => ∃ j Sm : Nat, j ≤ 2 ∧ i = .int .i64 j ∧ c = .int .i64 (1 + Sm : Nat) ∧ Hid (Sm = sumM ((kidsE X).take j)) ∧ wr.heap[b]? = some (.cells kvs.toArray 56 (0, 0)) ∧ Below w.heap.size w wr) (fun _ i _ => 2 - (intOf i).toNat)
  case atStart => exact ⟨0, 0, Nat.zero_le _, rfl, rfl, Lib.hid rfl, hS, hb1⟩
  case round =>
    obtain ⟨j, Sm, hj, rfl, rfl, hI, hblk, hbl2⟩ := hrel
    by_cases hlt : j < 2
    · have hjl : j < (kidsE X).length := by omega
      obtain ⟨T, u, hkv, HC⟩ := HK.out j hjl
      have c0 : wr.cell? ⟨b, j, none⟩ = some (.iface T u) := by rw [cell_of hblk]; simpa using hkv
      have C := Lib.hid (HC wr hbl2)
      have HS := Lib.hid (sumM_take (kidsE X) j hjl)
      have hl2 := hLv.out (j + 1)
      rw [HS.out, ← hI.out] at hl2
      have hsz := hbl2.size
      generalize manyE ((kidsE X)[j]) = Q at *
      clear HC hkv HK hLv
      go_wp2_with (go_at_call 50; go_must (refine (C.out).mono ?_; rintro e w2 ⟨rfl, hb2⟩))
      go_roundw
      case rel => exact ⟨j + 1, Sm + Q, by omega, by go_num, by go_num, Lib.hid (by rw [HS.out, ← hI.out]), below_blk hb2 (lt_of_block hblk) hblk, hbl2.trans (hb2.mono hbl2.size)⟩
      case measure => simp [intOf]; omega
    · have : j = 2 := by omega
      subst this
      have hF := hI.out
      rw [List.take_of_length_le (by omega)] at hF
      have hF := Lib.hid hF
      clear hI HK hLv
      go_wp2_with fail
      go_ret
      exact ⟨ret_int (by rw [hF.out]), hbl2⟩
set_option maxHeartbeats 1000000 in
theorem mn_pair (a c : Ex) (iha : MnC a) (ihc : MnC c) : MnC (Ex.two Op2.pair a c) := by
  intro v ok w hl hv hok
  simp only [EV] at hv
  obtain ⟨x, y, rfl, hx, hy⟩ := hv
  obtain ⟨Tx, ux, rfl⟩ := hx.iface
  obtain ⟨Ty, uy, rfl⟩ := hy.iface
  have hl2 := hl
  simp only [manyE] at hl2
  have HK : Hid (KidM w (kidsE (Ex.two Op2.pair a c)) [Value.iface Tx ux, Value.iface Ty uy]) := Lib.hid (by
    intro j hj
    match j, hj with
    | 0, _ => exact ⟨_, _, rfl, kidM_of (x := a) iha (by omega) hx hok⟩
    | 1, _ => exact ⟨_, _, rfl, kidM_of (x := c) ihc (by omega) hy hok⟩
    )
  have HE := Lib.hid (many_kids (Ex.two Op2.pair a c))
  have hlen : (kidsE (Ex.two Op2.pair a c)).length = 2 := rfl
  have hLv : Hid (∀ j, sumM ((kidsE (Ex.two Op2.pair a c)).take j) ≤ 100000) := Lib.hid (fun j => by
    have h1 := sumM_take_le (kidsE (Ex.two Op2.pair a c)) j
    have h2 := many_kids (Ex.two Op2.pair a c)
    omega)
  rw [HE.out]
  generalize hX : (Ex.two Op2.pair a c) = X at *
  try simp only [op2T, op1T]
  obtain ⟨kvs, hkvs⟩ : ∃ kvs, kvs = [Value.iface Tx ux, Value.iface Ty uy] := ⟨_, rfl⟩
  rw [← hkvs] at HK
  have Hkv := Lib.hid hkvs
  clear hkvs
  clear HE hx hy iha ihc hl hl2
  go_enter Tryz.func50, Tryz.ntmps50
  go_wp2_with (go_at_call 218; go_must (refine (kids_twoKids_c Tx Ty ux uy _).mono ?_; rintro e w1 ⟨⟨b, rfl, hbB, hbl, hblk⟩, hb1⟩))
  have hS : w1.heap[b]? = some (.cells kvs.toArray 56 (0, 0)) := by rw [Hkv.out]; exact hblk
  clear hblk
  clear Hkv
  go_loopw [3, 9] (fun c i wr => ∃ j Sm : Nat, j ≤ 2 ∧ i = .int .i64 j ∧ c = .int .i64 (1 + Sm : Nat) ∧ Hid (Sm = sumM ((kidsE X).take j)) ∧ wr.heap[b]? = some (.cells kvs.toArray 56 (0, 0)) ∧ Below w.heap.size w wr) (fun _ i _ => 2 - (intOf i).toNat)
  case atStart => exact ⟨0, 0, Nat.zero_le _, rfl, rfl, Lib.hid rfl, hS, hb1⟩
  case round =>
    obtain ⟨j, Sm, hj, rfl, rfl, hI, hblk, hbl2⟩ := hrel
    by_cases hlt : j < 2
    · have hjl : j < (kidsE X).length := by omega
      obtain ⟨T, u, hkv, HC⟩ := HK.out j hjl
      have c0 : wr.cell? ⟨b, j, none⟩ = some (.iface T u) := by rw [cell_of hblk]; simpa using hkv
      have C := Lib.hid (HC wr hbl2)
      have HS := Lib.hid (sumM_take (kidsE X) j hjl)
      have hl2 := hLv.out (j + 1)
      rw [HS.out, ← hI.out] at hl2
      have hsz := hbl2.size
      generalize manyE ((kidsE X)[j]) = Q at *
      clear HC hkv HK hLv
      go_wp2_with (go_at_call 50; go_must (refine (C.out).mono ?_; rintro e w2 ⟨rfl, hb2⟩))
      go_roundw
      case rel => exact ⟨j + 1, Sm + Q, by omega, by go_num, by go_num, Lib.hid (by rw [HS.out, ← hI.out]), below_blk hb2 (lt_of_block hblk) hblk, hbl2.trans (hb2.mono hbl2.size)⟩
      case measure => simp [intOf]; omega
    · have : j = 2 := by omega
      subst this
      have hF := hI.out
      rw [List.take_of_length_le (by omega)] at hF
      have hF := Lib.hid hF
      clear hI HK hLv
      go_wp2_with fail
      go_ret
      exact ⟨ret_int (by rw [hF.out]), hbl2⟩
set_option maxHeartbeats 1000000 in
theorem mn_fst (a : Ex) (iha : MnC a) : MnC (Ex.one Op1.fst a) := by
  intro v ok w hl hv hok
  simp only [EV] at hv
  obtain ⟨x, rfl, hx⟩ := hv
  obtain ⟨Tx, ux, rfl⟩ := hx.iface
  have hl2 := hl
  simp only [manyE] at hl2
  have HK : Hid (KidM w (kidsE (Ex.one Op1.fst a)) [Value.iface Tx ux]) := Lib.hid (by
    intro j hj
    match j, hj with
    | 0, _ => exact ⟨_, _, rfl, kidM_of (x := a) iha (by omega) hx hok⟩
    )
  have HE := Lib.hid (many_kids (Ex.one Op1.fst a))
  have hlen : (kidsE (Ex.one Op1.fst a)).length = 1 := rfl
  have hLv : Hid (∀ j, sumM ((kidsE (Ex.one Op1.fst a)).take j) ≤ 100000) := Lib.hid (fun j => by
    have h1 := sumM_take_le (kidsE (Ex.one Op1.fst a)) j
    have h2 := many_kids (Ex.one Op1.fst a)
    omega)
  rw [HE.out]
  generalize hX : (Ex.one Op1.fst a) = X at *
  try simp only [op2T, op1T]
  obtain ⟨kvs, hkvs⟩ : ∃ kvs, kvs = [Value.iface Tx ux] := ⟨_, rfl⟩
  rw [← hkvs] at HK
  have Hkv := Lib.hid hkvs
  clear hkvs
  clear HE hx iha hl hl2
  go_enter Tryz.func50, Tryz.ntmps50
  go_wp2_with (go_at_call 233; go_must (refine (kids_oneKid_c Tx ux _).mono ?_; rintro e w1 ⟨⟨b, rfl, hbB, hbl, hblk⟩, hb1⟩))
  have hS : w1.heap[b]? = some (.cells kvs.toArray 56 (0, 0)) := by rw [Hkv.out]; exact hblk
  clear hblk
  clear Hkv
  go_loopw [3, 9] (fun c i wr => ∃ j Sm : Nat, j ≤ 1 ∧ i = .int .i64 j ∧ c = .int .i64 (1 + Sm : Nat) ∧ Hid (Sm = sumM ((kidsE X).take j)) ∧ wr.heap[b]? = some (.cells kvs.toArray 56 (0, 0)) ∧ Below w.heap.size w wr) (fun _ i _ => 1 - (intOf i).toNat)
  case atStart => exact ⟨0, 0, Nat.zero_le _, rfl, rfl, Lib.hid rfl, hS, hb1⟩
  case round =>
    obtain ⟨j, Sm, hj, rfl, rfl, hI, hblk, hbl2⟩ := hrel
    by_cases hlt : j < 1
    · have hjl : j < (kidsE X).length := by omega
      obtain ⟨T, u, hkv, HC⟩ := HK.out j hjl
      have c0 : wr.cell? ⟨b, j, none⟩ = some (.iface T u) := by rw [cell_of hblk]; simpa using hkv
      have C := Lib.hid (HC wr hbl2)
      have HS := Lib.hid (sumM_take (kidsE X) j hjl)
      have hl2 := hLv.out (j + 1)
      rw [HS.out, ← hI.out] at hl2
      have hsz := hbl2.size
      generalize manyE ((kidsE X)[j]) = Q at *
      clear HC hkv HK hLv
      go_wp2_with (go_at_call 50; go_must (refine (C.out).mono ?_; rintro e w2 ⟨rfl, hb2⟩))
      go_roundw
      case rel => exact ⟨j + 1, Sm + Q, by omega, by go_num, by go_num, Lib.hid (by rw [HS.out, ← hI.out]), below_blk hb2 (lt_of_block hblk) hblk, hbl2.trans (hb2.mono hbl2.size)⟩
      case measure => simp [intOf]; omega
    · have : j = 1 := by omega
      subst this
      have hF := hI.out
      rw [List.take_of_length_le (by omega)] at hF
      have hF := Lib.hid hF
      clear hI HK hLv
      go_wp2_with fail
      go_ret
      exact ⟨ret_int (by rw [hF.out]), hbl2⟩
set_option maxHeartbeats 1000000 in
theorem mn_snd (a : Ex) (iha : MnC a) : MnC (Ex.one Op1.snd a) := by
  intro v ok w hl hv hok
  simp only [EV] at hv
  obtain ⟨x, rfl, hx⟩ := hv
  obtain ⟨Tx, ux, rfl⟩ := hx.iface
  have hl2 := hl
  simp only [manyE] at hl2
  have HK : Hid (KidM w (kidsE (Ex.one Op1.snd a)) [Value.iface Tx ux]) := Lib.hid (by
    intro j hj
    match j, hj with
    | 0, _ => exact ⟨_, _, rfl, kidM_of (x := a) iha (by omega) hx hok⟩
    )
  have HE := Lib.hid (many_kids (Ex.one Op1.snd a))
  have hlen : (kidsE (Ex.one Op1.snd a)).length = 1 := rfl
  have hLv : Hid (∀ j, sumM ((kidsE (Ex.one Op1.snd a)).take j) ≤ 100000) := Lib.hid (fun j => by
    have h1 := sumM_take_le (kidsE (Ex.one Op1.snd a)) j
    have h2 := many_kids (Ex.one Op1.snd a)
    omega)
  rw [HE.out]
  generalize hX : (Ex.one Op1.snd a) = X at *
  try simp only [op2T, op1T]
  obtain ⟨kvs, hkvs⟩ : ∃ kvs, kvs = [Value.iface Tx ux] := ⟨_, rfl⟩
  rw [← hkvs] at HK
  have Hkv := Lib.hid hkvs
  clear hkvs
  clear HE hx iha hl hl2
  go_enter Tryz.func50, Tryz.ntmps50
  go_wp2_with (go_at_call 233; go_must (refine (kids_oneKid_c Tx ux _).mono ?_; rintro e w1 ⟨⟨b, rfl, hbB, hbl, hblk⟩, hb1⟩))
  have hS : w1.heap[b]? = some (.cells kvs.toArray 56 (0, 0)) := by rw [Hkv.out]; exact hblk
  clear hblk
  clear Hkv
  go_loopw [3, 9] (fun c i wr => ∃ j Sm : Nat, j ≤ 1 ∧ i = .int .i64 j ∧ c = .int .i64 (1 + Sm : Nat) ∧ Hid (Sm = sumM ((kidsE X).take j)) ∧ wr.heap[b]? = some (.cells kvs.toArray 56 (0, 0)) ∧ Below w.heap.size w wr) (fun _ i _ => 1 - (intOf i).toNat)
  case atStart => exact ⟨0, 0, Nat.zero_le _, rfl, rfl, Lib.hid rfl, hS, hb1⟩
  case round =>
    obtain ⟨j, Sm, hj, rfl, rfl, hI, hblk, hbl2⟩ := hrel
    by_cases hlt : j < 1
    · have hjl : j < (kidsE X).length := by omega
      obtain ⟨T, u, hkv, HC⟩ := HK.out j hjl
      have c0 : wr.cell? ⟨b, j, none⟩ = some (.iface T u) := by rw [cell_of hblk]; simpa using hkv
      have C := Lib.hid (HC wr hbl2)
      have HS := Lib.hid (sumM_take (kidsE X) j hjl)
      have hl2 := hLv.out (j + 1)
      rw [HS.out, ← hI.out] at hl2
      have hsz := hbl2.size
      generalize manyE ((kidsE X)[j]) = Q at *
      clear HC hkv HK hLv
      go_wp2_with (go_at_call 50; go_must (refine (C.out).mono ?_; rintro e w2 ⟨rfl, hb2⟩))
      go_roundw
      case rel => exact ⟨j + 1, Sm + Q, by omega, by go_num, by go_num, Lib.hid (by rw [HS.out, ← hI.out]), below_blk hb2 (lt_of_block hblk) hblk, hbl2.trans (hb2.mono hbl2.size)⟩
      case measure => simp [intOf]; omega
    · have : j = 1 := by omega
      subst this
      have hF := hI.out
      rw [List.take_of_length_le (by omega)] at hF
      have hF := Lib.hid hF
      clear hI HK hLv
      go_wp2_with fail
      go_ret
      exact ⟨ret_int (by rw [hF.out]), hbl2⟩
set_option maxHeartbeats 1000000 in
theorem mn_cond (a c d : Ex) (iha : MnC a) (ihc : MnC c) (ihd : MnC d) : MnC (Ex.cond a c d) := by
  intro v ok w hl hv hok
  simp only [EV] at hv
  obtain ⟨x, y, z, rfl, hx, hy, hz⟩ := hv
  obtain ⟨Tx, ux, rfl⟩ := hx.iface
  obtain ⟨Ty, uy, rfl⟩ := hy.iface
  obtain ⟨Tz, uz, rfl⟩ := hz.iface
  have hl2 := hl
  simp only [manyE] at hl2
  have HK : Hid (KidM w (kidsE (Ex.cond a c d)) [Value.iface Tx ux, Value.iface Ty uy, Value.iface Tz uz]) := Lib.hid (by
    intro j hj
    match j, hj with
    | 0, _ => exact ⟨_, _, rfl, kidM_of (x := a) iha (by omega) hx hok⟩
    | 1, _ => exact ⟨_, _, rfl, kidM_of (x := c) ihc (by omega) hy hok⟩
    | 2, _ => exact ⟨_, _, rfl, kidM_of (x := d) ihd (by omega) hz hok⟩
    )
  have HE := Lib.hid (many_kids (Ex.cond a c d))
  have hlen : (kidsE (Ex.cond a c d)).length = 3 := rfl
  have hLv : Hid (∀ j, sumM ((kidsE (Ex.cond a c d)).take j) ≤ 100000) := Lib.hid (fun j => by
    have h1 := sumM_take_le (kidsE (Ex.cond a c d)) j
    have h2 := many_kids (Ex.cond a c d)
    omega)
  rw [HE.out]
  generalize hX : (Ex.cond a c d) = X at *
  try simp only [op2T, op1T]
  obtain ⟨kvs, hkvs⟩ : ∃ kvs, kvs = [Value.iface Tx ux, Value.iface Ty uy, Value.iface Tz uz] := ⟨_, rfl⟩
  rw [← hkvs] at HK
  have Hkv := Lib.hid hkvs
  clear hkvs
  clear HE hx hy hz iha ihc ihd hl hl2
  go_enter Tryz.func50, Tryz.ntmps50
  go_wp2_with (go_at_call 227; go_must (refine (kids_ifExpr_c Tx Ty Tz ux uy uz _).mono ?_; rintro e w1 ⟨⟨b, rfl, hbB, hbl, hblk⟩, hb1⟩))
  have hS : w1.heap[b]? = some (.cells kvs.toArray 56 (0, 0)) := by rw [Hkv.out]; exact hblk
  clear hblk
  clear Hkv
  go_loopw [3, 9] (fun c i wr => ∃ j Sm : Nat, j ≤ 3 ∧ i = .int .i64 j ∧ c = .int .i64 (1 + Sm : Nat) ∧ Hid (Sm = sumM ((kidsE X).take j)) ∧ wr.heap[b]? = some (.cells kvs.toArray 56 (0, 0)) ∧ Below w.heap.size w wr) (fun _ i _ => 3 - (intOf i).toNat)
  case atStart => exact ⟨0, 0, Nat.zero_le _, rfl, rfl, Lib.hid rfl, hS, hb1⟩
  case round =>
    obtain ⟨j, Sm, hj, rfl, rfl, hI, hblk, hbl2⟩ := hrel
    by_cases hlt : j < 3
    · have hjl : j < (kidsE X).length := by omega
      obtain ⟨T, u, hkv, HC⟩ := HK.out j hjl
      have c0 : wr.cell? ⟨b, j, none⟩ = some (.iface T u) := by rw [cell_of hblk]; simpa using hkv
      have C := Lib.hid (HC wr hbl2)
      have HS := Lib.hid (sumM_take (kidsE X) j hjl)
      have hl2 := hLv.out (j + 1)
      rw [HS.out, ← hI.out] at hl2
      have hsz := hbl2.size
      generalize manyE ((kidsE X)[j]) = Q at *
      clear HC hkv HK hLv
      go_wp2_with (go_at_call 50; go_must (refine (C.out).mono ?_; rintro e w2 ⟨rfl, hb2⟩))
      go_roundw
      case rel => exact ⟨j + 1, Sm + Q, by omega, by go_num, by go_num, Lib.hid (by rw [HS.out, ← hI.out]), below_blk hb2 (lt_of_block hblk) hblk, hbl2.trans (hb2.mono hbl2.size)⟩
      case measure => simp [intOf]; omega
    · have : j = 3 := by omega
      subst this
      have hF := hI.out
      rw [List.take_of_length_le (by omega)] at hF
      have hF := Lib.hid hF
      clear hI HK hLv
      go_wp2_with fail
      go_ret
      exact ⟨ret_int (by rw [hF.out]), hbl2⟩
set_option maxHeartbeats 1000000 in
theorem mn_let (s : Nm) (a c : Ex) (iha : MnC a) (ihc : MnC c) : MnC (Ex.lete s a c) := by
  intro v ok w hl hv hok
  simp only [EV] at hv
  obtain ⟨x, y, rfl, hx, hy⟩ := hv
  obtain ⟨Tx, ux, rfl⟩ := hx.iface
  obtain ⟨Ty, uy, rfl⟩ := hy.iface
  have hl2 := hl
  simp only [manyE] at hl2
  have HK : Hid (KidM w (kidsE (Ex.lete s a c)) [Value.iface Tx ux, Value.iface Ty uy]) := Lib.hid (by
    intro j hj
    match j, hj with
    | 0, _ => exact ⟨_, _, rfl, kidM_of (x := a) iha (by omega) hx hok⟩
    | 1, _ => exact ⟨_, _, rfl, kidM_of (x := c) ihc (by omega) hy hok⟩
    )
  have HE := Lib.hid (many_kids (Ex.lete s a c))
  have hlen : (kidsE (Ex.lete s a c)).length = 2 := rfl
  have hLv : Hid (∀ j, sumM ((kidsE (Ex.lete s a c)).take j) ≤ 100000) := Lib.hid (fun j => by
    have h1 := sumM_take_le (kidsE (Ex.lete s a c)) j
    have h2 := many_kids (Ex.lete s a c)
    omega)
  rw [HE.out]
  generalize hX : (Ex.lete s a c) = X at *
  try simp only [op2T, op1T]
  obtain ⟨kvs, hkvs⟩ : ∃ kvs, kvs = [Value.iface Tx ux, Value.iface Ty uy] := ⟨_, rfl⟩
  rw [← hkvs] at HK
  have Hkv := Lib.hid hkvs
  clear hkvs
  clear HE hx hy iha ihc hl hl2
  go_enter Tryz.func50, Tryz.ntmps50
  go_wp2_with (go_at_call 207; go_must (refine (kids_letExpr_c Tx Ty _ ux uy _).mono ?_; rintro e w1 ⟨⟨b, rfl, hbB, hbl, hblk⟩, hb1⟩))
  have hS : w1.heap[b]? = some (.cells kvs.toArray 56 (0, 0)) := by rw [Hkv.out]; exact hblk
  clear hblk
  clear Hkv
  go_loopw [3, 9] (fun c i wr => ∃ j Sm : Nat, j ≤ 2 ∧ i = .int .i64 j ∧ c = .int .i64 (1 + Sm : Nat) ∧ Hid (Sm = sumM ((kidsE X).take j)) ∧ wr.heap[b]? = some (.cells kvs.toArray 56 (0, 0)) ∧ Below w.heap.size w wr) (fun _ i _ => 2 - (intOf i).toNat)
  case atStart => exact ⟨0, 0, Nat.zero_le _, rfl, rfl, Lib.hid rfl, hS, hb1⟩
  case round =>
    obtain ⟨j, Sm, hj, rfl, rfl, hI, hblk, hbl2⟩ := hrel
    by_cases hlt : j < 2
    · have hjl : j < (kidsE X).length := by omega
      obtain ⟨T, u, hkv, HC⟩ := HK.out j hjl
      have c0 : wr.cell? ⟨b, j, none⟩ = some (.iface T u) := by rw [cell_of hblk]; simpa using hkv
      have C := Lib.hid (HC wr hbl2)
      have HS := Lib.hid (sumM_take (kidsE X) j hjl)
      have hl2 := hLv.out (j + 1)
      rw [HS.out, ← hI.out] at hl2
      have hsz := hbl2.size
      generalize manyE ((kidsE X)[j]) = Q at *
      clear HC hkv HK hLv
      go_wp2_with (go_at_call 50; go_must (refine (C.out).mono ?_; rintro e w2 ⟨rfl, hb2⟩))
      go_roundw
      case rel => exact ⟨j + 1, Sm + Q, by omega, by go_num, by go_num, Lib.hid (by rw [HS.out, ← hI.out]), below_blk hb2 (lt_of_block hblk) hblk, hbl2.trans (hb2.mono hbl2.size)⟩
      case measure => simp [intOf]; omega
    · have : j = 2 := by omega
      subst this
      have hF := hI.out
      rw [List.take_of_length_le (by omega)] at hF
      have hF := Lib.hid hF
      clear hI HK hLv
      go_wp2_with fail
      go_ret
      exact ⟨ret_int (by rw [hF.out]), hbl2⟩
set_option maxHeartbeats 1000000 in
theorem mn_fun (f s : Nm) (A B : Tr) (c : Ex) (ihc : MnC c) : MnC (Ex.func f s A B c) := by
  intro v ok w hl hv hok
  simp only [EV] at hv
  obtain ⟨pa, na, ca, pb, nb, cb, y, rfl, hA, hBt, hy⟩ := hv
  obtain ⟨Ty, uy, rfl⟩ := hy.iface
  obtain ⟨la, lb, lc, ld, -, -, -, -, hnA⟩ := nI_named A
  obtain ⟨ma, mb, mc, md, -, -, -, -, hnB⟩ := nI_named B
  rw [hnA, hnB]
  simp only [List.cons_append, List.nil_append]
  have hl2 := hl
  simp only [manyE] at hl2
  have HK : Hid (KidM w (kidsE (Ex.func f s A B c)) [Value.iface Ty uy]) := Lib.hid (by
    intro j hj
    match j, hj with
    | 0, _ => exact ⟨_, _, rfl, kidM_of (x := c) ihc (by omega) hy hok⟩
    )
  have HE := Lib.hid (many_kids (Ex.func f s A B c))
  have hlen : (kidsE (Ex.func f s A B c)).length = 1 := rfl
  have hLv : Hid (∀ j, sumM ((kidsE (Ex.func f s A B c)).take j) ≤ 100000) := Lib.hid (fun j => by
    have h1 := sumM_take_le (kidsE (Ex.func f s A B c)) j
    have h2 := many_kids (Ex.func f s A B c)
    omega)
  rw [HE.out]
  generalize hX : (Ex.func f s A B c) = X at *
  try simp only [op2T, op1T]
  obtain ⟨kvs, hkvs⟩ : ∃ kvs, kvs = [Value.iface Ty uy] := ⟨_, rfl⟩
  rw [← hkvs] at HK
  have Hkv := Lib.hid hkvs
  clear hkvs
  clear HE hy ihc hnA hnB hA hBt hl hl2
  go_enter Tryz.func50, Tryz.ntmps50
  go_wp2_with (go_at_call 210; go_must (refine (kids_funExpr_c Ty _ _ _ _ _ _ _ _ _ _ _ _ uy _).mono ?_; rintro e w1 ⟨⟨b, rfl, hbB, hbl, hblk⟩, hb1⟩))
  have hS : w1.heap[b]? = some (.cells kvs.toArray 56 (0, 0)) := by rw [Hkv.out]; exact hblk
  clear hblk
  clear Hkv
  go_loopw [3, 9] (fun c i wr => ∃ j Sm : Nat, j ≤ 1 ∧ i = .int .i64 j ∧ c = .int .i64 (1 + Sm : Nat) ∧ Hid (Sm = sumM ((kidsE X).take j)) ∧ wr.heap[b]? = some (.cells kvs.toArray 56 (0, 0)) ∧ Below w.heap.size w wr) (fun _ i _ => 1 - (intOf i).toNat)
  case atStart => exact ⟨0, 0, Nat.zero_le _, rfl, rfl, Lib.hid rfl, hS, hb1⟩
  case round =>
    obtain ⟨j, Sm, hj, rfl, rfl, hI, hblk, hbl2⟩ := hrel
    by_cases hlt : j < 1
    · have hjl : j < (kidsE X).length := by omega
      obtain ⟨T, u, hkv, HC⟩ := HK.out j hjl
      have c0 : wr.cell? ⟨b, j, none⟩ = some (.iface T u) := by rw [cell_of hblk]; simpa using hkv
      have C := Lib.hid (HC wr hbl2)
      have HS := Lib.hid (sumM_take (kidsE X) j hjl)
      have hl2 := hLv.out (j + 1)
      rw [HS.out, ← hI.out] at hl2
      have hsz := hbl2.size
      generalize manyE ((kidsE X)[j]) = Q at *
      clear HC hkv HK hLv
      go_wp2_with (go_at_call 50; go_must (refine (C.out).mono ?_; rintro e w2 ⟨rfl, hb2⟩))
      go_roundw
      case rel => exact ⟨j + 1, Sm + Q, by omega, by go_num, by go_num, Lib.hid (by rw [HS.out, ← hI.out]), below_blk hb2 (lt_of_block hblk) hblk, hbl2.trans (hb2.mono hbl2.size)⟩
      case measure => simp [intOf]; omega
    · have : j = 1 := by omega
      subst this
      have hF := hI.out
      rw [List.take_of_length_le (by omega)] at hF
      have hF := Lib.hid hF
      clear hI HK hLv
      go_wp2_with fail
      go_ret
      exact ⟨ret_int (by rw [hF.out]), hbl2⟩
theorem mn_all : ∀ x : Ex, MnC x
  | .name s => mn_name s
  | .num n => mn_num n
  | .two .add x y => mn_add x y (mn_all x) (mn_all y)
  | .two .sub x y => mn_sub x y (mn_all x) (mn_all y)
  | .two .mul x y => mn_mul x y (mn_all x) (mn_all y)
  | .two .call x y => mn_call x y (mn_all x) (mn_all y)
  | .two .pair x y => mn_pair x y (mn_all x) (mn_all y)
  | .one .fst x => mn_fst x (mn_all x)
  | .one .snd x => mn_snd x (mn_all x)
  | .cond x y z => mn_cond x y z (mn_all x) (mn_all y) (mn_all z)
  | .lete s x y => mn_let s x y (mn_all x) (mn_all y)
  | .func f z A B x => mn_fun f z A B x (mn_all x)
set_option maxHeartbeats 1000000 in
theorem implExprMany_c (s : ByteArray) (hs : s.size ≤ 1048576) (w : World) :
    Calls Tryz.prog 15 #[.string s] w fun e w' => e = .returned (.int .i64 (manyOf s.data.toList)) ∧ Below w.heap.size w w' := by
  cases hp : readEx s.data.toList with
  | none =>
    have C := Lib.hid (readExpr_none hs hp)
    rw [manyOf_none hp]
    clear hp
    go_enter Tryz.func15, Tryz.ntmps15
    go_wp2_with (go_at_call 46; go_must (refine (C.out _).mono ?_; rintro e w1 ⟨⟨v, rfl⟩, hb1⟩))
    go_ret
    exact ⟨rfl, hb1⟩
  | some x =>
    have C := Lib.hid (readExpr_some hs hp)
    have hl := readEx_many hp
    rw [manyOf_some hp]
    have CF : Hid (∀ (w1 : World) (B : Nat) (v : Value), EV w1 (fun k => B ≤ k ∧ k < w1.heap.size) x v → Calls Tryz.prog 50 #[v] w1 fun e w' => e = .returned (.int .i64 (manyE x : Nat)) ∧ Below w1.heap.size w1 w') := Lib.hid (fun w1 B v hv => mn_all x v _ w1 (by omega) hv (fun k hk => hk.2))
    generalize manyE x = M at *
    clear hp
    go_enter Tryz.func15, Tryz.ntmps15
    go_wp2_with (first | (go_at_call 46; go_must (refine (C.out _).mono ?_; rintro e w1 ⟨⟨v, rfl, hv⟩, hb1⟩; obtain ⟨T, u, rfl⟩ := hv.iface)) | (go_at_call 50; go_must (refine (CF.out _ _ _ hv).mono ?_; rintro e w2 ⟨rfl, hb2⟩)))
    go_ret
    exact ⟨rfl, hb1.trans (hb2.mono hb1.size)⟩
end Go.Proofs.YtjncmmnbdabjnaaGreatDoor
