/- The program's names and atoms. Expressions as the program's values. The program's expressions with a head: their making. The program reads 'let'. -/
import Derived.Test.YtpaaglamcmfdjaaNumI
import Derived.Test.YtpaaglamcmfdjaaSpec2a
import Derived.Test.YtpaaglamcmfdjaaB3
import Derived.Test.YtpaaglamcmfdjaaI1y
namespace Go.Proofs.Ytpaaglamcmfdjaa
open Go.RowKit
set_option maxRecDepth 8000
set_option linter.unusedSimpArgs false
set_option linter.unusedVariables false
theorem drop1_bytes (s : ByteArray) : (s.extract 1 s.size).data.toList = s.data.toList.drop 1 := by
  rw [extract_bs, bs_data]
  rw [List.take_of_length_le (by simp)]
set_option maxHeartbeats 1000000 in
theorem isName_c (s : ByteArray) (hs : s.size ≤ 1048576) (w : World) : Calls Try.prog 19 #[.string s] w fun e w' => e = .returned (.bool (isNm s.data.toList)) ∧ w' = w := by
  obtain ⟨R, hR⟩ : ∃ R, R = isNm s.data.toList := ⟨_, rfl⟩
  rw [← hR]
  have HR := Lib.hid hR
  clear hR
  by_cases hin : 1 ≤ s.size ∧ s.size ≤ 4
  · have h0 : 0 < s.size := by omega
    have h4 : (s.size : Int) ≤ 4 := by omega
    have h0' : (1 : Int) ≤ (s.size : Int) := by omega
    have hf := first_of s h0
    obtain ⟨b, hb⟩ : ∃ b, b = s[0] := ⟨_, rfl⟩
    rw [← hb] at hf
    have hb8 : s[0] = b := hb.symm
    by_cases hlet : 97 ≤ b.toNat ∧ b.toNat ≤ 122
    · have HN := Lib.hid (isNm_rest hf (by simpa using hin.2) hlet)
      have hd1 : (97 : Int) ≤ (b.toNat : Int) := by omega
      have hd2 : (b.toNat : Int) ≤ 122 := by omega
      obtain ⟨D, hD⟩ : ∃ D, D = s.extract 1 s.size := ⟨_, rfl⟩
      have hDl : D.data.toList = s.data.toList.drop 1 := by rw [hD, drop1_bytes]
      have C : Hid (∀ W, Calls Try.prog 29 #[.string (s.extract 1 s.size)] W fun e w' => e = .returned (.bool (Lib.decFrom 0 (s.data.toList.drop 1)).isSome) ∧ w' = W) :=
        Lib.hid (fun W => by rw [← hD, ← hDl]; exact isDigits_c D (by rw [hD]; simp; omega) W)
      clear hin hf hb hlet hD hDl
      go_enter Try.func19, Try.ntmps19
      go_wp2_with (go_at_call 29; go_must (refine (C.out _).mono ?_; rintro e w1 ⟨rfl, rfl⟩))
      go_ret
      exact ⟨ret_bool (by rw [HR.out, HN.out, List.drop_one]), rfl⟩
    · have HN := Lib.hid (isNm_first hf hlet)
      clear hin hf hb
      by_cases hd1 : (97 : Int) ≤ (b.toNat : Int)
      · have hd2 : ¬ (b.toNat : Int) ≤ 122 := by omega
        go_enter Try.func19, Try.ntmps19
        go_wp2_with fail
        go_ret
        exact ⟨ret_bool (by rw [HR.out, HN.out]), rfl⟩
      · go_enter Try.func19, Try.ntmps19
        go_wp2_with fail
        go_ret
        exact ⟨ret_bool (by rw [HR.out, HN.out]), rfl⟩
  · have HN := Lib.hid (isNm_len (l := s.data.toList) (by simpa using hin))
    by_cases h1 : (1 : Int) ≤ (s.size : Int)
    · have h4 : ¬ (s.size : Int) ≤ 4 := by omega
      clear hin
      go_enter Try.func19, Try.ntmps19
      go_wp2_with fail
      go_ret
      exact ⟨ret_bool (by rw [HR.out, HN.out]), rfl⟩
    · clear hin
      go_enter Try.func19, Try.ntmps19
      go_wp2_with fail
      go_ret
      exact ⟨ret_bool (by rw [HR.out, HN.out]), rfl⟩
theorem isName_bs (l : List UInt8) (hl : l.length ≤ 1048576) (w : World) : Calls Try.prog 19 #[.string (bs l)] w fun e w' => e = .returned (.bool (isNm l)) ∧ w' = w := by
  have := isName_c (bs l) (by rw [bs_size]; exact hl) w
  rw [bs_data] at this
  exact this
end Go.Proofs.Ytpaaglamcmfdjaa
namespace Go.Proofs.Ytpaaglamcmfdjaa
open Go.RowKit
set_option linter.unusedSimpArgs false
set_option linter.unusedVariables false
def op2T : Op2 → TypeId
  | .add => 0
  | .sub => 0
  | .mul => 0
  | .call => 0
  | .pair => 0
def op1T : Op1 → TypeId
  | .fst => 0
  | .snd => 0
/-- v is the value of an expression; the forms in it lie in blocks of ok. -/
def EV (w : World) (ok : Nat → Prop) : Ex → Value → Prop
  | .name s, v => v = .iface 0 (.agg #[.string (bs s)])
  | .num n, v => v = .iface 0 (.agg #[.int .i64 n])
  | .two o a b, v => ∃ x y, v = .iface (op2T o) (.agg #[x, y]) ∧ EV w ok a x ∧ EV w ok b y
  | .one o a, v => ∃ x, v = .iface (op1T o) (.agg #[x]) ∧ EV w ok a x
  | .cond a b c, v => ∃ x y z, v = .iface 0 (.agg #[x, y, z]) ∧ EV w ok a x ∧ EV w ok b y ∧ EV w ok c z
  | .lete s e b, v => ∃ x y, v = .iface 0 (.agg #[.string (bs s), x, y]) ∧ EV w ok e x ∧ EV w ok b y
  | .func f x A B e, v => ∃ pa na ca pb nb cb y, v = .iface 0 (.agg ([Value.string (bs f), Value.string (bs x)] ++ nI A (.slice pa na ca) ++ nI B (.slice pb nb cb) ++ [y]).toArray) ∧ FV nI w ok A (nI A (.slice pa na ca)) ∧ FV nI w ok B (nI B (.slice pb nb cb)) ∧ EV w ok e y
theorem EV.move {w w' : World} {ok ok' : Nat → Prop} (hk : ∀ k, ok k → ok' k) (hb : ∀ k, ok k → w'.heap[k]? = w.heap[k]?) : ∀ (e : Ex) (v : Value), EV w ok e v → EV w' ok' e v
  | .name s, v, h => h
  | .num n, v, h => h
  | .two o a b, v, h => by
    simp only [EV] at h ⊢
    obtain ⟨x, y, rfl, h1, h2⟩ := h
    exact ⟨x, y, rfl, EV.move hk hb a x h1, EV.move hk hb b y h2⟩
  | .one o a, v, h => by
    simp only [EV] at h ⊢
    obtain ⟨x, rfl, h1⟩ := h
    exact ⟨x, rfl, EV.move hk hb a x h1⟩
  | .cond a b c, v, h => by
    simp only [EV] at h ⊢
    obtain ⟨x, y, z, rfl, h1, h2, h3⟩ := h
    exact ⟨x, y, z, rfl, EV.move hk hb a x h1, EV.move hk hb b y h2, EV.move hk hb c z h3⟩
  | .lete s e b, v, h => by
    simp only [EV] at h ⊢
    obtain ⟨x, y, rfl, h1, h2⟩ := h
    exact ⟨x, y, rfl, EV.move hk hb e x h1, EV.move hk hb b y h2⟩
  | .func f x A B e, v, h => by
    simp only [EV] at h ⊢
    obtain ⟨pa, na, ca, pb, nb, cb, y, rfl, h1, h2, h3⟩ := h
    exact ⟨pa, na, ca, pb, nb, cb, y, rfl, FV.move hk hb A _ h1, FV.move hk hb B _ h2, EV.move hk hb e y h3⟩
theorem EV.below {w w' : World} {ok : Nat → Prop} {B : Nat} {e : Ex} {v : Value} (h : EV w ok e v) (hb : Below B w w') (hok : ∀ k, ok k → k < B) : EV w' ok e v :=
  EV.move (fun _ h => h) (fun k hk => hb.block k (hok k hk)) e v h
/-- What reading an expression hands back. -/
def ExPost (ok : Nat → Prop) (res : Option Ex) (e : Ending) (w' : World) : Prop :=
  match res with
  | none => e = .returned (.tuple #[.nilIface, .bool false]) ∨ ∃ T u, e = .returned (.tuple #[.iface T u, .bool false])
  | some x => ∃ v, e = .returned (.tuple #[v, .bool true]) ∧ EV w' ok x v
theorem EV.iface {w : World} {ok : Nat → Prop} : ∀ {x : Ex} {v : Value}, EV w ok x v → ∃ T u, v = .iface T u
  | .name s, v, h => ⟨_, _, h⟩
  | .num n, v, h => ⟨_, _, h⟩
  | .two o a b, v, h => by simp only [EV] at h; obtain ⟨x, y, rfl, _⟩ := h; exact ⟨_, _, rfl⟩
  | .one o a, v, h => by simp only [EV] at h; obtain ⟨x, rfl, _⟩ := h; exact ⟨_, _, rfl⟩
  | .cond a b c, v, h => by simp only [EV] at h; obtain ⟨x, y, z, rfl, _⟩ := h; exact ⟨_, _, rfl⟩
  | .lete s e b, v, h => by simp only [EV] at h; obtain ⟨x, y, rfl, _⟩ := h; exact ⟨_, _, rfl⟩
  | .func f x A B e, v, h => by simp only [EV] at h; obtain ⟨pa, na, ca, pb, nb, cb, y, rfl, _⟩ := h; exact ⟨_, _, rfl⟩
theorem ExPost.nil {ok : Nat → Prop} {res : Option Ex} {w' : World} (h : res = .none) : ExPost ok res (.returned (.tuple #[.nilIface, .bool false])) w' := by rw [h]; exact .inl rfl
theorem ExPost.none {ok : Nat → Prop} {res : Option Ex} {w' : World} (h : res = .none) (T : TypeId) (u : Value) : ExPost ok res (.returned (.tuple #[.iface T u, .bool false])) w' := by rw [h]; exact .inr ⟨T, u, rfl⟩
theorem ExPost.some {ok : Nat → Prop} {res : Option Ex} {w' : World} {x : Ex} {v : Value} (h : res = .some x) (hv : EV w' ok x v) : ExPost ok res (.returned (.tuple #[v, .bool true])) w' := by rw [h]; exact ⟨v, rfl, hv⟩
end Go.Proofs.Ytpaaglamcmfdjaa
namespace Go.Proofs.Ytpaaglamcmfdjaa
open Go.RowKit
set_option linter.unusedSimpArgs false
set_option linter.unusedVariables false
end Go.Proofs.Ytpaaglamcmfdjaa
namespace Go.Proofs.Ytpaaglamcmfdjaa
open Go.RowKit
set_option linter.unusedSimpArgs false
set_option linter.unusedVariables false
theorem size_ofI {ok : Nat → Prop} {w w' : World} {B : Nat} (hok : ∀ k, ok k → k < w.heap.size) (h : Below B w w') : ∀ k, ok k → k < w'.heap.size := fun k hk => Nat.lt_of_lt_of_le (hok k hk) h.size
theorem atomOf_lenI : ∀ t : Tr, (atomOf t).length ≤ t.bytes
  | .atom a => Nat.le_refl _
  | .list ts => Nat.zero_le _
end Go.Proofs.Ytpaaglamcmfdjaa
