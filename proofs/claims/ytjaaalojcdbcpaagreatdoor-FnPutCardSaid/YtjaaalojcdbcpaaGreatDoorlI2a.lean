/- The program's names and atoms. Expressions as the program's values. The program's expressions with a head: their making. The program reads 'let'. -/
import Derived.Test.YtjaaalojcdbcpaaGreatDoorlNumIM
import Derived.Test.YtjaaalojcdbcpaaGreatDoorlSpec2aM
import Derived.Test.YtjaaalojcdbcpaaGreatDoorlB3
import Derived.Test.YtjaaalojcdbcpaaGreatDoorlI1y
set_option maxHeartbeats 20000000
set_option linter.unusedVariables false
set_option linter.unusedSimpArgs false
namespace Go.Proofs.YtjaaalojcdbcpaaGreatDoor
open Go.RowKit Go.Proofs.Tryz
set_option maxRecDepth 8000
theorem drop1_bytes (s : ByteArray) : (s.extract 1 s.size).data.toList = s.data.toList.drop 1 := by
 rw [Kq, K4]
 rw [List.take_of_length_le (by simp)]
theorem Z7s (s : ByteArray) (hs : s.size ≤ 1048576) (w : World) : Calls prog 49 #[.string s] w fun e w' => e = .returned (.bool (Yg s.data.toList)) ∧ w' = w := by
 obtain ⟨R, hR⟩ : ∃ R, R = Yg s.data.toList := ⟨_, rfl⟩
 rw [← hR]
 have HR := H_ hR
 clear hR
 by_cases hin : 1 ≤ s.size ∧ s.size ≤ 4
 · have h0 : 0 < s.size := by omega
   have h4 : (s.size : Int) ≤ 4 := by omega
   have h0' : (1 : Int) ≤ (s.size : Int) := by omega
   have hf := first_of s h0
   obtain ⟨b, hb⟩ : ∃ b, b = s[0] := ⟨_, rfl⟩
   rw [← hb] at hf
   have hb8 : s[0] = b := hb.symm
   by_cases hlet : 97 ≤ b.toNat ∧ b.toNat ≤ 122
   · have HN := H_ (isNm_rest hf (by simpa using hin.2) hlet)
     have hd1 : (97 : Int) ≤ (b.toNat : Int) := by omega
     have hd2 : (b.toNat : Int) ≤ 122 := by omega
     obtain ⟨D, hD⟩ : ∃ D, D = s.extract 1 s.size := ⟨_, rfl⟩
     have hDl : D.data.toList = s.data.toList.drop 1 := by rw [hD, drop1_bytes]
     have C : Hid (∀ W, Calls prog 93 #[.string (s.extract 1 s.size)] W fun e w' => e = .returned (.bool (Lib.decFrom 0 (s.data.toList.drop 1)).isSome) ∧ w' = W) :=
      H_ (fun W => by rw [← hD, ← hDl]; exact Z7t D (by rw [hD]; simp; omega) W)
     clear hin hf hb hlet hD hDl
     go_enter func49, ntmps49
     go_wp2_with (go_at_call 93; go_must (refine (C.out _).mono ?_; rintro e w1 ⟨rfl, rfl⟩))
     go_ret
     exact ⟨Zf (by rw [HR.out, HN.out, List.drop_one]), rfl⟩
   · have HN := H_ (Z7r hf hlet)
     clear hin hf hb
     by_cases hd1 : (97 : Int) ≤ (b.toNat : Int)
     · have hd2 : ¬ (b.toNat : Int) ≤ 122 := by omega
       go_enter func49, ntmps49
       go_wp2_with fail
       go_ret
       exact ⟨Zf (by rw [HR.out, HN.out]), rfl⟩
     · go_enter func49, ntmps49
       go_wp2_with fail
       go_ret
       exact ⟨Zf (by rw [HR.out, HN.out]), rfl⟩
 · have HN := H_ (isNm_len (l := s.data.toList) (by simpa using hin))
   by_cases h1 : (1 : Int) ≤ (s.size : Int)
   · have h4 : ¬ (s.size : Int) ≤ 4 := by omega
     clear hin
     go_enter func49, ntmps49
     go_wp2_with fail
     go_ret
     exact ⟨Zf (by rw [HR.out, HN.out]), rfl⟩
   · clear hin
     go_enter func49, ntmps49
     go_wp2_with fail
     go_ret
     exact ⟨Zf (by rw [HR.out, HN.out]), rfl⟩
theorem Z38 (l : List UInt8) (hl : l.length ≤ 1048576) (w : World) : Calls prog 49 #[.string (bs l)] w fun e w' => e = .returned (.bool (Yg l)) ∧ w' = w := by
 have := Z7s (bs l) (by rw [Y0]; exact hl) w
 rw [K4] at this
 exact this
def Kv : Op2 → TypeId
 | .add => 163
 | .sub => 164
 | .mul => 165
 | .call => 168
 | .pair => 171
def Vg : Op1 → TypeId
 | .fst => 175
 | .snd => 176
def EV (w : World) (ok : Nat → Prop) : Ex → Value → Prop
 | .name s, v => v = .iface 110 (.agg #[.string (bs s)])
 | .num n, v => v = .iface 141 (.agg #[.int .i64 n])
 | .two o a b, v => ∃ x y, v = .iface (Kv o) (.agg #[x, y]) ∧ EV w ok a x ∧ EV w ok b y
 | .one o a, v => ∃ x, v = .iface (Vg o) (.agg #[x]) ∧ EV w ok a x
 | .cond a b c, v => ∃ x y z, v = .iface 167 (.agg #[x, y, z]) ∧ EV w ok a x ∧ EV w ok b y ∧ EV w ok c z
 | .lete s e b, v => ∃ x y, v = .iface 105 (.agg #[.string (bs s), x, y]) ∧ EV w ok e x ∧ EV w ok b y
 | .func f x A B e, v => ∃ pa na ca pb nb cb y, v = .iface 107 (.agg ([Value.string (bs f), Value.string (bs x)] ++ nI A (.slice pa na ca) ++ nI B (.slice pb nb cb) ++ [y]).toArray) ∧ FV nI w ok A (nI A (.slice pa na ca)) ∧ FV nI w ok B (nI B (.slice pb nb cb)) ∧ EV w ok e y
theorem EV.move {w w' : World} {ok ok' : Nat → Prop} (hk : ∀ k, ok k → ok' k) (hb : ∀ k, ok k → w'.heap[k]? = w.heap[k]?) : ∀ (e : Ex) (v : Value), EV w ok e v → EV w' ok' e v
 | .name s, v, h => h
 | .num n, v, h => h
 | .two o a b, v, h => by
   simp only [EV] at h ⊢
   obtain ⟨x, y, rfl, h1, h2⟩ := h
   exact ⟨x, y, rfl, EV.move hk hb a x h1, EV.move hk hb b y h2⟩
 | .one o a, v, h => by
   simp only [EV] at h ⊢
   obtain ⟨x, rfl, h1⟩ := h
   exact ⟨x, rfl, EV.move hk hb a x h1⟩
 | .cond a b c, v, h => by
   simp only [EV] at h ⊢
   obtain ⟨x, y, z, rfl, h1, h2, h3⟩ := h
   exact ⟨x, y, z, rfl, EV.move hk hb a x h1, EV.move hk hb b y h2, EV.move hk hb c z h3⟩
 | .lete s e b, v, h => by
   simp only [EV] at h ⊢
   obtain ⟨x, y, rfl, h1, h2⟩ := h
   exact ⟨x, y, rfl, EV.move hk hb e x h1, EV.move hk hb b y h2⟩
 | .func f x A B e, v, h => by
   simp only [EV] at h ⊢
   obtain ⟨pa, na, ca, pb, nb, cb, y, rfl, h1, h2, h3⟩ := h
   exact ⟨pa, na, ca, pb, nb, cb, y, rfl, FV.move hk hb A _ h1, FV.move hk hb B _ h2, EV.move hk hb e y h3⟩
theorem EV.below {w w' : World} {ok : Nat → Prop} {B : Nat} {e : Ex} {v : Value} (h : EV w ok e v) (hb : Below B w w') (hok : ∀ k, ok k → k < B) : EV w' ok e v :=
 EV.move (fun _ h => h) (fun k hk => hb.block k (hok k hk)) e v h
def Zu (ok : Nat → Prop) (res : Option Ex) (e : Ending) (w' : World) : Prop :=
 match res with
 | none => e = .returned (.tuple #[.nilIface, .bool false]) ∨ ∃ T u, e = .returned (.tuple #[.iface T u, .bool false])
 | some x => ∃ v, e = .returned (.tuple #[v, .bool true]) ∧ EV w' ok x v
theorem EV.iface {w : World} {ok : Nat → Prop} : ∀ {x : Ex} {v : Value}, EV w ok x v → ∃ T u, v = .iface T u
 | .name s, v, h => ⟨_, _, h⟩
 | .num n, v, h => ⟨_, _, h⟩
 | .two o a b, v, h => by simp only [EV] at h; obtain ⟨x, y, rfl, _⟩ := h; exact ⟨_, _, rfl⟩
 | .one o a, v, h => by simp only [EV] at h; obtain ⟨x, rfl, _⟩ := h; exact ⟨_, _, rfl⟩
 | .cond a b c, v, h => by simp only [EV] at h; obtain ⟨x, y, z, rfl, _⟩ := h; exact ⟨_, _, rfl⟩
 | .lete s e b, v, h => by simp only [EV] at h; obtain ⟨x, y, rfl, _⟩ := h; exact ⟨_, _, rfl⟩
 | .func f x A B e, v, h => by simp only [EV] at h; obtain ⟨pa, na, ca, pb, nb, cb, y, rfl, _⟩ := h; exact ⟨_, _, rfl⟩
theorem Zu.nil {ok : Nat → Prop} {res : Option Ex} {w' : World} (h : res = .none) : Zu ok res (.returned (.tuple #[.nilIface, .bool false])) w' := by rw [h]; exact .inl rfl
theorem Zu.none {ok : Nat → Prop} {res : Option Ex} {w' : World} (h : res = .none) (T : TypeId) (u : Value) : Zu ok res (.returned (.tuple #[.iface T u, .bool false])) w' := by rw [h]; exact .inr ⟨T, u, rfl⟩
theorem Zu.some {ok : Nat → Prop} {res : Option Ex} {w' : World} {x : Ex} {v : Value} (h : res = .some x) (hv : EV w' ok x v) : Zu ok res (.returned (.tuple #[v, .bool true])) w' := by rw [h]; exact ⟨v, rfl, hv⟩
theorem atomExpr_c (l : List UInt8) (hl : l.length ≤ 1048576) (ok : Nat → Prop) (w : World) :
 Calls prog 117 #[.string (bs l)] w fun e w' => Zu ok (Q8 l) e w' ∧ Below w.heap.size w w' := by
 have CN : Hid (∀ W, Calls prog 49 #[.string (bs l)] W fun e w' => e = .returned (.bool (Yg l)) ∧ w' = W) := H_ (fun W => Z38 l hl W)
 cases hn : Q3 l with
 | some n =>
   have C : Hid (∀ W, Calls prog 151 #[.string (bs l)] W fun e w' => e = .returned (.tuple #[.int .i64 n, .bool true]) ∧ Below W.heap.size W w') := H_ (fun W => (Z3h l hl W).mono fun e w' h => by rw [hn] at h; exact h)
   have HA := H_ (show Q8 l = some (.num n) by simp [Q8, hn])
   go_enter func117, ntmps117
   go_wp2_with (go_at_call 151; go_must (refine (C.out _).mono ?_; rintro e w1 ⟨rfl, hb1⟩))
   go_ret2
   exact ⟨Zu.some HA.out rfl, hb1⟩
 | none =>
   have C : Hid (∀ W, Calls prog 151 #[.string (bs l)] W fun e w' => e = .returned (.tuple #[.int .i64 0, .bool false]) ∧ Below W.heap.size W w') := H_ (fun W => (Z3h l hl W).mono fun e w' h => by rw [hn] at h; exact h)
   cases hm : Yg l with
   | true =>
     have HA := H_ (show Q8 l = some (.name l) by simp [Q8, hn, hm])
     rw [hm] at CN
     go_enter func117, ntmps117
     go_wp2_with (first | (go_at_call 151; go_must (refine (C.out _).mono ?_; rintro e w1 ⟨rfl, hb1⟩)) | (go_at_call 49; go_must (refine (CN.out _).mono ?_; rintro e w2 ⟨rfl, rfl⟩)))
     go_ret2
     exact ⟨Zu.some HA.out rfl, hb1⟩
   | false =>
     have HA := H_ (show Q8 l = none by simp [Q8, hn, hm])
     rw [hm] at CN
     go_enter func117, ntmps117
     go_wp2_with (first | (go_at_call 151; go_must (refine (C.out _).mono ?_; rintro e w1 ⟨rfl, hb1⟩)) | (go_at_call 49; go_must (refine (CN.out _).mono ?_; rintro e w2 ⟨rfl, rfl⟩)))
     go_ret2
     exact ⟨Zu.none HA.out _ _, hb1⟩
theorem oneExpr_c (h : List UInt8) (a : Ex) (x : Value) (ok : Nat → Prop) (w : World) (hx : ∀ w' : World, Below w.heap.size w w' → EV w' ok a x) :
 Calls prog 152 #[.string (bs h), .agg #[x]] w fun e w' => Zu ok ((Vx h).map (fun o => Ex.one o a)) e w' ∧ Below w.heap.size w w' := by
 by_cases h0 : h = [102, 115, 116]
 · subst h0
   have HN := H_ (show (Vx [102, 115, 116]).map (fun o => Ex.one o a) = some (.one .fst a) from rfl)
   rw [show bs [102, 115, 116] = ⟨#[102, 115, 116]⟩ from rfl]
   go_enter func152, ntmps152
   go_wp2_with fail
   go_ret2
   exact ⟨Zu.some HN.out ⟨x, rfl, hx _ (Z5 _ _)⟩, Z5 _ _⟩
 have e0 : ((bs h).toList == [102, 115, 116]) = false := by rw [Z9]; simpa using h0
 by_cases h1 : h = [115, 110, 100]
 · subst h1
   have HN := H_ (show (Vx [115, 110, 100]).map (fun o => Ex.one o a) = some (.one .snd a) from rfl)
   clear e0 h0
   rw [show bs [115, 110, 100] = ⟨#[115, 110, 100]⟩ from rfl]
   go_enter func152, ntmps152
   go_wp2_with fail
   go_ret2
   exact ⟨Zu.some HN.out ⟨x, rfl, hx _ (Z5 _ _)⟩, Z5 _ _⟩
 have e1 : ((bs h).toList == [115, 110, 100]) = false := by rw [Z9]; simpa using h1
 have HN := H_ (show (Vx h).map (fun o => Ex.one o a) = none by simp [Vx, h0, h1])
 clear h0 h1
 go_enter func152, ntmps152
 go_wp2_with fail
 go_ret2
 exact ⟨Zu.nil HN.out, Z5 _ _⟩
theorem twoExpr_c (h : List UInt8) (a b : Ex) (x y : Value) (ok : Nat → Prop) (w : World) (hx : ∀ w' : World, Below w.heap.size w w' → EV w' ok a x) (hy : ∀ w' : World, Below w.heap.size w w' → EV w' ok b y) :
 Calls prog 153 #[.string (bs h), .agg #[x, y]] w fun e w' => Zu ok ((Ks h).map (fun o => Ex.two o a b)) e w' ∧ Below w.heap.size w w' := by
 by_cases h0 : h = [43]
 · subst h0
   have HN := H_ (show (Ks [43]).map (fun o => Ex.two o a b) = some (.two .add a b) from rfl)
   rw [show bs [43] = ⟨#[43]⟩ from rfl]
   go_enter func153, ntmps153
   go_wp2_with fail
   go_ret2
   exact ⟨Zu.some HN.out ⟨x, y, rfl, hx _ (Z5 _ _), hy _ (Z5 _ _)⟩, Z5 _ _⟩
 have e0 : ((bs h).toList == [43]) = false := by rw [Z9]; simpa using h0
 by_cases h1 : h = [45]
 · subst h1
   have HN := H_ (show (Ks [45]).map (fun o => Ex.two o a b) = some (.two .sub a b) from rfl)
   clear e0 h0
   rw [show bs [45] = ⟨#[45]⟩ from rfl]
   go_enter func153, ntmps153
   go_wp2_with fail
   go_ret2
   exact ⟨Zu.some HN.out ⟨x, y, rfl, hx _ (Z5 _ _), hy _ (Z5 _ _)⟩, Z5 _ _⟩
 have e1 : ((bs h).toList == [45]) = false := by rw [Z9]; simpa using h1
 by_cases h2 : h = [42]
 · subst h2
   have HN := H_ (show (Ks [42]).map (fun o => Ex.two o a b) = some (.two .mul a b) from rfl)
   clear e0 h0 e1 h1
   rw [show bs [42] = ⟨#[42]⟩ from rfl]
   go_enter func153, ntmps153
   go_wp2_with fail
   go_ret2
   exact ⟨Zu.some HN.out ⟨x, y, rfl, hx _ (Z5 _ _), hy _ (Z5 _ _)⟩, Z5 _ _⟩
 have e2 : ((bs h).toList == [42]) = false := by rw [Z9]; simpa using h2
 by_cases h3 : h = [99, 97, 108, 108]
 · subst h3
   have HN := H_ (show (Ks [99, 97, 108, 108]).map (fun o => Ex.two o a b) = some (.two .call a b) from rfl)
   clear e0 h0 e1 h1 e2 h2
   rw [show bs [99, 97, 108, 108] = ⟨#[99, 97, 108, 108]⟩ from rfl]
   go_enter func153, ntmps153
   go_wp2_with fail
   go_ret2
   exact ⟨Zu.some HN.out ⟨x, y, rfl, hx _ (Z5 _ _), hy _ (Z5 _ _)⟩, Z5 _ _⟩
 have e3 : ((bs h).toList == [99, 97, 108, 108]) = false := by rw [Z9]; simpa using h3
 by_cases h4 : h = [112, 97, 105, 114]
 · subst h4
   have HN := H_ (show (Ks [112, 97, 105, 114]).map (fun o => Ex.two o a b) = some (.two .pair a b) from rfl)
   clear e0 h0 e1 h1 e2 h2 e3 h3
   rw [show bs [112, 97, 105, 114] = ⟨#[112, 97, 105, 114]⟩ from rfl]
   go_enter func153, ntmps153
   go_wp2_with fail
   go_ret2
   exact ⟨Zu.some HN.out ⟨x, y, rfl, hx _ (Z5 _ _), hy _ (Z5 _ _)⟩, Z5 _ _⟩
 have e4 : ((bs h).toList == [112, 97, 105, 114]) = false := by rw [Z9]; simpa using h4
 have HN := H_ (show (Ks h).map (fun o => Ex.two o a b) = none by simp [Ks, h0, h1, h2, h3, h4])
 clear h0 h1 h2 h3 h4
 go_enter func153, ntmps153
 go_wp2_with fail
 go_ret2
 exact ⟨Zu.nil HN.out, Z5 _ _⟩
theorem Kw {ok : Nat → Prop} {w w' : World} {B : Nat} (hok : ∀ k, ok k → k < w.heap.size) (h : Below B w w') : ∀ k, ok k → k < w'.heap.size := fun k hk => Nat.lt_of_lt_of_le (hok k hk) h.size
theorem Z2t : ∀ t : Tr, (Z1 t).length ≤ t.bytes
 | .atom a => Nat.le_refl _
 | .list ts => Nat.zero_le _
def Z2w (n : Nat) : Prop := ∀ (t : Tr) (p : Option Addr) (m c : Nat) (ok : Nat → Prop) (w : World), t.depth < n → t.wf → t.bytes ≤ 12000 → FV nI w ok t (nI t (.slice p m c)) → (∀ k, ok k → k < w.heap.size) →
    Calls prog 70 #[.agg #[.string (bs (Z1 t)), .slice p m c, .int .i64 t.bytes, .int .i64 t.size, .int .i64 t.depth]] w fun e w' => Zu ok (Zy t) e w' ∧ Below w.heap.size w w'
theorem Z3c {n : Nat} (ih : Z2w n) {t : Tr} {p : Option Addr} {m c : Nat} {ok : Nat → Prop} {w : World} (hd : t.depth < n) (hw : t.wf) (hb : t.bytes ≤ 12000) (hv : FV nI w ok t (nI t (.slice p m c))) (hok : ∀ k, ok k → k < w.heap.size) (he : Zy t = none) :
 Hid (∀ W, Below w.heap.size w W → Calls prog 70 #[.agg #[.string (bs (Z1 t)), .slice p m c, .int .i64 t.bytes, .int .i64 t.size, .int .i64 t.depth]] W fun e w' => (e = .returned (.tuple #[.nilIface, .bool false]) ∨ ∃ T u, e = .returned (.tuple #[.iface T u, .bool false])) ∧ Below W.heap.size W w') :=
 H_ (fun W hW => (ih t p m c ok W hd hw hb (hv.below hW hok) (Kw hok hW)).mono fun e w' ⟨h1, h2⟩ => ⟨by rw [he] at h1; exact h1, h2⟩)
theorem Z3b {n : Nat} (ih : Z2w n) {t : Tr} {p : Option Addr} {m c : Nat} {ok : Nat → Prop} {w : World} (hd : t.depth < n) (hw : t.wf) (hb : t.bytes ≤ 12000) (hv : FV nI w ok t (nI t (.slice p m c))) (hok : ∀ k, ok k → k < w.heap.size) {x : Ex} (he : Zy t = some x) :
 Hid (∀ W, Below w.heap.size w W → Calls prog 70 #[.agg #[.string (bs (Z1 t)), .slice p m c, .int .i64 t.bytes, .int .i64 t.size, .int .i64 t.depth]] W fun e w' => (∃ v, e = .returned (.tuple #[v, .bool true]) ∧ EV w' ok x v) ∧ Below W.heap.size W w') :=
 H_ (fun W hW => (ih t p m c ok W hd hw hb (hv.below hW hok) (Kw hok hW)).mono fun e w' ⟨h1, h2⟩ => ⟨by rw [he] at h1; exact h1, h2⟩)
theorem asLet_bad (p : Option Addr) (m c : Nat) (hm : m ≠ 3) (hm2 : m ≤ 1000000000) (w : World) :
 Calls prog 118 #[.slice p m c] w fun e w' => e = .returned (.tuple #[.nilIface, .bool false]) ∧ Below w.heap.size w w' := by
 have hl' : ((m : Int) == 3) = false := by simp; omega
 have hl2 : ¬ (m : Int) = 3 := by omega
 go_enter func118, ntmps118
 go_wp2_with fail
 go_ret2
 exact ⟨rfl, Below.refl _ _⟩
theorem asLet_c (n : Nat) (ih : Z2w n) (x a b : Tr) (c : Nat) (ok : Nat → Prop) (w : World) (r off : Nat) (xs : List Value) (hda : a.depth < n) (hdb : b.depth < n) (hwa : a.wf) (hwb : b.wf) (hbx : x.bytes ≤ 12000) (hba : a.bytes ≤ 12000) (hbb : b.bytes ≤ 12000)
 (h5 : Yv w r off xs) (h6 : FVs nI w ok [x, a, b] xs) (hrlt : r < w.heap.size) (hok : ∀ k, ok k → k < w.heap.size) (hc : 3 ≤ c) (hc2 : c ≤ maxLen) :
 Calls prog 118 #[.slice (some ⟨r, off, none⟩) 3 c] w fun e w' => Zu ok (Qb [x, a, b]) e w' ∧ Below w.heap.size w w' := by
 have hc3 := Yl hc2
 obtain ⟨⟨p0, n0, q0, v0, r0⟩, ⟨p1, n1, q1, v1, r1⟩, ⟨p2, n2, q2, v2, r2⟩⟩ := FVs.three Z44 h6 h5
 have e0 : w.cell? ⟨r, off, none⟩ = some (.string (bs (Z1 x))) := r0 0 _ rfl
 have a1 : w.cell? ⟨r, off + 5, none⟩ = some (.string (bs (Z1 a))) := r1 0 _ rfl
 have a2 : w.cell? ⟨r, off + 5 + 1, none⟩ = some (.slice p1 n1 q1) := r1 1 _ rfl
 have a3 : w.cell? ⟨r, off + 5 + 2, none⟩ = some (.int .i64 a.bytes) := r1 2 _ rfl
 have a4 : w.cell? ⟨r, off + 5 + 3, none⟩ = some (.int .i64 a.size) := r1 3 _ rfl
 have a5 : w.cell? ⟨r, off + 5 + 4, none⟩ = some (.int .i64 a.depth) := r1 4 _ rfl
 have b1 : w.cell? ⟨r, off + 10, none⟩ = some (.string (bs (Z1 b))) := r2 0 _ rfl
 have b2 : w.cell? ⟨r, off + 10 + 1, none⟩ = some (.slice p2 n2 q2) := r2 1 _ rfl
 have b3 : w.cell? ⟨r, off + 10 + 2, none⟩ = some (.int .i64 b.bytes) := r2 2 _ rfl
 have b4 : w.cell? ⟨r, off + 10 + 3, none⟩ = some (.int .i64 b.size) := r2 3 _ rfl
 have b5 : w.cell? ⟨r, off + 10 + 4, none⟩ = some (.int .i64 b.depth) := r2 4 _ rfl
 have hlx : (Z1 x).length ≤ 1048576 := by have := Z2t x; omega
 have CN : Hid (∀ W, Calls prog 49 #[.string (bs (Z1 x))] W fun e w' => e = .returned (.bool (Yg (Z1 x))) ∧ w' = W) := H_ (fun W => Z38 _ hlx W)
 clear r0 r1 r2 h5 h6 hlx
 cases hx : Yg (Z1 x) with
 | false =>
   have HA := H_ (show Qb [x, a, b] = none by simp [Qb, hx])
   rw [hx] at CN
   clear ih hx
   go_enter func118, ntmps118
   go_wp2_with (go_at_call 49; go_must (refine (CN.out _).mono ?_; rintro e w1 ⟨rfl, rfl⟩))
   go_ret2
   exact ⟨Zu.nil HA.out, Below.refl _ _⟩
 | true =>
   rw [hx] at CN
   cases ha : Zy a with
   | none =>
     have HA := H_ (show Qb [x, a, b] = none by simp [Qb, hx, ha])
     have CE := Z3c ih hda hwa hba v1 hok ha
     clear ih hx ha
     go_enter func118, ntmps118
     go_wp2_with (first | (go_at_call 49; go_must (refine (CN.out _).mono ?_; rintro e w1 ⟨rfl, rfl⟩)) | (go_at_call 70; (with_reducible refine (CE.out _ (Below.refl _ _)).mono ?_); rintro e w1 ⟨(rfl | ⟨T1, u1, rfl⟩), hb1⟩; have g0 := (hb1.cell (p := ⟨r, off, none⟩) hrlt).trans e0; have k1 := (hb1.cell (p := ⟨r, off + 10, none⟩) hrlt).trans b1; have k2 := (hb1.cell (p := ⟨r, off + 10 + 1, none⟩) hrlt).trans b2; have k3 := (hb1.cell (p := ⟨r, off + 10 + 2, none⟩) hrlt).trans b3; have k4 := (hb1.cell (p := ⟨r, off + 10 + 3, none⟩) hrlt).trans b4; have k5 := (hb1.cell (p := ⟨r, off + 10 + 4, none⟩) hrlt).trans b5))
     all_goals
      go_ret2
      exact ⟨Zu.nil HA.out, (by assumption)⟩
   | some ea =>
     have CE := Z3b ih hda hwa hba v1 hok ha
     cases hb : Zy b with
     | none =>
       have HA := H_ (show Qb [x, a, b] = none by simp [Qb, hx, ha, hb])
       have CB := Z3c ih hdb hwb hbb v2 hok hb
       clear ih hx ha hb
       go_enter func118, ntmps118
       go_wp2_with (first | (go_at_call 49; go_must (refine (CN.out _).mono ?_; rintro e w1 ⟨rfl, rfl⟩)) | (go_at_call 70; (with_reducible refine (CE.out _ (Below.refl _ _)).mono ?_); rintro e w1 ⟨⟨v1, rfl, hev1⟩, hb1⟩; obtain ⟨T1, u1, rfl⟩ := hev1.iface; have g0 := (hb1.cell (p := ⟨r, off, none⟩) hrlt).trans e0; have k1 := (hb1.cell (p := ⟨r, off + 10, none⟩) hrlt).trans b1; have k2 := (hb1.cell (p := ⟨r, off + 10 + 1, none⟩) hrlt).trans b2; have k3 := (hb1.cell (p := ⟨r, off + 10 + 2, none⟩) hrlt).trans b3; have k4 := (hb1.cell (p := ⟨r, off + 10 + 3, none⟩) hrlt).trans b4; have k5 := (hb1.cell (p := ⟨r, off + 10 + 4, none⟩) hrlt).trans b5) | (go_at_call 70; refine (CB.out _ hb1).mono ?_; (rintro e w2 ⟨(rfl | ⟨T2, u2, rfl⟩), hb2⟩) <;> have j0 := (hb2.cell (p := ⟨r, off, none⟩) (Nat.lt_of_lt_of_le hrlt hb1.size)).trans g0))
       all_goals
        go_ret2
        exact ⟨Zu.none HA.out _ _, hb1.trans (hb2.mono hb1.size)⟩
     | some eb =>
       have HA := H_ (show Qb [x, a, b] = some (.lete (Z1 x) ea eb) by simp [Qb, hx, ha, hb])
       have CB := Z3b ih hdb hwb hbb v2 hok hb
       clear ih hx ha hb
       go_enter func118, ntmps118
       go_wp2_with (first | (go_at_call 49; go_must (refine (CN.out _).mono ?_; rintro e w1 ⟨rfl, rfl⟩)) | (go_at_call 70; (with_reducible refine (CE.out _ (Below.refl _ _)).mono ?_); rintro e w1 ⟨⟨v1, rfl, hev1⟩, hb1⟩; obtain ⟨T1, u1, rfl⟩ := hev1.iface; have g0 := (hb1.cell (p := ⟨r, off, none⟩) hrlt).trans e0; have k1 := (hb1.cell (p := ⟨r, off + 10, none⟩) hrlt).trans b1; have k2 := (hb1.cell (p := ⟨r, off + 10 + 1, none⟩) hrlt).trans b2; have k3 := (hb1.cell (p := ⟨r, off + 10 + 2, none⟩) hrlt).trans b3; have k4 := (hb1.cell (p := ⟨r, off + 10 + 3, none⟩) hrlt).trans b4; have k5 := (hb1.cell (p := ⟨r, off + 10 + 4, none⟩) hrlt).trans b5) | (go_at_call 70; refine (CB.out _ hb1).mono ?_; (rintro e w2 ⟨⟨v2, rfl, hev2⟩, hb2⟩; obtain ⟨T2, u2, rfl⟩ := hev2.iface) <;> have j0 := (hb2.cell (p := ⟨r, off, none⟩) (Nat.lt_of_lt_of_le hrlt hb1.size)).trans g0))
       go_ret2
       exact ⟨Zu.some HA.out ⟨_, _, rfl, hev1.below hb2 (Kw hok hb1), hev2⟩, hb1.trans (hb2.mono hb1.size)⟩
end Go.Proofs.YtjaaalojcdbcpaaGreatDoor
