/- The reference model: the head of an expression; l2Parse by cases. The reference model: the names bound in a part; counting. The program's expressions: heads and kids by the methods of their types. -/
import Derived.Test.YtjaaalojcdbcpaaGreatDoorpSpec2c
import Derived.Test.YtjaaalojcdbcpaaGreatDoorpB3
import Derived.Test.YtjaaalojcdbcpaaGreatDoorpS1z
import Derived.Test.YtjaaalojcdbcpaaGreatDoorpI2e
import Derived.Handy
set_option maxHeartbeats 20000000
set_option linter.unusedVariables false
set_option linter.unusedSimpArgs false
namespace Go.Proofs.YtjaaalojcdbcpaaGreatDoor
open Go.RowKit Go.Proofs.Tryz
set_option maxRecDepth 8000
theorem l2Parse_none {s : ByteArray} (hs : s.size ≤ 1048576) (hp : Qe s.data.toList = none) (W : World) : Calls prog 29 #[.string s] W fun e w' => (∃ a p n c, e = .returned (.tuple #[.agg #[.string a, .slice p n c], .bool false]) ∧ n ≤ maxLen) ∧ Below W.heap.size W w' :=
 (l2Parse_c s hs W).mono fun e w' ⟨h1, h2⟩ => ⟨by rw [hp] at h1; exact h1, h2⟩
theorem l2Parse_some {s : ByteArray} (hs : s.size ≤ 1048576) {t : Tr} (hp : Qe s.data.toList = some t) (W : World) : Calls prog 29 #[.string s] W fun e w' => (∃ p n c, e = .returned (.tuple #[.agg #[.string (bs (Z1 t)), .slice p n c], .bool true]) ∧ FV nS w' (fun k => W.heap.size ≤ k ∧ k < w'.heap.size) t (nS t (.slice p n c))) ∧ Below W.heap.size W w' :=
 (l2Parse_c s hs W).mono fun e w' ⟨h1, h2⟩ => ⟨by rw [hp] at h1; exact h1, h2⟩
def headE (l : List UInt8) : List UInt8 := match Qe l with | none => [] | some t => headT t
theorem Vm {w : World} {b : Nat} {l : List (List UInt8)} {t : TypeId} (h : w.heap[b]? = some (.cells (l.map Y2).toArray t (0, 0))) (c : Nat) (hl : l.length ≤ 1000000) : Yh w (.slice (some ⟨b, 0, none⟩) l.length c) l :=
 ⟨_, c, rfl, by omega, fun _ => ⟨b, 0, rfl, fun j v hj => by rw [Nat.zero_add, Z8 h]; simpa using hj⟩⟩
theorem Kq (w : World) {n c : Nat} : ∀ k, (Value.slice (some ⟨w.heap.size + 1, 0, none⟩) n c).ownBlock = some k → w.heap.size < k := fun k hk => by simp [Value.ownBlock] at hk; omega
theorem Jy {h : Tr} {ps : List Tr} {x : Ex} {a : Nat} (V : KidView h ps x a) {j : Nat} (hj : j < (Z4 x).length) : a + j < (h :: ps).length := by
 have := V.len
 simp only [List.length_cons]; omega
theorem l2Binds_c (h : Tr) (ps : List Tr) (x : Ex) (a j : Nat) (V : KidView h ps x a) (hj : j < (Z4 x).length) (cs : List Value) (ok : Nat → Prop) (w : World) (hv : FV nS w ok (.list (h :: ps)) cs) (hok : ∀ k, ok k → k < w.heap.size) :
 Calls prog 100 #[.agg cs.toArray, .int .i64 (a + j : Nat)] w fun e w' => (∃ v, e = .returned v ∧ Yh w' v (Zq x j) ∧ ∀ k, v.ownBlock = some k → w.heap.size < k) ∧ Below w.heap.size w w' := by
 have h0 := V.bind j hj
 have hkb := Jy V hj
 rw [← h0]
 clear h0
 have hV := V.two
 clear V hj
 generalize a + j = k at *
 simp only [FV] at hv
 obtain ⟨r, off, cap, xs, rfl, h2, h3, h4, h5, h6⟩ := hv
 have hrlt := hok r h2
 have e0 : w.cell? ⟨r, off, none⟩ = some (.string (bs (Z1 h))) := by
  obtain ⟨p, m, c, _, q, _⟩ := J0 h6 h5 0 (by simp)
  simpa using q
 obtain ⟨L, hL⟩ : ∃ L, L = (h :: ps).length := ⟨_, rfl⟩
 rw [← hL] at h3 hkb
 have hLm : L ≤ 9223372036854775807 := by have := Ym h4; omega
 by_cases hlet : Z1 h = Yn
 · have hps := hV.1 hlet
   have hL2 : 2 < L := by rw [hL]; simp only [List.length_cons]; omega
   have e1 : w.cell? ⟨r, off + 2, none⟩ = some (.string (bs (Z1 (ps.getD 0 default)))) := by
    obtain ⟨p, m, c, _, q, _⟩ := J0 h6 h5 1 (by simp only [List.length_cons]; omega)
    match ps, hps, q with
    | b :: l, _, q => simpa using q
   have s1 : ((bs (Z1 h)).toList == [108, 101, 116]) = true := by rw [Za, hlet]; rfl
   by_cases h3k : k = 3
   · have HT := H_ (show Jp h ps k = [Z1 (ps.getD 0 default)] by simp [Jp, hlet, h3k])
     subst h3k
     generalize Z1 (ps.getD 0 default) = x0 at *
     generalize Jp h ps 3 = T at *
     generalize Z1 h = hd0 at *
     simp only [nS, Z1, ← hL]
     clear hL hV hlet hps h6 h5
     go_enter func100, ntmps100
     go_wp2_with fail
     go_ret
     refine ⟨⟨_, rfl, ?_, Kq w⟩, Zw _ _ _⟩
     rw [HT.out]
     exact Vm (l := [x0]) (Zd _ _ _) _ (by simp)
   · have HT := H_ (show Jp h ps k = [] by simp [Jp, hlet, h3k, Yn, Yi])
     have s2 : ((bs (Z1 h)).toList == [102, 117, 110]) = false := by rw [Za, hlet]; rfl
     have h3i : ((k : Int) == 3) = false := by simp; omega
     generalize Jp h ps k = T at *
     generalize Z1 h = hd0 at *
     simp only [nS, Z1, ← hL]
     clear hL hV hlet hps h6 h5 e1
     go_enter func100, ntmps100
     go_wp2_with fail
     go_ret
     refine ⟨⟨_, rfl, ?_, Kq w⟩, Zw _ _ _⟩
     rw [HT.out]
     exact Vm (l := []) (Zd _ _ _) _ (by simp)
 have s1 : ((bs (Z1 h)).toList == [108, 101, 116]) = false := by rw [Za]; simpa [Yn] using hlet
 by_cases hfun : Z1 h = Yi
 · have hps := hV.2 hfun
   have hL2 : 2 < L := by rw [hL]; simp only [List.length_cons]; omega
   have e1 : w.cell? ⟨r, off + 2, none⟩ = some (.string (bs (Z1 (ps.getD 0 default)))) := by
    obtain ⟨p, m, c, _, q, _⟩ := J0 h6 h5 1 (by simp only [List.length_cons]; omega)
    match ps, hps, q with
    | b :: l, _, q => simpa using q
   have e2 : w.cell? ⟨r, off + 4, none⟩ = some (.string (bs (Z1 (ps.getD 1 default)))) := by
    obtain ⟨p, m, c, _, q, _⟩ := J0 h6 h5 2 (by simp only [List.length_cons]; omega)
    match ps, hps, q with
    | b :: b2 :: l, _, q => simpa using q
   have s2 : ((bs (Z1 h)).toList == [102, 117, 110]) = true := by rw [Za, hfun]; rfl
   have HT := H_ (show Jp h ps k = [Z1 (ps.getD 0 default), Z1 (ps.getD 1 default)] by simp [Jp, hlet, hfun, Yi, Yn])
   generalize Z1 (ps.getD 0 default) = x0 at *
   generalize Z1 (ps.getD 1 default) = x1 at *
   generalize Jp h ps k = T at *
   generalize Z1 h = hd0 at *
   simp only [nS, Z1, ← hL]
   clear hL hV hlet hfun hps h6 h5
   go_enter func100, ntmps100
   go_wp2_with fail
   go_region_with (fail)
   all_goals
    go_wp2_with fail
    go_ret
    refine ⟨⟨_, rfl, ?_, Kq w⟩, ?_⟩
    · rw [HT.out]
      exact Vm (l := [x0, x1]) (Zd _ _ _) _ (by simp)
    · exact (Zw _ _ _).drew
 have s2 : ((bs (Z1 h)).toList == [102, 117, 110]) = false := by rw [Za]; simpa [Yi] using hfun
 have HT := H_ (show Jp h ps k = [] by simp [Jp, hlet, hfun])
 generalize Jp h ps k = T at *
 generalize Z1 h = hd0 at *
 simp only [nS, Z1, ← hL]
 clear hL hV hlet hfun h6 h5
 go_enter func100, ntmps100
 go_wp2_with fail
 go_ret
 refine ⟨⟨_, rfl, ?_, Kq w⟩, Zw _ _ _⟩
 rw [HT.out]
 exact Vm (l := []) (Zd _ _ _) _ (by simp)
theorem head_name_c (vs : Array Value) (w : World) : Calls prog 211 #[.agg vs] w fun e w' => e = .returned (.string (bs [110, 97, 109, 101])) ∧ Below w.heap.size w w' := by
 rw [show bs [110, 97, 109, 101] = ⟨#[110, 97, 109, 101]⟩ from rfl]
 go_enter func211, ntmps211
 go_wp2_with fail
 go_ret
 exact ⟨rfl, Z5 _ _⟩
theorem head_number_c (vs : Array Value) (w : World) : Calls prog 215 #[.agg vs] w fun e w' => e = .returned (.string (bs [110, 117, 109, 98, 101, 114])) ∧ Below w.heap.size w w' := by
 rw [show bs [110, 117, 109, 98, 101, 114] = ⟨#[110, 117, 109, 98, 101, 114]⟩ from rfl]
 go_enter func215, ntmps215
 go_wp2_with fail
 go_ret
 exact ⟨rfl, Z5 _ _⟩
theorem head_add_c (vs : Array Value) (w : World) : Calls prog 219 #[.agg vs] w fun e w' => e = .returned (.string (bs [43])) ∧ Below w.heap.size w w' := by
 rw [show bs [43] = ⟨#[43]⟩ from rfl]
 go_enter func219, ntmps219
 go_wp2_with fail
 go_ret
 exact ⟨rfl, Z5 _ _⟩
theorem head_sub_c (vs : Array Value) (w : World) : Calls prog 222 #[.agg vs] w fun e w' => e = .returned (.string (bs [45])) ∧ Below w.heap.size w w' := by
 rw [show bs [45] = ⟨#[45]⟩ from rfl]
 go_enter func222, ntmps222
 go_wp2_with fail
 go_ret
 exact ⟨rfl, Z5 _ _⟩
theorem head_mul_c (vs : Array Value) (w : World) : Calls prog 224 #[.agg vs] w fun e w' => e = .returned (.string (bs [42])) ∧ Below w.heap.size w w' := by
 rw [show bs [42] = ⟨#[42]⟩ from rfl]
 go_enter func224, ntmps224
 go_wp2_with fail
 go_ret
 exact ⟨rfl, Z5 _ _⟩
theorem head_if_c (vs : Array Value) (w : World) : Calls prog 226 #[.agg vs] w fun e w' => e = .returned (.string (bs [105, 102])) ∧ Below w.heap.size w w' := by
 rw [show bs [105, 102] = ⟨#[105, 102]⟩ from rfl]
 go_enter func226, ntmps226
 go_wp2_with fail
 go_ret
 exact ⟨rfl, Z5 _ _⟩
theorem head_let_c (vs : Array Value) (w : World) : Calls prog 205 #[.agg vs] w fun e w' => e = .returned (.string (bs [108, 101, 116])) ∧ Below w.heap.size w w' := by
 rw [show bs [108, 101, 116] = ⟨#[108, 101, 116]⟩ from rfl]
 go_enter func205, ntmps205
 go_wp2_with fail
 go_ret
 exact ⟨rfl, Z5 _ _⟩
theorem head_fun_c (vs : Array Value) (w : World) : Calls prog 208 #[.agg vs] w fun e w' => e = .returned (.string (bs [102, 117, 110])) ∧ Below w.heap.size w w' := by
 rw [show bs [102, 117, 110] = ⟨#[102, 117, 110]⟩ from rfl]
 go_enter func208, ntmps208
 go_wp2_with fail
 go_ret
 exact ⟨rfl, Z5 _ _⟩
theorem head_call_c (vs : Array Value) (w : World) : Calls prog 229 #[.agg vs] w fun e w' => e = .returned (.string (bs [99, 97, 108, 108])) ∧ Below w.heap.size w w' := by
 rw [show bs [99, 97, 108, 108] = ⟨#[99, 97, 108, 108]⟩ from rfl]
 go_enter func229, ntmps229
 go_wp2_with fail
 go_ret
 exact ⟨rfl, Z5 _ _⟩
theorem head_pair_c (vs : Array Value) (w : World) : Calls prog 231 #[.agg vs] w fun e w' => e = .returned (.string (bs [112, 97, 105, 114])) ∧ Below w.heap.size w w' := by
 rw [show bs [112, 97, 105, 114] = ⟨#[112, 97, 105, 114]⟩ from rfl]
 go_enter func231, ntmps231
 go_wp2_with fail
 go_ret
 exact ⟨rfl, Z5 _ _⟩
theorem head_fst_c (vs : Array Value) (w : World) : Calls prog 234 #[.agg vs] w fun e w' => e = .returned (.string (bs [102, 115, 116])) ∧ Below w.heap.size w w' := by
 rw [show bs [102, 115, 116] = ⟨#[102, 115, 116]⟩ from rfl]
 go_enter func234, ntmps234
 go_wp2_with fail
 go_ret
 exact ⟨rfl, Z5 _ _⟩
theorem head_snd_c (vs : Array Value) (w : World) : Calls prog 237 #[.agg vs] w fun e w' => e = .returned (.string (bs [115, 110, 100])) ∧ Below w.heap.size w w' := by
 rw [show bs [115, 110, 100] = ⟨#[115, 110, 100]⟩ from rfl]
 go_enter func237, ntmps237
 go_wp2_with fail
 go_ret
 exact ⟨rfl, Z5 _ _⟩
theorem Kc {s : ByteArray} (hs : s.size ≤ 1048576) (hp : Zy s.data.toList = none) (W : World) : Calls prog 34 #[.string s] W fun e w' => (∃ v, e = .returned (.tuple #[v, .bool false])) ∧ Below W.heap.size W w' :=
 (Z2g s hs W).mono fun e w' ⟨h1, h2⟩ => ⟨by rw [hp] at h1; exact rdPost_shape h1, h2⟩
theorem Kb {s : ByteArray} (hs : s.size ≤ 1048576) {x : Ex} (hp : Zy s.data.toList = some x) (W : World) : Calls prog 34 #[.string s] W fun e w' => (∃ v, e = .returned (.tuple #[v, .bool true]) ∧ EV w' (fun k => W.heap.size ≤ k ∧ k < w'.heap.size) x v) ∧ Below W.heap.size W w' :=
 (Z2g s hs W).mono fun e w' ⟨h1, h2⟩ => ⟨by rw [hp] at h1; exact h1, h2⟩
def headI (l : List UInt8) : List UInt8 := match Zy l with | none => [] | some x => headOf x
end Go.Proofs.YtjaaalojcdbcpaaGreatDoor
