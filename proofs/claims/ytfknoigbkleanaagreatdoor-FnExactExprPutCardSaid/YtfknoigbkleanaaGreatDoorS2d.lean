/- The reference model: the head of an expression; l2Parse by cases. The reference model: the names bound in a part; counting. -/
import Derived.Test.YtfknoigbkleanaaGreatDoorSpec2c
import Derived.Test.YtfknoigbkleanaaGreatDoorB3
import Derived.Test.YtfknoigbkleanaaGreatDoorS1z
namespace Go.Proofs.YtfknoigbkleanaaGreatDoor
open Go.RowKit
set_option maxRecDepth 8000
set_option linter.unusedSimpArgs false
set_option linter.unusedVariables false
theorem l2Parse_none {s : ByteArray} (hs : s.size ≤ 1048576) (hp : parseE s.data.toList = none) (W : World) : Calls Tryz.prog 49 #[.string s] W fun e w' => (∃ a p n c, e = .returned (.tuple #[.agg #[.string a, .slice p n c], .bool false]) ∧ n ≤ maxLen) ∧ Below W.heap.size W w' :=
  (l2Parse_c s hs W).mono fun e w' ⟨h1, h2⟩ => ⟨by rw [hp] at h1; exact h1, h2⟩
theorem l2Parse_some {s : ByteArray} (hs : s.size ≤ 1048576) {t : Tr} (hp : parseE s.data.toList = some t) (W : World) : Calls Tryz.prog 49 #[.string s] W fun e w' => (∃ p n c, e = .returned (.tuple #[.agg #[.string (bs (atomOf t)), .slice p n c], .bool true]) ∧ FV nS w' (fun k => W.heap.size ≤ k ∧ k < w'.heap.size) t (nS t (.slice p n c))) ∧ Below W.heap.size W w' :=
  (l2Parse_c s hs W).mono fun e w' ⟨h1, h2⟩ => ⟨by rw [hp] at h1; exact h1, h2⟩
/-- The head of the expression that is a text. -/
def headE (l : List UInt8) : List UInt8 := match parseE l with | none => [] | some t => headT t
theorem headE_none {l : List UInt8} (h : parseE l = none) : headE l = [] := by simp [headE, h]
theorem headE_some {l : List UInt8} {t : Tr} (h : parseE l = some t) : headE l = headT t := by simp [headE, h]
theorem asEx_wfl {ts : List Tr} (h : (Tr.list ts).wf) : ∃ a b, ts = a :: b := by
  cases ts with
  | nil => simp [Tr.wf] at h
  | cons a b => exact ⟨a, b, rfl⟩
end Go.Proofs.YtfknoigbkleanaaGreatDoor
namespace Go.Proofs.YtfknoigbkleanaaGreatDoor
open Go.RowKit
set_option linter.unusedSimpArgs false
set_option linter.unusedVariables false
theorem strS_made {w : World} {b : Nat} {l : List (List UInt8)} {t : TypeId} (h : w.heap[b]? = some (.cells (l.map strV).toArray t (0, 0))) (c : Nat) (hl : l.length ≤ 1000000) : StrS w (.slice (some ⟨b, 0, none⟩) l.length c) l :=
  ⟨_, c, rfl, by omega, fun _ => ⟨b, 0, rfl, fun j v hj => by rw [Nat.zero_add, cell_of h]; simpa using hj⟩⟩
theorem made_fresh (w : World) {n c : Nat} : ∀ k, (Value.slice (some ⟨w.heap.size + 1, 0, none⟩) n c).ownBlock = some k → w.heap.size < k := fun k hk => by simp [Value.ownBlock] at hk; omega
theorem kids_bound {h : Tr} {ps : List Tr} {x : Ex} {a : Nat} (V : KidView h ps x a) {j : Nat} (hj : j < (kidsE x).length) : a + j < (h :: ps).length := by
  have := V.len
  simp only [List.length_cons]; omega
set_option maxHeartbeats 1000000 in
theorem l2Binds_c (h : Tr) (ps : List Tr) (x : Ex) (a j : Nat) (V : KidView h ps x a) (hj : j < (kidsE x).length) (cs : List Value) (ok : Nat → Prop) (w : World) (hv : FV nS w ok (.list (h :: ps)) cs) (hok : ∀ k, ok k → k < w.heap.size) :
    Calls Tryz.prog 128 #[.agg cs.toArray, .int .i64 (a + j : Nat)] w fun e w' => (∃ v, e = .returned v ∧ StrS w' v (bindE x j) ∧ ∀ k, v.ownBlock = some k → w.heap.size < k) ∧ Below w.heap.size w w' := by
  have h0 := V.bind j hj
  have hkb := kids_bound V hj
  rw [← h0]
  clear h0
  have hV := V.two
  clear V hj
  generalize a + j = k at *
  simp only [FV] at hv
  obtain ⟨r, off, cap, xs, rfl, h2, h3, h4, h5, h6⟩ := hv
  have hrlt := hok r h2
  have e0 : w.cell? ⟨r, off, none⟩ = some (.string (bs (atomOf h))) := by
    obtain ⟨p, m, c, _, q, _⟩ := kid_S h6 h5 0 (by simp)
    simpa using q
  obtain ⟨L, hL⟩ : ∃ L, L = (h :: ps).length := ⟨_, rfl⟩
  rw [← hL] at h3 hkb
  have hLm : L ≤ 9223372036854775807 := by have := maxLen_le h4; omega
  by_cases hlet : atomOf h = kLet
  · have hps := hV.1 hlet
    have hL2 : 2 < L := by rw [hL]; simp only [List.length_cons]; omega
    have e1 : w.cell? ⟨r, off + 2, none⟩ = some (.string (bs (atomOf (ps.getD 0 default)))) := by
      obtain ⟨p, m, c, _, q, _⟩ := kid_S h6 h5 1 (by simp only [List.length_cons]; omega)
      match ps, hps, q with
      | b :: l, _, q => simpa using q
    have s1 : ((bs (atomOf h)).toList == [108, 101, 116]) = true := by rw [bs_toList, hlet]; rfl
    by_cases h3k : k = 3
    · have HT := Lib.hid (show bindT h ps k = [atomOf (ps.getD 0 default)] by simp [bindT, hlet, h3k])
      subst h3k
      generalize atomOf (ps.getD 0 default) = x0 at *
      generalize bindT h ps 3 = T at *
      generalize atomOf h = hd0 at *
      simp only [nS, atomOf, ← hL]
      clear hL hV hlet hps h6 h5
      go_enter Tryz.func128, Tryz.ntmps128
      go_wp2_with fail
      go_ret
      refine ⟨⟨_, rfl, ?_, made_fresh w⟩, below2 _ _ _⟩
      rw [HT.out]
      exact strS_made (l := [x0]) (heap_alloc_new2 _ _ _) _ (by simp)
    · have HT := Lib.hid (show bindT h ps k = [] by simp [bindT, hlet, h3k, kLet, kFun])
      have s2 : ((bs (atomOf h)).toList == [102, 117, 110]) = false := by rw [bs_toList, hlet]; rfl
      have h3i : ((k : Int) == 3) = false := by simp; omega
      generalize bindT h ps k = T at *
      generalize atomOf h = hd0 at *
      simp only [nS, atomOf, ← hL]
      clear hL hV hlet hps h6 h5 e1
      go_enter Tryz.func128, Tryz.ntmps128
      go_wp2_with fail
      go_ret
      refine ⟨⟨_, rfl, ?_, made_fresh w⟩, below2 _ _ _⟩
      rw [HT.out]
      exact strS_made (l := []) (heap_alloc_new2 _ _ _) _ (by simp)
  have s1 : ((bs (atomOf h)).toList == [108, 101, 116]) = false := by rw [bs_toList]; simpa [kLet] using hlet
  by_cases hfun : atomOf h = kFun
  · have hps := hV.2 hfun
    have hL2 : 2 < L := by rw [hL]; simp only [List.length_cons]; omega
    have e1 : w.cell? ⟨r, off + 2, none⟩ = some (.string (bs (atomOf (ps.getD 0 default)))) := by
      obtain ⟨p, m, c, _, q, _⟩ := kid_S h6 h5 1 (by simp only [List.length_cons]; omega)
      match ps, hps, q with
      | b :: l, _, q => simpa using q
    have e2 : w.cell? ⟨r, off + 4, none⟩ = some (.string (bs (atomOf (ps.getD 1 default)))) := by
      obtain ⟨p, m, c, _, q, _⟩ := kid_S h6 h5 2 (by simp only [List.length_cons]; omega)
      match ps, hps, q with
      | b :: b2 :: l, _, q => simpa using q
    have s2 : ((bs (atomOf h)).toList == [102, 117, 110]) = true := by rw [bs_toList, hfun]; rfl
    have HT := Lib.hid (show bindT h ps k = [atomOf (ps.getD 0 default), atomOf (ps.getD 1 default)] by simp [bindT, hlet, hfun, kFun, kLet])
    generalize atomOf (ps.getD 0 default) = x0 at *
    generalize atomOf (ps.getD 1 default) = x1 at *
    generalize bindT h ps k = T at *
    generalize atomOf h = hd0 at *
    simp only [nS, atomOf, ← hL]
    clear hL hV hlet hfun hps h6 h5
    go_enter Tryz.func128, Tryz.ntmps128
    go_wp2_with fail
    go_region_with (fail)
    all_goals
      go_wp2_with fail
      go_ret
      refine ⟨⟨_, rfl, ?_, made_fresh w⟩, ?_⟩
      · rw [HT.out]
        exact strS_made (l := [x0, x1]) (heap_alloc_new2 _ _ _) _ (by simp)
      · exact (below2 _ _ _).drew
  have s2 : ((bs (atomOf h)).toList == [102, 117, 110]) = false := by rw [bs_toList]; simpa [kFun] using hfun
  have HT := Lib.hid (show bindT h ps k = [] by simp [bindT, hlet, hfun])
  generalize bindT h ps k = T at *
  generalize atomOf h = hd0 at *
  simp only [nS, atomOf, ← hL]
  clear hL hV hlet hfun h6 h5
  go_enter Tryz.func128, Tryz.ntmps128
  go_wp2_with fail
  go_ret
  refine ⟨⟨_, rfl, ?_, made_fresh w⟩, below2 _ _ _⟩
  rw [HT.out]
  exact strS_made (l := []) (heap_alloc_new2 _ _ _) _ (by simp)
end Go.Proofs.YtfknoigbkleanaaGreatDoor
