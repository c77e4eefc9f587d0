/- FormAtoms of the reference model and of the program. -/
import Derived.Test.YtpmlpmdgmapilaaImpl1q
import Derived.Test.YtpmlpmdgmapilaaI1z
namespace Go.Proofs.Ytpmlpmdgmapilaa
open Go.RowKit Go.Maps Go.WideMaps
set_option maxRecDepth 8000
set_option linter.unusedSimpArgs false
set_option linter.unusedVariables false
theorem made_empty {w w1 : World} {o : Obj} (hb1 : Below w.heap.size w w1) : ((w1.alloc o).alloc (.cells #[] 9)).ownsRow w.heap.size 9 1 (.slice (some ⟨w1.heap.size + 1, 0, none⟩) 0 0) 0 [] := made_none hb1
theorem fv_twoA {nd : Tr → Value → List Value} {w1 : World} {N : Nat} {t : Tr} {cs : List Value} (hv : FV nd w1 (fun k => N ≤ k ∧ k < w1.heap.size) t cs) (o o' : Obj) : FV nd ((w1.alloc o).alloc o') (fun k => k < w1.heap.size) t cs :=
  FV.wide (hv.below (((Below.refl w1.heap.size w1).alloc (Nat.le_refl _) o).alloc (by simp) o') (fun k hk => hk.2)) (fun k hk => hk.2)
theorem le_two (w1 : World) (o o' : Obj) : w1.heap.size ≤ ((w1.alloc o).alloc o').heap.size := by simp; omega
theorem made_rowA (w1 : World) (o : Obj) : ((w1.alloc o).alloc (.cells #[] 9)).ownsRow w1.heap.size 9 1 (.slice (some ⟨w1.heap.size + 1, 0, none⟩) 0 0) 0 [] := by
  have := World.ownsRow_made (w1.alloc o) #[] 0 (base := w1.heap.size) (e := 9) (size := 1) (by simp) (by decide) rfl
  simpa using this
set_option maxHeartbeats 1000000 in
theorem specFormAtoms_c (s : ByteArray) (hs : s.size ≤ 1048576) (w : World) :
    Calls Try.prog 33 #[.string s] w fun e w' => PartsPost w.heap.size (atomsOf s.data.toList) e w' ∧ Below w.heap.size w w' := by
  cases hp : parse s.data.toList with
  | none =>
    have C := Lib.hid (l1Parse_none hs hp)
    have HP := Lib.hid (atomsOf_none hp)
    clear hp
    go_enter Try.func33, Try.ntmps33
    go_wp2_with (go_at_call 56; go_must (refine (C.out _).mono ?_; rintro e w1 ⟨⟨a, p, n, c, rfl, hn⟩, hb1⟩; have hn' := maxLen_le hn))
    go_ret2
    exact ⟨⟨_, by rw [HP.out]; rfl, by rw [HP.out]; exact made_none hb1⟩, (hb1.alloc hb1.size _).alloc (by have := hb1.size; simp; omega) _⟩
  | some t =>
    have C := Lib.hid (l1Parse_some hs hp)
    have hg := parse_got hp
    have HP := Lib.hid (atomsOf_some hp)
    have hsz := (size_le t hg.1).1
    have hb := hg.2.1
    have HA : Hid (∀ (W : World) (p : Option Addr) (n c : Nat) (B : Nat) (v : Value), FV nS W (fun k => k < B) t (nS t (.slice p n c)) → B ≤ W.heap.size → W.ownsRow B 9 1 v 0 [] → Calls Try.prog 69 #[.agg #[.string (bs (atomOf t)), .slice p n c], v] W fun e w' => AtPost B W.heap.size v (atoms t []) W e w') :=
      Lib.hid (fun W p n c B v h1 h2 h3 => l1Atoms_all (t.depth + 1) t _ B [] v W (by omega) hg.1 (by simp; omega) h1 h2 h3)
    clear hp hg hsz hb
    go_enter Try.func33, Try.ntmps33
    go_wp2_with (first | (go_at_call 56; go_must (refine (C.out _).mono ?_; rintro e w1 ⟨⟨p, n, c, rfl, hv⟩, hb1⟩; have CA := Lib.hid (fun o => HA.out ((w1.alloc o).alloc (.cells #[] 9)) p n c w1.heap.size (.slice (some ⟨w1.heap.size + 1, 0, none⟩) 0 0) (fv_twoA hv o _) (le_two w1 o _) (made_rowA w1 o)))) | (go_at_call 69; go_must (refine (CA.out _).mono ?_; rintro e w2 ⟨v2, rfl, ho2, hg2, hvv2⟩)))
    go_ret2
    have hs1 := hb1.size
    refine ⟨⟨_, by rw [HP.out]; rfl, by rw [HP.out]; exact owns_base ho2 hs1⟩, ?_⟩
    exact (((hb1.alloc hs1 _).alloc (by simp; omega) _).grown hg2 (by simp; omega) (fun q hq => by simp [Value.ownBlock] at hq; omega))
set_option maxHeartbeats 1000000 in
theorem implFormAtoms_c (s : ByteArray) (hs : s.size ≤ 1048576) (w : World) :
    Calls Try.prog 18 #[.string s] w fun e w' => PartsPost w.heap.size (atomsOf s.data.toList) e w' ∧ Below w.heap.size w w' := by
  cases hp : parse s.data.toList with
  | none =>
    have C := Lib.hid (readForm_none hs hp)
    have HP := Lib.hid (atomsOf_none hp)
    clear hp
    go_enter Try.func18, Try.ntmps18
    go_wp2_with (go_at_call 55; go_must (refine (C.out _).mono ?_; rintro e w1 ⟨rfl, hb1⟩))
    go_ret2
    exact ⟨⟨_, by rw [HP.out]; rfl, by rw [HP.out]; exact World.ownsRow_nil _ _ _ _⟩, hb1.alloc hb1.size _⟩
  | some t =>
    have C := Lib.hid (readForm_some hs hp)
    have hg := parse_got hp
    have HP := Lib.hid (atomsOf_some hp)
    have hsz := (size_le t hg.1).1
    have hb := hg.2.1
    obtain ⟨u, x1, x2, x3, hu, hx1, hx2, hx3, hn⟩ := nI_named t
    rw [← hu, ← hx1, ← hx2, ← hx3] at C
    have HA : Hid (∀ (W : World) (p : Option Addr) (n c : Nat) (B b : Nat), FV nI W (fun k => k < B) t (nI t (.slice p n c)) → B ≤ W.heap.size → B ≤ b → SetOf W b [] (.map []) → Calls Try.prog 57 #[.agg #[.string u, .slice p n c, .int .i64 x1, .int .i64 x2, .int .i64 x3], .slice none 0 0, .map (some b)] W fun e w' => AtPostI B W.heap.size b (.slice none 0 0) (atoms t []) W e w') :=
      Lib.hid (fun W p n c B b h1 h2 h3 h4 => by
        have := addAtoms_all (t.depth + 1) t p n c B b [] _ (.slice none 0 0) W (by omega) hg.1 (by omega) (by simp; omega) h1 h2 h3 h4 (World.ownsRow_nil _ _ _ _) (by simp [Value.ownBlock])
        rw [hn] at this
        exact this)
    have hmm := @run_makeMap Try.prog
    clear hp hg hsz hb hu hx1 hx2 hx3 hn
    go_enter Try.func18, Try.ntmps18
    go_wp2_with (first | (go_at_call 55; go_must (refine (C.out _).mono ?_; rintro e w1 ⟨⟨p, n, c, rfl, hv⟩, hb1⟩; have CA := Lib.hid (fun o => HA.out ((w1.alloc o).alloc (.map #[] 0)) p n c w1.heap.size (w1.heap.size + 1) (fv_twoA hv o _) (le_two w1 o _) (Nat.le_succ _) (by have := SetOf.made (w1.alloc o); simpa using this)))) | (go_at_call 57; go_must (refine (CA.out _).mono ?_; rintro e w2 ⟨v2, D2, rfl, ho2, hS2, hT2, hvv2⟩)))
    go_ret2
    have hs1 := hb1.size
    refine ⟨⟨_, by rw [HP.out]; rfl, by rw [HP.out]; exact owns_base ho2 hs1⟩, ?_⟩
    exact ((hb1.alloc hs1 _).alloc (by simp; omega) _).trans (hT2.toBelow (by simp; omega) (by omega) (fun q hq => by simp [Value.ownBlock] at hq))
end Go.Proofs.Ytpmlpmdgmapilaa
