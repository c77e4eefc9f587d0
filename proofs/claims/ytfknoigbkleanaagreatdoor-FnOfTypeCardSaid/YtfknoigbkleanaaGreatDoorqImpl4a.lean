/- The program: values. -/
import Derived.Test.YtfknoigbkleanaaGreatDoorqPureJM
import Derived.Test.YtfknoigbkleanaaGreatDoorqImpl2vM
import Derived.Test.YtfknoigbkleanaaGreatDoorqAsserts
namespace Go.Proofs.YtfknoigbkleanaaGreatDoor
open Go.RowKit Go.Proofs.Tryz
set_option maxRecDepth 8000
set_option maxHeartbeats 20000000
set_option linter.unusedVariables false
set_option linter.unusedSimpArgs false
def IvC (x : Ex) : Prop := ∀ (v : Value) (ok : Nat → Prop) (w : World), EV w ok x v → (∀ k, ok k → k < w.heap.size) →
    Calls prog 69 #[v] w fun e w' => e = .returned (.bool (Z83 x)) ∧ Below w.heap.size w w'
theorem iv_name (s : Nm) : IvC (.name s) := by
 intro v ok w hv hok
 simp only [EV] at hv
 subst hv
 go_enter func69, ntmps69
 go_wp2_with fail
 go_ret
 exact ⟨rfl, by first | exact Below.refl _ _ | exact Z4 _ _⟩
theorem iv_num (n : Int) : IvC (.num n) := by
 intro v ok w hv hok
 simp only [EV] at hv
 subst hv
 go_enter func69, ntmps69
 go_wp2_with fail
 go_ret
 exact ⟨rfl, by first | exact Below.refl _ _ | exact Z4 _ _⟩
theorem iv_add (a b : Ex) : IvC (.two .add a b) := by
 intro v ok w hv hok
 simp only [EV] at hv
 obtain ⟨x, y, rfl, hx, hy⟩ := hv
 simp only [Jm]
 clear hx hy
 go_enter func69, ntmps69
 go_wp2_with fail
 go_ret
 exact ⟨rfl, by first | exact Below.refl _ _ | exact Z4 _ _⟩
theorem iv_sub (a b : Ex) : IvC (.two .sub a b) := by
 intro v ok w hv hok
 simp only [EV] at hv
 obtain ⟨x, y, rfl, hx, hy⟩ := hv
 simp only [Jm]
 clear hx hy
 go_enter func69, ntmps69
 go_wp2_with fail
 go_ret
 exact ⟨rfl, by first | exact Below.refl _ _ | exact Z4 _ _⟩
theorem iv_mul (a b : Ex) : IvC (.two .mul a b) := by
 intro v ok w hv hok
 simp only [EV] at hv
 obtain ⟨x, y, rfl, hx, hy⟩ := hv
 simp only [Jm]
 clear hx hy
 go_enter func69, ntmps69
 go_wp2_with fail
 go_ret
 exact ⟨rfl, by first | exact Below.refl _ _ | exact Z4 _ _⟩
theorem iv_call (a b : Ex) : IvC (.two .call a b) := by
 intro v ok w hv hok
 simp only [EV] at hv
 obtain ⟨x, y, rfl, hx, hy⟩ := hv
 simp only [Jm]
 clear hx hy
 go_enter func69, ntmps69
 go_wp2_with fail
 go_ret
 exact ⟨rfl, by first | exact Below.refl _ _ | exact Z4 _ _⟩
theorem iv_fst (a : Ex) : IvC (.one .fst a) := by
 intro v ok w hv hok
 simp only [EV] at hv
 obtain ⟨x, rfl, hx⟩ := hv
 simp only [Kg]
 clear hx
 go_enter func69, ntmps69
 go_wp2_with fail
 go_ret
 exact ⟨rfl, by first | exact Below.refl _ _ | exact Z4 _ _⟩
theorem iv_snd (a : Ex) : IvC (.one .snd a) := by
 intro v ok w hv hok
 simp only [EV] at hv
 obtain ⟨x, rfl, hx⟩ := hv
 simp only [Kg]
 clear hx
 go_enter func69, ntmps69
 go_wp2_with fail
 go_ret
 exact ⟨rfl, by first | exact Below.refl _ _ | exact Z4 _ _⟩
theorem iv_cond (a b d : Ex) : IvC (.cond a b d) := by
 intro v ok w hv hok
 simp only [EV] at hv
 obtain ⟨x, y, z, rfl, hx, hy, hz⟩ := hv
 clear hx hy hz
 go_enter func69, ntmps69
 go_wp2_with fail
 go_ret
 exact ⟨rfl, by first | exact Below.refl _ _ | exact Z4 _ _⟩
theorem iv_lete (s : Nm) (a b : Ex) : IvC (.lete s a b) := by
 intro v ok w hv hok
 simp only [EV] at hv
 obtain ⟨x, y, rfl, hx, hy⟩ := hv
 clear hx hy
 go_enter func69, ntmps69
 go_wp2_with fail
 go_ret
 exact ⟨rfl, by first | exact Below.refl _ _ | exact Z4 _ _⟩
theorem iv_func (f s : Nm) (A B : Tr) (e : Ex) : IvC (.func f s A B e) := by
 intro v ok w hv hok
 simp only [EV] at hv
 obtain ⟨pa, na, ca, pb, nb, cb, y, rfl, hA, hB, hy⟩ := hv
 simp only [nI, List.cons_append, List.nil_append, List.append_assoc]
 clear hA hB hy
 go_enter func69, ntmps69
 go_wp2_with fail
 go_ret
 exact ⟨rfl, by first | exact Below.refl _ _ | exact Z4 _ _⟩
theorem iv_pair (a b : Ex) (iha : IvC a) (ihb : IvC b) : IvC (.two .pair a b) := by
 intro v ok w hv hok
 simp only [EV] at hv
 obtain ⟨x, y, rfl, hx, hy⟩ := hv
 obtain ⟨Tx, ux, rfl⟩ := hx.iface
 obtain ⟨Ty, uy, rfl⟩ := hy.iface
 have CA := H_ (fun W (hW : Below w.heap.size w W) => iha _ ok W (hx.below hW hok) (Jy hok hW))
 have CB := H_ (fun W (hW : Below w.heap.size w W) => ihb _ ok W (hy.below hW hok) (Jy hok hW))
 rw [show Z83 (.two .pair a b) = (Z83 a && Z83 b) from rfl]
 simp only [Jm]
 clear iha ihb hx hy
 cases hva : Z83 a with
 | false =>
   unfold Hid at CA
   rw [hva] at CA
   have CA := H_ CA
   go_enter func69, ntmps69
   go_wp2_with (go_at_call 69; go_must (refine (CA.out _ (by first | exact Below.refl _ _ | exact Z4 _ _)).mono ?_; rintro e w5 ⟨rfl, hb5⟩))
   go_ret
   exact ⟨Zh rfl, by first | exact hb5 | exact (Z4 _ _).trans (hb5.mono (by simp))⟩
 | true =>
   unfold Hid at CA
   rw [hva] at CA
   have CA := H_ CA
   go_enter func69, ntmps69
   go_wp2_with (first | (go_at_call_of 69 (Value.iface Tx ux); go_must (refine (CA.out _ (by first | exact Below.refl _ _ | exact Z4 _ _)).mono ?_; rintro e w5 ⟨rfl, hb5⟩; have y5 := Z3 (j := 1) (Z1 hb5 (lt_of_block (heap_alloc_new w (.cells #[.iface Tx ux, .iface Ty uy] 128))) (heap_alloc_new w (.cells #[.iface Tx ux, .iface Ty uy] 128))); have HB5 := H_ (show Below w.heap.size w w5 from by first | exact hb5 | exact (Z4 _ _).trans (hb5.mono (by simp))))) | (go_at_call_of 69 (Value.iface Ty uy); go_must (refine (CB.out _ HB5.out).mono ?_; rintro e w6 ⟨rfl, hb6⟩)))
   go_ret
   exact ⟨Zh rfl, HB5.out.trans (hb6.mono HB5.out.size)⟩
theorem iv_all : ∀ x : Ex, IvC x
 | .name s => iv_name s
 | .num n => iv_num n
 | .two .pair a b => iv_pair a b (iv_all a) (iv_all b)
 | .two .add a b => iv_add a b
 | .two .sub a b => iv_sub a b
 | .two .mul a b => iv_mul a b
 | .two .call a b => iv_call a b
 | .one .fst a => iv_fst a
 | .one .snd a => iv_snd a
 | .cond a b d => iv_cond a b d
 | .lete x a b => iv_lete x a b
 | .func f x A B e => iv_func f x A B e
theorem implValueIs_c (s : ByteArray) (hs : s.size ≤ 1048576) (w : World) :
 Calls prog 29 #[.string s] w fun e w' => e = .returned (.bool (valOf s.data.toList)) ∧ Below w.heap.size w w' := by
 cases hc : X4 s.data.toList with
 | none =>
   have C : Hid (∀ W, Calls prog 58 #[.string s] W fun e w' => (∃ v, e = .returned (.tuple #[v, .bool false])) ∧ Below W.heap.size W w') := H_ (fun W => (Vh s hs W).mono fun e w' ⟨h1, h2⟩ => ⟨by rw [hc] at h1; exact Z0q h1, h2⟩)
   have HR := H_ (valOf_none hc)
   rw [HR.out]
   clear hc
   go_enter func29, ntmps29
   go_wp2_with (go_at_call 58; go_must (refine (C.out _).mono ?_; rintro e w1 ⟨⟨v, rfl⟩, hb1⟩))
   go_ret
   exact ⟨rfl, hb1⟩
 | some x =>
   have C : Hid (∀ W, Calls prog 58 #[.string s] W fun e w' => (∃ v, e = .returned (.tuple #[v, .bool true]) ∧ EV w' (fun k => W.heap.size ≤ k ∧ k < w'.heap.size) x v) ∧ Below W.heap.size W w') := H_ (fun W => (Vh s hs W).mono fun e w' ⟨h1, h2⟩ => ⟨by rw [hc] at h1; exact h1, h2⟩)
   have HR := H_ (Z81 hc)
   rw [HR.out]
   have CI := H_ (iv_all x)
   clear hc
   go_enter func29, ntmps29
   go_wp2_with (first | (go_at_call 58; go_must (refine (C.out _).mono ?_; rintro e w1 ⟨⟨v, rfl, hv⟩, hb1⟩; obtain ⟨T0, u0, rfl⟩ := hv.iface)) | (go_at_call 69; go_must (refine (CI.out _ _ _ hv (fun k hk => hk.2)).mono ?_; rintro e w3 ⟨rfl, hb3⟩)))
   go_ret
   exact ⟨rfl, hb1.trans (hb3.mono hb1.size)⟩
end Go.Proofs.YtfknoigbkleanaaGreatDoor
