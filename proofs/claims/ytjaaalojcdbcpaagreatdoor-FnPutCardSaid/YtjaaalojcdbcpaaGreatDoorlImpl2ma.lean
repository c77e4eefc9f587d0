/- The program's free places: what binds no names. Rows of names: appends, lists without some names; the ends of walks. -/
import Derived.Test.YtjaaalojcdbcpaaGreatDoorlAssertsM
import Derived.Deep.RegionLaw
set_option maxHeartbeats 20000000
set_option linter.unusedVariables false
set_option linter.unusedSimpArgs false
namespace Go.Proofs.YtjaaalojcdbcpaaGreatDoor
open Go.RowKit Go.Proofs.Tryz
set_option maxRecDepth 8000
def lvs : Ex → Nat
 | .name _ => 1
 | .num _ => 1
 | .two _ a b => lvs a + lvs b
 | .one _ a => lvs a
 | .cond a b c => lvs a + lvs b + lvs c
 | .lete _ e b => lvs e + lvs b
 | .func _ _ _ _ e => lvs e
theorem Yj : ∀ x : Ex, (Ze x).length ≤ lvs x
 | .name _ => Nat.le_refl _
 | .num _ => Nat.zero_le _
 | .two _ a b => by have := Yj a; have := Yj b; simp only [Ze, lvs, List.length_append]; omega
 | .one _ a => Yj a
 | .cond a b c => by have := Yj a; have := Yj b; have := Yj c; simp only [Ze, lvs, List.length_append]; omega
 | .lete x e b => by have := Yj e; have := Yj b; have := Z1i [x] (Ze b); simp only [Ze, lvs, List.length_append]; omega
 | .func f x _ _ e => by have := Yj e; have := Z1i [f, x] (Ze e); simp only [Ze, lvs]; omega
def K7 (w : World) (P : List Nm) (e : Ending) (w' : World) : Prop := (∃ v, e = .returned v ∧ w'.ownsRow w.heap.size 9 1 v P.length (P.map Y3)) ∧ Below w.heap.size w w'
def FpC (x : Ex) : Prop := ∀ (v : Value) (ok : Nat → Prop) (w : World), lvs x ≤ 100000 → EV w ok x v → (∀ k, ok k → k < w.heap.size) → Calls prog 57 #[v] w (K7 w (Ze x))
theorem owns_made {w : World} {b base : Nat} {l : List Nm} (h : w.heap[b]? = some (.cells (l.map Y3).toArray 9 (0, 0))) (hb : base ≤ b) (hl : l.length ≤ 1000000) : w.ownsRow base 9 1 (.slice (some ⟨b, 0, none⟩) l.length l.length) l.length (l.map Y3) :=
 ⟨by simp, .inr ⟨b, l.length, _, rfl, hb, h, Nat.le_refl _, by unfold maxLen; omega, by simp, List.take_of_length_le (by simp)⟩⟩
theorem Yb {w : World} {base : Nat} {e : TypeId} {size : Nat} {v : Value} {n : Nat} {xs : List Value} (h : w.ownsRow base e size v n xs) {k : Nat} (hk : v.ownBlock = some k) : base ≤ k ∧ k < w.heap.size := h.lt k hk
structure FpInv (w : World) (b : Nat) (kvs : List Value) (P : List Nm) (v1 : Value) (wr : World) : Prop where
 own : wr.ownsRow w.heap.size 9 1 v1 P.length (P.map Y3)
 below : Below w.heap.size w wr
 blk : wr.heap[b]? = some (.cells kvs.toArray 53 (0, 0))
 ne : v1.ownBlock ≠ some b
theorem Ya {w wr w2 w3 : World} {row : Option Nat} (h : Below w.heap.size w wr) (h2 : Below wr.heap.size wr w2) (hg : w2.grownBy w3 row) (hr : ∀ k, row = some k → w.heap.size ≤ k) : Below w.heap.size w w3 :=
 have h12 := h.trans (h2.mono h.size)
 ⟨hg.os.trans h12.os, hg.tape.trans h12.tape, hg.output.trans h12.output, Nat.le_trans h12.size hg.size, fun k hk => (hg.block k (Nat.lt_of_lt_of_le hk h12.size) (fun e => by have := hr k e.symm; omega)).trans (h12.block k hk)⟩
theorem FpInv.step {w wr w2 w3 : World} {b : Nat} {kvs : List Value} {P Q : List Nm} {v1 v3 : Value} (h : FpInv w b kvs P v1 wr) (h2 : Below wr.heap.size wr w2) (hg : w2.grownBy w3 v1.ownBlock)
 (ho : w3.ownsRow w.heap.size 9 1 v3 (P ++ Q).length ((P ++ Q).map Y3)) (hv : v3.ownBlock = v1.ownBlock ∨ v3.ownBlock = some w2.heap.size) : FpInv w b kvs (P ++ Q) v3 w3 where
 own := ho
 below := Ya h.below h2 hg (fun k hk => (Yb h.own hk).1)
 blk := by
  have hb := lt_of_block h.blk
  rw [hg.block b (Nat.lt_of_lt_of_le hb h2.size) (fun e => h.ne e.symm), h2.block b hb]
  exact h.blk
 ne := by
  have hb := lt_of_block h.blk
  rcases hv with hv | hv
  · rw [hv]; exact h.ne
  · rw [hv]; intro e; have := h2.size; simp at e; omega
theorem FpInv.start {w w1 : World} {b : Nat} {kvs : List Value} (h1 : Below w.heap.size w w1) (hb : w1.heap[b]? = some (.cells kvs.toArray 53 (0, 0))) : FpInv w b kvs [] (.slice none 0 0) w1 where
 own := World.ownsRow_nil w1 _ _ _
 below := h1
 blk := hb
 ne := by simp [Value.ownBlock]
theorem FpInv.fin {w wr : World} {b : Nat} {kvs : List Value} {P : List Nm} {v1 : Value} (h : FpInv w b kvs P v1 wr) : K7 w P (.returned v1) wr := ⟨⟨v1, rfl, h.own⟩, h.below⟩
def KidC (w : World) (ks : List Ex) (kvs : List Value) : Prop := ∀ j (hj : j < ks.length), ∃ T u, kvs[j]? = some (.iface T u) ∧ ∀ W, Below w.heap.size w W → Calls prog 57 #[.iface T u] W (K7 W (Ze ks[j]))
theorem Qh {x : Ex} {T : TypeId} {u : Value} {w : World} {ok : Nat → Prop} (ih : FpC x) (hl : lvs x ≤ 100000) (hv : EV w ok x (.iface T u)) (hok : ∀ k, ok k → k < w.heap.size) : ∀ W, Below w.heap.size w W → Calls prog 57 #[.iface T u] W (K7 W (Ze x)) :=
 fun W hW => ih _ ok W hl (hv.below hW hok) (fun k hk => Nat.lt_of_lt_of_le (hok k hk) hW.size)
theorem fp_name (s : Nm) : FpC (.name s) := by
 intro v ok w hl hv hok
 simp only [EV] at hv
 subst hv
 rw [show Ze (.name s) = [s] from rfl]
 clear hl
 go_enter func57, ntmps57
 go_wp2_with fail
 go_ret
 exact ⟨⟨_, rfl, owns_made (l := [s]) (Za _ _ _) (by omega) (by simp)⟩, (Zl _ _ _).trans (Below.refl _ _)⟩
theorem fp_num (n : Int) : FpC (.num n) := by
 intro v ok w hl hv hok
 simp only [EV] at hv
 subst hv
 rw [show Ze (.num n) = [] from rfl]
 clear hl
 go_enter func57, ntmps57
 go_wp2_with (go_at_call 216; go_must (refine (Z4v _ _).mono ?_; rintro e w1 ⟨rfl, hb1⟩))
 refine wp_loop_rounds 1 ?_
 rw [rounds_succ]
 go_wp2_with fail
 go_ret
 exact ⟨⟨_, rfl, World.ownsRow_nil _ _ _ _⟩, hb1⟩
theorem fp_add (a b : Ex) (iha : FpC a) (ihb : FpC b) : FpC (Ex.two Op2.add a b) := by
 intro v ok w hl hv hok
 simp only [EV] at hv
 obtain ⟨x, y, rfl, hx, hy⟩ := hv
 obtain ⟨Tx, ux, rfl⟩ := hx.iface
 obtain ⟨Ty, uy, rfl⟩ := hy.iface
 simp only [lvs] at hl
 have HK : Hid (KidC w (Zb (Ex.two Op2.add a b)) [Value.iface Tx ux, Value.iface Ty uy]) := H_ (by
  intro j hj
  match j, hj with
  | 0, _ => exact ⟨_, _, rfl, Qh (x := a) iha (by omega) hx hok⟩
  | 1, _ => exact ⟨_, _, rfl, Qh (x := b) ihb (by omega) hy hok⟩
  )
 have HE := H_ (Yp (Ex.two Op2.add a b) trivial)
 have HB : Hid (∀ j, Zo (Ex.two Op2.add a b) j = []) := H_ (fun _ => rfl)
 have hlen : (Zb (Ex.two Op2.add a b)).length = 2 := rfl
 have hLv : Hid (∀ j, (Zv (Zo (Ex.two Op2.add a b)) 0 ((Zb (Ex.two Op2.add a b)).take j)).length ≤ 100000) := H_ (fun j => by
  have h1 := (Jf (Zo (Ex.two Op2.add a b)) (Zb (Ex.two Op2.add a b)) j 0).length_le
  rw [← Yp (Ex.two Op2.add a b) trivial] at h1
  have h2 := Yj (Ex.two Op2.add a b)
  simp only [lvs] at h2
  omega)
 obtain ⟨i0, hi0, hz0, hz1, hz2⟩ := info_parts Tryz.infoStr
 rw [HE.out]
 generalize hX : (Ex.two Op2.add a b) = X at *
 try simp only [Kv, Vg]
 obtain ⟨kvs, hkvs⟩ : ∃ kvs, kvs = [Value.iface Tx ux, Value.iface Ty uy] := ⟨_, rfl⟩
 rw [← hkvs] at HK
 have Hkv := H_ hkvs
 clear hkvs
 clear HE hx hy iha ihb hl
 go_enter func57, ntmps57
 go_wp2_with (go_at_call 218; go_must (refine (Xa Tx Ty ux uy _).mono ?_; rintro e w1 ⟨⟨b, rfl, hbB, hbl, hblk⟩, hb1⟩))
 have hS := H_ (FpInv.start hb1 hblk)
 clear hblk
 rw [← Hkv.out] at hS
 clear Hkv
 go_loopw [6, 45] (fun v1 i wr => ∃ j : Nat, j ≤ 2 ∧ i = .int .i64 j ∧ Hid (FpInv w b kvs (Zv (Zo X) 0 ((Zb X).take j)) v1 wr)) (fun _ i _ => 2 - (intOf i).toNat)
 case atStart => exact ⟨0, Nat.zero_le _, rfl, hS⟩
 case round =>
  obtain ⟨j, hj, rfl, hI⟩ := hrel
  by_cases hlt : j < 2
  · have hjl : j < (Zb X).length := by omega
    obtain ⟨T, u, hkv, HC⟩ := HK.out j hjl
    have c0 : wr.cell? ⟨b, j, none⟩ = some (.iface T u) := by rw [Z4 hI.out.blk]; simpa using hkv
    have C := H_ (HC wr hI.out.below)
    have HS := H_ (show Zv (Zo X) 0 ((Zb X).take (j + 1)) = Zv (Zo X) 0 ((Zb X).take j) ++ Ze ((Zb X)[j]) by rw [Xt _ _ _ hjl, HB.out, K5])
    have hl2 := hLv.out (j + 1)
    rw [HS.out, List.length_append] at hl2
    have hsz := hI.out.below.size
    have HO := H_ hI.out.own
    generalize Ze ((Zb X)[j]) = Q at *
    generalize Zv (Zo X) 0 ((Zb X).take j) = P0 at *
    obtain ⟨p1, c1, rfl⟩ := Zn HO.out
    clear HC hkv HB HK hLv
    go_wp2_with (first | (go_at_call 57; go_must (refine (C.out).mono ?_; rintro e w2 ⟨⟨v2, rfl, ho2⟩, hb2⟩)) | (at_builtin; go_must (refine Y9 _ rfl _ _ 28 rfl w.heap.size 9 i0 underlying28 hi0 hz0 hz1 hz2 _ P0 rfl (Zx HO.out hb2) _ Q rfl (Yh ho2 (by omega)) (by omega) (by have := hb2.size; omega) ?_; intro v3 w3 ho3 hg3 hv3)))
    go_roundw
    case rel => exact ⟨j + 1, by omega, by go_num, H_ (by rw [HS.out]; exact hI.out.step hb2 hg3 ho3 hv3)⟩
    case measure => simp [intOf]; omega
  · have : j = 2 := by omega
    subst this
    have hF := hI.out.fin
    rw [List.take_of_length_le (by omega)] at hF
    have hF := H_ hF
    clear hI HK HB hLv
    go_wp2_with fail
    go_ret
    exact hF.out
theorem fp_sub (a b : Ex) (iha : FpC a) (ihb : FpC b) : FpC (Ex.two Op2.sub a b) := by
 intro v ok w hl hv hok
 simp only [EV] at hv
 obtain ⟨x, y, rfl, hx, hy⟩ := hv
 obtain ⟨Tx, ux, rfl⟩ := hx.iface
 obtain ⟨Ty, uy, rfl⟩ := hy.iface
 simp only [lvs] at hl
 have HK : Hid (KidC w (Zb (Ex.two Op2.sub a b)) [Value.iface Tx ux, Value.iface Ty uy]) := H_ (by
  intro j hj
  match j, hj with
  | 0, _ => exact ⟨_, _, rfl, Qh (x := a) iha (by omega) hx hok⟩
  | 1, _ => exact ⟨_, _, rfl, Qh (x := b) ihb (by omega) hy hok⟩
  )
 have HE := H_ (Yp (Ex.two Op2.sub a b) trivial)
 have HB : Hid (∀ j, Zo (Ex.two Op2.sub a b) j = []) := H_ (fun _ => rfl)
 have hlen : (Zb (Ex.two Op2.sub a b)).length = 2 := rfl
 have hLv : Hid (∀ j, (Zv (Zo (Ex.two Op2.sub a b)) 0 ((Zb (Ex.two Op2.sub a b)).take j)).length ≤ 100000) := H_ (fun j => by
  have h1 := (Jf (Zo (Ex.two Op2.sub a b)) (Zb (Ex.two Op2.sub a b)) j 0).length_le
  rw [← Yp (Ex.two Op2.sub a b) trivial] at h1
  have h2 := Yj (Ex.two Op2.sub a b)
  simp only [lvs] at h2
  omega)
 obtain ⟨i0, hi0, hz0, hz1, hz2⟩ := info_parts Tryz.infoStr
 rw [HE.out]
 generalize hX : (Ex.two Op2.sub a b) = X at *
 try simp only [Kv, Vg]
 obtain ⟨kvs, hkvs⟩ : ∃ kvs, kvs = [Value.iface Tx ux, Value.iface Ty uy] := ⟨_, rfl⟩
 rw [← hkvs] at HK
 have Hkv := H_ hkvs
 clear hkvs
 clear HE hx hy iha ihb hl
 go_enter func57, ntmps57
 go_wp2_with (go_at_call 218; go_must (refine (Xa Tx Ty ux uy _).mono ?_; rintro e w1 ⟨⟨b, rfl, hbB, hbl, hblk⟩, hb1⟩))
 have hS := H_ (FpInv.start hb1 hblk)
 clear hblk
 rw [← Hkv.out] at hS
 clear Hkv
 go_loopw [6, 45] (fun v1 i wr => ∃ j : Nat, j ≤ 2 ∧ i = .int .i64 j ∧ Hid (FpInv w b kvs (Zv (Zo X) 0 ((Zb X).take j)) v1 wr)) (fun _ i _ => 2 - (intOf i).toNat)
 case atStart => exact ⟨0, Nat.zero_le _, rfl, hS⟩
 case round =>
  obtain ⟨j, hj, rfl, hI⟩ := hrel
  by_cases hlt : j < 2
  · have hjl : j < (Zb X).length := by omega
    obtain ⟨T, u, hkv, HC⟩ := HK.out j hjl
    have c0 : wr.cell? ⟨b, j, none⟩ = some (.iface T u) := by rw [Z4 hI.out.blk]; simpa using hkv
    have C := H_ (HC wr hI.out.below)
    have HS := H_ (show Zv (Zo X) 0 ((Zb X).take (j + 1)) = Zv (Zo X) 0 ((Zb X).take j) ++ Ze ((Zb X)[j]) by rw [Xt _ _ _ hjl, HB.out, K5])
    have hl2 := hLv.out (j + 1)
    rw [HS.out, List.length_append] at hl2
    have hsz := hI.out.below.size
    have HO := H_ hI.out.own
    generalize Ze ((Zb X)[j]) = Q at *
    generalize Zv (Zo X) 0 ((Zb X).take j) = P0 at *
    obtain ⟨p1, c1, rfl⟩ := Zn HO.out
    clear HC hkv HB HK hLv
    go_wp2_with (first | (go_at_call 57; go_must (refine (C.out).mono ?_; rintro e w2 ⟨⟨v2, rfl, ho2⟩, hb2⟩)) | (at_builtin; go_must (refine Y9 _ rfl _ _ 28 rfl w.heap.size 9 i0 underlying28 hi0 hz0 hz1 hz2 _ P0 rfl (Zx HO.out hb2) _ Q rfl (Yh ho2 (by omega)) (by omega) (by have := hb2.size; omega) ?_; intro v3 w3 ho3 hg3 hv3)))
    go_roundw
    case rel => exact ⟨j + 1, by omega, by go_num, H_ (by rw [HS.out]; exact hI.out.step hb2 hg3 ho3 hv3)⟩
    case measure => simp [intOf]; omega
  · have : j = 2 := by omega
    subst this
    have hF := hI.out.fin
    rw [List.take_of_length_le (by omega)] at hF
    have hF := H_ hF
    clear hI HK HB hLv
    go_wp2_with fail
    go_ret
    exact hF.out
theorem fp_mul (a b : Ex) (iha : FpC a) (ihb : FpC b) : FpC (Ex.two Op2.mul a b) := by
 intro v ok w hl hv hok
 simp only [EV] at hv
 obtain ⟨x, y, rfl, hx, hy⟩ := hv
 obtain ⟨Tx, ux, rfl⟩ := hx.iface
 obtain ⟨Ty, uy, rfl⟩ := hy.iface
 simp only [lvs] at hl
 have HK : Hid (KidC w (Zb (Ex.two Op2.mul a b)) [Value.iface Tx ux, Value.iface Ty uy]) := H_ (by
  intro j hj
  match j, hj with
  | 0, _ => exact ⟨_, _, rfl, Qh (x := a) iha (by omega) hx hok⟩
  | 1, _ => exact ⟨_, _, rfl, Qh (x := b) ihb (by omega) hy hok⟩
  )
 have HE := H_ (Yp (Ex.two Op2.mul a b) trivial)
 have HB : Hid (∀ j, Zo (Ex.two Op2.mul a b) j = []) := H_ (fun _ => rfl)
 have hlen : (Zb (Ex.two Op2.mul a b)).length = 2 := rfl
 have hLv : Hid (∀ j, (Zv (Zo (Ex.two Op2.mul a b)) 0 ((Zb (Ex.two Op2.mul a b)).take j)).length ≤ 100000) := H_ (fun j => by
  have h1 := (Jf (Zo (Ex.two Op2.mul a b)) (Zb (Ex.two Op2.mul a b)) j 0).length_le
  rw [← Yp (Ex.two Op2.mul a b) trivial] at h1
  have h2 := Yj (Ex.two Op2.mul a b)
  simp only [lvs] at h2
  omega)
 obtain ⟨i0, hi0, hz0, hz1, hz2⟩ := info_parts Tryz.infoStr
 rw [HE.out]
 generalize hX : (Ex.two Op2.mul a b) = X at *
 try simp only [Kv, Vg]
 obtain ⟨kvs, hkvs⟩ : ∃ kvs, kvs = [Value.iface Tx ux, Value.iface Ty uy] := ⟨_, rfl⟩
 rw [← hkvs] at HK
 have Hkv := H_ hkvs
 clear hkvs
 clear HE hx hy iha ihb hl
 go_enter func57, ntmps57
 go_wp2_with (go_at_call 218; go_must (refine (Xa Tx Ty ux uy _).mono ?_; rintro e w1 ⟨⟨b, rfl, hbB, hbl, hblk⟩, hb1⟩))
 have hS := H_ (FpInv.start hb1 hblk)
 clear hblk
 rw [← Hkv.out] at hS
 clear Hkv
 go_loopw [6, 45] (fun v1 i wr => ∃ j : Nat, j ≤ 2 ∧ i = .int .i64 j ∧ Hid (FpInv w b kvs (Zv (Zo X) 0 ((Zb X).take j)) v1 wr)) (fun _ i _ => 2 - (intOf i).toNat)
 case atStart => exact ⟨0, Nat.zero_le _, rfl, hS⟩
 case round =>
  obtain ⟨j, hj, rfl, hI⟩ := hrel
  by_cases hlt : j < 2
  · have hjl : j < (Zb X).length := by omega
    obtain ⟨T, u, hkv, HC⟩ := HK.out j hjl
    have c0 : wr.cell? ⟨b, j, none⟩ = some (.iface T u) := by rw [Z4 hI.out.blk]; simpa using hkv
    have C := H_ (HC wr hI.out.below)
    have HS := H_ (show Zv (Zo X) 0 ((Zb X).take (j + 1)) = Zv (Zo X) 0 ((Zb X).take j) ++ Ze ((Zb X)[j]) by rw [Xt _ _ _ hjl, HB.out, K5])
    have hl2 := hLv.out (j + 1)
    rw [HS.out, List.length_append] at hl2
    have hsz := hI.out.below.size
    have HO := H_ hI.out.own
    generalize Ze ((Zb X)[j]) = Q at *
    generalize Zv (Zo X) 0 ((Zb X).take j) = P0 at *
    obtain ⟨p1, c1, rfl⟩ := Zn HO.out
    clear HC hkv HB HK hLv
    go_wp2_with (first | (go_at_call 57; go_must (refine (C.out).mono ?_; rintro e w2 ⟨⟨v2, rfl, ho2⟩, hb2⟩)) | (at_builtin; go_must (refine Y9 _ rfl _ _ 28 rfl w.heap.size 9 i0 underlying28 hi0 hz0 hz1 hz2 _ P0 rfl (Zx HO.out hb2) _ Q rfl (Yh ho2 (by omega)) (by omega) (by have := hb2.size; omega) ?_; intro v3 w3 ho3 hg3 hv3)))
    go_roundw
    case rel => exact ⟨j + 1, by omega, by go_num, H_ (by rw [HS.out]; exact hI.out.step hb2 hg3 ho3 hv3)⟩
    case measure => simp [intOf]; omega
  · have : j = 2 := by omega
    subst this
    have hF := hI.out.fin
    rw [List.take_of_length_le (by omega)] at hF
    have hF := H_ hF
    clear hI HK HB hLv
    go_wp2_with fail
    go_ret
    exact hF.out
theorem fp_call (a b : Ex) (iha : FpC a) (ihb : FpC b) : FpC (Ex.two Op2.call a b) := by
 intro v ok w hl hv hok
 simp only [EV] at hv
 obtain ⟨x, y, rfl, hx, hy⟩ := hv
 obtain ⟨Tx, ux, rfl⟩ := hx.iface
 obtain ⟨Ty, uy, rfl⟩ := hy.iface
 simp only [lvs] at hl
 have HK : Hid (KidC w (Zb (Ex.two Op2.call a b)) [Value.iface Tx ux, Value.iface Ty uy]) := H_ (by
  intro j hj
  match j, hj with
  | 0, _ => exact ⟨_, _, rfl, Qh (x := a) iha (by omega) hx hok⟩
  | 1, _ => exact ⟨_, _, rfl, Qh (x := b) ihb (by omega) hy hok⟩
  )
 have HE := H_ (Yp (Ex.two Op2.call a b) trivial)
 have HB : Hid (∀ j, Zo (Ex.two Op2.call a b) j = []) := H_ (fun _ => rfl)
 have hlen : (Zb (Ex.two Op2.call a b)).length = 2 := rfl
 have hLv : Hid (∀ j, (Zv (Zo (Ex.two Op2.call a b)) 0 ((Zb (Ex.two Op2.call a b)).take j)).length ≤ 100000) := H_ (fun j => by
  have h1 := (Jf (Zo (Ex.two Op2.call a b)) (Zb (Ex.two Op2.call a b)) j 0).length_le
  rw [← Yp (Ex.two Op2.call a b) trivial] at h1
  have h2 := Yj (Ex.two Op2.call a b)
  simp only [lvs] at h2
  omega)
 obtain ⟨i0, hi0, hz0, hz1, hz2⟩ := info_parts Tryz.infoStr
 rw [HE.out]
 generalize hX : (Ex.two Op2.call a b) = X at *
 try simp only [Kv, Vg]
 obtain ⟨kvs, hkvs⟩ : ∃ kvs, kvs = [Value.iface Tx ux, Value.iface Ty uy] := ⟨_, rfl⟩
 rw [← hkvs] at HK
 have Hkv := H_ hkvs
 clear hkvs
 clear HE hx hy iha ihb hl
 go_enter func57, ntmps57
 go_wp2_with (go_at_call 218; go_must (refine (Xa Tx Ty ux uy _).mono ?_; rintro e w1 ⟨⟨b, rfl, hbB, hbl, hblk⟩, hb1⟩))
 have hS := H_ (FpInv.start hb1 hblk)
 clear hblk
 rw [← Hkv.out] at hS
 clear Hkv
 go_loopw [6, 45] (fun v1 i wr => ∃ j : Nat, j ≤ 2 ∧ i = .int .i64 j ∧ Hid (FpInv w b kvs (Zv (Zo X) 0 ((Zb X).take j)) v1 wr)) (fun _ i _ => 2 - (intOf i).toNat)
 case atStart => exact ⟨0, Nat.zero_le _, rfl, hS⟩
 case round =>
  obtain ⟨j, hj, rfl, hI⟩ := hrel
  by_cases hlt : j < 2
  · have hjl : j < (Zb X).length := by omega
    obtain ⟨T, u, hkv, HC⟩ := HK.out j hjl
    have c0 : wr.cell? ⟨b, j, none⟩ = some (.iface T u) := by rw [Z4 hI.out.blk]; simpa using hkv
    have C := H_ (HC wr hI.out.below)
    have HS := H_ (show Zv (Zo X) 0 ((Zb X).take (j + 1)) = Zv (Zo X) 0 ((Zb X).take j) ++ Ze ((Zb X)[j]) by rw [Xt _ _ _ hjl, HB.out, K5])
    have hl2 := hLv.out (j + 1)
    rw [HS.out, List.length_append] at hl2
    have hsz := hI.out.below.size
    have HO := H_ hI.out.own
    generalize Ze ((Zb X)[j]) = Q at *
    generalize Zv (Zo X) 0 ((Zb X).take j) = P0 at *
    obtain ⟨p1, c1, rfl⟩ := Zn HO.out
    clear HC hkv HB HK hLv
    go_wp2_with (first | (go_at_call 57; go_must (refine (C.out).mono ?_; rintro e w2 ⟨⟨v2, rfl, ho2⟩, hb2⟩)) | (at_builtin; go_must (refine Y9 _ rfl _ _ 28 rfl w.heap.size 9 i0 underlying28 hi0 hz0 hz1 hz2 _ P0 rfl (Zx HO.out hb2) _ Q rfl (Yh ho2 (by omega)) (by omega) (by have := hb2.size; omega) ?_; intro v3 w3 ho3 hg3 hv3)))
    go_roundw
    case rel => exact ⟨j + 1, by omega, by go_num, H_ (by rw [HS.out]; exact hI.out.step hb2 hg3 ho3 hv3)⟩
    case measure => simp [intOf]; omega
  · have : j = 2 := by omega
    subst this
    have hF := hI.out.fin
    rw [List.take_of_length_le (by omega)] at hF
    have hF := H_ hF
    clear hI HK HB hLv
    go_wp2_with fail
    go_ret
    exact hF.out
theorem fp_pair (a b : Ex) (iha : FpC a) (ihb : FpC b) : FpC (Ex.two Op2.pair a b) := by
 intro v ok w hl hv hok
 simp only [EV] at hv
 obtain ⟨x, y, rfl, hx, hy⟩ := hv
 obtain ⟨Tx, ux, rfl⟩ := hx.iface
 obtain ⟨Ty, uy, rfl⟩ := hy.iface
 simp only [lvs] at hl
 have HK : Hid (KidC w (Zb (Ex.two Op2.pair a b)) [Value.iface Tx ux, Value.iface Ty uy]) := H_ (by
  intro j hj
  match j, hj with
  | 0, _ => exact ⟨_, _, rfl, Qh (x := a) iha (by omega) hx hok⟩
  | 1, _ => exact ⟨_, _, rfl, Qh (x := b) ihb (by omega) hy hok⟩
  )
 have HE := H_ (Yp (Ex.two Op2.pair a b) trivial)
 have HB : Hid (∀ j, Zo (Ex.two Op2.pair a b) j = []) := H_ (fun _ => rfl)
 have hlen : (Zb (Ex.two Op2.pair a b)).length = 2 := rfl
 have hLv : Hid (∀ j, (Zv (Zo (Ex.two Op2.pair a b)) 0 ((Zb (Ex.two Op2.pair a b)).take j)).length ≤ 100000) := H_ (fun j => by
  have h1 := (Jf (Zo (Ex.two Op2.pair a b)) (Zb (Ex.two Op2.pair a b)) j 0).length_le
  rw [← Yp (Ex.two Op2.pair a b) trivial] at h1
  have h2 := Yj (Ex.two Op2.pair a b)
  simp only [lvs] at h2
  omega)
 obtain ⟨i0, hi0, hz0, hz1, hz2⟩ := info_parts Tryz.infoStr
 rw [HE.out]
 generalize hX : (Ex.two Op2.pair a b) = X at *
 try simp only [Kv, Vg]
 obtain ⟨kvs, hkvs⟩ : ∃ kvs, kvs = [Value.iface Tx ux, Value.iface Ty uy] := ⟨_, rfl⟩
 rw [← hkvs] at HK
 have Hkv := H_ hkvs
 clear hkvs
 clear HE hx hy iha ihb hl
 go_enter func57, ntmps57
 go_wp2_with (go_at_call 218; go_must (refine (Xa Tx Ty ux uy _).mono ?_; rintro e w1 ⟨⟨b, rfl, hbB, hbl, hblk⟩, hb1⟩))
 have hS := H_ (FpInv.start hb1 hblk)
 clear hblk
 rw [← Hkv.out] at hS
 clear Hkv
 go_loopw [6, 45] (fun v1 i wr => ∃ j : Nat, j ≤ 2 ∧ i = .int .i64 j ∧ Hid (FpInv w b kvs (Zv (Zo X) 0 ((Zb X).take j)) v1 wr)) (fun _ i _ => 2 - (intOf i).toNat)
 case atStart => exact ⟨0, Nat.zero_le _, rfl, hS⟩
 case round =>
  obtain ⟨j, hj, rfl, hI⟩ := hrel
  by_cases hlt : j < 2
  · have hjl : j < (Zb X).length := by omega
    obtain ⟨T, u, hkv, HC⟩ := HK.out j hjl
    have c0 : wr.cell? ⟨b, j, none⟩ = some (.iface T u) := by rw [Z4 hI.out.blk]; simpa using hkv
    have C := H_ (HC wr hI.out.below)
    have HS := H_ (show Zv (Zo X) 0 ((Zb X).take (j + 1)) = Zv (Zo X) 0 ((Zb X).take j) ++ Ze ((Zb X)[j]) by rw [Xt _ _ _ hjl, HB.out, K5])
    have hl2 := hLv.out (j + 1)
    rw [HS.out, List.length_append] at hl2
    have hsz := hI.out.below.size
    have HO := H_ hI.out.own
    generalize Ze ((Zb X)[j]) = Q at *
    generalize Zv (Zo X) 0 ((Zb X).take j) = P0 at *
    obtain ⟨p1, c1, rfl⟩ := Zn HO.out
    clear HC hkv HB HK hLv
    go_wp2_with (first | (go_at_call 57; go_must (refine (C.out).mono ?_; rintro e w2 ⟨⟨v2, rfl, ho2⟩, hb2⟩)) | (at_builtin; go_must (refine Y9 _ rfl _ _ 28 rfl w.heap.size 9 i0 underlying28 hi0 hz0 hz1 hz2 _ P0 rfl (Zx HO.out hb2) _ Q rfl (Yh ho2 (by omega)) (by omega) (by have := hb2.size; omega) ?_; intro v3 w3 ho3 hg3 hv3)))
    go_roundw
    case rel => exact ⟨j + 1, by omega, by go_num, H_ (by rw [HS.out]; exact hI.out.step hb2 hg3 ho3 hv3)⟩
    case measure => simp [intOf]; omega
  · have : j = 2 := by omega
    subst this
    have hF := hI.out.fin
    rw [List.take_of_length_le (by omega)] at hF
    have hF := H_ hF
    clear hI HK HB hLv
    go_wp2_with fail
    go_ret
    exact hF.out
theorem fp_fst (a : Ex) (iha : FpC a) : FpC (Ex.one Op1.fst a) := by
 intro v ok w hl hv hok
 simp only [EV] at hv
 obtain ⟨x, rfl, hx⟩ := hv
 obtain ⟨Tx, ux, rfl⟩ := hx.iface
 simp only [lvs] at hl
 have HK : Hid (KidC w (Zb (Ex.one Op1.fst a)) [Value.iface Tx ux]) := H_ (by
  intro j hj
  match j, hj with
  | 0, _ => exact ⟨_, _, rfl, Qh (x := a) iha (by omega) hx hok⟩
  )
 have HE := H_ (Yp (Ex.one Op1.fst a) trivial)
 have HB : Hid (∀ j, Zo (Ex.one Op1.fst a) j = []) := H_ (fun _ => rfl)
 have hlen : (Zb (Ex.one Op1.fst a)).length = 1 := rfl
 have hLv : Hid (∀ j, (Zv (Zo (Ex.one Op1.fst a)) 0 ((Zb (Ex.one Op1.fst a)).take j)).length ≤ 100000) := H_ (fun j => by
  have h1 := (Jf (Zo (Ex.one Op1.fst a)) (Zb (Ex.one Op1.fst a)) j 0).length_le
  rw [← Yp (Ex.one Op1.fst a) trivial] at h1
  have h2 := Yj (Ex.one Op1.fst a)
  simp only [lvs] at h2
  omega)
 obtain ⟨i0, hi0, hz0, hz1, hz2⟩ := info_parts Tryz.infoStr
 rw [HE.out]
 generalize hX : (Ex.one Op1.fst a) = X at *
 try simp only [Kv, Vg]
 obtain ⟨kvs, hkvs⟩ : ∃ kvs, kvs = [Value.iface Tx ux] := ⟨_, rfl⟩
 rw [← hkvs] at HK
 have Hkv := H_ hkvs
 clear hkvs
 clear HE hx iha hl
 go_enter func57, ntmps57
 go_wp2_with (go_at_call 233; go_must (refine (Vr Tx ux _).mono ?_; rintro e w1 ⟨⟨b, rfl, hbB, hbl, hblk⟩, hb1⟩))
 have hS := H_ (FpInv.start hb1 hblk)
 clear hblk
 rw [← Hkv.out] at hS
 clear Hkv
 go_loopw [6, 45] (fun v1 i wr => ∃ j : Nat, j ≤ 1 ∧ i = .int .i64 j ∧ Hid (FpInv w b kvs (Zv (Zo X) 0 ((Zb X).take j)) v1 wr)) (fun _ i _ => 1 - (intOf i).toNat)
 case atStart => exact ⟨0, Nat.zero_le _, rfl, hS⟩
 case round =>
  obtain ⟨j, hj, rfl, hI⟩ := hrel
  by_cases hlt : j < 1
  · have hjl : j < (Zb X).length := by omega
    obtain ⟨T, u, hkv, HC⟩ := HK.out j hjl
    have c0 : wr.cell? ⟨b, j, none⟩ = some (.iface T u) := by rw [Z4 hI.out.blk]; simpa using hkv
    have C := H_ (HC wr hI.out.below)
    have HS := H_ (show Zv (Zo X) 0 ((Zb X).take (j + 1)) = Zv (Zo X) 0 ((Zb X).take j) ++ Ze ((Zb X)[j]) by rw [Xt _ _ _ hjl, HB.out, K5])
    have hl2 := hLv.out (j + 1)
    rw [HS.out, List.length_append] at hl2
    have hsz := hI.out.below.size
    have HO := H_ hI.out.own
    generalize Ze ((Zb X)[j]) = Q at *
    generalize Zv (Zo X) 0 ((Zb X).take j) = P0 at *
    obtain ⟨p1, c1, rfl⟩ := Zn HO.out
    clear HC hkv HB HK hLv
    go_wp2_with (first | (go_at_call 57; go_must (refine (C.out).mono ?_; rintro e w2 ⟨⟨v2, rfl, ho2⟩, hb2⟩)) | (at_builtin; go_must (refine Y9 _ rfl _ _ 28 rfl w.heap.size 9 i0 underlying28 hi0 hz0 hz1 hz2 _ P0 rfl (Zx HO.out hb2) _ Q rfl (Yh ho2 (by omega)) (by omega) (by have := hb2.size; omega) ?_; intro v3 w3 ho3 hg3 hv3)))
    go_roundw
    case rel => exact ⟨j + 1, by omega, by go_num, H_ (by rw [HS.out]; exact hI.out.step hb2 hg3 ho3 hv3)⟩
    case measure => simp [intOf]; omega
  · have : j = 1 := by omega
    subst this
    have hF := hI.out.fin
    rw [List.take_of_length_le (by omega)] at hF
    have hF := H_ hF
    clear hI HK HB hLv
    go_wp2_with fail
    go_ret
    exact hF.out
theorem fp_snd (a : Ex) (iha : FpC a) : FpC (Ex.one Op1.snd a) := by
 intro v ok w hl hv hok
 simp only [EV] at hv
 obtain ⟨x, rfl, hx⟩ := hv
 obtain ⟨Tx, ux, rfl⟩ := hx.iface
 simp only [lvs] at hl
 have HK : Hid (KidC w (Zb (Ex.one Op1.snd a)) [Value.iface Tx ux]) := H_ (by
  intro j hj
  match j, hj with
  | 0, _ => exact ⟨_, _, rfl, Qh (x := a) iha (by omega) hx hok⟩
  )
 have HE := H_ (Yp (Ex.one Op1.snd a) trivial)
 have HB : Hid (∀ j, Zo (Ex.one Op1.snd a) j = []) := H_ (fun _ => rfl)
 have hlen : (Zb (Ex.one Op1.snd a)).length = 1 := rfl
 have hLv : Hid (∀ j, (Zv (Zo (Ex.one Op1.snd a)) 0 ((Zb (Ex.one Op1.snd a)).take j)).length ≤ 100000) := H_ (fun j => by
  have h1 := (Jf (Zo (Ex.one Op1.snd a)) (Zb (Ex.one Op1.snd a)) j 0).length_le
  rw [← Yp (Ex.one Op1.snd a) trivial] at h1
  have h2 := Yj (Ex.one Op1.snd a)
  simp only [lvs] at h2
  omega)
 obtain ⟨i0, hi0, hz0, hz1, hz2⟩ := info_parts Tryz.infoStr
 rw [HE.out]
 generalize hX : (Ex.one Op1.snd a) = X at *
 try simp only [Kv, Vg]
 obtain ⟨kvs, hkvs⟩ : ∃ kvs, kvs = [Value.iface Tx ux] := ⟨_, rfl⟩
 rw [← hkvs] at HK
 have Hkv := H_ hkvs
 clear hkvs
 clear HE hx iha hl
 go_enter func57, ntmps57
 go_wp2_with (go_at_call 233; go_must (refine (Vr Tx ux _).mono ?_; rintro e w1 ⟨⟨b, rfl, hbB, hbl, hblk⟩, hb1⟩))
 have hS := H_ (FpInv.start hb1 hblk)
 clear hblk
 rw [← Hkv.out] at hS
 clear Hkv
 go_loopw [6, 45] (fun v1 i wr => ∃ j : Nat, j ≤ 1 ∧ i = .int .i64 j ∧ Hid (FpInv w b kvs (Zv (Zo X) 0 ((Zb X).take j)) v1 wr)) (fun _ i _ => 1 - (intOf i).toNat)
 case atStart => exact ⟨0, Nat.zero_le _, rfl, hS⟩
 case round =>
  obtain ⟨j, hj, rfl, hI⟩ := hrel
  by_cases hlt : j < 1
  · have hjl : j < (Zb X).length := by omega
    obtain ⟨T, u, hkv, HC⟩ := HK.out j hjl
    have c0 : wr.cell? ⟨b, j, none⟩ = some (.iface T u) := by rw [Z4 hI.out.blk]; simpa using hkv
    have C := H_ (HC wr hI.out.below)
    have HS := H_ (show Zv (Zo X) 0 ((Zb X).take (j + 1)) = Zv (Zo X) 0 ((Zb X).take j) ++ Ze ((Zb X)[j]) by rw [Xt _ _ _ hjl, HB.out, K5])
    have hl2 := hLv.out (j + 1)
    rw [HS.out, List.length_append] at hl2
    have hsz := hI.out.below.size
    have HO := H_ hI.out.own
    generalize Ze ((Zb X)[j]) = Q at *
    generalize Zv (Zo X) 0 ((Zb X).take j) = P0 at *
    obtain ⟨p1, c1, rfl⟩ := Zn HO.out
    clear HC hkv HB HK hLv
    go_wp2_with (first | (go_at_call 57; go_must (refine (C.out).mono ?_; rintro e w2 ⟨⟨v2, rfl, ho2⟩, hb2⟩)) | (at_builtin; go_must (refine Y9 _ rfl _ _ 28 rfl w.heap.size 9 i0 underlying28 hi0 hz0 hz1 hz2 _ P0 rfl (Zx HO.out hb2) _ Q rfl (Yh ho2 (by omega)) (by omega) (by have := hb2.size; omega) ?_; intro v3 w3 ho3 hg3 hv3)))
    go_roundw
    case rel => exact ⟨j + 1, by omega, by go_num, H_ (by rw [HS.out]; exact hI.out.step hb2 hg3 ho3 hv3)⟩
    case measure => simp [intOf]; omega
  · have : j = 1 := by omega
    subst this
    have hF := hI.out.fin
    rw [List.take_of_length_le (by omega)] at hF
    have hF := H_ hF
    clear hI HK HB hLv
    go_wp2_with fail
    go_ret
    exact hF.out
theorem fp_cond (a b c : Ex) (iha : FpC a) (ihb : FpC b) (ihc : FpC c) : FpC (Ex.cond a b c) := by
 intro v ok w hl hv hok
 simp only [EV] at hv
 obtain ⟨x, y, z, rfl, hx, hy, hz⟩ := hv
 obtain ⟨Tx, ux, rfl⟩ := hx.iface
 obtain ⟨Ty, uy, rfl⟩ := hy.iface
 obtain ⟨Tz, uz, rfl⟩ := hz.iface
 simp only [lvs] at hl
 have HK : Hid (KidC w (Zb (Ex.cond a b c)) [Value.iface Tx ux, Value.iface Ty uy, Value.iface Tz uz]) := H_ (by
  intro j hj
  match j, hj with
  | 0, _ => exact ⟨_, _, rfl, Qh (x := a) iha (by omega) hx hok⟩
  | 1, _ => exact ⟨_, _, rfl, Qh (x := b) ihb (by omega) hy hok⟩
  | 2, _ => exact ⟨_, _, rfl, Qh (x := c) ihc (by omega) hz hok⟩
  )
 have HE := H_ (Yp (Ex.cond a b c) trivial)
 have HB : Hid (∀ j, Zo (Ex.cond a b c) j = []) := H_ (fun _ => rfl)
 have hlen : (Zb (Ex.cond a b c)).length = 3 := rfl
 have hLv : Hid (∀ j, (Zv (Zo (Ex.cond a b c)) 0 ((Zb (Ex.cond a b c)).take j)).length ≤ 100000) := H_ (fun j => by
  have h1 := (Jf (Zo (Ex.cond a b c)) (Zb (Ex.cond a b c)) j 0).length_le
  rw [← Yp (Ex.cond a b c) trivial] at h1
  have h2 := Yj (Ex.cond a b c)
  simp only [lvs] at h2
  omega)
 obtain ⟨i0, hi0, hz0, hz1, hz2⟩ := info_parts Tryz.infoStr
 rw [HE.out]
 generalize hX : (Ex.cond a b c) = X at *
 try simp only [Kv, Vg]
 obtain ⟨kvs, hkvs⟩ : ∃ kvs, kvs = [Value.iface Tx ux, Value.iface Ty uy, Value.iface Tz uz] := ⟨_, rfl⟩
 rw [← hkvs] at HK
 have Hkv := H_ hkvs
 clear hkvs
 clear HE hx hy hz iha ihb ihc hl
 go_enter func57, ntmps57
 go_wp2_with (go_at_call 227; go_must (refine (Z3p Tx Ty Tz ux uy uz _).mono ?_; rintro e w1 ⟨⟨b, rfl, hbB, hbl, hblk⟩, hb1⟩))
 have hS := H_ (FpInv.start hb1 hblk)
 clear hblk
 rw [← Hkv.out] at hS
 clear Hkv
 go_loopw [6, 45] (fun v1 i wr => ∃ j : Nat, j ≤ 3 ∧ i = .int .i64 j ∧ Hid (FpInv w b kvs (Zv (Zo X) 0 ((Zb X).take j)) v1 wr)) (fun _ i _ => 3 - (intOf i).toNat)
 case atStart => exact ⟨0, Nat.zero_le _, rfl, hS⟩
 case round =>
  obtain ⟨j, hj, rfl, hI⟩ := hrel
  by_cases hlt : j < 3
  · have hjl : j < (Zb X).length := by omega
    obtain ⟨T, u, hkv, HC⟩ := HK.out j hjl
    have c0 : wr.cell? ⟨b, j, none⟩ = some (.iface T u) := by rw [Z4 hI.out.blk]; simpa using hkv
    have C := H_ (HC wr hI.out.below)
    have HS := H_ (show Zv (Zo X) 0 ((Zb X).take (j + 1)) = Zv (Zo X) 0 ((Zb X).take j) ++ Ze ((Zb X)[j]) by rw [Xt _ _ _ hjl, HB.out, K5])
    have hl2 := hLv.out (j + 1)
    rw [HS.out, List.length_append] at hl2
    have hsz := hI.out.below.size
    have HO := H_ hI.out.own
    generalize Ze ((Zb X)[j]) = Q at *
    generalize Zv (Zo X) 0 ((Zb X).take j) = P0 at *
    obtain ⟨p1, c1, rfl⟩ := Zn HO.out
    clear HC hkv HB HK hLv
    go_wp2_with (first | (go_at_call 57; go_must (refine (C.out).mono ?_; rintro e w2 ⟨⟨v2, rfl, ho2⟩, hb2⟩)) | (at_builtin; go_must (refine Y9 _ rfl _ _ 28 rfl w.heap.size 9 i0 underlying28 hi0 hz0 hz1 hz2 _ P0 rfl (Zx HO.out hb2) _ Q rfl (Yh ho2 (by omega)) (by omega) (by have := hb2.size; omega) ?_; intro v3 w3 ho3 hg3 hv3)))
    go_roundw
    case rel => exact ⟨j + 1, by omega, by go_num, H_ (by rw [HS.out]; exact hI.out.step hb2 hg3 ho3 hv3)⟩
    case measure => simp [intOf]; omega
  · have : j = 3 := by omega
    subst this
    have hF := hI.out.fin
    rw [List.take_of_length_le (by omega)] at hF
    have hF := H_ hF
    clear hI HK HB hLv
    go_wp2_with fail
    go_ret
    exact hF.out
theorem own_kept {w w' : World} {base : Nat} {e : TypeId} {size : Nat} {v : Value} {n : Nat} {xs : List Value} {row : Option Nat} (h : w.ownsRow base e size v n xs) (hg : w.grownBy w' row) (hne : ∀ k, v.ownBlock = some k → row ≠ some k) : w'.ownsRow base e size v n xs := by
 refine ⟨h.1, ?_⟩
 rcases h.2 with ⟨rfl, h0⟩ | ⟨g, cap, cur, rfl, hb, hgg, h1, h2, h3, h4⟩
 · exact .inl ⟨rfl, h0⟩
 · exact .inr ⟨g, cap, cur, rfl, hb, by rw [hg.block g (lt_of_block hgg) (fun e => hne g rfl e.symm)]; exact hgg, h1, h2, h3, h4⟩
theorem let_fin {w w2 W w4 : World} {v2 v3 : Value} {P : List Nm} {base2 base3 n : Nat} {xs : List Value} (ho2 : w2.ownsRow base2 9 1 v2 P.length (P.map Y3)) (hb2 : w.heap.size ≤ base2) (k2 : Below w.heap.size w w2)
 (h23 : Below w2.heap.size w2 W) (ho3 : W.ownsRow base3 9 1 v3 n xs) (hb3 : w2.heap.size ≤ base3) (hg4 : W.grownBy w4 v3.ownBlock) : Below w.heap.size w w4 ∧ w4.ownsRow w.heap.size 9 1 v2 P.length (P.map Y3) := by
 have hk := k2.size
 refine ⟨Ya k2 h23 hg4 (fun k hk2 => by have := (Yb ho3 hk2).1; omega), ?_⟩
 refine own_kept (own_kept (row := none) (Vf ho2 hb2) ⟨h23.os, h23.tape, h23.output, h23.size, fun k hk _ => h23.block k hk⟩ (fun _ _ => by simp)) hg4 (fun k hk1 hk2 => ?_)
 have h1 := (Yb ho2 hk1).2
 have h2 := (Yb ho3 hk2).1
 omega
theorem let_end {w w4 w5 : World} {v2 v5 : Value} {P Q : List Nm} (h4 : Below w.heap.size w w4) (ho : w4.ownsRow w.heap.size 9 1 v2 P.length (P.map Y3)) (hg : w4.grownBy w5 v2.ownBlock) (ho5 : w5.ownsRow w.heap.size 9 1 v5 (P ++ Q).length ((P ++ Q).map Y3)) : K7 w (P ++ Q) (.returned v5) w5 :=
 ⟨⟨v5, rfl, ho5⟩, Ya h4 (Below.refl _ _) hg (fun k hk => (Yb ho hk).1)⟩
theorem Yq {P : Program} (w : World) {ops : Array Oper} {o : Oper} {a : Act} {K : Act → World → Prop} {Q : Exit → Act → World → Prop} {E : Prop} (hgd : o.guard = none) (s x : Operand) (t : TypeId)
 (ho : o.op = .call { callee := .builtin .append, args := #[s, x], argTypes := #[t, t] })
 (base : Nat) (e : TypeId) (i : TypeInfo) (ht : P.underlying t = some (.slice e)) (hi : P.info? e = some i) (hz : i.zero = some (.string ⟨#[]⟩)) (hsize : i.size = 1) (hby : i.bytes = 16)
 (v : Value) (l : List (List UInt8)) (hs : a.eval s = v) (hown : w.ownsRow base e 1 v l.length (l.map Y3))
 (u : Value) (m : List (List UInt8)) (hx : a.eval x = u) (hu : Zw w u m) (hb : l.length + m.length ≤ 1000000) (hbase : base ≤ w.heap.size)
 (h : ∀ v' w', w'.ownsRow base e 1 v' (l ++ m).length ((l ++ m).map Y3) → w.grownBy w' v.ownBlock → (v'.ownBlock = v.ownBlock ∨ v'.ownBlock = some w.heap.size) → K (a.put o.dst v') w') :
 if Region.wanted o (yielded ops a.tmps) = true then Oper.wp P o a w K Q else E := by
 have hw : Region.wanted o (yielded ops a.tmps) = true := by simp [Region.wanted, hgd]
 rw [if_pos hw]
 obtain ⟨v', w', hr, h2, h3, h4⟩ := Qx (P := P) w base t o.type e i ht hi hz hsize hby v l hown u m hu hb hbase
 unfold Oper.wp execOp
 simp only [ho, resolve, invoke, builtin, Sem.run_bind, Sem.run_pure, Result.andThen_ok, List.map_toArray, List.map_cons, List.map_nil, hs, hx, hr]
 exact h v' w' h2 h3 h4
theorem Kk {w : World} {b : Nat} {l : List (List UInt8)} {t : TypeId} (h : w.heap[b]? = some (.cells (l.map Y3).toArray t (0, 0))) (c : Nat) (hl : l.length ≤ 1000000) : Zw w (.slice (some ⟨b, 0, none⟩) l.length c) l :=
 ⟨_, c, rfl, by omega, fun _ => ⟨b, 0, rfl, fun j v hj => by rw [Nat.zero_add, Z4 h]; simpa using hj⟩⟩
theorem without_A {v3 : Value} {l : List Nm} {base : Nat} {w3 : World} (bl : List Nm) (hb : bl.length ≤ 1000000) (hl : l.length ≤ 1000000) (ho : w3.ownsRow base 9 1 v3 l.length (l.map Y3)) :
 Calls prog 101 #[v3, .slice (some ⟨w3.heap.size, 0, none⟩) bl.length bl.length] (w3.alloc (.cells (bl.map Y3).toArray 9)) fun e w' => (∃ v', e = .returned v' ∧ w'.ownsRow base 9 1 v' (rm bl l).length ((rm bl l).map Y3) ∧ v'.ownBlock = v3.ownBlock) ∧ (w3.alloc (.cells (bl.map Y3).toArray 9)).grownBy w' v3.ownBlock :=
 without_c v3 _ l bl base _ hl (ho.alloc _) (Kk (heap_alloc_new _ _) _ hb) (fun k hk => by
  have hk : w3.heap.size = k := by injection hk
  subst hk
  exact ⟨fun e => by have := (Yb ho e).2; omega, by simp⟩)
theorem without_B {v3 : Value} {l : List Nm} {base g : Nat} {w3 : World} (bl : List Nm) (hb : bl.length ≤ 1000000) (hl : l.length ≤ 1000000) (ho : w3.ownsRow base 9 1 v3 l.length (l.map Y3)) (hq : w3.heap[g]? = some (.cells (bl.map Y3).toArray 9 (0, 0))) (hg : g < base) :
 Calls prog 101 #[v3, .slice (some ⟨g, 0, none⟩) bl.length bl.length] w3 fun e w' => (∃ v', e = .returned v' ∧ w'.ownsRow base 9 1 v' (rm bl l).length ((rm bl l).map Y3) ∧ v'.ownBlock = v3.ownBlock) ∧ w3.grownBy w' v3.ownBlock :=
 without_c v3 _ l bl base _ hl ho (Kk hq _ hb) (fun k hk => by
  have hk : g = k := by injection hk
  subst hk
  exact ⟨fun e => by have := (Yb ho e).1; omega, lt_of_block hq⟩)
end Go.Proofs.YtjaaalojcdbcpaaGreatDoor
