/- The program: an expression is made plain. -/
import Derived.Test.YtjaaalojcdbcpaaGreatDoorlIp2
import Derived.Test.YtjaaalojcdbcpaaGreatDoorlAssertsM
set_option maxHeartbeats 20000000
set_option linter.unusedVariables false
set_option linter.unusedSimpArgs false
namespace Go.Proofs.YtjaaalojcdbcpaaGreatDoor
open Go.RowKit Go.Proofs.Tryz
set_option maxRecDepth 8000
structure PnW (free : List Nm) (m : List (Nm × Nm)) (bound vf : Value) (b : Nat) (w : World) : Prop where
 str : Zw w vf free
 fb : ∀ q, vf.ownBlock = some q → q ≠ b ∧ q < w.heap.size
 rn : RnL w (fun q => q ≠ b ∧ q < w.heap.size) m bound
 tb : TabB b w
 len : free.length ≤ 300
theorem PnW.only {free : List Nm} {m : List (Nm × Nm)} {bound vf : Value} {b : Nat} {w w' : World} (h : PnW free m bound vf b w) (ho : Only b w w') : PnW free m bound vf b w' :=
 ⟨h.str.onlyI ho h.fb, fun q hq => ⟨(h.fb q hq).1, Nat.lt_of_lt_of_le (h.fb q hq).2 ho.size⟩, RnL.move (fun k hk => ⟨hk.1, Nat.lt_of_lt_of_le hk.2 ho.size⟩) (fun k hk => ho.block k hk.2 hk.1) h.rn, h.tb.only ho, h.len⟩
theorem RnL.ptr {w : World} {ok : Nat → Prop} {m : List (Nm × Nm)} {v : Value} (h : RnL w ok m v) : ∃ p, v = .pointer p := by
 cases m with
 | nil => exact ⟨none, h⟩
 | cons q m => obtain ⟨x, y⟩ := q; obtain ⟨r, u, rfl, -⟩ := h; exact ⟨_, rfl⟩
def Ju (free : List Nm) (m : List (Nm × Nm)) (k : Nat) (x : Ex) (b B : Nat) (vf : Value) (w : World) (e : Ending) (w' : World) : Prop :=
 (∃ S t, e = .returned (.iface S t) ∧ EV w' (fun k => k < B) (plE free m k x).1 (.iface S t)) ∧ NMk w' b vf (plE free m k x).2 ∧ Only b w w'
def PnC (free : List Nm) (x : Ex) : Prop := ∀ (m : List (Nm × Nm)) (k : Nat) (v bound vf : Value) (b B : Nat) (w : World), EV w (fun k => k < B) x v → B ≤ b → PnW free m bound vf b w → NMk w b vf k → (plE free m k x).2 ≤ 200 →
    Calls prog 71 #[.pointer (some ⟨b, 0, none⟩), v, bound] w fun e w' => Ju free m k x b B vf w e w'
theorem Vp (free : List Nm) (m : List (Nm × Nm)) (k : Nat) (x : Ex) : k ≤ (plE free m k x).2 := (Ym free x m k).1
theorem Ko {free : List Nm} {x : Ex} {m : List (Nm × Nm)} {vf : Value} {b B : Nat} {pb : Option Addr} {w : World} {T : TypeId} {u : Value} (ih : PnC free x) (hv : EV w (fun k => k < B) x (.iface T u)) (hB : B ≤ b) (hp : PnW free m (.pointer pb) vf b w) (hbl : b < w.heap.size) :
 PkC free m b B vf ((w.alloc (.cells #[.pointer (some ⟨b, 0, none⟩)] 146)).alloc (.cells #[.pointer pb] 147)) (.pointer (some ⟨w.heap.size, 0, none⟩)) (.pointer (some ⟨w.heap.size + 1, 0, none⟩)) T u x := by
 intro W k hW hk h2
 have hO : Only b w W := (Only.of (Zl w _ _)).trans hW
 have y0 := hW.blk (Z8 (heap_alloc_new w (.cells #[.pointer (some ⟨b, 0, none⟩)] 146))) (show w.heap.size ≠ b by omega)
 have y1 := hW.blk (Za w (.cells #[.pointer (some ⟨b, 0, none⟩)] 146) (.cells #[.pointer pb] 147)) (show w.heap.size + 1 ≠ b by omega)
 have c0 := Z4 (j := 0) y0
 have c1 := Z4 (j := 0) y1
 have C := H_ (ih m k (.iface T u) (.pointer pb) vf b B W (hv.onlyI hB (by omega) hO) hB (hp.only hO) hk h2)
 unfold Ju at C
 clear ih hv hp hk h2 y0 y1
 go_enter func123, ntmps123
 go_wp2_with (go_at_call 71; go_must (refine (C.out).mono ?_; rintro e w2 ⟨⟨S, t, rfl, hx⟩, hN, hb⟩))
 go_ret
 exact ⟨⟨_, _, rfl, hx⟩, hN, hb⟩
theorem pn_num (free : List Nm) (n : Int) : PnC free (.num n) := by
 intro m k v bound vf b B w hv hB hp hn h2
 obtain ⟨pb, rfl⟩ := hp.rn.ptr
 simp only [EV] at hv
 subst hv
 have HE : Hid (∀ w' : World, EV w' (fun k => k < B) (.num n) (.iface 141 (.agg #[.int .i64 n]))) := H_ (fun w' => by simp only [EV])
 have HN := H_ (fun w' (h : Below w.heap.size w w') => hn.below h)
 unfold Ju
 rw [show plE free m k (.num n) = (.num n, k) from rfl]
 clear hp hn h2
 go_enter func71, ntmps71
 go_wp2_with (go_at_call 217; go_must (refine (Z4r _ _ rfl _ _).mono ?_; rintro e w2 ⟨rfl, hb2⟩; have hB2 := H_ ((Zl w _ _).trans (hb2.mono (by simp; omega)))))
 go_ret
 exact ⟨⟨_, _, rfl, HE.out _⟩, HN.out _ hB2.out, Only.of hB2.out⟩
theorem pn_name (free : List Nm) (s : Nm) : PnC free (.name s) := by
 intro m k v bound vf b B w hv hB hp hn h2
 obtain ⟨pb, rfl⟩ := hp.rn.ptr
 simp only [EV] at hv
 subst hv
 have HE : Hid (∀ w' : World, EV w' (fun k => k < B) (.name (J2 m s)) (.iface 110 (.agg #[.string (bs (J2 m s))]))) := H_ (fun w' => by simp only [EV])
 have HN := H_ (fun w' (h : Below w.heap.size w w') => hn.below h)
 have CO : Hid (∀ W, Below w.heap.size w W → Calls prog 121 #[.pointer pb, .string (bs s)] W fun e w' => e = .returned (.string (bs (J2 m s))) ∧ w' = W) := H_ (fun W hW => of_c m _ s _ W ((hp.only (Only.of hW)).rn))
 unfold Ju
 rw [show plE free m k (.name s) = (.name (J2 m s), k) from rfl]
 have hB3 := H_ (Qf w (.cells #[.pointer (some ⟨b, 0, none⟩)] 146) (.cells #[.pointer pb] 147) (.cells #[.string (bs s)] 110))
 clear hp hn h2
 generalize bs (J2 m s) = R at *
 generalize bs s = S at *
 go_enter func71, ntmps71
 go_wp2_with (go_at_call 121; go_must (refine (CO.out _ hB3.out).mono ?_; rintro e w2 ⟨rfl, rfl⟩))
 go_ret
 exact ⟨⟨_, _, rfl, HE.out _⟩, HN.out _ hB3.out, Only.of hB3.out⟩
theorem pn_fst (free : List Nm) (a : Ex) (iha : PnC free a) : PnC free (.one .fst a) := by
 intro m k v bound vf b B w hv hB hp hn h2
 obtain ⟨pb, rfl⟩ := hp.rn.ptr
 simp only [EV] at hv
 obtain ⟨x, rfl, hx⟩ := hv
 obtain ⟨Tx, ux, rfl⟩ := hx.iface
 have hbl := hn.lt
 obtain ⟨fa, k1, h1⟩ : ∃ fa k1, plE free m k a = (fa, k1) := ⟨_, _, rfl⟩
 have hE : plE free m k (.one .fst a) = (.one .fst fa, k1) := by simp only [plE, h1]
 rw [hE] at h2
 unfold Ju
 rw [hE]
 have MP := H_ (map_fstP free m b B vf Tx ux (.pointer (some ⟨w.heap.size, 0, none⟩)) (.pointer (some ⟨w.heap.size + 1, 0, none⟩)) a k k1 fa ((w.alloc (.cells #[.pointer (some ⟨b, 0, none⟩)] 146)).alloc (.cells #[.pointer pb] 147)) hB (hn.below (Zl w _ _)) h1 h2 (Ko iha hx hB hp hbl))
 have HO := H_ (Only.of (b := b) (Zl w (.cells #[.pointer (some ⟨b, 0, none⟩)] 146) (.cells #[.pointer pb] 147)))
 simp only [Vg]
 clear iha hx hp hn h1 hE
 go_enter func71, ntmps71
 go_wp2_with (go_at_call 235; go_must (refine (MP.out).mono ?_; rintro e w2 ⟨⟨v', rfl, hv'⟩, hN, hb2⟩; obtain ⟨S, t, rfl⟩ := hv'.iface))
 go_ret
 exact ⟨⟨_, _, rfl, hv'⟩, hN, HO.out.trans hb2⟩
theorem pn_snd (free : List Nm) (a : Ex) (iha : PnC free a) : PnC free (.one .snd a) := by
 intro m k v bound vf b B w hv hB hp hn h2
 obtain ⟨pb, rfl⟩ := hp.rn.ptr
 simp only [EV] at hv
 obtain ⟨x, rfl, hx⟩ := hv
 obtain ⟨Tx, ux, rfl⟩ := hx.iface
 have hbl := hn.lt
 obtain ⟨fa, k1, h1⟩ : ∃ fa k1, plE free m k a = (fa, k1) := ⟨_, _, rfl⟩
 have hE : plE free m k (.one .snd a) = (.one .snd fa, k1) := by simp only [plE, h1]
 rw [hE] at h2
 unfold Ju
 rw [hE]
 have MP := H_ (map_sndP free m b B vf Tx ux (.pointer (some ⟨w.heap.size, 0, none⟩)) (.pointer (some ⟨w.heap.size + 1, 0, none⟩)) a k k1 fa ((w.alloc (.cells #[.pointer (some ⟨b, 0, none⟩)] 146)).alloc (.cells #[.pointer pb] 147)) hB (hn.below (Zl w _ _)) h1 h2 (Ko iha hx hB hp hbl))
 have HO := H_ (Only.of (b := b) (Zl w (.cells #[.pointer (some ⟨b, 0, none⟩)] 146) (.cells #[.pointer pb] 147)))
 simp only [Vg]
 clear iha hx hp hn h1 hE
 go_enter func71, ntmps71
 go_wp2_with (go_at_call 238; go_must (refine (MP.out).mono ?_; rintro e w2 ⟨⟨v', rfl, hv'⟩, hN, hb2⟩; obtain ⟨S, t, rfl⟩ := hv'.iface))
 go_ret
 exact ⟨⟨_, _, rfl, hv'⟩, hN, HO.out.trans hb2⟩
theorem pn_add (free : List Nm) (a c : Ex) (iha : PnC free a) (ihc : PnC free c) : PnC free (.two .add a c) := by
 intro m k v bound vf b B w hv hB hp hn h2
 obtain ⟨pb, rfl⟩ := hp.rn.ptr
 simp only [EV] at hv
 obtain ⟨x, y, rfl, hx, hy⟩ := hv
 obtain ⟨Tx, ux, rfl⟩ := hx.iface
 obtain ⟨Ty, uy, rfl⟩ := hy.iface
 have hbl := hn.lt
 obtain ⟨fa, k1, h1⟩ : ∃ fa k1, plE free m k a = (fa, k1) := ⟨_, _, rfl⟩
 obtain ⟨fc, k2, h3⟩ : ∃ fc k2, plE free m k1 c = (fc, k2) := ⟨_, _, rfl⟩
 have hE : plE free m k (.two .add a c) = (.two .add fa fc, k2) := by simp only [plE, h1, h3]
 rw [hE] at h2
 unfold Ju
 rw [hE]
 have hk1 : k1 ≤ 200 := by have h := Vp free m k1 c; rw [h3] at h; exact Nat.le_trans h h2
 have MP := H_ (map_addP free m b B vf Tx Ty ux uy (.pointer (some ⟨w.heap.size, 0, none⟩)) (.pointer (some ⟨w.heap.size + 1, 0, none⟩)) a c k k1 k2 fa fc ((w.alloc (.cells #[.pointer (some ⟨b, 0, none⟩)] 146)).alloc (.cells #[.pointer pb] 147)) hB (hn.below (Zl w _ _)) h1 h3 hk1 h2 (Ko iha hx hB hp hbl) (Ko ihc hy hB hp hbl))
 have HO := H_ (Only.of (b := b) (Zl w (.cells #[.pointer (some ⟨b, 0, none⟩)] 146) (.cells #[.pointer pb] 147)))
 simp only [Kv]
 clear iha ihc hx hy hp hn h1 h3 hE
 go_enter func71, ntmps71
 go_wp2_with (go_at_call 220; go_must (refine (MP.out).mono ?_; rintro e w2 ⟨⟨v', rfl, hv'⟩, hN, hb2⟩; obtain ⟨S, t, rfl⟩ := hv'.iface))
 go_ret
 exact ⟨⟨_, _, rfl, hv'⟩, hN, HO.out.trans hb2⟩
theorem pn_sub (free : List Nm) (a c : Ex) (iha : PnC free a) (ihc : PnC free c) : PnC free (.two .sub a c) := by
 intro m k v bound vf b B w hv hB hp hn h2
 obtain ⟨pb, rfl⟩ := hp.rn.ptr
 simp only [EV] at hv
 obtain ⟨x, y, rfl, hx, hy⟩ := hv
 obtain ⟨Tx, ux, rfl⟩ := hx.iface
 obtain ⟨Ty, uy, rfl⟩ := hy.iface
 have hbl := hn.lt
 obtain ⟨fa, k1, h1⟩ : ∃ fa k1, plE free m k a = (fa, k1) := ⟨_, _, rfl⟩
 obtain ⟨fc, k2, h3⟩ : ∃ fc k2, plE free m k1 c = (fc, k2) := ⟨_, _, rfl⟩
 have hE : plE free m k (.two .sub a c) = (.two .sub fa fc, k2) := by simp only [plE, h1, h3]
 rw [hE] at h2
 unfold Ju
 rw [hE]
 have hk1 : k1 ≤ 200 := by have h := Vp free m k1 c; rw [h3] at h; exact Nat.le_trans h h2
 have MP := H_ (map_subP free m b B vf Tx Ty ux uy (.pointer (some ⟨w.heap.size, 0, none⟩)) (.pointer (some ⟨w.heap.size + 1, 0, none⟩)) a c k k1 k2 fa fc ((w.alloc (.cells #[.pointer (some ⟨b, 0, none⟩)] 146)).alloc (.cells #[.pointer pb] 147)) hB (hn.below (Zl w _ _)) h1 h3 hk1 h2 (Ko iha hx hB hp hbl) (Ko ihc hy hB hp hbl))
 have HO := H_ (Only.of (b := b) (Zl w (.cells #[.pointer (some ⟨b, 0, none⟩)] 146) (.cells #[.pointer pb] 147)))
 simp only [Kv]
 clear iha ihc hx hy hp hn h1 h3 hE
 go_enter func71, ntmps71
 go_wp2_with (go_at_call 223; go_must (refine (MP.out).mono ?_; rintro e w2 ⟨⟨v', rfl, hv'⟩, hN, hb2⟩; obtain ⟨S, t, rfl⟩ := hv'.iface))
 go_ret
 exact ⟨⟨_, _, rfl, hv'⟩, hN, HO.out.trans hb2⟩
theorem pn_mul (free : List Nm) (a c : Ex) (iha : PnC free a) (ihc : PnC free c) : PnC free (.two .mul a c) := by
 intro m k v bound vf b B w hv hB hp hn h2
 obtain ⟨pb, rfl⟩ := hp.rn.ptr
 simp only [EV] at hv
 obtain ⟨x, y, rfl, hx, hy⟩ := hv
 obtain ⟨Tx, ux, rfl⟩ := hx.iface
 obtain ⟨Ty, uy, rfl⟩ := hy.iface
 have hbl := hn.lt
 obtain ⟨fa, k1, h1⟩ : ∃ fa k1, plE free m k a = (fa, k1) := ⟨_, _, rfl⟩
 obtain ⟨fc, k2, h3⟩ : ∃ fc k2, plE free m k1 c = (fc, k2) := ⟨_, _, rfl⟩
 have hE : plE free m k (.two .mul a c) = (.two .mul fa fc, k2) := by simp only [plE, h1, h3]
 rw [hE] at h2
 unfold Ju
 rw [hE]
 have hk1 : k1 ≤ 200 := by have h := Vp free m k1 c; rw [h3] at h; exact Nat.le_trans h h2
 have MP := H_ (map_mulP free m b B vf Tx Ty ux uy (.pointer (some ⟨w.heap.size, 0, none⟩)) (.pointer (some ⟨w.heap.size + 1, 0, none⟩)) a c k k1 k2 fa fc ((w.alloc (.cells #[.pointer (some ⟨b, 0, none⟩)] 146)).alloc (.cells #[.pointer pb] 147)) hB (hn.below (Zl w _ _)) h1 h3 hk1 h2 (Ko iha hx hB hp hbl) (Ko ihc hy hB hp hbl))
 have HO := H_ (Only.of (b := b) (Zl w (.cells #[.pointer (some ⟨b, 0, none⟩)] 146) (.cells #[.pointer pb] 147)))
 simp only [Kv]
 clear iha ihc hx hy hp hn h1 h3 hE
 go_enter func71, ntmps71
 go_wp2_with (go_at_call 225; go_must (refine (MP.out).mono ?_; rintro e w2 ⟨⟨v', rfl, hv'⟩, hN, hb2⟩; obtain ⟨S, t, rfl⟩ := hv'.iface))
 go_ret
 exact ⟨⟨_, _, rfl, hv'⟩, hN, HO.out.trans hb2⟩
theorem pn_call (free : List Nm) (a c : Ex) (iha : PnC free a) (ihc : PnC free c) : PnC free (.two .call a c) := by
 intro m k v bound vf b B w hv hB hp hn h2
 obtain ⟨pb, rfl⟩ := hp.rn.ptr
 simp only [EV] at hv
 obtain ⟨x, y, rfl, hx, hy⟩ := hv
 obtain ⟨Tx, ux, rfl⟩ := hx.iface
 obtain ⟨Ty, uy, rfl⟩ := hy.iface
 have hbl := hn.lt
 obtain ⟨fa, k1, h1⟩ : ∃ fa k1, plE free m k a = (fa, k1) := ⟨_, _, rfl⟩
 obtain ⟨fc, k2, h3⟩ : ∃ fc k2, plE free m k1 c = (fc, k2) := ⟨_, _, rfl⟩
 have hE : plE free m k (.two .call a c) = (.two .call fa fc, k2) := by simp only [plE, h1, h3]
 rw [hE] at h2
 unfold Ju
 rw [hE]
 have hk1 : k1 ≤ 200 := by have h := Vp free m k1 c; rw [h3] at h; exact Nat.le_trans h h2
 have MP := H_ (map_callP free m b B vf Tx Ty ux uy (.pointer (some ⟨w.heap.size, 0, none⟩)) (.pointer (some ⟨w.heap.size + 1, 0, none⟩)) a c k k1 k2 fa fc ((w.alloc (.cells #[.pointer (some ⟨b, 0, none⟩)] 146)).alloc (.cells #[.pointer pb] 147)) hB (hn.below (Zl w _ _)) h1 h3 hk1 h2 (Ko iha hx hB hp hbl) (Ko ihc hy hB hp hbl))
 have HO := H_ (Only.of (b := b) (Zl w (.cells #[.pointer (some ⟨b, 0, none⟩)] 146) (.cells #[.pointer pb] 147)))
 simp only [Kv]
 clear iha ihc hx hy hp hn h1 h3 hE
 go_enter func71, ntmps71
 go_wp2_with (go_at_call 230; go_must (refine (MP.out).mono ?_; rintro e w2 ⟨⟨v', rfl, hv'⟩, hN, hb2⟩; obtain ⟨S, t, rfl⟩ := hv'.iface))
 go_ret
 exact ⟨⟨_, _, rfl, hv'⟩, hN, HO.out.trans hb2⟩
theorem pn_pair (free : List Nm) (a c : Ex) (iha : PnC free a) (ihc : PnC free c) : PnC free (.two .pair a c) := by
 intro m k v bound vf b B w hv hB hp hn h2
 obtain ⟨pb, rfl⟩ := hp.rn.ptr
 simp only [EV] at hv
 obtain ⟨x, y, rfl, hx, hy⟩ := hv
 obtain ⟨Tx, ux, rfl⟩ := hx.iface
 obtain ⟨Ty, uy, rfl⟩ := hy.iface
 have hbl := hn.lt
 obtain ⟨fa, k1, h1⟩ : ∃ fa k1, plE free m k a = (fa, k1) := ⟨_, _, rfl⟩
 obtain ⟨fc, k2, h3⟩ : ∃ fc k2, plE free m k1 c = (fc, k2) := ⟨_, _, rfl⟩
 have hE : plE free m k (.two .pair a c) = (.two .pair fa fc, k2) := by simp only [plE, h1, h3]
 rw [hE] at h2
 unfold Ju
 rw [hE]
 have hk1 : k1 ≤ 200 := by have h := Vp free m k1 c; rw [h3] at h; exact Nat.le_trans h h2
 have MP := H_ (map_pairP free m b B vf Tx Ty ux uy (.pointer (some ⟨w.heap.size, 0, none⟩)) (.pointer (some ⟨w.heap.size + 1, 0, none⟩)) a c k k1 k2 fa fc ((w.alloc (.cells #[.pointer (some ⟨b, 0, none⟩)] 146)).alloc (.cells #[.pointer pb] 147)) hB (hn.below (Zl w _ _)) h1 h3 hk1 h2 (Ko iha hx hB hp hbl) (Ko ihc hy hB hp hbl))
 have HO := H_ (Only.of (b := b) (Zl w (.cells #[.pointer (some ⟨b, 0, none⟩)] 146) (.cells #[.pointer pb] 147)))
 simp only [Kv]
 clear iha ihc hx hy hp hn h1 h3 hE
 go_enter func71, ntmps71
 go_wp2_with (go_at_call 232; go_must (refine (MP.out).mono ?_; rintro e w2 ⟨⟨v', rfl, hv'⟩, hN, hb2⟩; obtain ⟨S, t, rfl⟩ := hv'.iface))
 go_ret
 exact ⟨⟨_, _, rfl, hv'⟩, hN, HO.out.trans hb2⟩
theorem pn_cond (free : List Nm) (a c d : Ex) (iha : PnC free a) (ihc : PnC free c) (ihd : PnC free d) : PnC free (.cond a c d) := by
 intro m k v bound vf b B w hv hB hp hn h2
 obtain ⟨pb, rfl⟩ := hp.rn.ptr
 simp only [EV] at hv
 obtain ⟨x, y, z, rfl, hx, hy, hz⟩ := hv
 obtain ⟨Tx, ux, rfl⟩ := hx.iface
 obtain ⟨Ty, uy, rfl⟩ := hy.iface
 obtain ⟨Tz, uz, rfl⟩ := hz.iface
 have hbl := hn.lt
 obtain ⟨fa, k1, h1⟩ : ∃ fa k1, plE free m k a = (fa, k1) := ⟨_, _, rfl⟩
 obtain ⟨fc, k2, h3⟩ : ∃ fc k2, plE free m k1 c = (fc, k2) := ⟨_, _, rfl⟩
 obtain ⟨fd, k3, h4⟩ : ∃ fd k3, plE free m k2 d = (fd, k3) := ⟨_, _, rfl⟩
 have hE : plE free m k (.cond a c d) = (.cond fa fc fd, k3) := by simp only [plE, h1, h3, h4]
 rw [hE] at h2
 unfold Ju
 rw [hE]
 have hk2 : k2 ≤ 200 := by have h := Vp free m k2 d; rw [h4] at h; exact Nat.le_trans h h2
 have hk1 : k1 ≤ 200 := by have h := Vp free m k1 c; rw [h3] at h; exact Nat.le_trans h hk2
 have MP := H_ (map_ifP free m b B vf Tx Ty Tz ux uy uz (.pointer (some ⟨w.heap.size, 0, none⟩)) (.pointer (some ⟨w.heap.size + 1, 0, none⟩)) a c d k k1 k2 k3 fa fc fd ((w.alloc (.cells #[.pointer (some ⟨b, 0, none⟩)] 146)).alloc (.cells #[.pointer pb] 147)) hB (hn.below (Zl w _ _)) h1 h3 h4 hk1 hk2 h2 (Ko iha hx hB hp hbl) (Ko ihc hy hB hp hbl) (Ko ihd hz hB hp hbl))
 have HO := H_ (Only.of (b := b) (Zl w (.cells #[.pointer (some ⟨b, 0, none⟩)] 146) (.cells #[.pointer pb] 147)))
 clear iha ihc ihd hx hy hz hp hn h1 h3 h4 hE
 go_enter func71, ntmps71
 go_wp2_with (go_at_call 228; go_must (refine (MP.out).mono ?_; rintro e w2 ⟨⟨v', rfl, hv'⟩, hN, hb2⟩; obtain ⟨S, t, rfl⟩ := hv'.iface))
 go_ret
 exact ⟨⟨_, _, rfl, hv'⟩, hN, HO.out.trans hb2⟩
end Go.Proofs.YtjaaalojcdbcpaaGreatDoor
