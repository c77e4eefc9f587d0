/- The program: an expression is made plain. -/
import Derived.Test.YtjncmmnbdabjnaaGreatDoorIp2
import Derived.Test.YtjncmmnbdabjnaaGreatDoorAsserts
namespace Go.Proofs.YtjncmmnbdabjnaaGreatDoor
open Go.RowKit
set_option maxRecDepth 8000
set_option linter.unusedSimpArgs false
set_option linter.unusedVariables false
structure PnW (free : List Nm) (m : List (Nm × Nm)) (bound vf : Value) (b : Nat) (w : World) : Prop where
  str : StrS w vf free
  fb : ∀ q, vf.ownBlock = some q → q ≠ b ∧ q < w.heap.size
  rn : RnL w (fun q => q ≠ b ∧ q < w.heap.size) m bound
  tb : TabB b w
  len : free.length ≤ 300
theorem PnW.only {free : List Nm} {m : List (Nm × Nm)} {bound vf : Value} {b : Nat} {w w' : World} (h : PnW free m bound vf b w) (ho : Only b w w') : PnW free m bound vf b w' :=
  ⟨h.str.onlyI ho h.fb, fun q hq => ⟨(h.fb q hq).1, Nat.lt_of_lt_of_le (h.fb q hq).2 ho.size⟩, RnL.move (fun k hk => ⟨hk.1, Nat.lt_of_lt_of_le hk.2 ho.size⟩) (fun k hk => ho.block k hk.2 hk.1) h.rn, h.tb.only ho, h.len⟩
theorem RnL.ptr {w : World} {ok : Nat → Prop} {m : List (Nm × Nm)} {v : Value} (h : RnL w ok m v) : ∃ p, v = .pointer p := by
  cases m with
  | nil => exact ⟨none, h⟩
  | cons q m => obtain ⟨x, y⟩ := q; obtain ⟨r, u, rfl, -⟩ := h; exact ⟨_, rfl⟩
def PlPost (free : List Nm) (m : List (Nm × Nm)) (k : Nat) (x : Ex) (b B : Nat) (vf : Value) (w : World) (e : Ending) (w' : World) : Prop :=
  (∃ S t, e = .returned (.iface S t) ∧ EV w' (fun k => k < B) (plE free m k x).1 (.iface S t)) ∧ NMk w' b vf (plE free m k x).2 ∧ Only b w w'
def PnC (free : List Nm) (x : Ex) : Prop := ∀ (m : List (Nm × Nm)) (k : Nat) (v bound vf : Value) (b B : Nat) (w : World), EV w (fun k => k < B) x v → B ≤ b → PnW free m bound vf b w → NMk w b vf k → (plE free m k x).2 ≤ 200 →
    Calls Tryz.prog 130 #[.pointer (some ⟨b, 0, none⟩), v, bound] w fun e w' => PlPost free m k x b B vf w e w'
theorem pl_mono (free : List Nm) (m : List (Nm × Nm)) (k : Nat) (x : Ex) : k ≤ (plE free m k x).2 := (plE_used free x m k).1
theorem pkC_of {free : List Nm} {x : Ex} {m : List (Nm × Nm)} {vf : Value} {b B : Nat} {pb : Option Addr} {w : World} {T : TypeId} {u : Value} (ih : PnC free x) (hv : EV w (fun k => k < B) x (.iface T u)) (hB : B ≤ b) (hp : PnW free m (.pointer pb) vf b w) (hbl : b < w.heap.size) :
    PkC free m b B vf ((w.alloc (.cells #[.pointer (some ⟨b, 0, none⟩)] 180)).alloc (.cells #[.pointer pb] 181)) (.pointer (some ⟨w.heap.size, 0, none⟩)) (.pointer (some ⟨w.heap.size + 1, 0, none⟩)) T u x := by
  intro W k hW hk h2
  have hO : Only b w W := (Only.of (below2 w _ _)).trans hW
  have y0 := hW.blk (blk_alloc (heap_alloc_new w (.cells #[.pointer (some ⟨b, 0, none⟩)] 180))) (show w.heap.size ≠ b by omega)
  have y1 := hW.blk (heap_alloc_new2 w (.cells #[.pointer (some ⟨b, 0, none⟩)] 180) (.cells #[.pointer pb] 181)) (show w.heap.size + 1 ≠ b by omega)
  have c0 := cell_of (j := 0) y0
  have c1 := cell_of (j := 0) y1
  have C := Lib.hid (ih m k (.iface T u) (.pointer pb) vf b B W (hv.onlyI hB (by omega) hO) hB (hp.only hO) hk h2)
  unfold PlPost at C
  clear ih hv hp hk h2 y0 y1
  go_enter Tryz.func156, Tryz.ntmps156
  go_wp2_with (go_at_call 130; go_must (refine (C.out).mono ?_; rintro e w2 ⟨⟨S, t, rfl, hx⟩, hN, hb⟩))
  go_ret
  exact ⟨⟨_, _, rfl, hx⟩, hN, hb⟩
theorem pn_num (free : List Nm) (n : Int) : PnC free (.num n) := by
  intro m k v bound vf b B w hv hB hp hn h2
  obtain ⟨pb, rfl⟩ := hp.rn.ptr
  simp only [EV] at hv
  subst hv
  have HE : Hid (∀ w' : World, EV w' (fun k => k < B) (.num n) (.iface 133 (.agg #[.int .i64 n]))) := Lib.hid (fun w' => by simp only [EV])
  have HN := Lib.hid (fun w' (h : Below w.heap.size w w') => hn.below h)
  unfold PlPost
  rw [show plE free m k (.num n) = (.num n, k) from rfl]
  clear hp hn h2
  go_enter Tryz.func130, Tryz.ntmps130
  go_wp2_with (go_at_call 217; go_must (refine (map_number_c _ _ rfl _ _).mono ?_; rintro e w2 ⟨rfl, hb2⟩; have hB2 := Lib.hid ((below2 w _ _).trans (hb2.mono (by simp; omega)))))
  go_ret
  exact ⟨⟨_, _, rfl, HE.out _⟩, HN.out _ hB2.out, Only.of hB2.out⟩
set_option maxHeartbeats 1000000 in
theorem pn_name (free : List Nm) (s : Nm) : PnC free (.name s) := by
  intro m k v bound vf b B w hv hB hp hn h2
  obtain ⟨pb, rfl⟩ := hp.rn.ptr
  simp only [EV] at hv
  subst hv
  have HE : Hid (∀ w' : World, EV w' (fun k => k < B) (.name (lookR m s)) (.iface 98 (.agg #[.string (bs (lookR m s))]))) := Lib.hid (fun w' => by simp only [EV])
  have HN := Lib.hid (fun w' (h : Below w.heap.size w w') => hn.below h)
  have CO : Hid (∀ W, Below w.heap.size w W → Calls Tryz.prog 154 #[.pointer pb, .string (bs s)] W fun e w' => e = .returned (.string (bs (lookR m s))) ∧ w' = W) := Lib.hid (fun W hW => of_c m _ s _ W ((hp.only (Only.of hW)).rn))
  unfold PlPost
  rw [show plE free m k (.name s) = (.name (lookR m s), k) from rfl]
  have hB3 := Lib.hid (below3 w (.cells #[.pointer (some ⟨b, 0, none⟩)] 180) (.cells #[.pointer pb] 181) (.cells #[.string (bs s)] 98))
  clear hp hn h2
  generalize bs (lookR m s) = R at *
  generalize bs s = S at *
  go_enter Tryz.func130, Tryz.ntmps130
  go_wp2_with (go_at_call 154; go_must (refine (CO.out _ hB3.out).mono ?_; rintro e w2 ⟨rfl, rfl⟩))
  go_ret
  exact ⟨⟨_, _, rfl, HE.out _⟩, HN.out _ hB3.out, Only.of hB3.out⟩
theorem pn_fst (free : List Nm) (a : Ex) (iha : PnC free a) : PnC free (.one .fst a) := by
  intro m k v bound vf b B w hv hB hp hn h2
  obtain ⟨pb, rfl⟩ := hp.rn.ptr
  simp only [EV] at hv
  obtain ⟨x, rfl, hx⟩ := hv
  obtain ⟨Tx, ux, rfl⟩ := hx.iface
  have hbl := hn.lt
  obtain ⟨fa, k1, h1⟩ : ∃ fa k1, plE free m k a = (fa, k1) := ⟨_, _, rfl⟩
  have hE : plE free m k (.one .fst a) = (.one .fst fa, k1) := by simp only [plE, h1]
  rw [hE] at h2
  unfold PlPost
  rw [hE]
  have MP := Lib.hid (map_fstP free m b B vf Tx ux (.pointer (some ⟨w.heap.size, 0, none⟩)) (.pointer (some ⟨w.heap.size + 1, 0, none⟩)) a k k1 fa ((w.alloc (.cells #[.pointer (some ⟨b, 0, none⟩)] 180)).alloc (.cells #[.pointer pb] 181)) hB (hn.below (below2 w _ _)) h1 h2 (pkC_of iha hx hB hp hbl))
  have HO := Lib.hid (Only.of (b := b) (below2 w (.cells #[.pointer (some ⟨b, 0, none⟩)] 180) (.cells #[.pointer pb] 181)))
  simp only [op1T]
  clear iha hx hp hn h1 hE
  go_enter Tryz.func130, Tryz.ntmps130
  go_wp2_with (go_at_call 235; go_must (refine (MP.out).mono ?_; rintro e w2 ⟨⟨v', rfl, hv'⟩, hN, hb2⟩; obtain ⟨S, t, rfl⟩ := hv'.iface))
  go_ret
  exact ⟨⟨_, _, rfl, hv'⟩, hN, HO.out.trans hb2⟩
theorem pn_snd (free : List Nm) (a : Ex) (iha : PnC free a) : PnC free (.one .snd a) := by
  intro m k v bound vf b B w hv hB hp hn h2
  obtain ⟨pb, rfl⟩ := hp.rn.ptr
  simp only [EV] at hv
  obtain ⟨x, rfl, hx⟩ := hv
  obtain ⟨Tx, ux, rfl⟩ := hx.iface
  have hbl := hn.lt
  obtain ⟨fa, k1, h1⟩ : ∃ fa k1, plE free m k a = (fa, k1) := ⟨_, _, rfl⟩
  have hE : plE free m k (.one .snd a) = (.one .snd fa, k1) := by simp only [plE, h1]
  rw [hE] at h2
  unfold PlPost
  rw [hE]
  have MP := Lib.hid (map_sndP free m b B vf Tx ux (.pointer (some ⟨w.heap.size, 0, none⟩)) (.pointer (some ⟨w.heap.size + 1, 0, none⟩)) a k k1 fa ((w.alloc (.cells #[.pointer (some ⟨b, 0, none⟩)] 180)).alloc (.cells #[.pointer pb] 181)) hB (hn.below (below2 w _ _)) h1 h2 (pkC_of iha hx hB hp hbl))
  have HO := Lib.hid (Only.of (b := b) (below2 w (.cells #[.pointer (some ⟨b, 0, none⟩)] 180) (.cells #[.pointer pb] 181)))
  simp only [op1T]
  clear iha hx hp hn h1 hE
  go_enter Tryz.func130, Tryz.ntmps130
  go_wp2_with (go_at_call 238; go_must (refine (MP.out).mono ?_; rintro e w2 ⟨⟨v', rfl, hv'⟩, hN, hb2⟩; obtain ⟨S, t, rfl⟩ := hv'.iface))
  go_ret
  exact ⟨⟨_, _, rfl, hv'⟩, hN, HO.out.trans hb2⟩
theorem pn_add (free : List Nm) (a c : Ex) (iha : PnC free a) (ihc : PnC free c) : PnC free (.two .add a c) := by
  intro m k v bound vf b B w hv hB hp hn h2
  obtain ⟨pb, rfl⟩ := hp.rn.ptr
  simp only [EV] at hv
  obtain ⟨x, y, rfl, hx, hy⟩ := hv
  obtain ⟨Tx, ux, rfl⟩ := hx.iface
  obtain ⟨Ty, uy, rfl⟩ := hy.iface
  have hbl := hn.lt
  obtain ⟨fa, k1, h1⟩ : ∃ fa k1, plE free m k a = (fa, k1) := ⟨_, _, rfl⟩
  obtain ⟨fc, k2, h3⟩ : ∃ fc k2, plE free m k1 c = (fc, k2) := ⟨_, _, rfl⟩
  have hE : plE free m k (.two .add a c) = (.two .add fa fc, k2) := by simp only [plE, h1, h3]
  rw [hE] at h2
  unfold PlPost
  rw [hE]
  have hk1 : k1 ≤ 200 := by have h := pl_mono free m k1 c; rw [h3] at h; exact Nat.le_trans h h2
  have MP := Lib.hid (map_addP free m b B vf Tx Ty ux uy (.pointer (some ⟨w.heap.size, 0, none⟩)) (.pointer (some ⟨w.heap.size + 1, 0, none⟩)) a c k k1 k2 fa fc ((w.alloc (.cells #[.pointer (some ⟨b, 0, none⟩)] 180)).alloc (.cells #[.pointer pb] 181)) hB (hn.below (below2 w _ _)) h1 h3 hk1 h2 (pkC_of iha hx hB hp hbl) (pkC_of ihc hy hB hp hbl))
  have HO := Lib.hid (Only.of (b := b) (below2 w (.cells #[.pointer (some ⟨b, 0, none⟩)] 180) (.cells #[.pointer pb] 181)))
  simp only [op2T]
  clear iha ihc hx hy hp hn h1 h3 hE
  go_enter Tryz.func130, Tryz.ntmps130
  go_wp2_with (go_at_call 220; go_must (refine (MP.out).mono ?_; rintro e w2 ⟨⟨v', rfl, hv'⟩, hN, hb2⟩; obtain ⟨S, t, rfl⟩ := hv'.iface))
  go_ret
  exact ⟨⟨_, _, rfl, hv'⟩, hN, HO.out.trans hb2⟩
theorem pn_sub (free : List Nm) (a c : Ex) (iha : PnC free a) (ihc : PnC free c) : PnC free (.two .sub a c) := by
  intro m k v bound vf b B w hv hB hp hn h2
  obtain ⟨pb, rfl⟩ := hp.rn.ptr
  simp only [EV] at hv
  obtain ⟨x, y, rfl, hx, hy⟩ := hv
  obtain ⟨Tx, ux, rfl⟩ := hx.iface
  obtain ⟨Ty, uy, rfl⟩ := hy.iface
  have hbl := hn.lt
  obtain ⟨fa, k1, h1⟩ : ∃ fa k1, plE free m k a = (fa, k1) := ⟨_, _, rfl⟩
  obtain ⟨fc, k2, h3⟩ : ∃ fc k2, plE free m k1 c = (fc, k2) := ⟨_, _, rfl⟩
  have hE : plE free m k (.two .sub a c) = (.two .sub fa fc, k2) := by simp only [plE, h1, h3]
  rw [hE] at h2
  unfold PlPost
  rw [hE]
  have hk1 : k1 ≤ 200 := by have h := pl_mono free m k1 c; rw [h3] at h; exact Nat.le_trans h h2
  have MP := Lib.hid (map_subP free m b B vf Tx Ty ux uy (.pointer (some ⟨w.heap.size, 0, none⟩)) (.pointer (some ⟨w.heap.size + 1, 0, none⟩)) a c k k1 k2 fa fc ((w.alloc (.cells #[.pointer (some ⟨b, 0, none⟩)] 180)).alloc (.cells #[.pointer pb] 181)) hB (hn.below (below2 w _ _)) h1 h3 hk1 h2 (pkC_of iha hx hB hp hbl) (pkC_of ihc hy hB hp hbl))
  have HO := Lib.hid (Only.of (b := b) (below2 w (.cells #[.pointer (some ⟨b, 0, none⟩)] 180) (.cells #[.pointer pb] 181)))
  simp only [op2T]
  clear iha ihc hx hy hp hn h1 h3 hE
  go_enter Tryz.func130, Tryz.ntmps130
  go_wp2_with (go_at_call 223; go_must (refine (MP.out).mono ?_; rintro e w2 ⟨⟨v', rfl, hv'⟩, hN, hb2⟩; obtain ⟨S, t, rfl⟩ := hv'.iface))
  go_ret
  exact ⟨⟨_, _, rfl, hv'⟩, hN, HO.out.trans hb2⟩
theorem pn_mul (free : List Nm) (a c : Ex) (iha : PnC free a) (ihc : PnC free c) : PnC free (.two .mul a c) := by
  intro m k v bound vf b B w hv hB hp hn h2
  obtain ⟨pb, rfl⟩ := hp.rn.ptr
  simp only [EV] at hv
  obtain ⟨x, y, rfl, hx, hy⟩ := hv
  obtain ⟨Tx, ux, rfl⟩ := hx.iface
  obtain ⟨Ty, uy, rfl⟩ := hy.iface
  have hbl := hn.lt
  obtain ⟨fa, k1, h1⟩ : ∃ fa k1, plE free m k a = (fa, k1) := ⟨_, _, rfl⟩
  obtain ⟨fc, k2, h3⟩ : ∃ fc k2, plE free m k1 c = (fc, k2) := ⟨_, _, rfl⟩
  have hE : plE free m k (.two .mul a c) = (.two .mul fa fc, k2) := by simp only [plE, h1, h3]
  rw [hE] at h2
  unfold PlPost
  rw [hE]
  have hk1 : k1 ≤ 200 := by have h := pl_mono free m k1 c; rw [h3] at h; exact Nat.le_trans h h2
  have MP := Lib.hid (map_mulP free m b B vf Tx Ty ux uy (.pointer (some ⟨w.heap.size, 0, none⟩)) (.pointer (some ⟨w.heap.size + 1, 0, none⟩)) a c k k1 k2 fa fc ((w.alloc (.cells #[.pointer (some ⟨b, 0, none⟩)] 180)).alloc (.cells #[.pointer pb] 181)) hB (hn.below (below2 w _ _)) h1 h3 hk1 h2 (pkC_of iha hx hB hp hbl) (pkC_of ihc hy hB hp hbl))
  have HO := Lib.hid (Only.of (b := b) (below2 w (.cells #[.pointer (some ⟨b, 0, none⟩)] 180) (.cells #[.pointer pb] 181)))
  simp only [op2T]
  clear iha ihc hx hy hp hn h1 h3 hE
  go_enter Tryz.func130, Tryz.ntmps130
  go_wp2_with (go_at_call 225; go_must (refine (MP.out).mono ?_; rintro e w2 ⟨⟨v', rfl, hv'⟩, hN, hb2⟩; obtain ⟨S, t, rfl⟩ := hv'.iface))
  go_ret
  exact ⟨⟨_, _, rfl, hv'⟩, hN, HO.out.trans hb2⟩
theorem pn_call (free : List Nm) (a c : Ex) (iha : PnC free a) (ihc : PnC free c) : PnC free (.two .call a c) := by
  intro m k v bound vf b B w hv hB hp hn h2
  obtain ⟨pb, rfl⟩ := hp.rn.ptr
  simp only [EV] at hv
  obtain ⟨x, y, rfl, hx, hy⟩ := hv
  obtain ⟨Tx, ux, rfl⟩ := hx.iface
  obtain ⟨Ty, uy, rfl⟩ := hy.iface
  have hbl := hn.lt
  obtain ⟨fa, k1, h1⟩ : ∃ fa k1, plE free m k a = (fa, k1) := ⟨_, _, rfl⟩
  obtain ⟨fc, k2, h3⟩ : ∃ fc k2, plE free m k1 c = (fc, k2) := ⟨_, _, rfl⟩
  have hE : plE free m k (.two .call a c) = (.two .call fa fc, k2) := by simp only [plE, h1, h3]
  rw [hE] at h2
  unfold PlPost
  rw [hE]
  have hk1 : k1 ≤ 200 := by have h := pl_mono free m k1 c; rw [h3] at h; exact Nat.le_trans h h2
  have MP := Lib.hid (map_callP free m b B vf Tx Ty ux uy (.pointer (some ⟨w.heap.size, 0, none⟩)) (.pointer (some ⟨w.heap.size + 1, 0, none⟩)) a c k k1 k2 fa fc ((w.alloc (.cells #[.pointer (some ⟨b, 0, none⟩)] 180)).alloc (.cells #[.pointer pb] 181)) hB (hn.below (below2 w _ _)) h1 h3 hk1 h2 (pkC_of iha hx hB hp hbl) (pkC_of ihc hy hB hp hbl))
  have HO := Lib.hid (Only.of (b := b) (below2 w (.cells #[.pointer (some ⟨b, 0, none⟩)] 180) (.cells #[.pointer pb] 181)))
  simp only [op2T]
  clear iha ihc hx hy hp hn h1 h3 hE
  go_enter Tryz.func130, Tryz.ntmps130
  go_wp2_with (go_at_call 230; go_must (refine (MP.out).mono ?_; rintro e w2 ⟨⟨v', rfl, hv'⟩, hN, hb2⟩; obtain ⟨S, t, rfl⟩ := hv'.iface))
  go_ret
  exact ⟨⟨_, _, rfl, hv'⟩, hN, HO.out.trans hb2⟩
theorem pn_pair (free : List Nm) (a c : Ex) (iha : PnC free a) (ihc : PnC free c) : PnC free (.two .pair a c) := by
  intro m k v bound vf b B w hv hB hp hn h2
  obtain ⟨pb, rfl⟩ := hp.rn.ptr
  simp only [EV] at hv
  obtain ⟨x, y, rfl, hx, hy⟩ := hv
  obtain ⟨Tx, ux, rfl⟩ := hx.iface
  obtain ⟨Ty, uy, rfl⟩ := hy.iface
  have hbl := hn.lt
  obtain ⟨fa, k1, h1⟩ : ∃ fa k1, plE free m k a = (fa, k1) := ⟨_, _, rfl⟩
  obtain ⟨fc, k2, h3⟩ : ∃ fc k2, plE free m k1 c = (fc, k2) := ⟨_, _, rfl⟩
  have hE : plE free m k (.two .pair a c) = (.two .pair fa fc, k2) := by simp only [plE, h1, h3]
  rw [hE] at h2
  unfold PlPost
  rw [hE]
  have hk1 : k1 ≤ 200 := by have h := pl_mono free m k1 c; rw [h3] at h; exact Nat.le_trans h h2
  have MP := Lib.hid (map_pairP free m b B vf Tx Ty ux uy (.pointer (some ⟨w.heap.size, 0, none⟩)) (.pointer (some ⟨w.heap.size + 1, 0, none⟩)) a c k k1 k2 fa fc ((w.alloc (.cells #[.pointer (some ⟨b, 0, none⟩)] 180)).alloc (.cells #[.pointer pb] 181)) hB (hn.below (below2 w _ _)) h1 h3 hk1 h2 (pkC_of iha hx hB hp hbl) (pkC_of ihc hy hB hp hbl))
  have HO := Lib.hid (Only.of (b := b) (below2 w (.cells #[.pointer (some ⟨b, 0, none⟩)] 180) (.cells #[.pointer pb] 181)))
  simp only [op2T]
  clear iha ihc hx hy hp hn h1 h3 hE
  go_enter Tryz.func130, Tryz.ntmps130
  go_wp2_with (go_at_call 232; go_must (refine (MP.out).mono ?_; rintro e w2 ⟨⟨v', rfl, hv'⟩, hN, hb2⟩; obtain ⟨S, t, rfl⟩ := hv'.iface))
  go_ret
  exact ⟨⟨_, _, rfl, hv'⟩, hN, HO.out.trans hb2⟩
theorem pn_cond (free : List Nm) (a c d : Ex) (iha : PnC free a) (ihc : PnC free c) (ihd : PnC free d) : PnC free (.cond a c d) := by
  intro m k v bound vf b B w hv hB hp hn h2
  obtain ⟨pb, rfl⟩ := hp.rn.ptr
  simp only [EV] at hv
  obtain ⟨x, y, z, rfl, hx, hy, hz⟩ := hv
  obtain ⟨Tx, ux, rfl⟩ := hx.iface
  obtain ⟨Ty, uy, rfl⟩ := hy.iface
  obtain ⟨Tz, uz, rfl⟩ := hz.iface
  have hbl := hn.lt
  obtain ⟨fa, k1, h1⟩ : ∃ fa k1, plE free m k a = (fa, k1) := ⟨_, _, rfl⟩
  obtain ⟨fc, k2, h3⟩ : ∃ fc k2, plE free m k1 c = (fc, k2) := ⟨_, _, rfl⟩
  obtain ⟨fd, k3, h4⟩ : ∃ fd k3, plE free m k2 d = (fd, k3) := ⟨_, _, rfl⟩
  have hE : plE free m k (.cond a c d) = (.cond fa fc fd, k3) := by simp only [plE, h1, h3, h4]
  rw [hE] at h2
  unfold PlPost
  rw [hE]
  have hk2 : k2 ≤ 200 := by have h := pl_mono free m k2 d; rw [h4] at h; exact Nat.le_trans h h2
  have hk1 : k1 ≤ 200 := by have h := pl_mono free m k1 c; rw [h3] at h; exact Nat.le_trans h hk2
  have MP := Lib.hid (map_ifP free m b B vf Tx Ty Tz ux uy uz (.pointer (some ⟨w.heap.size, 0, none⟩)) (.pointer (some ⟨w.heap.size + 1, 0, none⟩)) a c d k k1 k2 k3 fa fc fd ((w.alloc (.cells #[.pointer (some ⟨b, 0, none⟩)] 180)).alloc (.cells #[.pointer pb] 181)) hB (hn.below (below2 w _ _)) h1 h3 h4 hk1 hk2 h2 (pkC_of iha hx hB hp hbl) (pkC_of ihc hy hB hp hbl) (pkC_of ihd hz hB hp hbl))
  have HO := Lib.hid (Only.of (b := b) (below2 w (.cells #[.pointer (some ⟨b, 0, none⟩)] 180) (.cells #[.pointer pb] 181)))
  clear iha ihc ihd hx hy hz hp hn h1 h3 h4 hE
  go_enter Tryz.func130, Tryz.ntmps130
  go_wp2_with (go_at_call 228; go_must (refine (MP.out).mono ?_; rintro e w2 ⟨⟨v', rfl, hv'⟩, hN, hb2⟩; obtain ⟨S, t, rfl⟩ := hv'.iface))
  go_ret
  exact ⟨⟨_, _, rfl, hv'⟩, hN, HO.out.trans hb2⟩
end Go.Proofs.YtjncmmnbdabjnaaGreatDoor
