/- The program: ExprPlain. -/
import Derived.Test.YtjaaalojcdbcpaaGreatDoorlIp4
import Derived.Test.YtjaaalojcdbcpaaGreatDoorlIp1M
import Derived.Test.YtjaaalojcdbcpaaGreatDoorlSpec2lM
set_option maxHeartbeats 20000000
set_option linter.unusedVariables false
set_option linter.unusedSimpArgs false
namespace Go.Proofs.YtjaaalojcdbcpaaGreatDoor
open Go.RowKit Go.Proofs.Tryz
set_option maxRecDepth 8000
def NmP (s : Nm) : Prop := (Tr.atom s).wf ∧ s.length ≤ 4
theorem digAB (d : Nat) (h : d < 10) : J3 (UInt8.ofNat (48 + d)) = true := by
 have : ∀ d : Nat, d < 10 → J3 (UInt8.ofNat (48 + d)) = true := by decide
 exact this d h
theorem xName_P {i : Nat} (h : i ≤ 200) : NmP (Zd i) := by
 unfold NmP Zd Lib.itoa
 rw [if_neg (by omega)]
 simp only [Int.toNat_natCast]
 by_cases h1 : i < 10
 · rw [dd1 i h1]
   refine ⟨⟨by simp, fun b hb => ?_⟩, by simp⟩
   simp only [List.mem_cons, List.not_mem_nil, or_false] at hb
   rcases hb with rfl | rfl
   · decide
   · exact digAB i h1
 · by_cases h2 : i < 100
   · obtain ⟨d1, d2, e, k1, k2, k3⟩ : ∃ d1 d2, i = d1 * 10 + d2 ∧ 1 ≤ d1 ∧ d1 < 10 ∧ d2 < 10 := ⟨i / 10, i % 10, by omega, by omega, by omega, by omega⟩
     rw [e, dd2 d1 d2 k1 k2 k3]
     refine ⟨⟨by simp, fun b hb => ?_⟩, by simp⟩
     simp only [List.mem_cons, List.not_mem_nil, or_false] at hb
     rcases hb with rfl | rfl | rfl
     · decide
     · exact digAB d1 k2
     · exact digAB d2 k3
   · obtain ⟨d1, d2, d3, e, k1, k2, k3, k4⟩ : ∃ d1 d2 d3, i = (d1 * 10 + d2) * 10 + d3 ∧ 1 ≤ d1 ∧ d1 < 10 ∧ d2 < 10 ∧ d3 < 10 := ⟨i / 100, i / 10 % 10, i % 10, by omega, by omega, by omega, by omega, by omega⟩
     rw [e, dd3 d1 d2 d3 k1 k2 k3 k4]
     refine ⟨⟨by simp, fun b hb => ?_⟩, by simp⟩
     simp only [List.mem_cons, List.not_mem_nil, or_false] at hb
     rcases hb with rfl | rfl | rfl | rfl
     · decide
     · exact digAB d1 k2
     · exact digAB d2 k3
     · exact digAB d3 k4
def MpP (m : List (Nm × Nm)) : Prop := ∀ q ∈ m, NmP q.2
theorem MpP.cons {m : List (Nm × Nm)} (h : MpP m) (x : Nm) {y : Nm} (hy : NmP y) : MpP ((x, y) :: m) := fun q hq => by
 rcases List.mem_cons.1 hq with rfl | hq
 · exact hy
 · exact h q hq
theorem lookR_P {s : Nm} (hs : NmP s) : ∀ {m : List (Nm × Nm)}, MpP m → NmP (J2 m s)
 | [], _ => hs
 | (a, b) :: m, h => by
   simp only [J2]
   split
   · exact h (a, b) (by simp)
   · exact lookR_P hs (fun q hq => h q (by simp [hq]))
def ExP (N : Nat) (x : Ex) : Prop := (Z0 x).wf ∧ Qa x ∧ (Z0 x).bytes ≤ N
theorem Z2d (free : List Nm) : ∀ (x : Ex) (m : List (Nm × Nm)) (k : Nat), MpP m → (Z0 x).wf → Qa x → (plE free m k x).2 ≤ 200 → (Z0 (plE free m k x).1).wf ∧ Qa (plE free m k x).1 ∧ (Z0 (plE free m k x).1).bytes ≤ 4 * (Z0 x).bytes
 | .name s, m, k, hm, hw, ho, h2 => by
   simp only [Z0, Qa] at hw ho
   have h := lookR_P (s := s) ⟨hw, ho⟩ hm
   have h1 : 1 ≤ s.length := by cases s with
    | nil => simp [Tr.wf] at hw
    | cons a l => simp
   simp only [plE, Z0, Qa, Tr.bytes]
   exact ⟨h.1, h.2, by have := h.2; omega⟩
 | .num n, m, k, hm, hw, ho, h2 => by
   simp only [plE]
   exact ⟨hw, ho, by omega⟩
 | .two o a b, m, k, hm, hw, ho, h2 => by
   simp only [Z0, Tr.wf, wfs] at hw
   simp only [Qa] at ho
   simp only [plE] at h2
   have hb := (Ym free b m (plE free m k a).2).1
   obtain ⟨a1, a2, a3⟩ := Z2d free a m k hm hw.2.2.1 ho.1 (by omega)
   obtain ⟨b1, b2, b3⟩ := Z2d free b m _ hm hw.2.2.2.1 ho.2 h2
   simp only [plE, Z0, Tr.wf, wfs, Qa, Tr.bytes, Zi]
   exact ⟨⟨by simp, hw.2.1, a1, b1, trivial⟩, ⟨a2, b2⟩, by omega⟩
 | .one o a, m, k, hm, hw, ho, h2 => by
   simp only [Z0, Tr.wf, wfs] at hw
   simp only [Qa] at ho
   simp only [plE] at h2
   obtain ⟨a1, a2, a3⟩ := Z2d free a m k hm hw.2.2.1 ho h2
   simp only [plE, Z0, Tr.wf, wfs, Qa, Tr.bytes, Zi]
   exact ⟨⟨by simp, hw.2.1, a1, trivial⟩, a2, by omega⟩
 | .cond a b c, m, k, hm, hw, ho, h2 => by
   simp only [Z0, Tr.wf, wfs] at hw
   simp only [Qa] at ho
   simp only [plE] at h2
   have hb := (Ym free b m (plE free m k a).2).1
   have hc := (Ym free c m (plE free m (plE free m k a).2 b).2).1
   obtain ⟨a1, a2, a3⟩ := Z2d free a m k hm hw.2.2.1 ho.1 (by omega)
   obtain ⟨b1, b2, b3⟩ := Z2d free b m (plE free m k a).2 hm hw.2.2.2.1 ho.2.1 (by omega)
   obtain ⟨c1, c2, c3⟩ := Z2d free c m _ hm hw.2.2.2.2.1 ho.2.2 h2
   simp only [plE, Z0, Tr.wf, wfs, Qa, Tr.bytes, Zi]
   exact ⟨⟨by simp, hw.2.1, a1, b1, c1, trivial⟩, ⟨a2, b2, c2⟩, by omega⟩
 | .lete s a b, m, k, hm, hw, ho, h2 => by
   simp only [Z0, Tr.wf, wfs] at hw
   simp only [Qa] at ho
   simp only [plE] at h2
   have ha := (Ym free a m (Zk free k + 1)).1
   have hb := (Ym free b ((s, Zd (Zk free k)) :: m) (plE free m (Zk free k + 1) a).2).1
   have hx := xName_P (i := Zk free k) (by omega)
   obtain ⟨a1, a2, a3⟩ := Z2d free a m (Zk free k + 1) hm hw.2.2.2.1 ho.2.1 (by omega)
   obtain ⟨b1, b2, b3⟩ := Z2d free b _ _ (hm.cons s hx) hw.2.2.2.2.1 ho.2.2 h2
   have hs1 : 1 ≤ s.length := by cases s with
    | nil => simp at hw
    | cons a l => simp
   have hx4 := hx.2
   simp only [plE, Z0, Tr.wf, wfs, Qa, Tr.bytes, Zi]
   exact ⟨⟨by simp, hw.2.1, hx.1, a1, b1, trivial⟩, ⟨hx.2, a2, b2⟩, by omega⟩
 | .func f s A B e, m, k, hm, hw, ho, h2 => by
   simp only [Z0, Tr.wf, wfs] at hw
   simp only [Qa] at ho
   simp only [plE] at h2
   have hj := (Qe free (Zk free k + 1)).1
   have he := (Ym free e ((s, Zd (Zk free (Zk free k + 1))) :: (f, Zd (Zk free k)) :: m) (Zk free (Zk free k + 1) + 1)).1
   have hx := xName_P (i := Zk free k) (by omega)
   have hy := xName_P (i := Zk free (Zk free k + 1)) (by omega)
   obtain ⟨e1, e2, e3⟩ := Z2d free e _ _ ((hm.cons f hx).cons s hy) hw.2.2.2.2.2.2.1 ho.2.2 h2
   have hf1 : 1 ≤ f.length := by cases f with
    | nil => simp at hw
    | cons a l => simp
   have hs1 : 1 ≤ s.length := by cases s with
    | nil => simp at hw
    | cons a l => simp
   have hx4 := hx.2
   have hy4 := hy.2
   simp only [plE, Z0, Tr.wf, wfs, Qa, Tr.bytes, Zi]
   exact ⟨⟨by simp, hw.2.1, hx.1, hy.1, hw.2.2.2.2.1, hw.2.2.2.2.2.1, e1, trivial⟩, ⟨hx.2, hy.2, e2⟩, by omega⟩
def frE (x : Ex) : List Nm := (Ze x).foldl Qj []
def plX (x : Ex) : Ex := (plE (frE x) [] 0 x).1
theorem Z4n {x : Ex} (hs : (Z0 x).size ≤ 120) : (plE (frE x) [] 0 x).2 ≤ 80 := plE_few (by have h := (Vl (Ze x) []).2; simpa [frE] using h) hs
def Z6g (l : List UInt8) : Option Nm := (Zp l).map (fun x => (Z0 (plX x)).text)
theorem Z58 {l : List UInt8} (h : Zp l = none) : Z6g l = none := by simp [Z6g, h]
theorem Z17 {l : List UInt8} {x : Ex} (h : Zp l = some x) : Z6g l = some (Z0 (plX x)).text := by simp [Z6g, h]
theorem EV.wideI {w w' : World} {B C : Nat} {x : Ex} {v : Value} (h : EV w (fun k => k < B) x v) (hb : Below w.heap.size w w') (hB : B ≤ w.heap.size) (hC : B ≤ C) : EV w' (fun k => k < C) x v := EV.move (fun k hk => Nat.lt_of_lt_of_le hk hC) (fun k hk => hb.block k (Nat.lt_of_lt_of_le hk hB)) _ _ h
theorem Z2c (x : Ex) (v : Value) (B : Nat) (w : World) (hv : EV w (fun k => k < B) x v) (hB : B ≤ w.heap.size) (hl : lvs x ≤ 120) (hs : (Z0 x).size ≤ 120) (hT : Tab w) :
 Calls prog 35 #[v] w fun e w' => (∃ S t n, e = .returned (.tuple #[.iface S t, .int .i64 n]) ∧ n ≤ 100 ∧ EV w' (fun k => k < B) (plX x) (.iface S t)) ∧ Below w.heap.size w w' := by
 obtain ⟨T, u, rfl⟩ := hv.iface
 have hfew := Z4n hs
 have CF := H_ (Z61 x (.iface T u) _ w (by omega) hv (fun k hk => by omega))
 have hfl : (frE x).length ≤ 120 := by have h := (Vl (Ze x) []).2; have h2 := Yj x; simp only [List.length_nil] at h; unfold frE; omega
 have CP : Hid (∀ (w1 : World) p c, Below w.heap.size w w1 → w1.ownsRow w.heap.size 9 1 (.slice p (frE x).length c) (frE x).length ((frE x).map Y3) → Calls prog 71 #[.pointer (some ⟨w1.heap.size, 0, none⟩), .iface T u, .pointer none] (w1.alloc (.cells #[.string ⟨#[120]⟩, .slice p (frE x).length c, .int .i64 0, .int .i64 0] 95)) fun e w' => (∃ S t g, e = .returned (.iface S t) ∧ EV w' (fun k => k < B) (plX x) (.iface S t) ∧ g ≤ 100 ∧ w'.cell? ⟨w1.heap.size, 3, none⟩ = some (.int .i64 (g : Nat))) ∧ Below w.heap.size w w') := H_ (fun w1 p c hb1 ho => by
  have hb2 := Z5 w1 (.cells #[.string ⟨#[120]⟩, .slice p (frE x).length c, .int .i64 0, .int .i64 0] 95)
  have hb := hb1.alloc hb1.size (.cells #[.string ⟨#[120]⟩, .slice p (frE x).length c, .int .i64 0, .int .i64 0] 95)
  have hsz := hb1.size
  have hst : Zw w1 (.slice p (frE x).length c) (frE x) := Yh ho (by omega)
  have h := Jd (frE x) x [] 0 (.iface T u) (.pointer none) (.slice p (frE x).length c) w1.heap.size B (w1.alloc (.cells #[.string ⟨#[120]⟩, .slice p (frE x).length c, .int .i64 0, .int .i64 0] 95))
   (hv.wideI hb hB (Nat.le_refl _)) (by omega)
   ⟨hst.move (fun q hq => hb2.block q (ho.lt q hq).2), fun q hq => ⟨by have := (ho.lt q hq).2; omega, by have := (ho.lt q hq).2; simp; omega⟩, rfl, ⟨w, hT, hb, by omega⟩, by omega⟩
   ⟨0, Nat.le_refl _, heap_alloc_new _ _⟩ (by omega)
  refine h.mono fun e w' ⟨⟨S, t, h1, h2⟩, ⟨g, hg, hn⟩, ho2⟩ => ⟨⟨S, t, g, h1, h2, by omega, Z4 hn⟩, Only.fresh hb ho2 (by omega) hb.size⟩)
 unfold frE at CP
 generalize hP : (Ze x).foldl Qj [] = P at *
 clear hv hl hs hT hfew hfl
 go_enter func35, ntmps35
 go_wp2_with (first | (go_at_call 38; go_must (refine (CF.out).mono ?_; rintro e w1 ⟨⟨v1, rfl, ho1⟩, hb1⟩; obtain ⟨p1, c1, rfl⟩ := Zn ho1)) | (go_at_call 71; go_must (refine (CP.out _ _ _ hb1 ho1).mono ?_; rintro e w3 ⟨⟨S, t, g, rfl, hx, hg, hc⟩, hb3⟩)))
 have S0 := H_ (show w3.drew.cell? ⟨w1.heap.size, 3, none⟩ = some (.int .i64 (g : Nat)) from hc)
 first | (go_region_held3 (fun W => W.cell? ⟨w1.heap.size, 3, none⟩ = some (.int .i64 (g : Nat))) (first | exact S0.out | assumption | fail) (fail)) | fail
 all_goals
  go_wp2_with fail
  go_ret2
  exact ⟨⟨S, t, _, rfl, by omega, EV.move (w := w3) (w' := w3.drew) (fun k hk => hk) (fun k hk => rfl) _ _ hx⟩, hb3.drew⟩
def RpPost (r : Option Ex) (e : Ending) (w' : World) : Prop := match r with
 | none => ∃ v, e = .returned (.tuple #[v, .bool false])
 | some x => ∃ S t, e = .returned (.tuple #[.iface S t, .bool true]) ∧ EV w' (fun k => k < w'.heap.size) (plX x) (.iface S t)
theorem readPlain_c (s : ByteArray) (hs : s.size ≤ 1048576) (w : World) (hT : Tab w) :
 Calls prog 32 #[.string s] w fun e w' => RpPost (Zp s.data.toList) e w' ∧ Below w.heap.size w w' := by
 cases hp : Zp s.data.toList with
 | none =>
   have C := H_ (Qq hs hp)
   clear hp hT
   go_enter func32, ntmps32
   go_wp2_with (go_at_call 34; go_must (refine (C.out _).mono ?_; rintro e w1 ⟨⟨v, rfl⟩, hb1⟩))
   go_ret2
   exact ⟨⟨_, rfl⟩, hb1⟩
 | some x =>
   have C := H_ (Qp hs hp)
   have hl := Kn hp
   have hsz : (Z0 x).size ≤ 120 := by
    unfold Zp at hp
    cases hq : Zt s.data.toList with
    | none => simp [hq] at hp
    | some t =>
      simp only [hq] at hp
      split at hp
      · rename_i h; rw [X3 _ _ hp]; exact h
      · cases hp
   have CP : Hid (∀ (w1 : World) (B : Nat) v, Below w.heap.size w w1 → EV w1 (fun k => B ≤ k ∧ k < w1.heap.size) x v → Calls prog 35 #[v] w1 fun e w' => (∃ S t n, e = .returned (.tuple #[.iface S t, .int .i64 n]) ∧ n ≤ 100 ∧ EV w' (fun k => k < w1.heap.size) (plX x) (.iface S t)) ∧ Below w1.heap.size w1 w') := H_ (fun w1 B v hb hv => Z2c x v w1.heap.size w1 (EV.move (fun k hk => hk.2) (fun k hk => rfl) _ _ hv) (Nat.le_refl _) hl hsz (hT.below hb))
   clear hp hl hsz hT
   go_enter func32, ntmps32
   go_wp2_with (first | (go_at_call 34; go_must (refine (C.out _).mono ?_; rintro e w1 ⟨⟨v, rfl, hv⟩, hb1⟩; obtain ⟨T, u, rfl⟩ := hv.iface)) | (go_at_call 35; go_must (refine (CP.out _ _ _ hb1 hv).mono ?_; rintro e w2 ⟨⟨S, t, n, rfl, hn, hx⟩, hb2⟩)))
   go_ret2
   have hd : decide (n ≤ 100) = true := by simpa using hn
   exact ⟨⟨S, t, by first | rfl | (rw [hd]) | simp [hn], EV.move (fun k hk => Nat.lt_of_lt_of_le hk hb2.size) (fun k hk => rfl) _ _ hx⟩, hb1.trans (hb2.mono hb1.size)⟩
theorem Z02 (s : ByteArray) (hs : s.size ≤ 1048576) (w : World) (hT : Tab w) :
 Calls prog 10 #[.string s] w fun e w' => e = .returned (.tuple #[.string (bs ((Z6g s.data.toList).getD [])), .bool (Z6g s.data.toList).isSome]) ∧ Below w.heap.size w w' := by
 have C := H_ (readPlain_c s hs w hT)
 cases hp : Zp s.data.toList with
 | none =>
   rw [hp] at C
   have HR := H_ (Z58 hp)
   clear hp hT
   unfold RpPost at C
   go_enter func10, ntmps10
   go_wp2_with (go_at_call 32; go_must (refine (C.out).mono ?_; rintro e w1 ⟨⟨v, rfl⟩, hb1⟩))
   go_ret2
   exact ⟨by rw [HR.out]; rfl, hb1⟩
 | some x =>
   rw [hp] at C
   have HR := H_ (Z17 hp)
   obtain ⟨hw, hb, ho⟩ := Z0r hp
   have hsz : (Z0 x).size ≤ 120 := by
    unfold Zp at hp
    cases hq : Zt s.data.toList with
    | none => simp [hq] at hp
    | some t =>
      simp only [hq] at hp
      split at hp
      · rename_i h; rw [X3 _ _ hp]; exact h
      · cases hp
   have hP := Z2d (frE x) x [] 0 (fun q hq => by cases hq) hw ho (by have := Z4n hsz; omega)
   have CT : Hid (∀ (w1 : World) v, Below w.heap.size w w1 → EV w1 (fun k => k < w1.heap.size) (plX x) v → Calls prog 33 #[v] w1 fun e w' => e = .returned (.string (bs (Z0 (plX x)).text)) ∧ Below w1.heap.size w1 w') := H_ (fun w1 v hb1 hv => Z81 (plX x) v w1.heap.size w1 hP.2.1 hP.1 (by have h := hP.2.2; show (Z0 (plE (frE x) [] 0 x).1).bytes ≤ _; omega) hv (Nat.le_refl _) (hT.below hb1))
   unfold RpPost at C
   clear hp hT hw hb ho hsz hP
   go_enter func10, ntmps10
   go_wp2_with (first | (go_at_call 32; go_must (refine (C.out).mono ?_; rintro e w1 ⟨⟨S, t, rfl, hx⟩, hb1⟩)) | (go_at_call 33; go_must (refine (CT.out _ _ hb1 hx).mono ?_; rintro e w2 ⟨rfl, hb2⟩)))
   go_ret2
   exact ⟨by rw [HR.out]; rfl, hb1.trans (hb2.mono hb1.size)⟩
end Go.Proofs.YtjaaalojcdbcpaaGreatDoor
