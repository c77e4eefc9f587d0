/- The program: the way from binding to binding. -/
import Derived.Test.YtjfjlfhckfoehaaGreatDoorNf4
import Derived.Test.YtjfjlfhckfoehaaGreatDoorNf6
import Derived.Test.YtjfjlfhckfoehaaGreatDoorImpl2v
namespace Go.Proofs.YtjfjlfhckfoehaaGreatDoor
open Go.RowKit
set_option maxRecDepth 8000
set_option linter.unusedSimpArgs false
set_option linter.unusedVariables false
theorem ta_let {y : Ex} {v : Value} {ok : Nat → Prop} {w : World} (hn : notLet y) (hv : EV w ok y v) : ∃ T u, v = .iface T u ∧ ∀ W, (Instr.typeAssert (.iface T u) 48 76 true).run Tryz.prog W = .ok (.tuple #[.agg #[.string ⟨#[]⟩, .nilIface, .nilIface], .bool false]) W := by
  cases y with
  | name s => simp only [EV] at hv; subst hv; exact ⟨_, _, rfl, fun W => by kernel_rfl⟩
  | num n => simp only [EV] at hv; subst hv; exact ⟨_, _, rfl, fun W => by kernel_rfl⟩
  | two o a c =>
    simp only [EV] at hv
    obtain ⟨x, y, rfl, hx, hy⟩ := hv
    cases o <;> exact ⟨_, _, rfl, fun W => by kernel_rfl⟩
  | one o a =>
    simp only [EV] at hv
    obtain ⟨x, rfl, hx⟩ := hv
    cases o <;> exact ⟨_, _, rfl, fun W => by kernel_rfl⟩
  | cond a c d =>
    simp only [EV] at hv
    obtain ⟨x, y, z, rfl, hx, hy, hz⟩ := hv
    exact ⟨_, _, rfl, fun W => by kernel_rfl⟩
  | lete s a b => exact hn.elim
  | func f s A B e =>
    simp only [EV] at hv
    obtain ⟨pa, na, ca, pb, nb, cb, y, rfl, hA, hB, hy⟩ := hv
    exact ⟨_, _, rfl, fun W => by kernel_rfl⟩
structure IpInv (P : List Nm) (Z : Ex) (ok : Nat → Prop) (w1 : World) (q : Nat) (y : Ex) (v : Value) (l : List Nm) (u : Value) (wr : World) : Prop where
  many : manyE y ≤ q
  len : l.length + manyE y ≤ 120
  names : l ++ (pathE y).1 = P
  rest : (pathE y).2 = Z
  good : good y
  okE : exOK y
  wf : (formOf y).wf
  bytes : (formOf y).bytes ≤ 12000
  ev : EV wr ok y v
  own : wr.ownsRow w1.heap.size 9 1 u l.length (l.map strV)
  below : Below w1.heap.size w1 wr
theorem readEx_good {l : List UInt8} {x : Ex} (h : readEx l = some x) : good x := by
  unfold readEx at h
  cases hp : parse l with
  | none => simp [hp] at h
  | some t =>
    simp only [hp] at h
    split at h
    · exact good_of h
    · cases h
set_option maxHeartbeats 4000000 in
theorem implNormalPath_c (s : ByteArray) (hs : s.size ≤ 1048576) (w : World) (hT : Tab w) :
    Calls Tryz.prog 37 #[.string s] w fun e w' => NpPost w.heap.size (pathTx s.data.toList) e w' ∧ Below w.heap.size w w' := by
  cases hn : readNf s.data.toList with
  | none =>
    have C := Lib.hid (readNormal_none hs hn)
    have HR := Lib.hid (pathTx_none hn)
    clear hn hT
    go_enter Tryz.func37, Tryz.ntmps37
    go_wp2_with (go_at_call 76; go_must (refine (C.out _).mono ?_; rintro e w1 ⟨⟨v, rfl⟩, hb1⟩))
    go_ret3
    exact ⟨by rw [HR.out]; exact ⟨_, rfl, rfl, .inl ⟨rfl, rfl⟩⟩, hb1⟩
  | some x =>
    have C := Lib.hid (readNormal_some hs hn)
    have hx1 := (readNf_got hn).1
    have hmany := readEx_many hx1
    obtain ⟨hwf, hby, hokE⟩ := readEx_tree hx1
    have hg := readEx_good hx1
    have HR := Lib.hid (pathTx_some hn)
    obtain ⟨P, hP⟩ : ∃ P, P = (pathE x).1 := ⟨_, rfl⟩
    obtain ⟨Z, hZ⟩ : ∃ Z, Z = (pathE x).2 := ⟨_, rfl⟩
    have HR := Lib.hid (show pathTx s.data.toList = some (P, (formOf Z).text) by rw [HR.out, hP, hZ])
    have HI : Hid (∀ (w1 : World) B v, EV w1 (fun k => B ≤ k ∧ k < w1.heap.size) x v → IpInv P Z (fun k => B ≤ k ∧ k < w1.heap.size) w1 (manyE x) x v [] (.slice none 0 0) w1) := Lib.hid (fun w1 B v hv => ⟨Nat.le_refl _, by simp; omega, by rw [hP]; rfl, hZ.symm, hg, hokE, hwf, hby, hv, ⟨rfl, .inl ⟨rfl, rfl⟩⟩, Below.refl _ _⟩)
    obtain ⟨i0, hi0, hz0, hz1, hz2⟩ := info_parts Tryz.infoStr
    have HT := Lib.hid hT
    generalize hM : manyE x = M at *
    clear hn hx1 hwf hby hokE hg hmany hP hZ hT hM
    go_enter Tryz.func37, Tryz.ntmps37
    go_wp2_with (go_at_call 76; go_must (refine (C.out _).mono ?_; rintro e w1 ⟨⟨v, rfl, hv⟩, hb1⟩; obtain ⟨T, u, rfl⟩ := hv.iface; have HI1 := Lib.hid (HI.out _ _ _ hv); have HT1 := Lib.hid (HT.out.below hb1); clear hv))
    clear HI C HT
    go_loopg [5, 7] M (fun q v u wr => ∃ (y : Ex) (l : List Nm), Hid (IpInv P Z (fun k => w.heap.size ≤ k ∧ k < w1.heap.size) w1 q y v l u wr))
    case atStart => exact ⟨x, [], HI1⟩
    case round =>
      obtain ⟨y, l, hI⟩ := hrel
      clear HI1
      obtain ⟨pv, cv, rfl⟩ := owns_slice hI.out.own
      have HO := Lib.hid hI.out.own
      have hokr : ∀ k, (w.heap.size ≤ k ∧ k < w1.heap.size) → k < wr.heap.size := fun k hk => by have := hI.out.below.size; omega
      have hb0 := hI.out.below
      have hw0 := hb0.size
      have hll : l.length ≤ 1000 := by have := hI.out.len; omega
      by_cases hl : notLet y
      · have hyZ : y = Z := by have h := hI.out.rest; rw [pathE_no hl] at h; exact h
        have hlP : l = P := by have h := hI.out.names; rw [pathE_no hl] at h; simpa using h
        have CT : Hid (∀ (W : World) v, EV wr (fun k => w.heap.size ≤ k ∧ k < w1.heap.size) y v → Below wr.heap.size wr W → Calls Tryz.prog 64 #[v] W fun e w' => e = .returned (.string (bs (formOf Z).text)) ∧ Below W.heap.size W w') := Lib.hid (fun W v hv hW => by
          rw [← hyZ]
          exact exprText_c y v wr.heap.size W hI.out.okE hI.out.wf (by have := hI.out.bytes; omega) (EV.move (fun k hk => hokr k hk) (fun k hk => hW.block k (hokr k hk)) _ _ hv) hW.size ((HT1.out.below hb0).below hW))
        have HlP := Lib.hid hlP
        have HV := Lib.hid hI.out.ev
        obtain ⟨T, u, rfl, hta⟩ := ta_let hl hI.out.ev
        have hta1 := hta wr
        obtain ⟨TX, hTT⟩ : ∃ T, T = bs (formOf Z).text := ⟨_, rfl⟩
        unfold Hid at CT
        rw [← hTT] at CT
        have CT := Lib.hid CT
        have HTT := Lib.hid hTT
        clear hTT
        clear hI hl hlP hyZ hta
        go_wp2_with (go_at_call 64; go_must (refine (CT.out _ _ HV.out (by first | exact Below.refl _ _ | exact below1 _ _)).mono ?_; rintro e w4 ⟨rfl, hb4⟩; have hB4 : Below wr.heap.size wr w4 := by first | exact hb4 | exact (below1 _ _).trans (hb4.mono (by simp))))
        go_ret3
        exact ⟨by rw [HR.out]; exact ⟨_, by rw [HTT.out]; rfl, by rw [← HlP.out]; exact owns_base (owns_below HO.out hB4) hb1.size⟩, hb1.trans ((hb0.trans (hB4.mono hw0)).mono hb1.size)⟩
      · obtain ⟨s, a, b, rfl⟩ : ∃ s a b, y = .lete s a b := by cases y <;> first | exact absurd trivial hl | exact ⟨_, _, _, rfl⟩
        clear hl
        have hv := hI.out.ev
        simp only [EV] at hv
        obtain ⟨va, vb, rfl, hva, hvb⟩ := hv
        obtain ⟨Tx, ux, rfl⟩ := hva.iface
        obtain ⟨Ty, uy, rfl⟩ := hvb.iface
        have HVB := Lib.hid hvb
        obtain ⟨gs, ga, gb⟩ := (good_lete s a b).1 hI.out.good
        have hwf := hI.out.wf
        have hby := hI.out.bytes
        simp only [formOf, Tr.wf, wfs, Tr.bytes, bytess] at hwf hby
        have hmy := hI.out.many
        have hln := hI.out.len
        simp only [manyE] at hmy hln
        have hmp := many_pos a
        have hnames := hI.out.names
        have hrest := hI.out.rest
        simp only [pathE] at hnames hrest
        have hoe := hI.out.okE
        simp only [exOK] at hoe
        have hwb := hwf.2.2.2.2.1
        have hbb : (formOf b).bytes ≤ 12000 := by omega
        have hmb : manyE b ≤ gk - 1 := by omega
        have hlb : (l ++ [s]).length + manyE b ≤ 120 := by simp; omega
        have hgk : 0 < gk := by omega
        have HN := Lib.hid hnames
        have HZ := Lib.hid hrest
        have hoeb := hoe.2.2
        have hsl : (bs s).size ≤ 281474976710656 := by rw [bs_size]; omega
        have CC : Hid (∀ W, Calls Tryz.prog 82 #[.string (bs s)] W fun e w' => e = .returned (.string (bs s)) ∧ Below W.heap.size W w') := Lib.hid (fun W => clone_c (bs s) hsl W)
        clear hI hwf hby hmy hln hva hvb ga gs hnames hrest hoe hsl
        go_wp2_with (first | (go_at_call 82; go_must (refine (CC.out _).mono ?_; rintro e w3 ⟨rfl, hb3⟩; have hB3 : Below wr.heap.size wr w3 := (by first | exact hb3 | exact (below1 _ _).trans (hb3.mono (by simp))); have y3 := cell_of (j := 2) (below_blk hb3 (lt_of_block (heap_alloc_new wr (.cells #[.string (bs s), .iface Tx ux, .iface Ty uy] 76))) (heap_alloc_new wr (.cells #[.string (bs s), .iface Tx ux, .iface Ty uy] 76))); have Y3 := below_blk hb3 (lt_of_block (heap_alloc_new wr (.cells #[.string (bs s), .iface Tx ux, .iface Ty uy] 76))) (heap_alloc_new wr (.cells #[.string (bs s), .iface Tx ux, .iface Ty uy] 76)))) | (at_builtin; go_must (refine wpList_append_str _ rfl _ _ 27 rfl w1.heap.size 9 i0 Tryz.underlying27 hi0 hz0 hz1 hz2 _ l rfl ((owns_below HO.out hB3).alloc _) _ [s] rfl (strS_madeI (l := [s]) (heap_alloc_new _ _) _ (by simp)) (by simp; omega) (by have := hB3.size; simp; omega) ?_; intro v3 w5 ho3 hg3 hv3; have Y5 := blk_grown hg3 (blk_alloc Y3) (fun e => by have := (own_lt HO.out e).2; omega); have d2 := cell_of (j := 2) Y5)))
        go_roundg (gk - 1)
        case measure => omega
        case rel =>
          have hs3 := hB3.size
          have hs5 := hg3.size
          simp at hs5
          have hB5 : Below w1.heap.size w1 w5 := below_grown2 hb0 (hB3.alloc hB3.size _) hg3 (fun q hq => (own_lt HO.out hq).1)
          exact ⟨b, l ++ [s], Lib.hid ⟨hmb, hlb, by rw [← HN.out]; simp, HZ.out, gb, hoeb, hwb, hbb, EV.move (fun k hk => hk) (fun k hk => (hg3.block k (by simp; omega) (fun e => by have := (own_lt HO.out e.symm).1; omega)).trans ((heap_alloc_old _ _ (by omega)).trans (hB3.block k (by omega)))) _ _ HVB.out, ho3, hB5⟩⟩
end Go.Proofs.YtjfjlfhckfoehaaGreatDoor
