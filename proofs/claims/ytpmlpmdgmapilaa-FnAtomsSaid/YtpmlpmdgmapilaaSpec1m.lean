/- FormMake of the reference model. -/
import Derived.Test.YtpmlpmdgmapilaaPure5
import Derived.Test.YtpmlpmdgmapilaaSpec1l
namespace Go.Proofs.Ytpmlpmdgmapilaa
open Go.RowKit
set_option maxRecDepth 8000
set_option linter.unusedSimpArgs false
set_option linter.unusedVariables false
theorem parse_unit : parse [40, 41] = none := by decide +kernel
set_option maxHeartbeats 1000000 in
theorem specFormMake_c (v : Value) (l : List (List UInt8)) (hl : l.length + lens l ≤ 1048576) (w : World) (h : StrS w v l) :
    Calls Try.prog 27 #[v] w fun e w' => MakePost (makeOf l) e ∧ Below w.heap.size w w' := by
  obtain ⟨p, c, rfl, h1, h2⟩ := h
  obtain ⟨R, hR⟩ : ∃ R, R = makeOf l := ⟨_, rfl⟩
  rw [← hR]
  have HR := Lib.hid hR
  have HS := Lib.hid h2
  clear h2 hR
  go_enter Try.func27, Try.ntmps27
  go_wp2_with fail
  go_loopw [4, 5] (fun m i wr => ∃ (k : Nat) (ts : List Tr), k ≤ l.length ∧ i = .int .i64 k ∧ Hid (partsOK (l.take k) = some ts) ∧ m = .string (bs (40 :: texts ts)) ∧ Below w.heap.size w wr) (fun _ i _ => l.length - (intOf i).toNat)
  case atStart => exact ⟨0, [], Nat.zero_le _, rfl, Lib.hid rfl, rfl, Below.refl _ _⟩
  case round =>
    obtain ⟨k, ts, hk, rfl, hp, rfl, hbl⟩ := hrel
    have hg := partsOK_got _ _ hp.out
    have hle := lens_take_le l k
    have htl := texts_len ts hg.1
    have hlk : (l.take k).length = k := by simp; omega
    rw [hlk] at hg
    have hsz0 := bs_size (40 :: texts ts)
    simp only [List.length_cons] at hsz0
    by_cases hlt : k < l.length
    · obtain ⟨r, off, rfl, h3⟩ := HS.out (by intro e; rw [e] at hlt; simp at hlt)
      have hrl : r < w.heap.size := World.block_lt_of_cell? w ⟨r, off + k, none⟩ (StrS.cell h3 hlt)
      have c1 : wr.cell? ⟨r, off + k, none⟩ = some (.string (bs l[k])) := by rw [hbl.cell (by exact hrl)]; exact StrS.cell h3 hlt
      have hlx := length_le_lens l k hlt
      have hsx := bs_size l[k]
      have VC : Hid (∀ W, Calls Try.prog 17 #[.string (bs l[k])] W fun e w' => e = .returned (.bool (parse l[k]).isSome) ∧ Below W.heap.size W w') := Lib.hid (fun W => specFormValid_c (bs l[k]) (by omega) W)
      have hk0 : (0 : Int) ≤ (k : Int) := by omega
      cases hx : parse l[k] with
      | none =>
        rw [hx] at VC
        have HN := Lib.hid (makeOf_none (partsOK_none l k hlt hx))
        clear hx hg htl
        go_wp2_with (go_at_call 17; go_must (refine (VC.out _).mono ?_; rintro e w2 ⟨rfl, hb2⟩))
        go_ret2
        exact ⟨by rw [HR.out, HN.out]; rfl, hbl.trans (hb2.mono hbl.size)⟩
      | some t =>
        rw [hx] at VC
        have HP := Lib.hid (partsOK_step l k hlt ts t hp.out hx)
        have HT := Lib.hid (texts_grow ts t k hg.2.1)
        have gx := parse_got hx
        have HX := Lib.hid gx.2.2.2
        obtain ⟨s, hs⟩ : ∃ s, s = bs l[k] := ⟨_, rfl⟩
        rw [← hs] at VC c1 hsx
        have HSs : Hid (s = bs t.text) := Lib.hid (by rw [hs, ← gx.2.2.2])
        clear hx gx hs
        have hrw : r < wr.heap.size := Nat.lt_of_lt_of_le hrl hbl.size
        by_cases hkz : k = 0
        · subst hkz
          simp only [Nat.add_zero] at c1
          go_wp2_with (go_at_call 17; go_must (refine (VC.out _).mono ?_; rintro e w2 ⟨rfl, hb2⟩; have c2 := (hb2.cell (p := ⟨r, off, none⟩) hrw).trans c1))
          go_roundw
          case rel => exact ⟨1, ts ++ [t], by omega, by go_num, HP, by rw [HT.out, if_pos trivial, HSs.out, bs_append], hbl.trans (hb2.mono hbl.size)⟩
          case measure => simp [intOf]; omega
        · have hkp : (0 : Int) < (k : Int) := by omega
          go_wp2_with (go_at_call 17; go_must (refine (VC.out _).mono ?_; rintro e w2 ⟨rfl, hb2⟩; have c2 := (hb2.cell (p := ⟨r, off + k, none⟩) hrw).trans c1))
          go_roundw
          case rel => exact ⟨k + 1, ts ++ [t], by omega, by go_num, HP, by rw [HT.out, if_neg hkz, HSs.out, ← bs_append, ← bs_append]; rfl, hbl.trans (hb2.mono hbl.size)⟩
          case measure => simp [intOf]; omega
    · have : k = l.length := by omega
      subst this
      have hpo := hp.out
      rw [List.take_length] at hpo
      have HM := Lib.hid (makeOf_some hpo)
      obtain ⟨z, hz⟩ : ∃ z : Bool, ∀ W, Calls Try.prog 17 #[.string (bs (40 :: texts ts) ++ ⟨#[41]⟩)] W fun e w' => (e = .returned (.bool z) ∧ (listOf ts = if z = true then some (.list ts) else none)) ∧ Below W.heap.size W w' := by
        have he : bs (40 :: texts ts) ++ ⟨#[41]⟩ = bs (Tr.list ts).text := by
          rw [show (⟨#[41]⟩ : ByteArray) = bs [41] from rfl, bs_append]; simp [Tr.text]
        rw [he]
        by_cases hne : ts = []
        · subst hne
          refine ⟨false, fun W => (specFormValid_c _ (by rw [bs_size]; simp [Tr.text, texts]) W).mono fun e w' ⟨k1, k2⟩ => ⟨⟨?_, by simp [listOf]⟩, k2⟩⟩
          rw [k1, bs_data]
          have : (Tr.list []).text = [40, 41] := by simp [Tr.text, texts]
          rw [this, parse_unit]; rfl
        · have hw : (Tr.list ts).wf := ⟨hne, hg.1⟩
          refine ⟨decide ((Tr.list ts).bytes ≤ 12000 ∧ (Tr.list ts).depth ≤ 60), fun W => (specFormValid_text (.list ts) hw (by simp only [Tr.bytes]; rw [List.take_length] at hg; omega) W).mono fun e w' ⟨k1, k2⟩ => ⟨⟨k1, ?_⟩, k2⟩⟩
          simp [listOf, hne]
      have HZ := Lib.hid hz
      clear hz hpo hp
      cases z <;>
        (go_wp2_with (go_at_call 17; go_must (refine (HZ.out _).mono ?_; rintro e w2 ⟨⟨rfl, hq⟩, hb2⟩))
         go_ret2
         refine ⟨?_, hbl.trans (hb2.mono hbl.size)⟩
         rw [HR.out, HM.out, hq]
         first
           | rfl
           | (refine makePost_some ?_
              rw [show (⟨#[41]⟩ : ByteArray) = bs [41] from rfl, bs_append]; simp [Tr.text]))
end Go.Proofs.Ytpmlpmdgmapilaa
