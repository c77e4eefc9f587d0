/- The reference model's text of a form. -/
import Derived.Test.YtmiapkoiplgfiaaSpec1f
namespace Go.Proofs.Ytmiapkoiplgfiaa
open Go.RowKit
set_option linter.unusedSimpArgs false
set_option linter.unusedVariables false
theorem texts_snocS : ∀ (ts : List Tr) (t : Tr), texts (ts ++ [t]) = if ts = [] then t.text else texts ts ++ 32 :: t.text
  | [], t => by simp [texts]
  | [a], t => by simp [texts]
  | a :: b :: ts, t => by
    have ih := texts_snocS (b :: ts) t
    simp only [List.cons_append, texts] at ih ⊢
    rw [ih]; simp
theorem wfs_takeS {ts : List Tr} (h : wfs ts) (k : Nat) : wfs (ts.take k) := by
  induction ts generalizing k with
  | nil => simp [wfs]
  | cons a ts ih => cases k with
    | zero => simp [wfs]
    | succ k => exact ⟨h.1, ih h.2 k⟩
/-- What of a list's text has been written ahead of the part with an index. -/
def preS (ts : List Tr) (k : Nat) : List UInt8 := 40 :: texts (ts.take k)
theorem preS_succ (ts : List Tr) (k : Nat) (h : k < ts.length) : preS ts (k + 1) = (if k = 0 then preS ts k else preS ts k ++ [32]) ++ ts[k].text := by
  unfold preS
  rw [take_snoc' _ _ h, texts_snocS]
  by_cases hk : k = 0
  · subst hk; simp [texts]
  · rw [if_neg hk, if_neg (by intro e; rcases List.take_eq_nil_iff.1 e with h1 | h1; exact hk h1; subst h1; simp at h)]; simp
theorem preS_end (ts : List Tr) : preS ts ts.length ++ [41] = (Tr.list ts).text := by
  unfold preS
  rw [List.take_length]; simp [Tr.text]
theorem preS_length (ts : List Tr) (k : Nat) (hw : wfs ts) : (preS ts k).length ≤ bytess ts + 1 := by
  unfold preS
  by_cases h : ts.take k = []
  · rw [h]; simp [texts]
  · have h1 := texts_length (ts.take k) (wfs_takeS hw k) h
    have h2 := bytess_take_le ts k
    simp only [List.length_cons]; omega
set_option maxHeartbeats 1000000 in
theorem l1Text_c (n : Nat) : ∀ (t : Tr) (cs : List Value) (ok : Nat → Prop) (w : World), t.depth < n → t.wf → t.bytes ≤ 100000000000 → FV nS w ok t cs → (∀ k, ok k → k < w.heap.size) →
    Calls Try.prog 41 #[.agg cs.toArray] w fun e w' => e = .returned (.string (bs t.text)) ∧ Below w.heap.size w w' := by
  induction n with
  | zero => intro t _ _ _ h; omega
  | succ n ih =>
    intro t cs ok w hd hwf hsz hv hok
    match t, hv with
    | .atom a, hv =>
      simp only [FV] at hv
      subst hv
      have ha := atomne hwf.1
      go_enter Try.func41, Try.ntmps41
      simp only [nS, atomOf]
      go_wp2_with fail
      go_ret
      exact ⟨rfl, below1 _ _⟩
    | .list ts, hv =>
      simp only [FV] at hv
      obtain ⟨r, off, cap, xs, rfl, h2, h3, h4, h5, h6⟩ := hv
      have ha := emptyne
      have h3' : ts.length ≤ 9223372036854775807 := by have := maxLen_le h4; omega
      have hrlt := hok r h2
      have HW := Lib.hid hwf.2
      have HI := Lib.hid ih
      simp only [Tr.bytes] at hsz
      have HL : Hid (∀ k, (preS ts k).length ≤ bytess ts + 1) := Lib.hid (fun k => preS_length ts k hwf.2)
      clear ih hwf
      go_enter Try.func41, Try.ntmps41
      simp only [nS, atomOf]
      go_wp2_with fail
      go_loopw [3, 4] (fun m i wr => ∃ k : Nat, k ≤ ts.length ∧ i = .int .i64 k ∧ m = .string (bs (preS ts k)) ∧ Below (w.heap.size + 1) (w.alloc (.cells #[.string (bs []), .slice (some ⟨r, off, none⟩) ts.length cap] 49)) wr) (fun _ i _ => ts.length - (intOf i).toNat)
      case atStart => exact ⟨0, Nat.zero_le _, rfl, by simp [preS, texts, bs], Below.refl _ _⟩
      case round =>
        obtain ⟨k, hk, rfl, rfl, hb⟩ := hrel
        have c0 : wr.cell? ⟨w.heap.size, 1, none⟩ = some (.slice (some ⟨r, off, none⟩) ts.length cap) := by
          rw [hb.cell (p := ⟨w.heap.size, 1, none⟩) (by simp)]; simp
        have hbw : Below w.heap.size w wr := (below1 w _).trans (hb.mono (by omega))
        have hl1 := HL.out k
        have hsz1 := bs_size (preS ts k)
        by_cases hlt : k < ts.length
        · obtain ⟨cs, g1, g2⟩ := FVs.get nS_len h6 h5 k hlt
          obtain ⟨p, pn, pc, rfl⟩ := g1.node
          have e0 : wr.cell? ⟨r, off + k * 2, none⟩ = some (.string (bs (atomOf ts[k]))) := by rw [hbw.cell (by exact hrlt)]; exact g2 0 _ rfl
          have e1 : wr.cell? ⟨r, off + k * 2 + 1, none⟩ = some (.slice p pn pc) := by rw [hbw.cell (by exact hrlt)]; exact g2 1 _ rfl
          have hdk : ts[k].depth < n := by have := depth_lt hlt; omega
          have hbk := bytes_lt hlt
          have hwk := wf_get HW.out hlt
          have htl := text_length _ hwk
          have hsz2 := bs_size ts[k].text
          have HS := Lib.hid (preS_succ ts k hlt)
          have g1' := Lib.hid (g1.below hbw hok)
          have hsz' := hbw.size
          simp only [Tr.bytes] at hbk
          have hbk2 : ts[k].text.length ≤ 100000000000 := by omega
          have hwk := Lib.hid hwk
          have C : Hid (Calls Try.prog 41 #[.agg #[.string (bs (atomOf ts[k])), .slice p pn pc]] wr fun e w' => e = .returned (.string (bs ts[k].text)) ∧ Below wr.heap.size wr w') :=
            Lib.hid (HI.out ts[k] (nS ts[k] (.slice p pn pc)) ok _ hdk hwk.out (by omega) g1'.out (fun j hj => Nat.lt_of_lt_of_le (hok j hj) hsz'))
          clear htl hbk
          by_cases hk0 : k = 0
          · subst hk0
            simp only [Nat.zero_mul, Nat.add_zero] at e0 e1
            go_wp2_with (go_at_call 41; go_must (refine C.out.mono ?_; rintro e w' ⟨rfl, hb2⟩))
            go_roundw
            case rel => exact ⟨1, by omega, by go_num, by rw [HS.out, if_pos trivial, bs_append], hb.trans (hb2.mono (by have := hb.size; simp at this; omega))⟩
            case measure => simp [intOf]; omega
          · have hkp : (0 : Int) < k := by omega
            go_wp2_with (go_at_call 41; go_must (refine C.out.mono ?_; rintro e w' ⟨rfl, hb2⟩))
            go_roundw
            case rel => exact ⟨k + 1, by omega, by go_num, by rw [HS.out, if_neg hk0, ← bs_append, ← bs_append]; rfl, hb.trans (hb2.mono (by have := hb.size; simp at this; omega))⟩
            case measure => simp [intOf]; omega
        · have : k = ts.length := by omega
          subst this
          go_wp2_with fail
          go_ret
          exact ⟨by rw [← preS_end, ← bs_append]; rfl, hbw⟩
end Go.Proofs.Ytmiapkoiplgfiaa
