/- The reference model's orders, and its functions that answer numbers and bools. The reference model's answers on types. The reference model's text of a form. The reference model's parts of a form. The reference model's atoms. -/
import Derived.Test.YtfknoigbkleanaaGreatDoorS1y
import Derived.Test.YtfknoigbkleanaaGreatDoorI1y
import Derived.Test.YtfknoigbkleanaaGreatDoorB2
import Derived.Test.YtfknoigbkleanaaGreatDoorB3
import Derived.Test.YtfknoigbkleanaaGreatDoorB1
import Derived.Deep.LoopGhost
namespace Go.Proofs.YtfknoigbkleanaaGreatDoor
open Go.RowKit
set_option maxRecDepth 8000
set_option linter.unusedSimpArgs false
set_option linter.unusedVariables false
set_option maxHeartbeats 400000 in
theorem l1Typed_c (t : Tr) (p : Option Addr) (m c : Nat) (ok : Nat → Prop) (w : World) (hwf : t.wf) (hb : t.bytes ≤ 1000000000) (hv : FV nS w ok t (nS t (.slice p m c))) (hok : ∀ k, ok k → k < w.heap.size) :
    Calls Tryz.prog 66 #[.agg #[.string (bs (atomOf t)), .slice p m c]] w fun e w' => e = .returned (.bool (isTy t && decide (t.size ≤ 16))) ∧ Below w.heap.size w w' := by
  have hs := (size_le t hwf).1
  have C1 : Hid (∀ W, Below w.heap.size w W → Calls Tryz.prog 115 #[.agg #[.string (bs (atomOf t)), .slice p m c]] W fun e w' => e = .returned (.bool (isTy t)) ∧ Below W.heap.size W w') :=
    Lib.hid (fun W hW => l1Type_c (t.depth + 1) t _ ok W (by omega) hwf (hv.below hW hok) (fun j hj => Nat.lt_of_lt_of_le (hok j hj) hW.size))
  have C2 : Hid (∀ W, Below w.heap.size w W → Calls Tryz.prog 97 #[.agg #[.string (bs (atomOf t)), .slice p m c]] W fun e w' => e = .returned (.int .i64 t.size) ∧ Below W.heap.size W w') :=
    Lib.hid (fun W hW => l1Size_c (t.depth + 1) t _ ok W (by omega) hwf hb (hv.below hW hok) (fun j hj => Nat.lt_of_lt_of_le (hok j hj) hW.size))
  clear hv
  cases ht : isTy t with
  | false =>
    rw [ht] at C1
    go_enter Tryz.func66, Tryz.ntmps66
    go_wp2_with (go_at_call 115; go_must (refine (C1.out _ (below1 _ _)).mono ?_; rintro e w1 ⟨rfl, hb1⟩))
    go_ret
    exact ⟨rfl, (below1 w _).trans (hb1.mono (by simp))⟩
  | true =>
    rw [ht] at C1
    go_enter Tryz.func66, Tryz.ntmps66
    go_wp2_with (first | (go_at_call 115; go_must (refine (C1.out _ (below1 _ _)).mono ?_; rintro e w1 ⟨rfl, hb1⟩; have hw1 := (below1 w _).trans (hb1.mono (by simp)); have c1 := below_blk hb1 (by simp) (heap_alloc_new _ _); have d0 := cell_of (j := 0) c1; have d1 := cell_of (j := 1) c1)) | (go_at_call 97; go_must (refine (C2.out _ hw1).mono ?_; rintro e w2 ⟨rfl, hb2⟩)))
    go_ret
    exact ⟨ret_bool (by rw [Bool.eq_iff_iff]; simp; omega), hw1.trans (hb2.mono hw1.size)⟩

end Go.Proofs.YtfknoigbkleanaaGreatDoor
namespace Go.Proofs.YtfknoigbkleanaaGreatDoor
open Go.RowKit
set_option linter.unusedSimpArgs false
set_option linter.unusedVariables false
theorem l1Parse_none {s : ByteArray} (hs : s.size ≤ 1048576) (hp : parse s.data.toList = none) (W : World) : Calls Tryz.prog 65 #[.string s] W fun e w' => (∃ a p n c, e = .returned (.tuple #[.agg #[.string a, .slice p n c], .bool false]) ∧ n ≤ maxLen) ∧ Below W.heap.size W w' :=
  (l1Parse_c s hs W).mono fun e w' ⟨h1, h2⟩ => ⟨by rw [hp] at h1; exact h1, h2⟩
theorem l1Parse_some {s : ByteArray} (hs : s.size ≤ 1048576) {t : Tr} (hp : parse s.data.toList = some t) (W : World) : Calls Tryz.prog 65 #[.string s] W fun e w' => (∃ p n c, e = .returned (.tuple #[.agg #[.string (bs (atomOf t)), .slice p n c], .bool true]) ∧ FV nS w' (fun k => W.heap.size ≤ k ∧ k < w'.heap.size) t (nS t (.slice p n c))) ∧ Below W.heap.size W w' :=
  (l1Parse_c s hs W).mono fun e w' ⟨h1, h2⟩ => ⟨by rw [hp] at h1; exact h1, h2⟩
set_option maxHeartbeats 400000 in
theorem specTypeValid_c (s : ByteArray) (hs : s.size ≤ 1048576) (w : World) :
    Calls Tryz.prog 98 #[.string s] w fun e w' => e = .returned (.bool (readTy s.data.toList).isSome) ∧ Below w.heap.size w w' := by
  cases hp : parse s.data.toList with
  | none =>
    have C := Lib.hid (l1Parse_none hs hp)
    have HR := Lib.hid (readTy_none hp)
    clear hp
    go_enter Tryz.func98, Tryz.ntmps98
    go_wp2_with (go_at_call 65; go_must (refine (C.out _).mono ?_; rintro e w1 ⟨⟨a, p, n, c, rfl, hn⟩, hb1⟩))
    go_ret
    exact ⟨ret_bool (by rw [HR.out]; rfl), hb1.alloc hb1.size _⟩
  | some t =>
    have C := Lib.hid (l1Parse_some hs hp)
    have hg := parse_got hp
    have HR := Lib.hid (readTy_some hp)
    clear hp
    have T : Hid (∀ (W : World) (p : Option Addr) (n c : Nat) (ok : Nat → Prop), FV nS W ok t (nS t (.slice p n c)) → (∀ k, ok k → k < W.heap.size) → Calls Tryz.prog 66 #[.agg #[.string (bs (atomOf t)), .slice p n c]] W fun e w' => e = .returned (.bool (isTy t && decide (t.size ≤ 16))) ∧ Below W.heap.size W w') :=
      Lib.hid (fun W p n c ok h1 h2 => l1Typed_c t p n c ok W hg.1 (by omega) h1 h2)
    go_enter Tryz.func98, Tryz.ntmps98
    go_wp2_with (first | (go_at_call 65; go_must (refine (C.out _).mono ?_; rintro e w1 ⟨⟨p, n, c, rfl, hv⟩, hb1⟩)) | (go_at_call 66; go_must (refine (T.out _ p n c (fun k => w.heap.size ≤ k ∧ k < w1.heap.size) (hv.below (below1 _ _) (fun k hk => hk.2)) (fun k hk => by simp; omega)).mono ?_; rintro e w2 ⟨rfl, hb2⟩)))
    go_ret
    exact ⟨ret_bool (by rw [HR.out]; cases isTy t && decide (t.size ≤ 16) <;> rfl), (hb1.alloc hb1.size _).trans (hb2.mono (by have := hb1.size; simp; omega))⟩
end Go.Proofs.YtfknoigbkleanaaGreatDoor
namespace Go.Proofs.YtfknoigbkleanaaGreatDoor
open Go.RowKit
set_option linter.unusedSimpArgs false
set_option linter.unusedVariables false
theorem texts_snocS : ∀ (ts : List Tr) (t : Tr), texts (ts ++ [t]) = if ts = [] then t.text else texts ts ++ 32 :: t.text
  | [], t => by simp [texts]
  | [a], t => by simp [texts]
  | a :: b :: ts, t => by
    have ih := texts_snocS (b :: ts) t
    simp only [List.cons_append, texts] at ih ⊢
    rw [ih]; simp
theorem wfs_takeS {ts : List Tr} (h : wfs ts) (k : Nat) : wfs (ts.take k) := by
  induction ts generalizing k with
  | nil => simp [wfs]
  | cons a ts ih => cases k with
    | zero => simp [wfs]
    | succ k => exact ⟨h.1, ih h.2 k⟩
/-- What of a list's text has been written ahead of the part with an index. -/
def preS (ts : List Tr) (k : Nat) : List UInt8 := 40 :: texts (ts.take k)
theorem preS_succ (ts : List Tr) (k : Nat) (h : k < ts.length) : preS ts (k + 1) = (if k = 0 then preS ts k else preS ts k ++ [32]) ++ ts[k].text := by
  unfold preS
  rw [take_snoc' _ _ h, texts_snocS]
  by_cases hk : k = 0
  · subst hk; simp [texts]
  · rw [if_neg hk, if_neg (by intro e; rcases List.take_eq_nil_iff.1 e with h1 | h1; exact hk h1; subst h1; simp at h)]; simp
theorem preS_end (ts : List Tr) : preS ts ts.length ++ [41] = (Tr.list ts).text := by
  unfold preS
  rw [List.take_length]; simp [Tr.text]
theorem preS_length (ts : List Tr) (k : Nat) (hw : wfs ts) : (preS ts k).length ≤ bytess ts + 1 := by
  unfold preS
  by_cases h : ts.take k = []
  · rw [h]; simp [texts]
  · have h1 := texts_length (ts.take k) (wfs_takeS hw k) h
    have h2 := bytess_take_le ts k
    simp only [List.length_cons]; omega
set_option maxHeartbeats 1000000 in
theorem l1Text_c (n : Nat) : ∀ (t : Tr) (cs : List Value) (ok : Nat → Prop) (w : World), t.depth < n → t.wf → t.bytes ≤ 100000000000 → FV nS w ok t cs → (∀ k, ok k → k < w.heap.size) →
    Calls Tryz.prog 77 #[.agg cs.toArray] w fun e w' => e = .returned (.string (bs t.text)) ∧ Below w.heap.size w w' := by
  induction n with
  | zero => intro t _ _ _ h; omega
  | succ n ih =>
    intro t cs ok w hd hwf hsz hv hok
    match t, hv with
    | .atom a, hv =>
      simp only [FV] at hv
      subst hv
      have ha := atomne hwf.1
      go_enter Tryz.func77, Tryz.ntmps77
      simp only [nS, atomOf]
      go_wp2_with fail
      go_ret
      exact ⟨rfl, below1 _ _⟩
    | .list ts, hv =>
      simp only [FV] at hv
      obtain ⟨r, off, cap, xs, rfl, h2, h3, h4, h5, h6⟩ := hv
      have ha := emptyne
      have h3' : ts.length ≤ 9223372036854775807 := by have := maxLen_le h4; omega
      have hrlt := hok r h2
      have HW := Lib.hid hwf.2
      have HI := Lib.hid ih
      simp only [Tr.bytes] at hsz
      have HL : Hid (∀ k, (preS ts k).length ≤ bytess ts + 1) := Lib.hid (fun k => preS_length ts k hwf.2)
      clear ih hwf
      go_enter Tryz.func77, Tryz.ntmps77
      simp only [nS, atomOf]
      go_wp2_with fail
      go_loopw [3, 4] (fun m i wr => ∃ k : Nat, k ≤ ts.length ∧ i = .int .i64 k ∧ m = .string (bs (preS ts k)) ∧ Below (w.heap.size + 1) (w.alloc (.cells #[.string (bs []), .slice (some ⟨r, off, none⟩) ts.length cap] 62)) wr) (fun _ i _ => ts.length - (intOf i).toNat)
      case atStart => exact ⟨0, Nat.zero_le _, rfl, by simp [preS, texts, bs], Below.refl _ _⟩
      case round =>
        obtain ⟨k, hk, rfl, rfl, hb⟩ := hrel
        have c0 : wr.cell? ⟨w.heap.size, 1, none⟩ = some (.slice (some ⟨r, off, none⟩) ts.length cap) := by
          rw [hb.cell (p := ⟨w.heap.size, 1, none⟩) (by simp)]; simp
        have hbw : Below w.heap.size w wr := (below1 w _).trans (hb.mono (by omega))
        have hl1 := HL.out k
        have hsz1 := bs_size (preS ts k)
        by_cases hlt : k < ts.length
        · obtain ⟨cs, g1, g2⟩ := FVs.get nS_len h6 h5 k hlt
          obtain ⟨p, pn, pc, rfl⟩ := g1.node
          have e0 : wr.cell? ⟨r, off + k * 2, none⟩ = some (.string (bs (atomOf ts[k]))) := by rw [hbw.cell (by exact hrlt)]; exact g2 0 _ rfl
          have e1 : wr.cell? ⟨r, off + k * 2 + 1, none⟩ = some (.slice p pn pc) := by rw [hbw.cell (by exact hrlt)]; exact g2 1 _ rfl
          have hdk : ts[k].depth < n := by have := depth_lt hlt; omega
          have hbk := bytes_lt hlt
          have hwk := wf_get HW.out hlt
          have htl := text_length _ hwk
          have hsz2 := bs_size ts[k].text
          have HS := Lib.hid (preS_succ ts k hlt)
          have g1' := Lib.hid (g1.below hbw hok)
          have hsz' := hbw.size
          simp only [Tr.bytes] at hbk
          have hbk2 : ts[k].text.length ≤ 100000000000 := by omega
          have hwk := Lib.hid hwk
          have C : Hid (Calls Tryz.prog 77 #[.agg #[.string (bs (atomOf ts[k])), .slice p pn pc]] wr fun e w' => e = .returned (.string (bs ts[k].text)) ∧ Below wr.heap.size wr w') :=
            Lib.hid (HI.out ts[k] (nS ts[k] (.slice p pn pc)) ok _ hdk hwk.out (by omega) g1'.out (fun j hj => Nat.lt_of_lt_of_le (hok j hj) hsz'))
          clear htl hbk
          by_cases hk0 : k = 0
          · subst hk0
            simp only [Nat.zero_mul, Nat.add_zero] at e0 e1
            go_wp2_with (go_at_call 77; go_must (refine C.out.mono ?_; rintro e w' ⟨rfl, hb2⟩))
            go_roundw
            case rel => exact ⟨1, by omega, by go_num, by rw [HS.out, if_pos trivial, bs_append], hb.trans (hb2.mono (by have := hb.size; simp at this; omega))⟩
            case measure => simp [intOf]; omega
          · have hkp : (0 : Int) < k := by omega
            go_wp2_with (go_at_call 77; go_must (refine C.out.mono ?_; rintro e w' ⟨rfl, hb2⟩))
            go_roundw
            case rel => exact ⟨k + 1, by omega, by go_num, by rw [HS.out, if_neg hk0, ← bs_append, ← bs_append]; rfl, hb.trans (hb2.mono (by have := hb.size; simp at this; omega))⟩
            case measure => simp [intOf]; omega
        · have : k = ts.length := by omega
          subst this
          go_wp2_with fail
          go_ret
          exact ⟨by rw [← preS_end, ← bs_append]; rfl, hbw⟩
end Go.Proofs.YtfknoigbkleanaaGreatDoor
namespace Go.Proofs.YtfknoigbkleanaaGreatDoor
open Go.RowKit
set_option linter.unusedSimpArgs false
set_option linter.unusedVariables false
theorem Tryz.infoStr : (Tryz.prog.info? 9).map (fun i => (i.zero, i.size, i.bytes)) = some (some (.string ⟨#[]⟩), 1, 16) := by kernel_rfl
/-- The texts of the parts of a form that is no atom. -/
def partsOf (l : List UInt8) : Option (List (List UInt8)) :=
  match parse l with
  | some (.list ts) => some (ts.map Tr.text)
  | _ => none
/-- A slice of texts of the call's own, and whether there is one. -/
def PartsPost (B : Nat) (r : Option (List (List UInt8))) (e : Ending) (w' : World) : Prop :=
  ∃ v, e = .returned (.tuple #[v, .bool r.isSome]) ∧ w'.ownsRow B 9 1 v (r.getD []).length ((r.getD []).map strV)
theorem parts_take (ts : List Tr) (k : Nat) (h : k < ts.length) : ((ts.take (k + 1)).map (fun t => strV t.text)) = (ts.take k).map (fun t => strV t.text) ++ [.string (bs ts[k].text)] := by
  rw [take_snoc' _ _ h, List.map_append]; rfl
theorem owns_base {w : World} {base B : Nat} {e : TypeId} {size : Nat} {v : Value} {n : Nat} {xs : List Value} (h : w.ownsRow base e size v n xs) (hB : B ≤ base) : w.ownsRow B e size v n xs := by
  refine ⟨h.1, ?_⟩
  rcases h.2 with h2 | ⟨g, cap, cur, hv, hb, hr⟩
  · exact .inl h2
  · exact .inr ⟨g, cap, cur, hv, by omega, hr⟩
theorem made_none {w w1 : World} {o : Obj} (hb1 : Below w.heap.size w w1) : ((w1.alloc o).alloc (.cells #[] 9)).ownsRow w.heap.size 9 1 (.slice (some ⟨w1.heap.size + 1, 0, none⟩) 0 0) 0 [] := by
  have := World.ownsRow_made (w1.alloc o) #[] 0 (base := w.heap.size) (e := 9) (size := 1) (by have := hb1.size; simp; omega) (by decide) rfl
  simpa using this
end Go.Proofs.YtfknoigbkleanaaGreatDoor
namespace Go.Proofs.YtfknoigbkleanaaGreatDoor
open Go.RowKit
set_option linter.unusedSimpArgs false
set_option linter.unusedVariables false
set_option maxHeartbeats 1000000 in
theorem hasS_c (v : Value) (l : List (List UInt8)) (a : List UInt8) (w : World) (h : StrS w v l) :
    Calls Tryz.prog 127 #[v, .string (bs a)] w fun e w' => e = .returned (.bool (decide (a ∈ l))) ∧ w' = w := by
  obtain ⟨p, c, rfl, h1, h2⟩ := h
  by_cases hz : l = []
  · subst hz
    clear h2
    go_enter Tryz.func127, Tryz.ntmps127
    go_wp2_with fail
    refine wp_loop_rounds 1 ?_
    rw [rounds_succ]
    go_wp2_with fail
    go_ret
    exact ⟨ret_bool (by simp), rfl⟩
  · obtain ⟨r, off, rfl, h3⟩ := h2 hz
    obtain ⟨F, hF⟩ : ∃ F, F = decide (a ∈ l) := ⟨_, rfl⟩
    rw [← hF]
    have HF := Lib.hid hF
    clear h2 hF
    go_enter Tryz.func127, Tryz.ntmps127
    go_wp2_with fail
    go_loop [5] (fun i => ∃ k : Nat, k ≤ l.length ∧ i = .int .i64 k ∧ Hid (a ∉ l.take k)) (fun i => l.length - (intOf i).toNat)
    case atStart => exact ⟨0, Nat.zero_le _, rfl, Lib.hid (by simp)⟩
    case round =>
      obtain ⟨k, hk, rfl, hno⟩ := hrel
      by_cases hlt : k < l.length
      · have c1 : w.cell? ⟨r, off + k, none⟩ = some (.string (bs l[k])) := StrS.cell h3 hlt
        have hk0 : (0 : Int) ≤ (k : Int) := by omega
        by_cases hx : l[k] = a
        · have hx2 : ((bs l[k]).toList == (bs a).toList) = true := by rw [bs_toList, bs_toList]; simpa using hx
          have hx3 : (bs l[k]).toList = (bs a).toList := by rw [bs_toList, bs_toList]; exact hx
          have HX := Lib.hid hx
          obtain ⟨s, hs⟩ : ∃ s, s = bs l[k] := ⟨_, rfl⟩
          rw [← hs] at c1 hx2 hx3
          clear hx hs
          go_wp2_with fail
          go_ret
          exact ⟨ret_bool (by rw [HF.out]; symm; rw [decide_eq_true_eq, ← HX.out]; exact List.getElem_mem hlt), rfl⟩
        · have hx2 : ((bs l[k]).toList == (bs a).toList) = false := by rw [bs_toList, bs_toList]; simpa using hx
          have hx3 : ¬ (bs l[k]).toList = (bs a).toList := by rw [bs_toList, bs_toList]; exact hx
          have HX := Lib.hid hx
          obtain ⟨s, hs⟩ : ∃ s, s = bs l[k] := ⟨_, rfl⟩
          rw [← hs] at c1 hx2 hx3
          clear hx hs
          go_wp2_with fail
          exact ⟨⟨k + 1, by omega, by go_num, Lib.hid (by rw [List.take_succ_eq_append_getElem hlt]; simp only [List.mem_append, List.mem_singleton, not_or]; exact ⟨hno.out, fun e => HX.out e.symm⟩)⟩, by simp [intOf]; omega⟩
      · have : k = l.length := by omega
        subst this
        have hn := hno.out
        rw [List.take_length] at hn
        have HN := Lib.hid hn
        clear hn
        go_wp2_with fail
        go_ret
        exact ⟨ret_bool (by rw [HF.out]; simp [HN.out]), rfl⟩
/-- What adding atoms hands back. -/
def AtPost (B N : Nat) (v : Value) (l' : List (List UInt8)) (w : World) (e : Ending) (w' : World) : Prop :=
  ∃ v', e = .returned v' ∧ w'.ownsRow B 9 1 v' l'.length (l'.map strV) ∧ w.grownBy w' v.ownBlock ∧ (v'.ownBlock = v.ownBlock ∨ ∀ q, v'.ownBlock = some q → N ≤ q)
def AtS (n : Nat) : Prop := ∀ (t : Tr) (cs : List Value) (B : Nat) (l : List (List UInt8)) (v : Value) (w : World), t.depth < n → t.wf → l.length + t.size ≤ 1000000 → FV nS w (fun k => k < B) t cs → B ≤ w.heap.size → w.ownsRow B 9 1 v l.length (l.map strV) →
    Calls Tryz.prog 130 #[.agg cs.toArray, v] w fun e w' => AtPost B w.heap.size v (atoms t l) w e w'
theorem owns_strS6 {w : World} {B : Nat} {v : Value} {l : List (List UInt8)} (h : w.ownsRow B 9 1 v l.length (l.map strV)) (hl : l.length ≤ 9223372036854775807) : StrS w v l := by
  rcases h.2 with ⟨rfl, h0⟩ | ⟨g, cap, cur, rfl, hb, hg, h1, h2, h3, h4⟩
  · exact ⟨none, 0, by rw [h0], hl, fun hne => absurd (List.eq_nil_of_length_eq_zero h0) hne⟩
  · exact ⟨_, cap, rfl, hl, fun _ => ⟨g, 0, rfl, owns_row h⟩⟩
theorem gB_alloc {w : World} (o : Obj) (row : Option Nat) : w.grownBy (w.alloc o) row := World.grownBy_alloc w o row
theorem gB_trans6 {a b c : World} {row : Option Nat} (h : a.grownBy b row) (k : b.grownBy c row) : a.grownBy c row :=
  ⟨k.os.trans h.os, k.tape.trans h.tape, k.output.trans h.output, Nat.le_trans h.size k.size, fun i hi hne => (k.block i (Nat.lt_of_lt_of_le hi h.size) hne).trans (h.block i hi hne)⟩
/-- .. where the row's block may be a new one by now. -/
theorem gB_next {a b c : World} {v v' : Value} (h : a.grownBy b v.ownBlock) (hv : v'.ownBlock = v.ownBlock ∨ ∀ q, v'.ownBlock = some q → a.heap.size ≤ q) (k : b.grownBy c v'.ownBlock) : a.grownBy c v.ownBlock :=
  ⟨k.os.trans h.os, k.tape.trans h.tape, k.output.trans h.output, Nat.le_trans h.size k.size, fun i hi hne => (k.block i (Nat.lt_of_lt_of_le hi h.size) (by
    rcases hv with hv | hv
    · rw [hv]; exact hne
    · intro e; have := hv i e.symm; omega)).trans (h.block i hi hne)⟩
theorem addA_yes {l : List (List UInt8)} {a : List UInt8} (h : a ∈ l) : addA l a = l := by rw [addA, if_pos h]
theorem addA_no {l : List (List UInt8)} {a : List UInt8} (h : a ∉ l) : addA l a = l ++ [a] := by rw [addA, if_neg h]
set_option maxHeartbeats 1000000 in
theorem l1Atoms_atom (a : List UInt8) (cs : List Value) (B : Nat) (l : List (List UInt8)) (v : Value) (w : World) (ha : a ≠ []) (hl : l.length ≤ 1000000) (hv : FV nS w (fun k => k < B) (.atom a) cs) (hB : B ≤ w.heap.size) (ho : w.ownsRow B 9 1 v l.length (l.map strV)) :
    Calls Tryz.prog 130 #[.agg cs.toArray, v] w fun e w' => AtPost B w.heap.size v (atoms (.atom a) l) w e w' := by
  simp only [FV] at hv
  subst hv
  have hne := atomne ha
  obtain ⟨p, c, rfl⟩ := owns_slice ho
  obtain ⟨i0, hi0, hz0, hz1, hz2⟩ := info_parts Tryz.infoStr
  have HS := Lib.hid (fun W (hW : W.ownsRow B 9 1 (.slice p l.length c) l.length (l.map strV)) => hasS_c _ l a W (owns_strS6 hW (by omega)))
  by_cases hm : a ∈ l
  · have HR : Hid (atoms (.atom a) l = l) := Lib.hid (by rw [atoms_atom, addA_yes hm])
    have hd : decide (a ∈ l) = true := by simpa using hm
    rw [hd] at HS
    clear hm hd
    simp only [nS, atomOf]
    go_enter Tryz.func130, Tryz.ntmps130
    go_wp2_with (go_at_call 127; go_must (refine (HS.out _ (ho.alloc _)).mono ?_; rintro e w1 ⟨rfl, rfl⟩))
    go_ret
    exact ⟨_, rfl, by rw [HR.out]; exact ho.alloc _, gB_alloc _ _, .inl rfl⟩
  · have HR : Hid (atoms (.atom a) l = l ++ [a]) := Lib.hid (by rw [atoms_atom, addA_no hm])
    have hd : decide (a ∈ l) = false := by simpa using hm
    rw [hd] at HS
    clear hm hd
    simp only [nS, atomOf]
    go_enter Tryz.func130, Tryz.ntmps130
    go_wp2_with (first | (go_at_call 127; go_must (refine (HS.out _ (ho.alloc _)).mono ?_; rintro e w1 ⟨rfl, rfl⟩)) | (at_builtin; go_must (refine wpList_append_one _ rfl _ _ 23 rfl B 9 i0 (.string ⟨#[]⟩) 1 16 Tryz.underlying23 hi0 hz0 hz1 hz2 rfl (by decide) _ _ _ rfl ((ho.alloc _).alloc _) ⟨w.heap.size + 1, 0, none⟩ [.string (bs a)] rfl rfl (news_at (heap_alloc_new2 _ _ _)) (by intro u hu; simp at hu; subst hu; rfl) (by unfold maxLen; omega) (by omega) (by simp; omega) ?_; intro g' c' w5 hown' hgrow hgg)))
    go_ret
    refine ⟨_, rfl, by rw [HR.out]; simpa [strV] using hown', gB_trans6 (gB_trans6 (gB_alloc _ _) (gB_alloc _ _)) hgrow, ?_⟩
    rcases hgg with hgg | hgg
    · exact .inl hgg.symm
    · exact .inr (fun q hq => by simp [Value.ownBlock] at hq; subst hq; rw [hgg]; simp; omega)
set_option maxHeartbeats 2000000 in
theorem l1Atoms_list (n : Nat) (ih : AtS n) (ts : List Tr) (cs : List Value) (B : Nat) (l : List (List UInt8)) (v : Value) (w : World) (hd : (Tr.list ts).depth < n + 1) (hwf : (Tr.list ts).wf) (hl : l.length + (Tr.list ts).size ≤ 1000000) (hv : FV nS w (fun k => k < B) (.list ts) cs) (hB : B ≤ w.heap.size) (ho : w.ownsRow B 9 1 v l.length (l.map strV)) :
    Calls Tryz.prog 130 #[.agg cs.toArray, v] w fun e w' => AtPost B w.heap.size v (atoms (.list ts) l) w e w' := by
  obtain ⟨r, off, cap, xs, rfl, h2, h3, h4, h5, h6⟩ := FV.list_cells hv
  obtain ⟨p, c, rfl⟩ := owns_slice ho
  have hemp := emptyne
  have h3' := maxLen_le h4
  have hlen := length_le_bytess ts
  have HR := Lib.hid (atoms_list ts l)
  have HW := Lib.hid hwf.2
  have HI := Lib.hid ih
  simp only [Tr.size] at hl
  have HL : Hid (∀ k, l.length ≤ (atomss (ts.take k) l).length ∧ (atomss (ts.take k) l).length ≤ l.length + sizes (ts.take k)) := Lib.hid (fun k => atomss_take_len ts l k hwf.2)
  simp only [nS, atomOf]
  clear ih hv hwf
  go_enter Tryz.func130, Tryz.ntmps130
  go_wp2_with fail
  go_loopg [1, 5] ts.length (fun q v1 i wr => ∃ (k : Nat), q + k = ts.length ∧ i = .int .i64 k ∧ wr.heap[w.heap.size]? = some (.cells #[.string (bs []), .slice (some ⟨r, off, none⟩) ts.length cap] 62 (0, 0)) ∧
    Hid (wr.ownsRow B 9 1 v1 (atomss (ts.take k) l).length ((atomss (ts.take k) l).map strV)) ∧ Hid (w.grownBy wr (Value.slice p l.length c).ownBlock) ∧ (v1.ownBlock = (Value.slice p l.length c).ownBlock ∨ ∀ q, v1.ownBlock = some q → w.heap.size + 1 ≤ q))
  case atStart => exact ⟨0, by omega, rfl, heap_alloc_new _ _, Lib.hid (by simpa [atomss] using ho.alloc _), Lib.hid (gB_alloc _ _), .inl rfl⟩
  case round =>
    obtain ⟨k, hq, rfl, hb0, ho1, hg, hvv⟩ := hrel
    obtain ⟨p1, c1, rfl⟩ := owns_slice ho1.out
    have x1 := cell_of (j := 1) hb0
    have hN := lt_of_block hb0
    by_cases hlt : k < ts.length
    · obtain ⟨ds, g1, g2⟩ := FVs.get nS_len h6 h5 k hlt
      obtain ⟨p2, n2, c2, rfl⟩ := g1.node
      have hown0 : ∀ q, (Value.slice p l.length c).ownBlock = some q → B ≤ q := fun q hq => (ho.lt q hq).1
      have hmv : ∀ q, q < B → wr.heap[q]? = w.heap[q]? := fun q hq => hg.out.block q (by omega) (fun e => by have := hown0 q e.symm; omega)
      have e0 : wr.cell? ⟨r, off + k * 2, none⟩ = some (.string (bs (atomOf ts[k]))) := by rw [World.cell?_of_block (w := w) (w' := wr) (a := ⟨r, off + k * 2, none⟩) (hmv r h2)]; exact g2 0 _ rfl
      have e1 : wr.cell? ⟨r, off + k * 2 + 1, none⟩ = some (.slice p2 n2 c2) := by rw [World.cell?_of_block (w := w) (w' := wr) (a := ⟨r, off + k * 2 + 1, none⟩) (hmv r h2)]; exact g2 1 _ rfl
      have hk0 : (0 : Int) ≤ (k : Int) := by omega
      have hdk : ts[k].depth < n := by have := depth_lt hlt; omega
      have hwk := wf_get HW.out hlt
      have hl1 := HL.out k
      have hl2 := HL.out (k + 1)
      have hs1 := sizes_take ts k hlt
      have hs2 := sizes_take_le ts (k + 1)
      have HX := Lib.hid (atomss_take ts l k hlt)
      obtain ⟨L, hL⟩ : ∃ L, L = atomss (ts.take k) l := ⟨_, rfl⟩
      rw [← hL] at ho1 hl1 HX hvv ⊢
      have C := Lib.hid (HI.out ts[k] _ B L _ wr hdk hwk (by omega) (FV.move (fun k hk => hk) (fun k hk => hmv k hk) _ _ g1) (by have := hg.out.size; omega) ho1.out)
      obtain ⟨u, hu⟩ : ∃ u, u = bs (atomOf ts[k]) := ⟨_, rfl⟩
      have HN : Hid (nS ts[k] (.slice p2 n2 c2) = [.string u, .slice p2 n2 c2]) := Lib.hid (by rw [hu]; rfl)
      rw [← hu] at e0
      unfold Hid at C HN
      rw [HN] at C
      have C := Lib.hid C
      clear HN g1 g2 hwk hL hu hs1 hs2 hmv hown0
      go_wp2_with (go_at_call 130; go_must (refine C.out.mono ?_; rintro e w2 ⟨v2, rfl, ho2, hg2, hvv2⟩))
      go_roundg (gk - 1)
      case measure => omega
      case rel =>
        have hgz := hg.out.size
        refine ⟨k + 1, by omega, by go_num, ?_, Lib.hid (by rw [HX.out]; exact ho2), Lib.hid (gB_next hg.out (hvv.imp id (fun h q hq => by have := h q hq; omega)) hg2), ?_⟩
        · rw [hg2.block _ hN (fun e => by
            rcases hvv with h | h
            · have := ho.lt w.heap.size (by rw [← h]; exact e.symm); omega
            · have := h _ e.symm; omega)]
          exact hb0
        · rcases hvv2 with h | h
          · rw [h]; exact hvv
          · exact .inr (fun q hq => by have := h q hq; omega)
    · have : k = ts.length := by omega
      subst this
      have hown := ho1.out
      rw [List.take_length] at hown
      have HO := Lib.hid hown
      have HLn := Lib.hid (show ts.take ts.length = ts from List.take_length)
      go_wp2_with fail
      go_ret
      exact ⟨_, rfl, by rw [HR.out]; have h9 := HO.out; rw [← HLn.out] at h9 ⊢; simpa using h9, hg.out, hvv.imp id (fun h q hq => by have := h q hq; omega)⟩
theorem l1Atoms_all : ∀ n, AtS n
  | 0 => fun t _ _ _ _ _ h => by omega
  | n + 1 => fun t cs B l v w hd hwf hl hv hB ho => by
    match t, hd, hwf, hl, hv with
    | .atom a, hd, hwf, hl, hv => exact l1Atoms_atom a cs B l v w hwf.1 (by omega) hv hB ho
    | .list ts, hd, hwf, hl, hv => exact l1Atoms_list n (l1Atoms_all n) ts cs B l v w hd hwf hl hv hB ho
end Go.Proofs.YtfknoigbkleanaaGreatDoor
