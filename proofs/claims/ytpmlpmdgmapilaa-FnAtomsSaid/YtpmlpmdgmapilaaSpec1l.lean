/- FormReplace of the reference model. -/
import Derived.Test.YtpmlpmdgmapilaaSpec1k
import Derived.Test.YtpmlpmdgmapilaaS1z
import Derived.Test.YtpmlpmdgmapilaaI1y
namespace Go.Proofs.Ytpmlpmdgmapilaa
open Go.RowKit
set_option maxRecDepth 8000
set_option linter.unusedSimpArgs false
set_option linter.unusedVariables false
theorem l1Replace_all : ∀ n, RplS n
  | 0 => fun t _ _ _ _ _ _ h => by omega
  | n + 1 => fun t b a cs cb B w hd hwf ha hsz hv hw hB => by
    match t, hd, hwf, hsz, hv with
    | .atom x, hd, hwf, hsz, hv => exact l1Replace_atom x a b cs cb B w hwf.1 ha hv hw hB
    | .list ts, hd, hwf, hsz, hv => exact l1Replace_list n (l1Replace_all n) ts b a cs cb B w hd hwf ha hsz hv hw hB
theorem l1Parse_any (s : ByteArray) (hs : s.size ≤ 1048576) {b : Bool} (hb : (parse s.data.toList).isSome = b) (W : World) : Calls Try.prog 56 #[.string s] W fun e w' => (∃ u p n c, e = .returned (.tuple #[.agg #[.string u, .slice p n c], .bool b])) ∧ Below W.heap.size W w' :=
  (l1Parse_c s hs W).mono fun e w' ⟨h1, h2⟩ => ⟨by rw [← hb]; exact parsePost_shape h1, h2⟩
set_option maxHeartbeats 400000 in
theorem l1Parse_long (s : ByteArray) (hl : 12000 < s.size) (hs : s.size ≤ 100000000000) (w : World) : Calls Try.prog 56 #[.string s] w fun e w' => e = .returned (.tuple #[.agg #[.string ⟨#[]⟩, .slice none 0 0], .bool false]) ∧ Below w.heap.size w w' := by
  have hd : decide (12000 < (s.size : Int)) = true := by simp; omega
  go_enter Try.func56, Try.ntmps56
  go_wp2_with fail
  exact bodyPost_ret (v := .tuple #[.agg #[.string ⟨#[]⟩, .slice none 0 0], .bool false]) (by simp [results, Try.results56, go_sem]) rfl ⟨rfl, below1 _ _⟩
set_option maxHeartbeats 400000 in
theorem specFormValid_long (s : ByteArray) (hl : 12000 < s.size) (hs : s.size ≤ 100000000000) (w : World) : Calls Try.prog 17 #[.string s] w fun e w' => e = .returned (.bool false) ∧ Below w.heap.size w w' := by
  go_enter Try.func17, Try.ntmps17
  go_wp2_with (go_at_call 56; go_must (refine (l1Parse_long s hl hs _).mono ?_; rintro e w1 ⟨rfl, hb1⟩))
  go_ret
  exact ⟨rfl, hb1.alloc hb1.size _⟩
/-- FormValid at the text of a tree of whatever size. -/
theorem specFormValid_text (t : Tr) (hw : t.wf) (hb : t.bytes ≤ 100000000000) (w : World) : Calls Try.prog 17 #[.string (bs t.text)] w fun e w' => e = .returned (.bool (decide (t.bytes ≤ 12000 ∧ t.depth ≤ 60))) ∧ Below w.heap.size w w' := by
  have hl := text_length t hw
  by_cases h : t.bytes ≤ 12000
  · refine (specFormValid_c (bs t.text) (by rw [bs_size]; omega) w).mono fun e w' ⟨h1, h2⟩ => ⟨?_, h2⟩
    rw [h1, bs_data]
    by_cases hd : t.depth ≤ 60
    · rw [parse_text hw h hd]; simp [h, hd]
    · rw [parse_text_none hw (fun q => hd q.2)]; simp [hd]
  · refine (specFormValid_long (bs t.text) (by rw [bs_size]; omega) (by rw [bs_size]; omega) w).mono fun e w' ⟨h1, h2⟩ => ⟨?_, h2⟩
    rw [h1]; simp [h]
theorem below_alloc' {B : Nat} {w w' : World} (h : Below B w w') (hB : B ≤ w'.heap.size) (o : Obj) : Below B w (w'.alloc o) := h.alloc hB o
theorem three_below {w w1 w2 w3 : World} {a b c : Obj} (h1 : Below w.heap.size w w1) (h2 : Below (w1.alloc a).heap.size (w1.alloc a) w2) (h3 : Below (w2.alloc b).heap.size (w2.alloc b) w3) : Below w.heap.size w (w3.alloc c) ∧ w.heap.size ≤ w1.heap.size ∧ w1.heap.size < w2.heap.size ∧ w2.heap.size < w3.heap.size := by
  have s1 := h1.size
  have s2 := h2.size
  have s3 := h3.size
  simp only [alloc_size] at s2 s3
  exact ⟨(((h1.alloc s1 a).trans (h2.mono (by simp; omega))).alloc (by omega) b).trans (h3.mono (by simp; omega)) |>.alloc (by omega) c, s1, by omega, by omega⟩
set_option maxHeartbeats 1000000 in
theorem specFormReplace_no (s a y : ByteArray) (hs : s.size ≤ 1048576) (ha : a.size ≤ 1048576) (hy : y.size ≤ 1048576) (b1 b2 b3 : Bool) (h1 : (parse s.data.toList).isSome = b1) (h2 : (parse a.data.toList).isSome = b2) (h3 : (parse y.data.toList).isSome = b3) (hb : (b1 && b2 && b3) = false) (w : World) :
    Calls Try.prog 37 #[.string s, .string a, .string y] w fun e w' => e = .returned (.tuple #[.string ⟨#[]⟩, .bool false]) ∧ Below w.heap.size w w' := by
  have C1 := Lib.hid (l1Parse_any s hs h1)
  have C2 := Lib.hid (l1Parse_any a ha h2)
  have C3 := Lib.hid (l1Parse_any y hy h3)
  clear h1 h2 h3
  cases b1 <;> cases b2 <;> cases b3 <;> first
    | (exact absurd hb (by decide))
    | (clear hb
       go_enter Try.func37, Try.ntmps37
       go_wp2_with (go_at_call 56; first | ((with_reducible refine (C1.out _).mono ?_); rintro e w1 ⟨⟨u1, p1, n1, c1, rfl⟩, hb1⟩) | ((with_reducible refine (C2.out _).mono ?_); rintro e w2 ⟨⟨u2, p2, n2, c2, rfl⟩, hb2⟩) | ((with_reducible refine (C3.out _).mono ?_); rintro e w3 ⟨⟨u3, p3, n3, c3, rfl⟩, hb3⟩))
       go_ret2
       exact ⟨rfl, (three_below hb1 hb2 hb3).1⟩)
set_option maxHeartbeats 1000000 in
theorem specFormReplace_list (s a y : ByteArray) (hs : s.size ≤ 1048576) (ha : a.size ≤ 1048576) (hy : y.size ≤ 1048576) (h1 : (parse s.data.toList).isSome = true) {ts : List Tr} (h2 : parse a.data.toList = some (.list ts)) (h3 : (parse y.data.toList).isSome = true) (w : World) :
    Calls Try.prog 37 #[.string s, .string a, .string y] w fun e w' => e = .returned (.tuple #[.string ⟨#[]⟩, .bool false]) ∧ Below w.heap.size w w' := by
  have C1 := Lib.hid (l1Parse_any s hs h1)
  have C2 := Lib.hid (l1Parse_some ha h2)
  have C3 := Lib.hid (l1Parse_any y hy h3)
  have hemp := emptyne
  have hemp2 : (bs []).toList.isEmpty = true := by simp [bs_toList]
  clear h1 h2 h3
  simp only [atomOf] at C2
  go_enter Try.func37, Try.ntmps37
  go_wp2_with (go_at_call 56; first | ((with_reducible refine (C1.out _).mono ?_); rintro e w1 ⟨⟨u1, p1, n1, c1, rfl⟩, hb1⟩) | ((with_reducible refine (C2.out _).mono ?_); rintro e w2 ⟨⟨p2, n2, c2, rfl, hv2⟩, hb2⟩; clear hv2; have x2 := heap_alloc_new w2 (.cells #[.string (bs []), .slice p2 n2 c2] 53)) | ((with_reducible refine (C3.out _).mono ?_); rintro e w3 ⟨⟨u3, p3, n3, c3, rfl⟩, hb3⟩; have x3 := blk_alloc (o' := .cells #[.string u3, .slice p3 n3 c3] 53) (below_blk hb3 (by simp) x2); have z3 := cell_of (j := 0) x3))
  go_ret2
  exact ⟨rfl, (three_below hb1 hb2 hb3).1⟩
set_option maxHeartbeats 1000000 in
theorem specFormReplace_yes (s a y : ByteArray) (hs : s.size ≤ 1048576) (ha : a.size ≤ 1048576) (hy : y.size ≤ 1048576) {t b : Tr} {x : List UInt8} (h1 : parse s.data.toList = some t) (h2 : parse a.data.toList = some (.atom x)) (h3 : parse y.data.toList = some b) (w : World) :
    Calls Try.prog 37 #[.string s, .string a, .string y] w fun e w' => MakePost (if (repl x b t).bytes ≤ 12000 ∧ (repl x b t).depth ≤ 60 then some (repl x b t) else none) e ∧ Below w.heap.size w w' := by
  have C1 := Lib.hid (l1Parse_some hs h1)
  have C2 := Lib.hid (l1Parse_some ha h2)
  have C3 := Lib.hid (l1Parse_some hy h3)
  have g1 := parse_got h1
  have g2 := parse_got h2
  have g3 := parse_got h3
  have hax : a = bs x := bs_ext g2.2.2.2
  have hwf := repl_wf (a := x) g3.1 t g1.1
  have hby := repl_bytes (a := x) (b := b) (m := 12000) g3.2.1 (by omega) t g1.1
  have hby2 : (repl x b t).bytes ≤ 100000000000 := by have := g1.2.1; omega
  have hne := atomne g2.1.1
  have hne2 : (bs x).toList.isEmpty = false := by simpa [bs_toList] using g2.1.1
  have VT : Hid (∀ W, Calls Try.prog 17 #[.string (bs (repl x b t).text)] W fun e w' => e = .returned (.bool (decide ((repl x b t).bytes ≤ 12000 ∧ (repl x b t).depth ≤ 60))) ∧ Below W.heap.size W w') := Lib.hid (fun W => specFormValid_text _ hwf hby2 W)
  have TX : Hid (∀ (W : World) (p : Option Addr) (m c : Nat) (ok : Nat → Prop), FV nS W ok (repl x b t) (nS (repl x b t) (.slice p m c)) → (∀ k, ok k → k < W.heap.size) → Calls Try.prog 60 #[.agg #[.string (bs (atomOf (repl x b t))), .slice p m c]] W fun e w' => e = .returned (.string (bs (repl x b t).text)) ∧ Below W.heap.size W w') :=
    Lib.hid (fun W p m c ok h1 h2 => l1Text_c ((repl x b t).depth + 1) (repl x b t) _ ok W (by omega) hwf hby2 h1 h2)
  have RC : Hid (∀ (W : World) (p q : Option Addr) (m c m' c' : Nat), FV nS W (fun k => k < W.heap.size) t (nS t (.slice p m c)) → FV nS W (fun k => k < W.heap.size) b (nS b (.slice q m' c')) → Calls Try.prog 72 #[.agg #[.string (bs (atomOf t)), .slice p m c], .string (bs x), .agg #[.string (bs (atomOf b)), .slice q m' c']] W fun e w' => (∃ p m c, e = .returned (.agg #[.string (bs (atomOf (repl x b t))), .slice p m c]) ∧ FV nS w' (fun k => k < w'.heap.size) (repl x b t) (nS (repl x b t) (.slice p m c))) ∧ Below W.heap.size W w') :=
    Lib.hid (fun W p q m c m' c' k1 k2 => (l1Replace_all (t.depth + 1) t b x _ _ W.heap.size W (by omega) g1.1 g2.1.1 (by have := g1.2.1; omega) k1 k2 (Nat.le_refl _)).mono fun e w' ⟨⟨p, m, c, e1, e2⟩, e3⟩ => ⟨⟨p, m, c, e1, e2.wide (fun k hk => by have := e3.size; omega)⟩, e3⟩)
  obtain ⟨v, hv⟩ : ∃ v, v = decide ((repl x b t).bytes ≤ 12000 ∧ (repl x b t).depth ≤ 60) := ⟨_, rfl⟩
  rw [← hv] at VT
  obtain ⟨R, hR⟩ : ∃ R, R = if (repl x b t).bytes ≤ 12000 ∧ (repl x b t).depth ≤ 60 then some (repl x b t) else none := ⟨_, rfl⟩
  rw [← hR]
  have HR : Hid (R = if v = true then some (repl x b t) else none) := Lib.hid (by rw [hR, hv]; simp)
  clear hR
  clear hv h1 h2 h3 g1 g2 g3 hwf hby hby2
  subst hax
  simp only [atomOf] at C2
  cases v <;>
    (go_enter Try.func37, Try.ntmps37
     go_wp2_with (first | (go_at_call 56; first | ((with_reducible refine (C1.out _).mono ?_); rintro e w1 ⟨⟨p1, n1, c1, rfl, hv1⟩, hb1⟩; have x1 := heap_alloc_new w1 (.cells #[.string (bs (atomOf t)), .slice p1 n1 c1] 53); have k1 := FV.below (hv1.wide (fun k hk => hk.2)) (below1 w1 (.cells #[.string (bs (atomOf t)), .slice p1 n1 c1] 53)) (fun k hk => hk)) | ((with_reducible refine (C2.out _).mono ?_); rintro e w2 ⟨⟨p2, n2, c2, rfl, hv2⟩, hb2⟩; clear hv2; have x2 := heap_alloc_new w2 (.cells #[.string (bs x), .slice p2 n2 c2] 53); have k2 := (k1.below hb2 (fun k hk => by simp; omega)).below (below1 w2 (.cells #[.string (bs x), .slice p2 n2 c2] 53)) (fun k hk => by have := hb2.size; simp at this; omega); have x1' := blk_alloc (o' := .cells #[.string (bs x), .slice p2 n2 c2] 53) (below_blk hb2 (by simp) x1)) | ((with_reducible refine (C3.out _).mono ?_); rintro e w3 ⟨⟨p3, n3, c3, rfl, hv3⟩, hb3⟩; have HT := Lib.hid (three_below (c := .cells #[.string (bs (atomOf b)), .slice p3 n3 c3] 53) hb1 hb2 hb3); have x3 := blk_alloc (o' := .cells #[.string (bs (atomOf b)), .slice p3 n3 c3] 53) (below_blk hb3 (by simp) x2); have x4 := blk_alloc (o' := .cells #[.string (bs (atomOf b)), .slice p3 n3 c3] 53) (below_blk hb3 (lt_of_block x1') x1'); have z3 := cell_of (j := 0) x3; have z4 := cell_of (j := 0) x4; have z5 := cell_of (j := 1) x4; have k3 := Lib.hid (FV.wide ((k2.below hb3 (fun k hk => by have := hb2.size; simp at this ⊢; omega)).below (below1 w3 (.cells #[.string (bs (atomOf b)), .slice p3 n3 c3] 53)) (fun k hk => by have := hb2.size; have := hb3.size; simp at *; omega)) (ok' := fun k => k < (w3.alloc (.cells #[.string (bs (atomOf b)), .slice p3 n3 c3] 53)).heap.size) (fun k hk => by have := HT.out.2; simp; omega)); have k4 := Lib.hid (FV.wide (hv3.below (below1 w3 (.cells #[.string (bs (atomOf b)), .slice p3 n3 c3] 53)) (fun k hk => hk.2)) (ok' := fun k => k < (w3.alloc (.cells #[.string (bs (atomOf b)), .slice p3 n3 c3] 53)).heap.size) (fun k hk => by simp; omega)); clear hb1 hb2 hb3 hv1 k1 k2 hv3 x1 x2 x1' x3 x4)) | (go_at_call 72; go_must (refine (RC.out _ _ _ _ _ _ _ k3.out k4.out).mono ?_; rintro e w5 ⟨⟨p5, m5, c5, rfl, hv5⟩, hb5⟩)) | (go_at_call 60; go_must (refine (TX.out _ p5 m5 c5 _ hv5 (fun k hk => hk)).mono ?_; rintro e w6 ⟨rfl, hb6⟩)) | (go_at_call 17; go_must (refine (VT.out _).mono ?_; rintro e w7 ⟨rfl, hb7⟩)))
     go_ret2
     exact ⟨by rw [HR.out]; rfl, HT.out.1.trans ((hb5.mono (by have := HT.out.2; simp; omega)).trans ((hb6.mono (by have := HT.out.2; have := hb5.size; simp at this; omega)).trans (hb7.mono (by have := HT.out.2; have := hb5.size; have := hb6.size; simp at *; omega))))⟩)
theorem specFormReplace_c (s a y : ByteArray) (hs : s.size ≤ 1048576) (ha : a.size ≤ 1048576) (hy : y.size ≤ 1048576) (w : World) :
    Calls Try.prog 37 #[.string s, .string a, .string y] w fun e w' => MakePost (replOf s.data.toList a.data.toList y.data.toList) e ∧ Below w.heap.size w w' := by
  cases h1 : parse s.data.toList with
  | none => rw [replOf_1 _ _ h1]; exact specFormReplace_no s a y hs ha hy false _ _ (by rw [h1]; rfl) rfl rfl (by simp) w
  | some t =>
    cases h2 : parse a.data.toList with
    | none => rw [replOf_2 _ _ h2]; exact specFormReplace_no s a y hs ha hy _ false _ rfl (by rw [h2]; rfl) rfl (by simp) w
    | some a' =>
      cases h3 : parse y.data.toList with
      | none => rw [replOf_3 _ _ h3]; exact specFormReplace_no s a y hs ha hy _ _ false rfl rfl (by rw [h3]; rfl) (by simp) w
      | some b =>
        match a', h2 with
        | .list ts, h2 => rw [replOf_4 _ _ h2]; exact specFormReplace_list s a y hs ha hy (by rw [h1]; rfl) h2 (by rw [h3]; rfl) w
        | .atom x, h2 => rw [replOf_some h1 h2 h3]; exact specFormReplace_yes s a y hs ha hy h1 h2 h3 w
end Go.Proofs.Ytpmlpmdgmapilaa
