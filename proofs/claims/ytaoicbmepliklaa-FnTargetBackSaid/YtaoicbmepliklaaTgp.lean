/- Target types and back, plain: what is read is what was written. -/
import Derived.Test.YtaoicbmepliklaaTg9
namespace Go.Proofs.Ytaoicbmepliklaa
open Go.RowKit
set_option maxRecDepth 8000
set_option linter.unusedSimpArgs false
set_option linter.unusedVariables false
theorem src_atom (n : Nat) (a : List UInt8) : src (n + 1) (.atom a) = if a = [105] then some (.atom a) else none := by rw [src]
/-- Two types behind a head, if both are there. -/
def two (c : List UInt8) : Option Tr → Option Tr → Option Tr
  | some x, some y => some (tyT c x y)
  | _, _ => none
theorem two_some {c : List UInt8} {a b : Option Tr} {t : Tr} (h : two c a b = some t) : ∃ x y, a = some x ∧ b = some y ∧ t = tyT c x y := by
  cases a with
  | none => cases h
  | some x =>
    cases b with
    | none => cases h
    | some y => exact ⟨x, y, rfl, rfl, by simpa [two] using h.symm⟩
theorem two_none {c : List UInt8} {a b : Option Tr} (h : two c a b = none) : a = none ∨ b = none := by
  cases a with
  | none => exact .inl rfl
  | some x =>
    cases b with
    | none => exact .inr rfl
    | some y => cases h
theorem src_three (n : Nat) (h a b : Tr) : src (n + 1) (.list [h, a, b]) = if atomOf h = [116] then two [42] (src n a) (src n b) else none := by
  rw [src]; rfl
theorem src_pk2 (n : Nat) {ts : List Tr} (h3 : ts.length ≠ 3) {a k b : Tr} (h1 : pkNeeds (.list ts) = some [a, k]) (h2 : pkNeeds k = some [b]) : src (n + 1) (.list ts) = two [62] (src n a) (src n b) := by
  match ts, h3 with
  | [], _ => simp only [src, h1, h2]; rfl
  | [_], _ => simp only [src, h1, h2]; rfl
  | [_, _], _ => simp only [src, h1, h2]; rfl
  | [_, _, _], h3 => exact absurd rfl h3
  | _ :: _ :: _ :: _ :: _, _ => simp only [src, h1, h2]; rfl
theorem src_pk1 (n : Nat) {ts : List Tr} (h3 : ts.length ≠ 3) {a k : Tr} (h1 : pkNeeds (.list ts) = some [a, k]) (h2 : ∀ b, pkNeeds k ≠ some [b]) : src (n + 1) (.list ts) = none := by
  have e : (match pkNeeds k with | some [b] => (match src n a, src n b with | some x, some y => some (tyT [62] x y) | _, _ => none) | _ => (none : Option Tr)) = none := by
    split
    · rename_i b hb; exact absurd hb (h2 b)
    · rfl
  match ts, h3 with
  | [], _ => simp only [src, h1]; try exact e
  | [_], _ => simp only [src, h1]; try exact e
  | [_, _], _ => simp only [src, h1]; try exact e
  | [_, _, _], h3 => exact absurd rfl h3
  | _ :: _ :: _ :: _ :: _, _ => simp only [src, h1]; try exact e
theorem src_pk0 (n : Nat) {ts : List Tr} (h3 : ts.length ≠ 3) (h1 : ∀ a k, pkNeeds (.list ts) ≠ some [a, k]) : src (n + 1) (.list ts) = none := by
  have e : (match pkNeeds (.list ts) with | some [a, k] => (match pkNeeds k with | some [b] => (match src n a, src n b with | some x, some y => some (tyT [62] x y) | _, _ => none) | _ => (none : Option Tr)) | _ => none) = none := by
    split
    · rename_i a k hb; exact absurd hb (h1 a k)
    · rfl
  match ts, h3, e with
  | [], _, e => simp only [src]; try exact e
  | [_], _, e => simp only [src]; try exact e
  | [_, _], _, e => simp only [src]; try exact e
  | [_, _, _], h3, _ => exact absurd rfl h3
  | _ :: _ :: _ :: _ :: _, _, e => simp only [src]; try exact e
theorem atomOf_eq {t : Tr} {a : List UInt8} (h : atomOf t = a) (ha : a ≠ []) : t = .atom a := by
  cases t with
  | atom _ => rw [← h]; rfl
  | list _ => exact absurd h.symm ha
theorem pk_depth (ns : List Tr) : (pk ns).depth = 3 + max 1 (depths ns) ∨ depths ns < (pk ns).depth := by
  right; simp only [pk, Tr.depth, depths]; omega
theorem depth_mem {t : Tr} {ts : List Tr} (h : t ∈ ts) : t.depth < depths ts := by
  obtain ⟨k, hk, rfl⟩ := List.getElem_of_mem h
  have := depth_lt hk
  simpa only [Tr.depth] using this
theorem pk_kid {t : Tr} {ns : List Tr} (h : t ∈ ns) : t.depth < (pk ns).depth := by
  have := depth_mem h
  rcases pk_depth ns with h2 | h2 <;> omega
/-- What a form's shape says of its type. -/
theorem src_view (n : Nat) (f : Tr) : (∃ a, f = .atom a ∧ src (n + 1) f = if a = [105] then some (.atom a) else none) ∨ (∃ a b, f = .list [.atom [116], a, b] ∧ src (n + 1) f = two [42] (src n a) (src n b)) ∨ (∃ a b, f = pk [a, pk [b]] ∧ src (n + 1) f = two [62] (src n a) (src n b)) ∨ (src (n + 1) f = none ∧ (∀ a, f ≠ .atom a) ∧ (∀ a b, f ≠ .list [.atom [116], a, b]) ∧ ∀ a b, f ≠ pk [a, pk [b]]) := by
  match f with
  | .atom a => exact .inl ⟨a, rfl, src_atom n a⟩
  | .list ts =>
    by_cases h3 : ts.length = 3
    · obtain ⟨h, a, b, rfl⟩ := three_of h3
      by_cases ht : atomOf h = [116]
      · have := atomOf_eq ht (by simp)
        subst this
        exact .inr (.inl ⟨a, b, rfl, by rw [src_three, if_pos ht]⟩)
      · refine .inr (.inr (.inr ⟨by rw [src_three, if_neg ht], by simp, ?_, ?_⟩))
        · intro x y hh
          simp only [Tr.list.injEq, List.cons.injEq] at hh
          rw [hh.1] at ht; exact ht rfl
        · intro x y hh; simp [pk] at hh
    · have n1 : ∀ a b, (Tr.list ts) ≠ .list [.atom [116], a, b] := by
        intro a b hh
        simp only [Tr.list.injEq] at hh
        rw [hh] at h3; exact h3 rfl
      by_cases hp : ∃ a k, pkNeeds (.list ts) = some [a, k]
      · obtain ⟨a, k, hp⟩ := hp
        by_cases hk : ∃ b, pkNeeds k = some [b]
        · obtain ⟨b, hk⟩ := hk
          refine .inr (.inr (.inl ⟨a, b, ?_, src_pk2 n h3 hp hk⟩))
          rw [pkNeeds_some hp, pkNeeds_some hk]
        · refine .inr (.inr (.inr ⟨src_pk1 n h3 hp (fun b hb => hk ⟨b, hb⟩), by simp, n1, ?_⟩))
          intro x y hh
          rw [hh, pkNeeds_pk] at hp
          simp only [Option.some.injEq, List.cons.injEq] at hp
          exact hk ⟨y, by rw [← hp.2.1, pkNeeds_pk]⟩
      · refine .inr (.inr (.inr ⟨src_pk0 n h3 (fun a k h => hp ⟨a, k, h⟩), by simp, n1, ?_⟩))
        intro x y hh
        exact hp ⟨x, pk [y], by rw [hh, pkNeeds_pk]⟩
theorem src_iff : ∀ (n : Nat) (f t : Tr), f.depth < n → (src n f = some t ↔ isTy t = true ∧ tOf t = f)
  | 0, _, _, h => by omega
  | n + 1, f, t, hd => by
    constructor
    · intro h
      rcases src_view n f with ⟨a, rfl, he⟩ | ⟨a, b, rfl, he⟩ | ⟨a, b, rfl, he⟩ | ⟨he, -⟩
      · rw [he] at h
        split at h
        · rename_i ha
          simp only [Option.some.injEq] at h
          rw [← h, ha]; exact ⟨by rw [isTy_atom]; rfl, tOf_atom _⟩
        · cases h
      · rw [he] at h
        obtain ⟨x, y, h1, h2, rfl⟩ := two_some h
        have hdd := depths3 (.atom [116]) a b
        obtain ⟨i1, i2⟩ := (src_iff n a x (by omega)).1 h1
        obtain ⟨j1, j2⟩ := (src_iff n b y (by omega)).1 h2
        exact ⟨by rw [isTy_tyT (.inr rfl), i1, j1]; rfl, by rw [tOf_pair, i2, j2]⟩
      · rw [he] at h
        obtain ⟨x, y, h1, h2, rfl⟩ := two_some h
        have d1 := pk_kid (t := a) (ns := [a, pk [b]]) (by simp)
        have d2 := pk_kid (t := pk [b]) (ns := [a, pk [b]]) (by simp)
        have d3 := pk_kid (t := b) (ns := [b]) (by simp)
        obtain ⟨i1, i2⟩ := (src_iff n a x (by omega)).1 h1
        obtain ⟨j1, j2⟩ := (src_iff n b y (by omega)).1 h2
        exact ⟨by rw [isTy_tyT (.inl rfl), i1, j1]; rfl, by rw [tOf_fun, i2, j2]⟩
      · rw [he] at h; cases h
    · rintro ⟨hty, rfl⟩
      rcases isTy_view t hty with rfl | ⟨c, x, y, hc, rfl, hx, hy⟩
      · rw [tOf_atom, src_atom, if_pos rfl]
      · rcases hc with rfl | rfl
        · rw [tOf_fun] at hd ⊢
          have d1 := pk_kid (t := tOf x) (ns := [tOf x, pk [tOf y]]) (by simp)
          have d2 := pk_kid (t := pk [tOf y]) (ns := [tOf x, pk [tOf y]]) (by simp)
          have d3 := pk_kid (t := tOf y) (ns := [tOf y]) (by simp)
          rw [show src (n + 1) (pk [tOf x, pk [tOf y]]) = two [62] (src n (tOf x)) (src n (tOf y)) from src_pk2 n (ts := [.atom [101], tupT [tOf x, pk [tOf y]]]) (by simp) (a := tOf x) (k := pk [tOf y]) (b := tOf y) (pkNeeds_pk _) (pkNeeds_pk _), (src_iff n (tOf x) x (by omega)).2 ⟨hx, rfl⟩, (src_iff n (tOf y) y (by omega)).2 ⟨hy, rfl⟩]
          rfl
        · rw [tOf_pair] at hd ⊢
          have hdd := depths3 (.atom [116]) (tOf x) (tOf y)
          rw [src_three, if_pos (show atomOf (Tr.atom [116]) = [116] from rfl), (src_iff n (tOf x) x (by omega)).2 ⟨hx, rfl⟩, (src_iff n (tOf y) y (by omega)).2 ⟨hy, rfl⟩]
          rfl
theorem tOf_bytes_ge : ∀ t : Tr, isTy t = true → t.bytes ≤ (tOf t).bytes ∧ t.size ≤ (tOf t).size ∧ t.wf
  | t, h => by
    rcases isTy_view t h with rfl | ⟨c, a, b, hc, rfl, ha, hb⟩
    · rw [tOf_atom]; exact ⟨Nat.le_refl _, Nat.le_refl _, (okAt_one (by decide)).1⟩
    · have k1 := (tyT_kids (c := c) (a := a) (b := b)).1
      have k2 := (tyT_kids (c := c) (a := a) (b := b)).2
      obtain ⟨b1, s1, w1⟩ := tOf_bytes_ge a ha
      obtain ⟨b2, s2, w2⟩ := tOf_bytes_ge b hb
      have hb3 : (tyT c a b).bytes = 4 + c.length + a.bytes + b.bytes := by simp only [tyT, Tr.bytes, bytess]; omega
      rw [hb3, tyT_size]
      rcases hc with rfl | rfl
      · rw [tOf_fun, pk_bytes]
        refine ⟨by simp only [bytess, pk_bytes, List.length_cons, List.length_nil]; omega, ?_, ⟨by simp, (okAt_one (by decide)).1, w1, w2, trivial⟩⟩
        simp only [pk, Tr.size, sizes]; omega
      · rw [tOf_pair]
        refine ⟨by simp only [Tr.bytes, bytess, List.length_cons, List.length_nil]; omega, ?_, ⟨by simp, (okAt_one (by decide)).1, w1, w2, trivial⟩⟩
        simp only [Tr.size, sizes]; omega
termination_by t => t.bytes
theorem src_fits {n : Nat} {f t : Tr} (hd : f.depth < n) (h : src n f = some t) : t.wf ∧ t.bytes ≤ f.bytes := by
  obtain ⟨h1, h2⟩ := (src_iff n f t hd).1 h
  have := tOf_bytes_ge t h1
  rw [h2] at this
  exact ⟨this.2.2, this.1⟩
end Go.Proofs.Ytaoicbmepliklaa
