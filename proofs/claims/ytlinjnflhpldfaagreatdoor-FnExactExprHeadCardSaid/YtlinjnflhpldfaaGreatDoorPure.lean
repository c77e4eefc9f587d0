/- The plain mathematics of chapter 1: forms as trees of atoms, read from a list of bytes and written as one. -/
import Derived.WalkKit
namespace Go.Proofs.YtlinjnflhpldfaaGreatDoor
/-- A form: an atom, or parts. -/
inductive Tr where
  | atom (s : List UInt8)
  | list (ts : List Tr)
deriving Inhabited

/-- A text as the model holds it. -/
def bs (l : List UInt8) : ByteArray := ⟨l.toArray⟩

/-- A byte that can stand in an atom. -/
def isAB (b : UInt8) : Bool := (97 ≤ b.toNat && b.toNat ≤ 122) || (48 ≤ b.toNat && b.toNat ≤ 57) || b.toNat == 43 || b.toNat == 45 || b.toNat == 42 || b.toNat == 62

def readAtom (l : List UInt8) : Option (Tr × List UInt8) :=
  if l.takeWhile isAB = [] then none else some (.atom (l.takeWhile isAB), l.dropWhile isAB)

/-- Parts up to the closing parenthesis, by a reader of one part. -/
def items (rd : List UInt8 → Option (Tr × List UInt8)) : Nat → List UInt8 → Option (List Tr × List UInt8)
  | 0, _ => none
  | n + 1, l =>
    match rd l with
    | none => none
    | some (t, r) =>
      match r with
      | [] => none
      | c :: r' => if c = 41 then some ([t], r') else if c = 32 then (items rd n r').map fun p => (t :: p.1, p.2) else none

/-- A form of a depth less than some number, at the head of a list of bytes, and what follows it. -/
def read : Nat → List UInt8 → Option (Tr × List UInt8)
  | 0, _ => none
  | d + 1, l =>
    match l with
    | [] => none
    | c :: r => if c = 40 then (items (read d) (r.length + 1) r).map fun p => (.list p.1, p.2) else readAtom (c :: r)

/-- A whole text. -/
def parse (l : List UInt8) : Option Tr :=
  if 12000 < l.length then none else
  match read 61 l with
  | some (t, []) => some t
  | _ => none

mutual
def Tr.size : Tr → Nat
  | .atom _ => 1
  | .list ts => sizes ts
def sizes : List Tr → Nat
  | [] => 0
  | t :: ts => t.size + sizes ts
end
mutual
def Tr.depth : Tr → Nat
  | .atom _ => 0
  | .list ts => depths ts
/-- 1 more than the greatest depth; 0 of no parts. -/
def depths : List Tr → Nat
  | [] => 0
  | t :: ts => max (1 + t.depth) (depths ts)
end
mutual
def Tr.bytes : Tr → Nat
  | .atom a => a.length
  | .list ts => 1 + bytess ts
def bytess : List Tr → Nat
  | [] => 0
  | t :: ts => 1 + t.bytes + bytess ts
end
mutual
def Tr.text : Tr → List UInt8
  | .atom a => a
  | .list ts => 40 :: texts ts ++ [41]
/-- The texts of parts, with a space between two. -/
def texts : List Tr → List UInt8
  | [] => []
  | [t] => t.text
  | t :: t' :: ts => t.text ++ 32 :: texts (t' :: ts)
end
mutual
/-- An atom in order, or parts that are, at least one. -/
def Tr.wf : Tr → Prop
  | .atom a => a ≠ [] ∧ ∀ b ∈ a, isAB b = true
  | .list ts => ts ≠ [] ∧ wfs ts
def wfs : List Tr → Prop
  | [] => True
  | t :: ts => t.wf ∧ wfs ts
end

theorem read_nil (d : Nat) : read d [] = none := by cases d <;> rfl
theorem read_open (d : Nat) (r : List UInt8) : read (d + 1) (40 :: r) = (items (read d) (r.length + 1) r).map fun p => (.list p.1, p.2) := by simp [read]
theorem read_else (d : Nat) (c : UInt8) (r : List UInt8) (h : c ≠ 40) : read (d + 1) (c :: r) = readAtom (c :: r) := by simp [read, h]

/-- What is known of a form that was read. -/
structure Got (d : Nat) (l : List UInt8) (t : Tr) (r : List UInt8) : Prop where
  wf : t.wf
  text : l = t.text ++ r
  depth : t.depth < d
  stop : ∀ c r', r = c :: r' → (∃ a, t = .atom a) → isAB c = false

theorem readAtom_some {l r : List UInt8} {t : Tr} (h : readAtom l = some (t, r)) : t = .atom (l.takeWhile isAB) ∧ r = l.dropWhile isAB ∧ l.takeWhile isAB ≠ [] := by
  unfold readAtom at h
  split at h
  · simp at h
  · rename_i hne
    simp only [Option.some.injEq, Prod.mk.injEq] at h
    exact ⟨h.1.symm, h.2.symm, hne⟩
theorem mem_takeWhile (p : UInt8 → Bool) : ∀ (l : List UInt8), ∀ b ∈ l.takeWhile p, p b = true
  | [], _, h => by simp at h
  | a :: l, b, h => by
    rw [List.takeWhile_cons] at h
    split at h
    · rename_i ha
      rcases List.mem_cons.1 h with rfl | h
      · exact ha
      · exact mem_takeWhile p l b h
    · simp at h
theorem dropWhile_head (p : UInt8 → Bool) : ∀ (l : List UInt8) (c : UInt8) (r : List UInt8), l.dropWhile p = c :: r → p c = false
  | [], _, _, h => by simp at h
  | a :: l, c, r, h => by
    rw [List.dropWhile_cons] at h
    split at h
    · exact dropWhile_head p l c r h
    · rename_i ha
      simp only [List.cons.injEq] at h
      rw [← h.1]; simpa using ha
theorem readAtom_got {d : Nat} {l r : List UInt8} {t : Tr} (h : readAtom l = some (t, r)) : Got (d + 1) l t r := by
  obtain ⟨rfl, rfl, hne⟩ := readAtom_some h
  exact ⟨⟨hne, mem_takeWhile _ _⟩, by simp [Tr.text, List.takeWhile_append_dropWhile], by simp [Tr.depth], fun c r' hc _ => dropWhile_head _ _ _ _ hc⟩

theorem items_got {d : Nat} {rd : List UInt8 → Option (Tr × List UInt8)} (hrd : ∀ l t r, rd l = some (t, r) → Got d l t r) :
    ∀ (n : Nat) (l : List UInt8) (ts : List Tr) (r : List UInt8), items rd n l = some (ts, r) → ts ≠ [] ∧ wfs ts ∧ l = texts ts ++ 41 :: r ∧ depths ts ≤ d
  | 0, _, _, _, h => by simp [items] at h
  | n + 1, l, ts, r, h => by
    rw [items] at h
    split at h
    · simp at h
    · rename_i t r1 hr
      have g := hrd _ _ _ hr
      split at h
      · simp at h
      · rename_i c r'
        split at h
        · rename_i hc
          subst hc
          simp only [Option.some.injEq, Prod.mk.injEq] at h
          obtain ⟨rfl, rfl⟩ := h
          refine ⟨by simp, by simp [wfs, g.wf], by simp [texts, g.text], ?_⟩
          have := g.depth
          simp only [depths]; omega
        · split at h
          · rename_i hc
            subst hc
            simp only [Option.map_eq_some_iff] at h
            obtain ⟨⟨ts', r''⟩, h1, h2⟩ := h
            simp only [Prod.mk.injEq] at h2
            obtain ⟨rfl, rfl⟩ := h2
            obtain ⟨k1, k2, k3, k4⟩ := items_got hrd n _ _ _ h1
            refine ⟨by simp, by simp [wfs, g.wf, k2], ?_, ?_⟩
            · match ts', k1 with
              | a :: as, _ => rw [g.text, k3]; simp [texts]
            · have := g.depth
              simp only [depths]; omega
          · simp at h

theorem read_got : ∀ (d : Nat) (l : List UInt8) (t : Tr) (r : List UInt8), read d l = some (t, r) → Got d l t r
  | 0, _, _, _, h => by simp [read] at h
  | d + 1, [], _, _, h => by simp [read] at h
  | d + 1, c :: l, t, r, h => by
    by_cases hc : c = 40
    · subst hc
      rw [read_open] at h
      simp only [Option.map_eq_some_iff] at h
      obtain ⟨⟨ts, r'⟩, h1, h2⟩ := h
      simp only [Prod.mk.injEq] at h2
      obtain ⟨rfl, rfl⟩ := h2
      obtain ⟨k1, k2, k3, k4⟩ := items_got (read_got d) _ _ _ _ h1
      exact ⟨⟨k1, k2⟩, by rw [k3]; simp [Tr.text], by simp only [Tr.depth]; omega, fun _ _ _ ⟨a, ha⟩ => by simp at ha⟩
    · rw [read_else _ _ _ hc] at h
      exact readAtom_got h

mutual
theorem text_length : ∀ t : Tr, t.wf → t.text.length = t.bytes
  | .atom a, _ => by simp [Tr.text, Tr.bytes]
  | .list ts, h => by
    have := texts_length ts h.2 h.1
    simp only [Tr.text, Tr.bytes, List.length_append, List.length_cons, List.length_nil]; omega
theorem texts_length : ∀ ts : List Tr, wfs ts → ts ≠ [] → (texts ts).length + 1 = bytess ts
  | [], _, h => absurd rfl h
  | [t], h, _ => by have := text_length t h.1; simp only [texts, bytess]; omega
  | t :: t' :: ts, h, _ => by
    have h1 := text_length t h.1
    have h2 := texts_length (t' :: ts) h.2 (by simp)
    simp only [texts, List.length_append, List.length_cons] at *
    rw [bytess]; omega
end
mutual
theorem size_le : ∀ t : Tr, t.wf → t.size ≤ t.bytes ∧ 1 ≤ t.size
  | .atom a, h => by
    have : a.length ≠ 0 := by have := h.1; simpa using this
    simp only [Tr.size, Tr.bytes]; omega
  | .list ts, h => by
    have h1 := sizes_le ts h.2
    match ts, h with
    | t :: ts, h =>
      have := (size_le t h.2.1).2
      simp only [Tr.size, Tr.bytes, sizes] at *; omega
theorem sizes_le : ∀ ts : List Tr, wfs ts → sizes ts ≤ bytess ts
  | [], _ => by simp [sizes]
  | t :: ts, h => by
    have h1 := (size_le t h.1).1
    have h2 := sizes_le ts h.2
    simp only [sizes, bytess]; omega
end
mutual
theorem depth_le : ∀ t : Tr, t.wf → t.depth ≤ t.bytes
  | .atom a, h => by simp [Tr.depth]
  | .list ts, h => by
    have h1 := depths_le ts h.2
    simp only [Tr.depth, Tr.bytes] at *; omega
theorem depths_le : ∀ ts : List Tr, wfs ts → depths ts ≤ bytess ts
  | [], _ => by simp [depths]
  | t :: ts, h => by
    have h1 := depth_le t h.1
    have h2 := depths_le ts h.2
    simp only [depths, bytess]; omega
end
theorem Got.length {d : Nat} {l r : List UInt8} {t : Tr} (h : Got d l t r) : l.length = t.bytes + r.length := by
  have := congrArg List.length h.text
  rw [List.length_append, text_length t h.wf] at this; exact this
theorem Got.drop {d : Nat} {S r : List UInt8} {i : Nat} {t : Tr} (hi : i ≤ S.length) (h : Got d (S.drop i) t r) : r = S.drop (S.length - r.length) ∧ r.length + t.bytes + i = S.length ∧ 1 ≤ t.bytes := by
  have h1 := h.length
  have h2 := size_le t h.wf
  have h3 : (S.drop i).length = S.length - i := List.length_drop
  have h4 : r = (S.drop i).drop t.text.length := by rw [h.text]; simp
  rw [List.drop_drop, text_length t h.wf] at h4
  refine ⟨?_, by omega, by omega⟩
  have h5 : S.length - r.length = i + t.bytes := by omega
  rw [h5]; exact h4

/-- How far an atom has been read. -/
def Scan (S : List UInt8) (i k : Nat) : Prop := (S.drop i).takeWhile isAB = (S.drop i).take k ++ (S.drop (i + k)).takeWhile isAB ∧ (S.drop i).dropWhile isAB = (S.drop (i + k)).dropWhile isAB ∧ i + k ≤ S.length
theorem Scan.zero (S : List UInt8) (i : Nat) (h : i ≤ S.length) : Scan S i 0 := ⟨by simp, by simp, by omega⟩
theorem Scan.succ {S : List UInt8} {i k : Nat} (h : Scan S i k) (hk : i + k < S.length) (hb : isAB S[i + k] = true) : Scan S i (k + 1) := by
  have e : S.drop (i + k) = S[i + k] :: S.drop (i + k + 1) := List.drop_eq_getElem_cons hk
  refine ⟨?_, ?_, by omega⟩
  · rw [h.1, e, List.takeWhile_cons, if_pos hb, List.take_succ_eq_append_getElem (by simp; omega)]
    simp [Nat.add_assoc]
  · rw [h.2.1, e, List.dropWhile_cons, if_pos hb]; simp [Nat.add_assoc]
theorem Scan.done {S : List UInt8} {i k : Nat} (h : Scan S i k) (hk : ∀ h : i + k < S.length, isAB S[i + k] = false) :
    readAtom (S.drop i) = if k = 0 then none else some (.atom ((S.drop i).take k), S.drop (i + k)) := by
  have e : (S.drop (i + k)).takeWhile isAB = [] ∧ (S.drop (i + k)).dropWhile isAB = S.drop (i + k) := by
    rcases Nat.lt_or_ge (i + k) S.length with hlt | hge
    · rw [List.drop_eq_getElem_cons hlt, List.takeWhile_cons, List.dropWhile_cons, hk hlt]; simp
    · rw [List.drop_eq_nil_of_le hge]; simp
  unfold readAtom
  rw [h.1, h.2.1, e.1, e.2, List.append_nil]
  have := h.2.2
  by_cases hz : k = 0
  · subst hz; simp
  · rw [if_neg hz, if_neg]
    intro hh
    have := congrArg List.length hh
    simp at this; omega
/-- The same by places: from i to p. -/
def Scanp (S : List UInt8) (i p : Nat) : Prop := ∃ j, p = i + j ∧ Scan S i j
theorem Scanp.zero (S : List UInt8) (i : Nat) (h : i ≤ S.length) : Scanp S i i := ⟨0, rfl, Scan.zero S i h⟩
theorem Scanp.le {S : List UInt8} {i p : Nat} (h : Scanp S i p) : i ≤ p ∧ p ≤ S.length := by
  obtain ⟨j, rfl, h⟩ := h
  exact ⟨by omega, h.2.2⟩
theorem Scanp.succ {S : List UInt8} {i p : Nat} (h : Scanp S i p) (hk : p < S.length) (hb : isAB S[p] = true) : Scanp S i (p + 1) := by
  obtain ⟨j, rfl, h⟩ := h
  exact ⟨j + 1, rfl, h.succ hk hb⟩
theorem Scanp.done {S : List UInt8} {i p : Nat} (h : Scanp S i p) (hk : ∀ h : p < S.length, isAB S[p] = false) :
    readAtom (S.drop i) = if p = i then none else some (.atom ((S.drop i).take (p - i)), S.drop p) := by
  obtain ⟨j, rfl, h⟩ := h
  rw [h.done hk]
  by_cases hj : j = 0
  · simp [hj]
  · rw [if_neg hj, if_neg (by omega), Nat.add_sub_cancel_left]
theorem sizes_snoc (ts : List Tr) (t : Tr) : sizes (ts ++ [t]) = sizes ts + t.size := by
  induction ts with
  | nil => simp [sizes]
  | cons a ts ih => simp only [List.cons_append, sizes, ih]; omega
theorem bytess_snoc (ts : List Tr) (t : Tr) : bytess (ts ++ [t]) = bytess ts + (1 + t.bytes) := by
  induction ts with
  | nil => simp [bytess]
  | cons a ts ih => simp only [List.cons_append, bytess, ih]; omega
theorem depths_snoc (ts : List Tr) (t : Tr) : depths (ts ++ [t]) = max (depths ts) (1 + t.depth) := by
  induction ts with
  | nil => simp [depths]
  | cons a ts ih => simp only [List.cons_append, depths, ih]; omega
theorem take_snoc' (ts : List Tr) (k : Nat) (h : k < ts.length) : ts.take (k + 1) = ts.take k ++ [ts[k]] := by
  rw [List.take_succ_eq_append_getElem h]
theorem sizes_take (ts : List Tr) (k : Nat) (h : k < ts.length) : sizes (ts.take (k + 1)) = sizes (ts.take k) + ts[k].size := by rw [take_snoc' _ _ h, sizes_snoc]
theorem bytess_take (ts : List Tr) (k : Nat) (h : k < ts.length) : bytess (ts.take (k + 1)) = bytess (ts.take k) + (1 + ts[k].bytes) := by rw [take_snoc' _ _ h, bytess_snoc]
theorem depths_take (ts : List Tr) (k : Nat) (h : k < ts.length) : depths (ts.take (k + 1)) = max (depths (ts.take k)) (1 + ts[k].depth) := by rw [take_snoc' _ _ h, depths_snoc]
theorem sizes_take_le (ts : List Tr) (k : Nat) : sizes (ts.take k) ≤ sizes ts := by
  induction ts generalizing k with
  | nil => simp [sizes]
  | cons t ts ih => cases k with
    | zero => simp [sizes]
    | succ k => have := ih k; simp only [List.take_succ_cons, sizes]; omega
theorem bytess_take_le (ts : List Tr) (k : Nat) : bytess (ts.take k) ≤ bytess ts := by
  induction ts generalizing k with
  | nil => simp [bytess]
  | cons t ts ih => cases k with
    | zero => simp [bytess]
    | succ k => have := ih k; simp only [List.take_succ_cons, bytess]; omega
theorem depths_take_le (ts : List Tr) (k : Nat) : depths (ts.take k) ≤ depths ts := by
  induction ts generalizing k with
  | nil => simp [depths]
  | cons t ts ih => cases k with
    | zero => simp [depths]
    | succ k => have := ih k; simp only [List.take_succ_cons, depths]; omega
theorem length_le_bytess (ts : List Tr) : ts.length ≤ bytess ts := by
  induction ts with
  | nil => simp [bytess]
  | cons t ts ih => simp only [List.length_cons, bytess]; omega
theorem depth_lt {ts : List Tr} {i : Nat} (hi : i < ts.length) : ts[i].depth < (Tr.list ts).depth := by
  simp only [Tr.depth]
  induction ts generalizing i with
  | nil => simp at hi
  | cons t ts ih =>
    simp only [depths]
    match i, hi with
    | 0, _ => simp only [List.getElem_cons_zero]; omega
    | i + 1, hi => have := ih (i := i) (by simpa using hi); simp only [List.getElem_cons_succ]; omega
theorem wf_get {ts : List Tr} (h : wfs ts) {i : Nat} (hi : i < ts.length) : ts[i].wf := by
  induction ts generalizing i with
  | nil => simp at hi
  | cons t ts ih =>
    simp only [wfs] at h
    match i, hi with
    | 0, _ => exact h.1
    | i + 1, hi => exact ih h.2 (by simpa using hi)
theorem bytes_lt {ts : List Tr} {i : Nat} (hi : i < ts.length) : ts[i].bytes < (Tr.list ts).bytes := by
  have h1 := bytess_take ts i hi
  have h2 := bytess_take_le ts (i + 1)
  simp only [Tr.bytes]; omega
theorem parse_some {l : List UInt8} {t : Tr} (h : parse l = some t) : l.length ≤ 12000 ∧ read 61 l = some (t, []) := by
  unfold parse at h
  split at h
  · cases h
  · rename_i hl
    split at h
    · rename_i t' hr
      simp only [Option.some.injEq] at h
      subst h
      exact ⟨by omega, hr⟩
    · cases h
theorem parse_got {l : List UInt8} {t : Tr} (h : parse l = some t) : t.wf ∧ t.bytes ≤ 12000 ∧ t.depth ≤ 60 ∧ l = t.text := by
  obtain ⟨h1, h2⟩ := parse_some h
  have g := read_got _ _ _ _ h2
  have := g.length
  have hd := g.depth
  have ht := g.text
  rw [List.append_nil] at ht
  simp only [List.length_nil] at this
  exact ⟨g.wf, by omega, by omega, ht⟩
end Go.Proofs.YtlinjnflhpldfaaGreatDoor
