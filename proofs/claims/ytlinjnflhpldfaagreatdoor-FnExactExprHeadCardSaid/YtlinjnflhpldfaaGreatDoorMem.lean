/- How a tree of forms lies in memory: a node's cells, and a row of cells for its parts. -/
import Derived.Test.YtlinjnflhpldfaaGreatDoorPure
import Derived.WalkKit
import Derived.WalkSpells
import Derived.WalkLawsBesides
namespace Go.Proofs.YtlinjnflhpldfaaGreatDoor
open Go.RowKit
set_option maxRecDepth 8000
set_option linter.unusedSimpArgs false
set_option linter.unusedVariables false

theorem ret_bool {a b : Bool} (h : a = b) : Ending.returned (.bool a) = .returned (.bool b) := by rw [h]
theorem ret_int {k : IntKind} {a b : Int} (h : a = b) : Ending.returned (.int k a) = .returned (.int k b) := by rw [h]

/-- The cells from a place on hold these values. -/
def hasRow (w : World) (r off : Nat) (xs : List Value) : Prop := ∀ j v, xs[j]? = some v → w.cell? ⟨r, off + j, none⟩ = some v

mutual
/-- A tree's node, by its cells: 'nd' tells the cells of a node with its slice of parts; 'ok' the blocks in which the parts lie. -/
def FV (nd : Tr → Value → List Value) (w : World) (ok : Nat → Prop) : Tr → List Value → Prop
  | .atom a, cs => cs = nd (.atom a) (.slice none 0 0)
  | .list ts, cs => ∃ r off cap xs, cs = nd (.list ts) (.slice (some ⟨r, off, none⟩) ts.length cap) ∧ ok r ∧ ts.length ≤ cap ∧ cap ≤ maxLen ∧ hasRow w r off xs ∧ FVs nd w ok ts xs
def FVs (nd : Tr → Value → List Value) (w : World) (ok : Nat → Prop) : List Tr → List Value → Prop
  | [], xs => xs = []
  | t :: ts, xs => ∃ a b, xs = a ++ b ∧ FV nd w ok t a ∧ FVs nd w ok ts b
end

theorem hasRow.move {w w' : World} {r off : Nat} {xs : List Value} (h : hasRow w r off xs) (hb : w'.heap[r]? = w.heap[r]?) : hasRow w' r off xs :=
  fun j v hj => (World.cell?_of_block (w := w) (w' := w') (a := ⟨r, off + j, none⟩) hb).trans (h j v hj)

mutual
theorem FV.move {nd : Tr → Value → List Value} {w w' : World} {ok ok' : Nat → Prop} (hk : ∀ k, ok k → ok' k) (hb : ∀ k, ok k → w'.heap[k]? = w.heap[k]?) :
    ∀ (t : Tr) (cs : List Value), FV nd w ok t cs → FV nd w' ok' t cs
  | .atom _, _, h => by simpa only [FV] using h
  | .list ts, cs, h => by
    simp only [FV] at h ⊢
    obtain ⟨r, off, cap, xs, h1, h2, h3, h4, h5, h6⟩ := h
    exact ⟨r, off, cap, xs, h1, hk r h2, h3, h4, h5.move (hb r h2), FVs.move hk hb ts xs h6⟩
theorem FVs.move {nd : Tr → Value → List Value} {w w' : World} {ok ok' : Nat → Prop} (hk : ∀ k, ok k → ok' k) (hb : ∀ k, ok k → w'.heap[k]? = w.heap[k]?) :
    ∀ (ts : List Tr) (xs : List Value), FVs nd w ok ts xs → FVs nd w' ok' ts xs
  | [], _, h => by simpa only [FVs] using h
  | t :: ts, xs, h => by
    simp only [FVs] at h ⊢
    obtain ⟨a, b, h1, h2, h3⟩ := h
    exact ⟨a, b, h1, FV.move hk hb t a h2, FVs.move hk hb ts b h3⟩
end

theorem FV.below {nd : Tr → Value → List Value} {w w' : World} {ok : Nat → Prop} {B : Nat} {t : Tr} {cs : List Value} (h : FV nd w ok t cs) (hb : Below B w w') (hok : ∀ k, ok k → k < B) : FV nd w' ok t cs :=
  FV.move (fun _ h => h) (fun k hk => hb.block k (hok k hk)) t cs h
theorem FVs.below {nd : Tr → Value → List Value} {w w' : World} {ok : Nat → Prop} {B : Nat} {ts : List Tr} {xs : List Value} (h : FVs nd w ok ts xs) (hb : Below B w w') (hok : ∀ k, ok k → k < B) : FVs nd w' ok ts xs :=
  FVs.move (fun _ h => h) (fun k hk => hb.block k (hok k hk)) ts xs h

theorem FV.node {nd : Tr → Value → List Value} {w : World} {ok : Nat → Prop} : ∀ {t : Tr} {cs : List Value}, FV nd w ok t cs → ∃ p n c, cs = nd t (.slice p n c)
  | .atom _, _, h => by simp only [FV] at h; exact ⟨_, _, _, h⟩
  | .list _, _, h => by simp only [FV] at h; obtain ⟨r, off, cap, xs, h1, _⟩ := h; exact ⟨_, _, _, h1⟩

theorem FV.len_le {nd : Tr → Value → List Value} (hinj : ∀ t p q, nd t p = nd t q → p = q) {w : World} {ok : Nat → Prop} : ∀ {t : Tr} {p : Option Addr} {n c : Nat}, FV nd w ok t (nd t (.slice p n c)) → n ≤ maxLen
  | .atom _, _, _, _, h => by
    simp only [FV] at h
    have := hinj _ _ _ h
    simp only [Value.slice.injEq] at this; rw [this.2.1]; exact Nat.zero_le _
  | .list _, _, _, _, h => by
    simp only [FV] at h
    obtain ⟨r, off, cap, xs, h1, h2, h3, h4, _⟩ := h
    have := hinj _ _ _ h1
    simp only [Value.slice.injEq] at this; rw [this.2.1]; exact Nat.le_trans h3 h4
/-- The part with an index, where it lies. -/
theorem FVs.get {nd : Tr → Value → List Value} {k : Nat} (hn : ∀ t p, (nd t p).length = k) {w : World} {ok : Nat → Prop} :
    ∀ {ts : List Tr} {xs : List Value} {r off : Nat}, FVs nd w ok ts xs → hasRow w r off xs → ∀ i (hi : i < ts.length),
      ∃ cs, FV nd w ok ts[i] cs ∧ hasRow w r (off + i * k) cs
  | [], _, _, _, _, _, i, hi => by simp at hi
  | t :: ts, xs, r, off, h, hr, i, hi => by
    simp only [FVs] at h
    obtain ⟨a, b, rfl, h2, h3⟩ := h
    have hla : a.length = k := by obtain ⟨p, n, c, rfl⟩ := h2.node; exact hn _ _
    match i, hi with
    | 0, _ => exact ⟨a, h2, fun j v hj => by
        have := hr j v (by rw [List.getElem?_append_left (List.getElem?_eq_some_iff.1 hj).1]; exact hj)
        simpa using this⟩
    | i + 1, hi =>
      have hb : hasRow w r (off + k) b := fun j v hj => by
        have := hr (k + j) v (by rw [List.getElem?_append_right (by omega)]; rw [hla]; simpa using hj)
        rw [show off + k + j = off + (k + j) from by omega]; exact this
      obtain ⟨cs, c1, c2⟩ := FVs.get hn h3 hb i (by simpa using hi)
      exact ⟨cs, by simpa using c1, by rw [show off + (i + 1) * k = off + k + i * k from by rw [Nat.add_mul]; omega]; exact c2⟩

theorem FVs.length {nd : Tr → Value → List Value} {k : Nat} (hn : ∀ t p, (nd t p).length = k) {w : World} {ok : Nat → Prop} : ∀ {ts : List Tr} {xs : List Value}, FVs nd w ok ts xs → xs.length = ts.length * k
  | [], _, h => by simp only [FVs] at h; subst h; simp
  | t :: ts, xs, h => by
    simp only [FVs] at h
    obtain ⟨a, b, rfl, h2, h3⟩ := h
    have hla : a.length = k := by obtain ⟨p, n, c, rfl⟩ := h2.node; exact hn _ _
    have := FVs.length hn h3
    simp only [List.length_append, List.length_cons, hla, this, Nat.add_mul]; omega

theorem FVs.snoc {nd : Tr → Value → List Value} {w : World} {ok : Nat → Prop} {t : Tr} {cs : List Value} (ht : FV nd w ok t cs) : ∀ {ts : List Tr} {xs : List Value}, FVs nd w ok ts xs → FVs nd w ok (ts ++ [t]) (xs ++ cs)
  | [], xs, h => by simp only [FVs] at h; subst h; simp only [List.nil_append, FVs]; exact ⟨cs, [], by simp, ht, rfl⟩
  | t' :: ts, xs, h => by
    simp only [FVs, List.cons_append] at h ⊢
    obtain ⟨a, b, rfl, h2, h3⟩ := h
    exact ⟨a, b ++ cs, by simp, h2, FVs.snoc ht h3⟩

def atomOf : Tr → List UInt8 | .atom a => a | .list _ => []
/-- A node of the reference model, and of the program. -/
def nS (t : Tr) (p : Value) : List Value := [.string (bs (atomOf t)), p]
def nI (t : Tr) (p : Value) : List Value := [.string (bs (atomOf t)), p, .int .i64 t.bytes, .int .i64 t.size, .int .i64 t.depth]
theorem nS_len (t : Tr) (p : Value) : (nS t p).length = 2 := rfl
theorem nS_inj (t : Tr) (p q : Value) (h : nS t p = nS t q) : p = q := by simpa [nS] using h
theorem nI_inj (t : Tr) (p q : Value) (h : nI t p = nI t q) : p = q := by simpa [nI] using h
theorem nI_len (t : Tr) (p : Value) : (nI t p).length = 5 := rfl

theorem hasRow.at {w : World} {r off : Nat} {xs : List Value} (h : hasRow w r off xs) (j : Nat) {v : Value} (hj : xs[j]? = some v) : w.cell? ⟨r, off + j, none⟩ = some v := h j v hj

theorem bs_toList (l : List UInt8) : (bs l).toList = l := by simp [bs, ByteArray.toList_mk]
theorem bs_data (l : List UInt8) : (bs l).data.toList = l := rfl
theorem bs_size (l : List UInt8) : (bs l).size = l.length := by simp [bs, ByteArray.size]
theorem bs_ext {s : ByteArray} {l : List UInt8} (h : s.data.toList = l) : s = bs l := by subst h; cases s; rfl
theorem bs_inj {a b : List UInt8} (h : bs a = bs b) : a = b := by have := congrArg (fun x : ByteArray => x.data.toList) h; simpa [bs] using this
theorem bs_append (a b : List UInt8) : bs a ++ bs b = bs (a ++ b) := by apply bs_ext; simp [bs]
theorem extract_bs (s : ByteArray) (i j : Nat) : s.extract i j = bs ((s.data.toList.drop i).take (j - i)) := by
  apply bs_ext
  simp [ByteArray.data_extract, List.extract_eq_take_drop]
theorem size_data (s : ByteArray) : s.data.toList.length = s.size := rfl
theorem below1 (w : World) (a : Obj) : Below w.heap.size w (w.alloc a) := (Below.refl _ _).alloc (Nat.le_refl _) _
theorem below2 (w : World) (a b : Obj) : Below w.heap.size w ((w.alloc a).alloc b) := (below1 w a).alloc (by simp) _
theorem below3 (w : World) (a b c : Obj) : Below w.heap.size w (((w.alloc a).alloc b).alloc c) := (below2 w a b).alloc (by simp; omega) _
theorem ext_empty (s : ByteArray) (i j : Nat) (h : i + j ≤ s.size) : (s.extract i (i + j)).toList.isEmpty = decide (j = 0) := by
  rw [extract_bs, bs_toList, Bool.eq_iff_iff, List.isEmpty_iff, decide_eq_true_eq, List.take_eq_nil_iff, List.drop_eq_nil_iff]
  have := size_data s
  omega
theorem get_data (s : ByteArray) (i : Nat) (h : i < s.size) : s.data.toList[i]'(by simpa using h) = s[i] := rfl
theorem maxLen_le {n : Nat} (h : n ≤ maxLen) : n ≤ 9223372036854775807 := by unfold maxLen at h; omega

theorem cell_of {w : World} {b j : Nat} {cs : Array Value} {t : TypeId} (h : w.heap[b]? = some (.cells cs t (0, 0))) : w.cell? ⟨b, j, none⟩ = cs[j]? := by simp [World.cell?, h]
theorem free_of {w : World} {b j : Nat} {cs : Array Value} {t : TypeId} (h : w.heap[b]? = some (.cells cs t (0, 0))) : w.frozen? ⟨b, j, none⟩ = false := by simp [World.frozen?, h]
theorem below_blk {B : Nat} {w w' : World} (h : Below B w w') {b : Nat} {o : Obj} (hb : b < B) (ho : w.heap[b]? = some o) : w'.heap[b]? = some o := by rw [h.block b hb]; exact ho
/-- What is owned stays owned where nothing below a number has turned. -/
theorem owns_below {w w' : World} {base : Nat} {e : TypeId} {size : Nat} {v : Value} {n : Nat} {xs : List Value} (h : w.ownsRow base e size v n xs) (hb : Below w.heap.size w w') : w'.ownsRow base e size v n xs :=
  h.kept (row := none) ⟨hb.os, hb.tape, hb.output, hb.size, fun k hk _ => hb.block k hk⟩ (by cases v.ownBlock <;> simp)
theorem read_list' (s : ByteArray) (i m : Nat) (hi : i < s.size) (hc : s[i] = 40) : read (m + 1) (s.data.toList.drop i) = (items (read m) (s.data.toList.drop (i + 1)).length.succ (s.data.toList.drop (i + 1))).map fun p => (.list p.1, p.2) := by
  have e : s.data.toList.drop i = 40 :: s.data.toList.drop (i + 1) := by
    rw [List.drop_eq_getElem_cons (by simpa using hi)]
    exact congrArg (· :: _) hc
  rw [e, read_open]
theorem read_other (s : ByteArray) (i m : Nat) (hc : ∀ h : i < s.size, s[i] ≠ 40) : read (m + 1) (s.data.toList.drop i) = readAtom (s.data.toList.drop i) := by
  rcases Nat.lt_or_ge i s.size with hi | hi
  · rw [List.drop_eq_getElem_cons (by simpa using hi)]
    exact read_else _ _ _ (hc hi)
  · rw [List.drop_eq_nil_of_le (by simpa using hi)]; rfl
theorem it_none {rd : List UInt8 → Option (Tr × List UInt8)} {f : Nat} {L : List UInt8} {ts : List Tr} {R : Option (List Tr × List UInt8)} (hres : rd L = none) (hR : Hid (R = (items rd f L).map fun p => (ts ++ p.1, p.2))) : R = none := by
  rw [hR.out]
  cases f with
  | zero => rfl
  | succ f => simp [items, hres]
theorem it_none2 {rd : List UInt8 → Option (Tr × List UInt8)} {f : Nat} {L : List UInt8} {ts : List Tr} {R : Option (List Tr × List UInt8)} {t : Tr} {r : List UInt8} (hres : rd L = some (t, r)) (hr : ∀ c r', r = c :: r' → c ≠ 41 ∧ c ≠ 32)
    (hR : Hid (R = (items rd f L).map fun p => (ts ++ p.1, p.2))) : R = none := by
  rw [hR.out]
  cases f with
  | zero => rfl
  | succ f =>
    cases r with
    | nil => simp [items, hres]
    | cons c r' => simp [items, hres, (hr c r' rfl).1, (hr c r' rfl).2]
theorem it_end {rd : List UInt8 → Option (Tr × List UInt8)} {f : Nat} {L : List UInt8} {ts : List Tr} {R : Option (List Tr × List UInt8)} {t : Tr} {c : UInt8} {r' : List UInt8} (hres : rd L = some (t, c :: r')) (hc : c = 41)
    (hf : L.length < f) (hR : Hid (R = (items rd f L).map fun p => (ts ++ p.1, p.2))) : R = some (ts ++ [t], r') := by
  rw [hR.out]
  cases f with
  | zero => omega
  | succ f => subst hc; simp [items, hres]
theorem it_next {rd : List UInt8 → Option (Tr × List UInt8)} {f : Nat} {L : List UInt8} {ts : List Tr} {R : Option (List Tr × List UInt8)} {t : Tr} {c : UInt8} {r' : List UInt8} (hres : rd L = some (t, c :: r')) (hc : c = 32)
    (hf : L.length < f) (hR : Hid (R = (items rd f L).map fun p => (ts ++ p.1, p.2))) : ∃ f', f = f' + 1 ∧ Hid (R = (items rd f' r').map fun p => ((ts ++ [t]) ++ p.1, p.2)) := by
  cases f with
  | zero => omega
  | succ f =>
    subst hc
    refine ⟨f, rfl, ?_⟩
    unfold Hid
    rw [hR.out]
    simp [items, hres, Function.comp_def]
theorem wfs_snoc {ts : List Tr} {t : Tr} (h : wfs ts) (ht : t.wf) : wfs (ts ++ [t]) := by
  induction ts with
  | nil => exact ⟨ht, trivial⟩
  | cons a ts ih => exact ⟨h.1, ih h.2⟩
theorem owns_slice {w : World} {base : Nat} {e : TypeId} {size : Nat} {v : Value} {n : Nat} {xs : List Value} (h : w.ownsRow base e size v n xs) : ∃ p c, v = .slice p n c := by
  rcases h.2 with ⟨rfl, rfl⟩ | ⟨g, cap, cur, rfl, _⟩
  · exact ⟨_, _, rfl⟩
  · exact ⟨_, _, rfl⟩
end Go.Proofs.YtlinjnflhpldfaaGreatDoor
