/- The helpers of the laws on slices of strings: marks. Append of a whole slice of texts to a row of the call's own: where the new row lies. -/
import Derived.Test.YtfknoigbkleanaaGreatDoorProg
import Derived.Test.YtfknoigbkleanaaGreatDoorB1
import Derived.Deep.QuietTactic
import Derived.BigQuiet
import Derived.Deep.RegionHeld3
namespace Go.Proofs.YtfknoigbkleanaaGreatDoor
open Go.RowKit
set_option maxRecDepth 8000
set_option linter.unusedSimpArgs false
set_option linter.unusedVariables false
/-- The digits of a number ahead of a text. -/
def digs : Nat → Nat → List UInt8 → List UInt8
  | 0, _, acc => acc
  | f + 1, k, acc => if k = 0 then acc else digs f (k / 10) (UInt8.ofNat (48 + k % 10) :: acc)
def markT (k : Nat) : List UInt8 := 109 :: (if k = 0 then [48] else digs k k [])
theorem digs_fuel : ∀ (f g k : Nat) (acc : List UInt8), k ≤ f → k ≤ g → digs f k acc = digs g k acc
  | 0, 0, _, _, _, _ => rfl
  | 0, g + 1, k, acc, h, _ => by have : k = 0 := by omega
                                 subst this; simp [digs]
  | f + 1, 0, k, acc, _, h => by have : k = 0 := by omega
                                 subst this; simp [digs]
  | f + 1, g + 1, k, acc, h1, h2 => by
    rw [digs, digs]
    by_cases hk : k = 0
    · rw [if_pos hk, if_pos hk]
    · rw [if_neg hk, if_neg hk]
      exact digs_fuel f g (k / 10) _ (by omega) (by omega)
theorem digs_step (k : Nat) (acc : List UInt8) (h : 0 < k) : digs k k acc = digs (k / 10) (k / 10) (UInt8.ofNat (48 + k % 10) :: acc) := by
  cases k with
  | zero => omega
  | succ k =>
    rw [digs, if_neg (by omega)]
    exact digs_fuel _ _ _ _ (by omega) (Nat.le_refl _)
theorem digs_length : ∀ (f k : Nat) (acc : List UInt8), (digs f k acc).length ≤ acc.length + f
  | 0, _, _ => by simp [digs]
  | f + 1, k, acc => by
    rw [digs]
    split
    · omega
    · have := digs_length f (k / 10) (UInt8.ofNat (48 + k % 10) :: acc)
      simp only [List.length_cons] at this; omega
theorem drewN_drewN (w : World) (a b : Nat) : (w.drewN a).drewN b = w.drewN (a + b) := by simp [World.drewN, Nat.add_assoc]
theorem str_digit (q : Nat) (acc : List UInt8) : strOfNums [48 + (q : Int) % 10] ++ bs acc = bs (UInt8.ofNat (48 + q % 10) :: acc) := by
  have h : strOfNums [48 + (q : Int) % 10] = bs [UInt8.ofNat (48 + q % 10)] := by
    simp only [strOfNums, List.map_cons, List.map_nil, bs]
    rw [show (48 + (q : Int) % 10).toNat = 48 + q % 10 from by omega]
  rw [h, bs_append]; rfl
theorem conv_one (wr : World) (x : Int) : (convert 22 9 (.slice (some ⟨wr.heap.size, 0, none⟩) 1 1)).run Tryz.prog (wr.alloc (.cells #[.int .u8 x] 5)) = .ok (.string (strOfNums [x])) (wr.alloc (.cells #[.int .u8 x] 5)) := by
  refine run_convert_bytes_arg (P := Tryz.prog) (wr.alloc (.cells #[.int .u8 x] 5)) 22 5 Tryz.underlying22 Tryz.underlying5 wr.heap.size 0 1 1 [x] rfl (fun i hi => ?_) 9 Tryz.underlying9
  obtain rfl : i = 0 := by omega
  simp
def strV (l : List UInt8) : Value := .string (bs l)
/-- A slice that reads as these texts. -/
def StrS (w : World) (v : Value) (l : List (List UInt8)) : Prop :=
  ∃ p c, v = .slice p l.length c ∧ l.length ≤ 9223372036854775807 ∧ (l ≠ [] → ∃ r off, p = some ⟨r, off, none⟩ ∧ hasRow w r off (l.map strV))
theorem StrS.move {w w' : World} {v : Value} {l : List (List UInt8)} (h : StrS w v l) (hb : ∀ k, v.ownBlock = some k → w'.heap[k]? = w.heap[k]?) : StrS w' v l := by
  obtain ⟨p, c, rfl, h1, h2⟩ := h
  refine ⟨p, c, rfl, h1, fun hne => ?_⟩
  obtain ⟨r, off, rfl, h3⟩ := h2 hne
  exact ⟨r, off, rfl, h3.move (hb r rfl)⟩
theorem StrS.cell {w : World} {r off : Nat} {l : List (List UInt8)} (h : hasRow w r off (l.map strV)) {k : Nat} (hk : k < l.length) : w.cell? ⟨r, off + k, none⟩ = some (.string (bs l[k])) :=
  h k _ (by simp [hk, strV])
theorem gB_trans {a b c : World} {row : Option Nat} (h : a.grownBy b row) (k : b.grownBy c row) : a.grownBy c row :=
  ⟨k.os.trans h.os, k.tape.trans h.tape, k.output.trans h.output, Nat.le_trans h.size k.size, fun i hi hne => (k.block i (Nat.lt_of_lt_of_le hi h.size) hne).trans (h.block i hi hne)⟩
theorem gB_below {a b : World} (h : Below a.heap.size a b) (row : Option Nat) : a.grownBy b row := ⟨h.os, h.tape, h.output, h.size, fun i hi _ => h.block i hi⟩
theorem fin_belowT {w w1 W : World} {p : Prop} (h : Below w.heap.size w w1) (k : Below w1.heap.size w1 W ∧ p) : Below w.heap.size w W := h.trans (k.1.mono h.size)
def marks (k n : Nat) : List (List UInt8) := (List.range n).map fun j => markT (k + j)
theorem marks_len (k n : Nat) : (marks k n).length = n := by simp [marks]
theorem marks_get (k n j : Nat) (h : j < n) : (marks k n)[j]'(by rw [marks_len]; exact h) = markT (k + j) := by simp [marks]
theorem marks_step (k n : Nat) (xs : List Value) (j : Nat) (hx : xs.length = n) (h : j < n) :
    ((marks k j).map strV ++ xs.drop j).set j (strV (markT (k + j))) = (marks k (j + 1)).map strV ++ xs.drop (j + 1) := by
  have h1 : ((marks k j).map strV).length = j := by simp [marks]
  rw [List.drop_eq_getElem_cons (by omega), List.set_append_right _ _ (by omega), h1, Nat.sub_self, List.set_cons_zero]
  simp [marks, List.range_succ, strV]
end Go.Proofs.YtfknoigbkleanaaGreatDoor
namespace Go.Proofs.YtfknoigbkleanaaGreatDoor
open Go.RowKit
set_option linter.unusedSimpArgs false
set_option linter.unusedVariables false
section
variable {P : Program} (w : World)
theorem run_append_str (base : Nat) (t ty e : TypeId) (i : TypeInfo) (ht : P.underlying t = some (.slice e)) (hi : P.info? e = some i) (hz : i.zero = some (.string ⟨#[]⟩)) (hsize : i.size = 1) (hby : i.bytes = 16)
    (v : Value) (l : List (List UInt8)) (hown : w.ownsRow base e 1 v l.length (l.map strV))
    (u : Value) (m : List (List UInt8)) (hu : StrS w u m) (hb : l.length + m.length ≤ 1000000) (hbase : base ≤ w.heap.size) :
    ∃ v' w', (Builtin.append_ #[t, t] ty #[v, u]).run P w = .ok v' w' ∧ w'.ownsRow base e 1 v' (l ++ m).length ((l ++ m).map strV) ∧ w.grownBy w' v.ownBlock ∧ (v'.ownBlock = v.ownBlock ∨ v'.ownBlock = some w.heap.size) := by
  obtain ⟨p, c, rfl, h1, h2⟩ := hu
  by_cases hm : m = []
  · subst hm
    refine ⟨v, w, ?_, by simpa using hown, ⟨rfl, rfl, rfl, Nat.le_refl _, fun _ _ _ => rfl⟩, .inl rfl⟩
    rcases hown.2 with ⟨rfl, hn⟩ | ⟨g, cap, cur, rfl, _, _, hnc, _⟩
    · cases p with
      | none => simp [Builtin.append_, run_underlying ht, sizeOf, typeInfo, hi, Builtin.lenOf, Builtin.firstCells, hn]
      | some a => simp [Builtin.append_, run_underlying ht, sizeOf, typeInfo, hi, Builtin.lenOf, Builtin.firstCells, loadCells, loadCellsFrom, hn]
    · cases p with
      | none => simp [Builtin.append_, run_underlying ht, sizeOf, typeInfo, hi, Builtin.lenOf, Builtin.firstCells, hnc, storeCells]
      | some a => simp [Builtin.append_, run_underlying ht, sizeOf, typeInfo, hi, Builtin.lenOf, Builtin.firstCells, loadCells, loadCellsFrom, hnc, storeCells]
  · obtain ⟨r, off, rfl, h3⟩ := h2 hm
    have hadd : ∀ j, (⟨r, off, none⟩ : Addr).add j = ⟨r, off + j, none⟩ := fun j => by unfold Addr.add; split <;> simp_all
    have hnews : ∀ j x, (m.map strV)[j]? = some x → w.cell? ((⟨r, off, none⟩ : Addr).add j) = some x := fun j x hj => by rw [hadd]; exact h3 j x hj
    have h1' : ∀ x ∈ m.map strV, x.oneCell' = true := fun x hx => by obtain ⟨y, _, rfl⟩ := List.mem_map.1 hx; rfl
    have hl : (m.map strV).length = m.length * 1 := by simp
    have hmp : 0 < m.length := List.length_pos_iff.2 hm
    have hzs : (Value.string ⟨#[]⟩).cells.size = 1 := rfl
    obtain ⟨v', w', hr, g2, g3, g4⟩ := run_append_own (P := P) w base t ty e i _ 1 16 ht hi hz hsize hby hzs (by decide) v l.length _ hown ⟨r, off, none⟩ m.length c (m.map strV) hl hnews h1' (by unfold maxLen; omega) (by omega) hbase
    refine ⟨v', w', hr, by simpa using g2, g3, ?_⟩
    rcases hown.2 with ⟨rfl, hn⟩ | ⟨g, cap, cur, rfl, hbg, hg, hnc, hcm, hcs, htake⟩
    · have hr2 := run_append_nil (P := P) w t ty e i _ ht hi hz ⟨r, off, none⟩ m.length c (m.map strV) (by rw [hsize]; exact hl) hnews hmp (by omega) (by rw [hby]; omega)
      rw [hr] at hr2
      simp only [Result.ok.injEq] at hr2
      obtain ⟨rfl, _⟩ := hr2
      exact .inr rfl
    · by_cases hroom : l.length + m.length ≤ cap
      · have hfit : l.length * i.size + (m.map strV).length ≤ cur.size := by rw [hl, hcs, hsize]; omega
        have hr2 := run_append_room (P := P) w t ty e i ht hi g l.length cap cur hg ⟨r, off, none⟩ m.length c (m.map strV) (by rw [hsize]; exact hl) hnews h1' hroom hfit
        rw [hr] at hr2
        simp only [Result.ok.injEq] at hr2
        obtain ⟨rfl, _⟩ := hr2
        exact .inl rfl
      · have holds : ∀ j u, (l.map strV)[j]? = some u → w.cell? ((⟨g, 0, none⟩ : Addr).add j) = some u := hown.cells (g := g) rfl
        have hr2 := run_append_grow (P := P) w t ty e i _ ht hi hz ⟨g, 0, none⟩ l.length cap _ (by rw [hsize]; exact hown.1) holds ⟨r, off, none⟩ m.length c (m.map strV) (by rw [hsize]; exact hl) hnews (by omega) (by omega) (growslice_fits (by omega) (by rw [hby]; omega))
        rw [hr] at hr2
        simp only [Result.ok.injEq] at hr2
        obtain ⟨rfl, _⟩ := hr2
        exact .inr rfl
theorem wpList_append_str {ops : Array Oper} {rest : List Oper} {o : Oper} {a : Act} {Q : Exit → Act → World → Prop} (hgd : o.guard = none) (s x : Operand) (t : TypeId)
    (ho : o.op = .call { callee := .builtin .append, args := #[s, x], argTypes := #[t, t] })
    (base : Nat) (e : TypeId) (i : TypeInfo) (ht : P.underlying t = some (.slice e)) (hi : P.info? e = some i) (hz : i.zero = some (.string ⟨#[]⟩)) (hsize : i.size = 1) (hby : i.bytes = 16)
    (v : Value) (l : List (List UInt8)) (hs : a.eval s = v) (hown : w.ownsRow base e 1 v l.length (l.map strV))
    (u : Value) (m : List (List UInt8)) (hx : a.eval x = u) (hu : StrS w u m) (hb : l.length + m.length ≤ 1000000) (hbase : base ≤ w.heap.size)
    (h : ∀ v' w', w'.ownsRow base e 1 v' (l ++ m).length ((l ++ m).map strV) → w.grownBy w' v.ownBlock → (v'.ownBlock = v.ownBlock ∨ v'.ownBlock = some w.heap.size) → wpList P ops Q rest (a.put o.dst v') w') : wpList P ops Q (o :: rest) a w :=
  wpList_plain hgd fun _ hK => by
    obtain ⟨v', w', hr, h2, h3, h4⟩ := run_append_str (P := P) w base t o.type e i ht hi hz hsize hby v l hown u m hu hb hbase
    unfold Oper.wp execOp
    simp only [ho, resolve, invoke, builtin, Sem.run_bind, Sem.run_pure, Result.andThen_ok, List.map_toArray, List.map_cons, List.map_nil, hs, hx, hr]
    exact hK _ _ (h v' w' h2 h3 h4)
end
end Go.Proofs.YtfknoigbkleanaaGreatDoor
