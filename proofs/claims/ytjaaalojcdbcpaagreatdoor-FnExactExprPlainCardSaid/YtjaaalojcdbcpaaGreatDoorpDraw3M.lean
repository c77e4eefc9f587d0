/- The helpers of the laws on slices of strings: marks. Append of a whole slice of texts to a row of the call's own: where the new row lies. Worlds in which one block alone may have changed. The reference's draws: opening a code, picking a number. The reference's draws: texts of a list, atoms, types, forms. -/
import Derived.Test.YtjaaalojcdbcpaaGreatDoorProg
import Derived.Test.YtjaaalojcdbcpaaGreatDoorpB1
import Derived.Deep.QuietTactic
import Derived.BigQuiet
import Derived.Deep.RegionHeld3
set_option maxHeartbeats 20000000
set_option linter.unusedVariables false
set_option linter.unusedSimpArgs false
namespace Go.Proofs.YtjaaalojcdbcpaaGreatDoor
open Go.RowKit Go.Proofs.Tryz
set_option maxRecDepth 8000
def digs : Nat → Nat → List UInt8 → List UInt8
 | 0, _, acc => acc
 | f + 1, k, acc => if k = 0 then acc else digs f (k / 10) (UInt8.ofNat (48 + k % 10) :: acc)
def markT (k : Nat) : List UInt8 := 109 :: (if k = 0 then [48] else digs k k [])
def Y2 (l : List UInt8) : Value := .string (bs l)
def Yh (w : World) (v : Value) (l : List (List UInt8)) : Prop :=
 ∃ p c, v = .slice p l.length c ∧ l.length ≤ 9223372036854775807 ∧ (l ≠ [] → ∃ r off, p = some ⟨r, off, none⟩ ∧ Yo w r off (l.map Y2))
theorem Yh.move {w w' : World} {v : Value} {l : List (List UInt8)} (h : Yh w v l) (hb : ∀ k, v.ownBlock = some k → w'.heap[k]? = w.heap[k]?) : Yh w' v l := by
 obtain ⟨p, c, rfl, h1, h2⟩ := h
 refine ⟨p, c, rfl, h1, fun hne => ?_⟩
 obtain ⟨r, off, rfl, h3⟩ := h2 hne
 exact ⟨r, off, rfl, h3.move (hb r rfl)⟩
theorem Yh.cell {w : World} {r off : Nat} {l : List (List UInt8)} (h : Yo w r off (l.map Y2)) {k : Nat} (hk : k < l.length) : w.cell? ⟨r, off + k, none⟩ = some (.string (bs l[k])) :=
 h k _ (by simp [hk, Y2])
def marks (k n : Nat) : List (List UInt8) := (List.range n).map fun j => markT (k + j)
section
variable {P : Program} (w : World)
theorem Xz (base : Nat) (t ty e : TypeId) (i : TypeInfo) (ht : P.underlying t = some (.slice e)) (hi : P.info? e = some i) (hz : i.zero = some (.string ⟨#[]⟩)) (hsize : i.size = 1) (hby : i.bytes = 16)
 (v : Value) (l : List (List UInt8)) (hown : w.ownsRow base e 1 v l.length (l.map Y2))
 (u : Value) (m : List (List UInt8)) (hu : Yh w u m) (hb : l.length + m.length ≤ 1000000) (hbase : base ≤ w.heap.size) :
 ∃ v' w', (Builtin.append_ #[t, t] ty #[v, u]).run P w = .ok v' w' ∧ w'.ownsRow base e 1 v' (l ++ m).length ((l ++ m).map Y2) ∧ w.grownBy w' v.ownBlock ∧ (v'.ownBlock = v.ownBlock ∨ v'.ownBlock = some w.heap.size) := by
 obtain ⟨p, c, rfl, h1, h2⟩ := hu
 by_cases hm : m = []
 · subst hm
   refine ⟨v, w, ?_, by simpa using hown, ⟨rfl, rfl, rfl, Nat.le_refl _, fun _ _ _ => rfl⟩, .inl rfl⟩
   rcases hown.2 with ⟨rfl, hn⟩ | ⟨g, cap, cur, rfl, _, _, hnc, _⟩
   · cases p with
     | none => simp [Builtin.append_, run_underlying ht, sizeOf, typeInfo, hi, Builtin.lenOf, Builtin.firstCells, hn]
     | some a => simp [Builtin.append_, run_underlying ht, sizeOf, typeInfo, hi, Builtin.lenOf, Builtin.firstCells, loadCells, loadCellsFrom, hn]
   · cases p with
     | none => simp [Builtin.append_, run_underlying ht, sizeOf, typeInfo, hi, Builtin.lenOf, Builtin.firstCells, hnc, storeCells]
     | some a => simp [Builtin.append_, run_underlying ht, sizeOf, typeInfo, hi, Builtin.lenOf, Builtin.firstCells, loadCells, loadCellsFrom, hnc, storeCells]
 · obtain ⟨r, off, rfl, h3⟩ := h2 hm
   have hadd : ∀ j, (⟨r, off, none⟩ : Addr).add j = ⟨r, off + j, none⟩ := fun j => by unfold Addr.add; split <;> simp_all
   have hnews : ∀ j x, (m.map Y2)[j]? = some x → w.cell? ((⟨r, off, none⟩ : Addr).add j) = some x := fun j x hj => by rw [hadd]; exact h3 j x hj
   have h1' : ∀ x ∈ m.map Y2, x.oneCell' = true := fun x hx => by obtain ⟨y, _, rfl⟩ := List.mem_map.1 hx; rfl
   have hl : (m.map Y2).length = m.length * 1 := by simp
   have hmp : 0 < m.length := List.length_pos_iff.2 hm
   have hzs : (Value.string ⟨#[]⟩).cells.size = 1 := rfl
   obtain ⟨v', w', hr, g2, g3, g4⟩ := run_append_own (P := P) w base t ty e i _ 1 16 ht hi hz hsize hby hzs (by decide) v l.length _ hown ⟨r, off, none⟩ m.length c (m.map Y2) hl hnews h1' (by unfold maxLen; omega) (by omega) hbase
   refine ⟨v', w', hr, by simpa using g2, g3, ?_⟩
   rcases hown.2 with ⟨rfl, hn⟩ | ⟨g, cap, cur, rfl, hbg, hg, hnc, hcm, hcs, htake⟩
   · have hr2 := run_append_nil (P := P) w t ty e i _ ht hi hz ⟨r, off, none⟩ m.length c (m.map Y2) (by rw [hsize]; exact hl) hnews hmp (by omega) (by rw [hby]; omega)
     rw [hr] at hr2
     simp only [Result.ok.injEq] at hr2
     obtain ⟨rfl, _⟩ := hr2
     exact .inr rfl
   · by_cases hroom : l.length + m.length ≤ cap
     · have hfit : l.length * i.size + (m.map Y2).length ≤ cur.size := by rw [hl, hcs, hsize]; omega
       have hr2 := run_append_room (P := P) w t ty e i ht hi g l.length cap cur hg ⟨r, off, none⟩ m.length c (m.map Y2) (by rw [hsize]; exact hl) hnews h1' hroom hfit
       rw [hr] at hr2
       simp only [Result.ok.injEq] at hr2
       obtain ⟨rfl, _⟩ := hr2
       exact .inl rfl
     · have holds : ∀ j u, (l.map Y2)[j]? = some u → w.cell? ((⟨g, 0, none⟩ : Addr).add j) = some u := hown.cells (g := g) rfl
       have hr2 := run_append_grow (P := P) w t ty e i _ ht hi hz ⟨g, 0, none⟩ l.length cap _ (by rw [hsize]; exact hown.1) holds ⟨r, off, none⟩ m.length c (m.map Y2) (by rw [hsize]; exact hl) hnews (by omega) (by omega) (growslice_fits (by omega) (by rw [hby]; omega))
       rw [hr] at hr2
       simp only [Result.ok.injEq] at hr2
       obtain ⟨rfl, _⟩ := hr2
       exact .inr rfl
theorem Y0 {ops : Array Oper} {rest : List Oper} {o : Oper} {a : Act} {Q : Exit → Act → World → Prop} (hgd : o.guard = none) (s x : Operand) (t : TypeId)
 (ho : o.op = .call { callee := .builtin .append, args := #[s, x], argTypes := #[t, t] })
 (base : Nat) (e : TypeId) (i : TypeInfo) (ht : P.underlying t = some (.slice e)) (hi : P.info? e = some i) (hz : i.zero = some (.string ⟨#[]⟩)) (hsize : i.size = 1) (hby : i.bytes = 16)
 (v : Value) (l : List (List UInt8)) (hs : a.eval s = v) (hown : w.ownsRow base e 1 v l.length (l.map Y2))
 (u : Value) (m : List (List UInt8)) (hx : a.eval x = u) (hu : Yh w u m) (hb : l.length + m.length ≤ 1000000) (hbase : base ≤ w.heap.size)
 (h : ∀ v' w', w'.ownsRow base e 1 v' (l ++ m).length ((l ++ m).map Y2) → w.grownBy w' v.ownBlock → (v'.ownBlock = v.ownBlock ∨ v'.ownBlock = some w.heap.size) → wpList P ops Q rest (a.put o.dst v') w') : wpList P ops Q (o :: rest) a w :=
 wpList_plain hgd fun _ hK => by
  obtain ⟨v', w', hr, h2, h3, h4⟩ := Xz (P := P) w base t o.type e i ht hi hz hsize hby v l hown u m hu hb hbase
  unfold Oper.wp execOp
  simp only [ho, resolve, invoke, builtin, Sem.run_bind, Sem.run_pure, Result.andThen_ok, List.map_toArray, List.map_cons, List.map_nil, hs, hx, hr]
  exact hK _ _ (h v' w' h2 h3 h4)
end
structure Only (b : Nat) (w w' : World) : Prop where
 os : w'.os = w.os
 tape : w'.tape = w.tape
 output : w'.output = w.output
 size : w.heap.size ≤ w'.heap.size
 block : ∀ k, k < w.heap.size → k ≠ b → w'.heap[k]? = w.heap[k]?
theorem Only.refl (b : Nat) (w : World) : Only b w w := ⟨rfl, rfl, rfl, Nat.le_refl _, fun _ _ _ => rfl⟩
theorem Only.trans {b : Nat} {x y z : World} (h : Only b x y) (k : Only b y z) : Only b x z :=
 ⟨k.os.trans h.os, k.tape.trans h.tape, k.output.trans h.output, Nat.le_trans h.size k.size, fun i hi hb => (k.block i (Nat.lt_of_lt_of_le hi h.size) hb).trans (h.block i hi hb)⟩
theorem Only.of {b : Nat} {w w' : World} (h : Below w.heap.size w w') : Only b w w' := ⟨h.os, h.tape, h.output, h.size, fun k hk _ => h.block k hk⟩
theorem Only.drew {b : Nat} {x w : World} (h : Only b x w) : Only b x w.drew := ⟨h.os, h.tape, h.output, h.size, h.block⟩
theorem Only.alloc {b : Nat} {x w : World} (h : Only b x w) (o : Obj) : Only b x (w.alloc o) := h.trans (Only.of (Z5 w o))
theorem Only.set {b : Nat} {x w : World} (h : Only b x w) {p : Addr} (hp : p.block = b) (u : Value) : Only b x (w.setCell p u) :=
 ⟨h.os, h.tape, h.output, by simpa [World.setCell] using h.size, fun k hk hb => by rw [Z2 _ (by omega)]; exact h.block k hk hb⟩
theorem Only.setNew {b : Nat} {x w : World} (h : Only b x w) {p : Addr} (hp : x.heap.size ≤ p.block) (u : Value) : Only b x (w.setCell p u) :=
 ⟨h.os, h.tape, h.output, by simpa [World.setCell] using h.size, fun k hk hb => by rw [Z2 _ (by omega)]; exact h.block k hk hb⟩
theorem Only.next {b : Nat} {x y z : World} (h : Only b x y) (k : Below y.heap.size y z) : Only b x z := h.trans (Only.of k)
theorem Only.below {b B : Nat} {w w' : World} (h : Only b w w') (hb : B ≤ b) (hB : B ≤ w.heap.size) : Below B w w' := ⟨h.os, h.tape, h.output, h.size, fun k hk => h.block k (by omega) (by omega)⟩
theorem Only.fresh {b B : Nat} {w w' w0 : World} (h0 : Below B w0 w) (h : Only b w w') (hb : B ≤ b) (hB : B ≤ w.heap.size) : Below B w0 w' := h0.trans (h.below hb hB)
theorem Only.blk {b k : Nat} {w w' : World} {o : Obj} (h : Only b w w') (hk : w.heap[k]? = some o) (hne : k ≠ b) : w'.heap[k]? = some o := by rw [h.block k (lt_of_block hk) hne]; exact hk
theorem Only.cell {b : Nat} {w w' : World} (h : Only b w w') {p : Addr} (hp : p.block < w.heap.size) (hne : p.block ≠ b) : w'.cell? p = w.cell? p := World.cell?_of_block (w := w) (h.block p.block hp hne)
theorem Only.grown {b : Nat} {x w w' : World} {row : Option Nat} (h : Only b x w) (hg : w.grownBy w' row) (hr : ∀ k, row = some k → x.heap.size ≤ k) : Only b x w' :=
 ⟨hg.os.trans h.os, hg.tape.trans h.tape, hg.output.trans h.output, Nat.le_trans h.size hg.size, fun k hk hb => (hg.block k (Nat.lt_of_lt_of_le hk h.size) (fun e => by have := hr k e.symm; omega)).trans (h.block k hk hb)⟩
theorem FV.only {nd : Tr → Value → List Value} {b : Nat} {w w' : World} {ok : Nat → Prop} {t : Tr} {cs : List Value} (h : FV nd w ok t cs) (ho : Only b w w') (hok : ∀ k, ok k → k < w.heap.size ∧ k ≠ b) : FV nd w' ok t cs :=
 FV.move (fun _ h => h) (fun k hk => ho.block k (hok k hk).1 (hok k hk).2) _ _ h
theorem FVs.only {nd : Tr → Value → List Value} {b : Nat} {w w' : World} {ok : Nat → Prop} {ts : List Tr} {xs : List Value} (h : FVs nd w ok ts xs) (ho : Only b w w') (hok : ∀ k, ok k → k < w.heap.size ∧ k ≠ b) : FVs nd w' ok ts xs :=
 FVs.move (fun _ h => h) (fun k hk => ho.block k (hok k hk).1 (hok k hk).2) _ _ h
def BRow (w : World) (a : Option Addr) (L c : Nat) (zs : List Int) : Prop :=
 L = 0 ∨ ∃ b off, a = some ⟨b, off, none⟩ ∧ b < w.heap.size ∧ L ≤ zs.length ∧ L ≤ c ∧ c ≤ maxLen ∧ (∀ i, i < L → w.cell? ⟨b, off + i, none⟩ = some (.int .u8 (zs.getD i 0))) ∧ ∀ i, 0 ≤ zs.getD i 0 ∧ zs.getD i 0 ≤ 255
theorem BRow.below {w w' : World} {a : Option Addr} {L c : Nat} {zs : List Int} (h : BRow w a L c zs) (hb : Below w.heap.size w w') : BRow w' a L c zs := by
 rcases h with h | ⟨b, off, rfl, h1, h2, h3, h4, h5, h6⟩
 · exact .inl h
 · exact .inr ⟨b, off, rfl, Nat.lt_of_lt_of_le h1 hb.size, h2, h3, h4, fun i hi => (hb.cell (p := ⟨b, off + i, none⟩) h1).trans (h5 i hi), h6⟩
theorem BRow.only {w w' : World} {q : Nat} {a : Option Addr} {L c : Nat} {zs : List Int} (h : BRow w a L c zs) (hb : Only q w w') (hq0 : L = 0 ∨ ∀ x, a = some x → x.block ≠ q) : BRow w' a L c zs := by
 rcases hq0 with hq0 | hq
 · exact .inl hq0
 rcases h with h | ⟨b, off, rfl, h1, h2, h3, h4, h5, h6⟩
 · exact .inl h
 · exact .inr ⟨b, off, rfl, Nat.lt_of_lt_of_le h1 hb.size, h2, h3, h4, fun i hi => (hb.cell (p := ⟨b, off + i, none⟩) h1 (hq ⟨b, off, none⟩ rfl)).trans (h5 i hi), h6⟩
theorem BRow.bound {w : World} {a : Option Addr} {L c : Nat} {zs : List Int} (h : BRow w a L c zs) : L ≤ 9223372036854775807 := by
 rcases h with h | ⟨b, off, rfl, h1, h2, h3, h4, h5, h6⟩
 · omega
 · have := Ym h4; omega
def RdD (w : World) (q : Nat) (a : Option Addr) (L c p : Nat) : Prop := w.heap[q]? = some (.cells #[.slice a L c, .int .i64 p] 98 (0, 0))
structure Rd (w : World) (q : Nat) (a : Option Addr) (L c p : Nat) (zs : List Int) : Prop where
 blk : RdD w q a L c p
 row : BRow w a L c zs
 ne : L = 0 ∨ ∀ x, a = some x → x.block ≠ q
 len : L ≤ 2000
theorem Rd.below {w w' : World} {q : Nat} {a : Option Addr} {L c p : Nat} {zs : List Int} (h : Rd w q a L c p zs) (hb : Below w.heap.size w w') : Rd w' q a L c p zs :=
 ⟨Z3 hb (lt_of_block h.blk) h.blk, h.row.below hb, h.ne, h.len⟩
def PickPost (q : Nat) (a : Option Addr) (L c p : Nat) (n : Int) (w : World) (e : Ending) (w' : World) : Prop := (∃ r : Int, e = .returned (.int .i64 r) ∧ 0 ≤ r ∧ (r < n ∨ r = 0)) ∧ RdD w' q a L c (p + 1) ∧ Only q w w'
def DrPost (q : Nat) (a : Option Addr) (L c p : Nat) (zs : List Int) (N M : Nat) (w : World) (e : Ending) (w' : World) : Prop :=
 ∃ (s : ByteArray) (p' : Nat), e = .returned (.string s) ∧ s.size ≤ N ∧ p' ≤ p + M ∧ Rd w' q a L c p' zs ∧ Only q w w'
def atomsL : List (List UInt8) := [[97], [98], [120, 48], [102, 49], [105], [108, 101, 116], [49, 50], [45, 51], [43], [48], [62], [118]]
theorem DrPost.more {q : Nat} {a : Option Addr} {L c p : Nat} {zs : List Int} {N M N' M' : Nat} {w w' : World} {e : Ending} (h : DrPost q a L c p zs N M w e w') (hN : N ≤ N') (hM : M ≤ M') : DrPost q a L c p zs N' M' w e w' := by
 obtain ⟨s, p', h1, h2, h3, h4, h5⟩ := h
 exact ⟨s, p', h1, by omega, by omega, h4, h5⟩
end Go.Proofs.YtjaaalojcdbcpaaGreatDoor
