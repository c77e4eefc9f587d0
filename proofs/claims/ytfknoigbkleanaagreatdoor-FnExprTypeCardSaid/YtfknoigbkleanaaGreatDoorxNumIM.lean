/- The helpers of the laws on slices of strings: marks. Append of a whole slice of texts to a row of the call's own: where the new row lies. The program's numerals. -/
import Derived.Test.YtfknoigbkleanaaGreatDoorProg
import Derived.Test.YtfknoigbkleanaaGreatDoorxB1
import Derived.Deep.QuietTactic
import Derived.BigQuiet
import Derived.Deep.RegionHeld3
import Derived.Test.YtfknoigbkleanaaGreatDoorxSpec2aM
import Derived.Test.YtfknoigbkleanaaGreatDoorxShelf
import Derived.Lib.SmallJoins
namespace Go.Proofs.YtfknoigbkleanaaGreatDoor
open Go.RowKit Go.Proofs.Tryz
set_option maxRecDepth 8000
set_option maxHeartbeats 20000000
set_option linter.unusedVariables false
set_option linter.unusedSimpArgs false
def digs : Nat → Nat → List UInt8 → List UInt8
 | 0, _, acc => acc
 | f + 1, k, acc => if k = 0 then acc else digs f (k / 10) (UInt8.ofNat (48 + k % 10) :: acc)
def markT (k : Nat) : List UInt8 := 109 :: (if k = 0 then [48] else digs k k [])
def Yc (l : List UInt8) : Value := .string (bs l)
def Zl (w : World) (v : Value) (l : List (List UInt8)) : Prop :=
 ∃ p c, v = .slice p l.length c ∧ l.length ≤ 9223372036854775807 ∧ (l ≠ [] → ∃ r off, p = some ⟨r, off, none⟩ ∧ Yb w r off (l.map Yc))
theorem Zl.move {w w' : World} {v : Value} {l : List (List UInt8)} (h : Zl w v l) (hb : ∀ k, v.ownBlock = some k → w'.heap[k]? = w.heap[k]?) : Zl w' v l := by
 obtain ⟨p, c, rfl, h1, h2⟩ := h
 refine ⟨p, c, rfl, h1, fun hne => ?_⟩
 obtain ⟨r, off, rfl, h3⟩ := h2 hne
 exact ⟨r, off, rfl, h3.move (hb r rfl)⟩
theorem Zl.cell {w : World} {r off : Nat} {l : List (List UInt8)} (h : Yb w r off (l.map Yc)) {k : Nat} (hk : k < l.length) : w.cell? ⟨r, off + k, none⟩ = some (.string (bs l[k])) :=
 h k _ (by simp [hk, Yc])
def marks (k n : Nat) : List (List UInt8) := (List.range n).map fun j => markT (k + j)
section
variable {P : Program} (w : World)
theorem Z1r (base : Nat) (t ty e : TypeId) (i : TypeInfo) (ht : P.underlying t = some (.slice e)) (hi : P.info? e = some i) (hz : i.zero = some (.string ⟨#[]⟩)) (hsize : i.size = 1) (hby : i.bytes = 16)
 (v : Value) (l : List (List UInt8)) (hown : w.ownsRow base e 1 v l.length (l.map Yc))
 (u : Value) (m : List (List UInt8)) (hu : Zl w u m) (hb : l.length + m.length ≤ 1000000) (hbase : base ≤ w.heap.size) :
 ∃ v' w', (Builtin.append_ #[t, t] ty #[v, u]).run P w = .ok v' w' ∧ w'.ownsRow base e 1 v' (l ++ m).length ((l ++ m).map Yc) ∧ w.grownBy w' v.ownBlock ∧ (v'.ownBlock = v.ownBlock ∨ v'.ownBlock = some w.heap.size) := by
 obtain ⟨p, c, rfl, h1, h2⟩ := hu
 by_cases hm : m = []
 · subst hm
   refine ⟨v, w, ?_, by simpa using hown, ⟨rfl, rfl, rfl, Nat.le_refl _, fun _ _ _ => rfl⟩, .inl rfl⟩
   rcases hown.2 with ⟨rfl, hn⟩ | ⟨g, cap, cur, rfl, _, _, hnc, _⟩
   · cases p with
     | none => simp [Builtin.append_, run_underlying ht, sizeOf, typeInfo, hi, Builtin.lenOf, Builtin.firstCells, hn]
     | some a => simp [Builtin.append_, run_underlying ht, sizeOf, typeInfo, hi, Builtin.lenOf, Builtin.firstCells, loadCells, loadCellsFrom, hn]
   · cases p with
     | none => simp [Builtin.append_, run_underlying ht, sizeOf, typeInfo, hi, Builtin.lenOf, Builtin.firstCells, hnc, storeCells]
     | some a => simp [Builtin.append_, run_underlying ht, sizeOf, typeInfo, hi, Builtin.lenOf, Builtin.firstCells, loadCells, loadCellsFrom, hnc, storeCells]
 · obtain ⟨r, off, rfl, h3⟩ := h2 hm
   have hadd : ∀ j, (⟨r, off, none⟩ : Addr).add j = ⟨r, off + j, none⟩ := fun j => by unfold Addr.add; split <;> simp_all
   have hnews : ∀ j x, (m.map Yc)[j]? = some x → w.cell? ((⟨r, off, none⟩ : Addr).add j) = some x := fun j x hj => by rw [hadd]; exact h3 j x hj
   have h1' : ∀ x ∈ m.map Yc, x.oneCell' = true := fun x hx => by obtain ⟨y, _, rfl⟩ := List.mem_map.1 hx; rfl
   have hl : (m.map Yc).length = m.length * 1 := by simp
   have hmp : 0 < m.length := List.length_pos_iff.2 hm
   have hzs : (Value.string ⟨#[]⟩).cells.size = 1 := rfl
   obtain ⟨v', w', hr, g2, g3, g4⟩ := run_append_own (P := P) w base t ty e i _ 1 16 ht hi hz hsize hby hzs (by decide) v l.length _ hown ⟨r, off, none⟩ m.length c (m.map Yc) hl hnews h1' (by unfold maxLen; omega) (by omega) hbase
   refine ⟨v', w', hr, by simpa using g2, g3, ?_⟩
   rcases hown.2 with ⟨rfl, hn⟩ | ⟨g, cap, cur, rfl, hbg, hg, hnc, hcm, hcs, htake⟩
   · have hr2 := run_append_nil (P := P) w t ty e i _ ht hi hz ⟨r, off, none⟩ m.length c (m.map Yc) (by rw [hsize]; exact hl) hnews hmp (by omega) (by rw [hby]; omega)
     rw [hr] at hr2
     simp only [Result.ok.injEq] at hr2
     obtain ⟨rfl, _⟩ := hr2
     exact .inr rfl
   · by_cases hroom : l.length + m.length ≤ cap
     · have hfit : l.length * i.size + (m.map Yc).length ≤ cur.size := by rw [hl, hcs, hsize]; omega
       have hr2 := run_append_room (P := P) w t ty e i ht hi g l.length cap cur hg ⟨r, off, none⟩ m.length c (m.map Yc) (by rw [hsize]; exact hl) hnews h1' hroom hfit
       rw [hr] at hr2
       simp only [Result.ok.injEq] at hr2
       obtain ⟨rfl, _⟩ := hr2
       exact .inl rfl
     · have holds : ∀ j u, (l.map Yc)[j]? = some u → w.cell? ((⟨g, 0, none⟩ : Addr).add j) = some u := hown.cells (g := g) rfl
       have hr2 := run_append_grow (P := P) w t ty e i _ ht hi hz ⟨g, 0, none⟩ l.length cap _ (by rw [hsize]; exact hown.1) holds ⟨r, off, none⟩ m.length c (m.map Yc) (by rw [hsize]; exact hl) hnews (by omega) (by omega) (growslice_fits (by omega) (by rw [hby]; omega))
       rw [hr] at hr2
       simp only [Result.ok.injEq] at hr2
       obtain ⟨rfl, _⟩ := hr2
       exact .inr rfl
theorem Zk {ops : Array Oper} {rest : List Oper} {o : Oper} {a : Act} {Q : Exit → Act → World → Prop} (hgd : o.guard = none) (s x : Operand) (t : TypeId)
 (ho : o.op = .call { callee := .builtin .append, args := #[s, x], argTypes := #[t, t] })
 (base : Nat) (e : TypeId) (i : TypeInfo) (ht : P.underlying t = some (.slice e)) (hi : P.info? e = some i) (hz : i.zero = some (.string ⟨#[]⟩)) (hsize : i.size = 1) (hby : i.bytes = 16)
 (v : Value) (l : List (List UInt8)) (hs : a.eval s = v) (hown : w.ownsRow base e 1 v l.length (l.map Yc))
 (u : Value) (m : List (List UInt8)) (hx : a.eval x = u) (hu : Zl w u m) (hb : l.length + m.length ≤ 1000000) (hbase : base ≤ w.heap.size)
 (h : ∀ v' w', w'.ownsRow base e 1 v' (l ++ m).length ((l ++ m).map Yc) → w.grownBy w' v.ownBlock → (v'.ownBlock = v.ownBlock ∨ v'.ownBlock = some w.heap.size) → wpList P ops Q rest (a.put o.dst v') w') : wpList P ops Q (o :: rest) a w :=
 wpList_plain hgd fun _ hK => by
  obtain ⟨v', w', hr, h2, h3, h4⟩ := Z1r (P := P) w base t o.type e i ht hi hz hsize hby v l hown u m hu hb hbase
  unfold Oper.wp execOp
  simp only [ho, resolve, invoke, builtin, Sem.run_bind, Sem.run_pure, Result.andThen_ok, List.map_toArray, List.map_cons, List.map_nil, hs, hx, hr]
  exact hK _ _ (h v' w' h2 h3 h4)
end
theorem Z7d (s : ByteArray) (hs : s.size ≤ 1048576) (w : World) : Calls prog 124 #[.string s] w fun e w' => e = .returned (.bool (Lib.decFrom 0 s.data.toList).isSome) ∧ w' = w := by
 obtain ⟨R, hR⟩ : ∃ R, R = (Lib.decFrom 0 s.data.toList).isSome := ⟨_, rfl⟩
 rw [← hR]
 have HR := H_ hR
 clear hR
 go_enter func124, ntmps124
 go_wp2_with fail
 go_loop [6] (fun i => ∃ k : Nat, k ≤ s.size ∧ i = .int .i64 k ∧ Hid (∃ m, Lib.decFrom 0 (s.data.toList.take k) = some m)) (fun i => s.size - (intOf i).toNat)
 case atStart => exact ⟨0, Nat.zero_le _, rfl, H_ ⟨0, rfl⟩⟩
 case round =>
  obtain ⟨k, hk, rfl, hm⟩ := hrel
  by_cases hlt : k < s.size
  · have hbk : s.data.toList[k]? = some s[k] := by rw [List.getElem?_eq_getElem (by simpa using hlt)]; rfl
    have hk0 : (0 : Int) ≤ (k : Int) := by omega
    obtain ⟨b, hb⟩ : ∃ b, b = s[k] := ⟨_, rfl⟩
    by_cases hdg : 48 ≤ b.toNat ∧ b.toNat ≤ 57
    · have hdv : Lib.digitVal s[k] = some (b.toNat - 48) := by rw [← hb]; simp [Lib.digitVal, hdg]
      have HS : Hid (∃ m, Lib.decFrom 0 (s.data.toList.take (k + 1)) = some m) := H_ (by obtain ⟨m, h⟩ := hm.out; exact ⟨_, Lib.decFrom_take _ k 0 m _ _ h hbk hdv⟩)
      have hd1 : ¬ ((b.toNat : Int) < 48) := by omega
      have hd2 : ¬ ((57 : Int) < b.toNat) := by omega
      have hb8 : s[k] = b := hb.symm
      clear hb hbk hdv
      go_wp2_with fail
      exact ⟨⟨k + 1, by omega, by go_num, HS⟩, by simp [intOf]; omega⟩
    · have hdv : Lib.digitVal s[k] = none := by rw [← hb]; simp only [Lib.digitVal]; rw [if_neg hdg]
      have HNN := H_ (Ja s.data.toList 0 k _ hbk hdv)
      have hb8 : s[k] = b := hb.symm
      clear hb hbk hdv
      by_cases hd1 : ((b.toNat : Int) < 48)
      · go_wp2_with fail
        go_ret
        exact ⟨Zg (by rw [HR.out, HNN.out]; rfl), rfl⟩
      · have hd2 : (57 : Int) < b.toNat := by omega
        go_wp2_with fail
        go_ret
        exact ⟨Zg (by rw [HR.out, HNN.out]; rfl), rfl⟩
  · have : k = s.size := by omega
    subst this
    have hm' := hm.out
    rw [← Yu, List.take_length] at hm'
    have HM := H_ hm'
    clear hm'
    go_wp2_with fail
    go_ret
    exact ⟨Zg (by obtain ⟨m, h⟩ := HM.out; rw [HR.out, h]; rfl), rfl⟩
theorem trim_c (l : List UInt8) (w : World) : Calls prog 123 #[.string (bs l), .string ⟨#[45]⟩] w fun e w' => e = .returned (.string (bs (Zi l))) ∧ w' = w :=
 (Tryz.strings_TrimPrefix (bs l) ⟨#[45]⟩ w).mono fun e w' ⟨h1, h2⟩ => ⟨by rw [h1, ← trim_minus]; rfl, h2⟩
theorem below_bytes (w : World) (e : TypeId) (s : ByteArray) : Below w.heap.size w (Lib.bytesWorld w e s) := Go.Joins.below_bytesWorld _ _ _ _ (Nat.le_refl _)
theorem Z2z (l : List UInt8) (hl : l.length ≤ 1048576) (w : World) : Calls prog 74 #[.string (bs l)] w fun e w' => Z6b (Qb l) e ∧ Below w.heap.size w w' := by
 obtain ⟨R, hR⟩ : ∃ R, R = Qb l := ⟨_, rfl⟩
 rw [← hR]
 have HR := H_ hR
 clear hR
 by_cases h0 : l = [48]
 · subst h0
   have HN := H_ Z70
   rw [show bs [48] = ⟨#[48]⟩ from rfl]
   go_enter func74, ntmps74
   go_wp2_with fail
   go_ret2
   exact ⟨by rw [HR.out, HN.out]; rfl, Below.refl _ _⟩
 have hz1 : ((bs l).toList == [48]) = false := by rw [Z5]; simpa using h0
 have hz2 : ¬ (bs l).toList = [48] := by rw [Z5]; exact h0
 have HT := H_ (trim_c l)
 have hdl := Z4h l
 obtain ⟨D, hD⟩ : ∃ D, D = bs (Zi l) := ⟨_, rfl⟩
 have hDs : D.size = (Zi l).length := by rw [hD, Y3]
 have hDl : D.data.toList = Zi l := by rw [hD, Ql]
 rw [← hD] at HT
 have HDl := H_ hDl
 have ID := H_ (Z7d D (by omega))
 by_cases hin : 1 ≤ D.size ∧ D.size ≤ 3
 · have hD0 : 0 < D.size := by omega
   have hD0' : (0 : Int) < (D.size : Int) := by omega
   have hn1 : ¬ ((D.size : Int) < 1) := by omega
   have hn3 : ¬ ((3 : Int) < (D.size : Int)) := by omega
   by_cases h48 : D[0] = 48
   · have hh : ((D[0].toNat : Int) == 48) = true := by rw [h48]; rfl
     have HN := H_ (Vd h0 (fun q => q.2.2 (by rw [← hDl, List.head?_eq_getElem?, List.getElem?_eq_getElem (by rw [hDl]; omega)]; exact congrArg some h48)))
     clear h48 hDs hDl hD hdl
     go_enter func74, ntmps74
     go_wp2_with (go_at_call 123; go_must (refine (HT.out _).mono ?_; rintro e w1 ⟨rfl, rfl⟩))
     go_ret2
     exact ⟨by rw [HR.out, HN.out]; rfl, Below.refl _ _⟩
   · have hh : ((D[0].toNat : Int) == 48) = false := by simp only [beq_eq_false_iff_ne, ne_eq]; intro q; exact h48 (UInt8.toNat_inj.1 (by have : (48 : UInt8).toNat = 48 := rfl; omega))
     have HN := H_ (Z2l h0 ⟨by omega, by omega, fun q => h48 (by rw [← hDl, List.head?_eq_getElem?, List.getElem?_eq_getElem (by rw [hDl]; omega)] at q; exact Option.some.inj q)⟩)
     cases hdc : Lib.decFrom 0 (Zi l) with
     | none =>
       unfold Hid at ID HN
       rw [hDl, hdc] at ID
       rw [hdc] at HN
       have ID := H_ ID
       have HN := H_ HN
       clear h48 hDs hDl hD hdl hdc
       go_enter func74, ntmps74
       go_wp2_with (first | (go_at_call 123; go_must (refine (HT.out _).mono ?_; rintro e w1 ⟨rfl, rfl⟩)) | (go_at_call 124; go_must (refine (ID.out _).mono ?_; rintro e w2 ⟨rfl, rfl⟩)))
       go_ret2
       exact ⟨by rw [HR.out, HN.out]; rfl, Below.refl _ _⟩
     | some m =>
       have AT := H_ (fun W => Tryz.strconv_Atoi (bs l) (Kx l * (m : Int)) (by rw [Y3]; omega) (atoi_num h0 (by intro q; have q' : Zi l = [] := q; have : D.size = 0 := (by rw [hDs, q']; rfl); omega) hdc) W)
       unfold Hid at ID HN
       rw [hDl, hdc] at ID
       rw [hdc] at HN
       have ID := H_ ID
       have HN := H_ HN
       obtain ⟨v, hv⟩ : ∃ v, v = Kx l * (m : Int) := ⟨_, rfl⟩
       rw [← hv] at AT
       have HV := H_ hv
       clear h48 hDs hDl hD hdl hdc hv
       go_enter func74, ntmps74
       go_wp2_with (first | (go_at_call 123; go_must (refine (HT.out _).mono ?_; rintro e w1 ⟨rfl, rfl⟩)) | (go_at_call 124; go_must (refine (ID.out _).mono ?_; rintro e w2 ⟨rfl, rfl⟩)) | (go_at_call 125; go_must (refine (AT.out _).mono ?_; rintro e w3 ⟨rfl, tt, rfl⟩)))
       go_quiet (fail)
       go_wp2_with fail
       go_ret2
       exact ⟨by rw [HR.out, HN.out, HV.out]; rfl, (below_bytes _ _ _).trans ⟨rfl, rfl, rfl, Nat.le_refl _, fun _ _ => rfl⟩⟩
 · have hn : (D.size : Int) < 1 ∨ (3 : Int) < (D.size : Int) := by omega
   have HN := H_ (Vd h0 (fun q => hin ⟨by omega, by omega⟩))
   clear hDs hDl hD hdl
   rcases hn with hn | hn
   · go_enter func74, ntmps74
     go_wp2_with (go_at_call 123; go_must (refine (HT.out _).mono ?_; rintro e w1 ⟨rfl, rfl⟩))
     go_ret2
     exact ⟨by rw [HR.out, HN.out]; rfl, Below.refl _ _⟩
   · have hn1 : ¬ ((D.size : Int) < 1) := by omega
     go_enter func74, ntmps74
     go_wp2_with (go_at_call 123; go_must (refine (HT.out _).mono ?_; rintro e w1 ⟨rfl, rfl⟩))
     go_ret2
     exact ⟨by rw [HR.out, HN.out]; rfl, Below.refl _ _⟩
end Go.Proofs.YtfknoigbkleanaaGreatDoor
