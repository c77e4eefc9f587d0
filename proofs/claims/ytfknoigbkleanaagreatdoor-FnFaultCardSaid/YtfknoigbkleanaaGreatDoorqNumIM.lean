/- The helpers of the laws on slices of strings: marks. Append of a whole slice of texts to a row of the call's own: where the new row lies. The reference model's numerals. The program's numerals. -/
import Derived.Test.YtfknoigbkleanaaGreatDoorProg
import Derived.Test.YtfknoigbkleanaaGreatDoorqB1
import Derived.Deep.QuietTactic
import Derived.BigQuiet
import Derived.Deep.RegionHeld3
import Derived.Test.YtfknoigbkleanaaGreatDoorqB3
import Derived.Deep.LoopGhost
import Derived.Test.YtfknoigbkleanaaGreatDoorqShelf
import Derived.Lib.SmallJoins
namespace Go.Proofs.YtfknoigbkleanaaGreatDoor
open Go.RowKit Go.Proofs.Tryz
set_option maxRecDepth 8000
set_option maxHeartbeats 20000000
set_option linter.unusedVariables false
set_option linter.unusedSimpArgs false
def digs : Nat → Nat → List UInt8 → List UInt8
 | 0, _, acc => acc
 | f + 1, k, acc => if k = 0 then acc else digs f (k / 10) (UInt8.ofNat (48 + k % 10) :: acc)
def markT (k : Nat) : List UInt8 := 109 :: (if k = 0 then [48] else digs k k [])
def Yj (l : List UInt8) : Value := .string (bs l)
def Zn (w : World) (v : Value) (l : List (List UInt8)) : Prop :=
 ∃ p c, v = .slice p l.length c ∧ l.length ≤ 9223372036854775807 ∧ (l ≠ [] → ∃ r off, p = some ⟨r, off, none⟩ ∧ Y4 w r off (l.map Yj))
theorem Zn.move {w w' : World} {v : Value} {l : List (List UInt8)} (h : Zn w v l) (hb : ∀ k, v.ownBlock = some k → w'.heap[k]? = w.heap[k]?) : Zn w' v l := by
 obtain ⟨p, c, rfl, h1, h2⟩ := h
 refine ⟨p, c, rfl, h1, fun hne => ?_⟩
 obtain ⟨r, off, rfl, h3⟩ := h2 hne
 exact ⟨r, off, rfl, h3.move (hb r rfl)⟩
theorem Zn.cell {w : World} {r off : Nat} {l : List (List UInt8)} (h : Y4 w r off (l.map Yj)) {k : Nat} (hk : k < l.length) : w.cell? ⟨r, off + k, none⟩ = some (.string (bs l[k])) :=
 h k _ (by simp [hk, Yj])
def marks (k n : Nat) : List (List UInt8) := (List.range n).map fun j => markT (k + j)
section
variable {P : Program} (w : World)
theorem Z3i (base : Nat) (t ty e : TypeId) (i : TypeInfo) (ht : P.underlying t = some (.slice e)) (hi : P.info? e = some i) (hz : i.zero = some (.string ⟨#[]⟩)) (hsize : i.size = 1) (hby : i.bytes = 16)
 (v : Value) (l : List (List UInt8)) (hown : w.ownsRow base e 1 v l.length (l.map Yj))
 (u : Value) (m : List (List UInt8)) (hu : Zn w u m) (hb : l.length + m.length ≤ 1000000) (hbase : base ≤ w.heap.size) :
 ∃ v' w', (Builtin.append_ #[t, t] ty #[v, u]).run P w = .ok v' w' ∧ w'.ownsRow base e 1 v' (l ++ m).length ((l ++ m).map Yj) ∧ w.grownBy w' v.ownBlock ∧ (v'.ownBlock = v.ownBlock ∨ v'.ownBlock = some w.heap.size) := by
 obtain ⟨p, c, rfl, h1, h2⟩ := hu
 by_cases hm : m = []
 · subst hm
   refine ⟨v, w, ?_, by simpa using hown, ⟨rfl, rfl, rfl, Nat.le_refl _, fun _ _ _ => rfl⟩, .inl rfl⟩
   rcases hown.2 with ⟨rfl, hn⟩ | ⟨g, cap, cur, rfl, _, _, hnc, _⟩
   · cases p with
     | none => simp [Builtin.append_, run_underlying ht, sizeOf, typeInfo, hi, Builtin.lenOf, Builtin.firstCells, hn]
     | some a => simp [Builtin.append_, run_underlying ht, sizeOf, typeInfo, hi, Builtin.lenOf, Builtin.firstCells, loadCells, loadCellsFrom, hn]
   · cases p with
     | none => simp [Builtin.append_, run_underlying ht, sizeOf, typeInfo, hi, Builtin.lenOf, Builtin.firstCells, hnc, storeCells]
     | some a => simp [Builtin.append_, run_underlying ht, sizeOf, typeInfo, hi, Builtin.lenOf, Builtin.firstCells, loadCells, loadCellsFrom, hnc, storeCells]
 · obtain ⟨r, off, rfl, h3⟩ := h2 hm
   have hadd : ∀ j, (⟨r, off, none⟩ : Addr).add j = ⟨r, off + j, none⟩ := fun j => by unfold Addr.add; split <;> simp_all
   have hnews : ∀ j x, (m.map Yj)[j]? = some x → w.cell? ((⟨r, off, none⟩ : Addr).add j) = some x := fun j x hj => by rw [hadd]; exact h3 j x hj
   have h1' : ∀ x ∈ m.map Yj, x.oneCell' = true := fun x hx => by obtain ⟨y, _, rfl⟩ := List.mem_map.1 hx; rfl
   have hl : (m.map Yj).length = m.length * 1 := by simp
   have hmp : 0 < m.length := List.length_pos_iff.2 hm
   have hzs : (Value.string ⟨#[]⟩).cells.size = 1 := rfl
   obtain ⟨v', w', hr, g2, g3, g4⟩ := run_append_own (P := P) w base t ty e i _ 1 16 ht hi hz hsize hby hzs (by decide) v l.length _ hown ⟨r, off, none⟩ m.length c (m.map Yj) hl hnews h1' (by unfold maxLen; omega) (by omega) hbase
   refine ⟨v', w', hr, by simpa using g2, g3, ?_⟩
   rcases hown.2 with ⟨rfl, hn⟩ | ⟨g, cap, cur, rfl, hbg, hg, hnc, hcm, hcs, htake⟩
   · have hr2 := run_append_nil (P := P) w t ty e i _ ht hi hz ⟨r, off, none⟩ m.length c (m.map Yj) (by rw [hsize]; exact hl) hnews hmp (by omega) (by rw [hby]; omega)
     rw [hr] at hr2
     simp only [Result.ok.injEq] at hr2
     obtain ⟨rfl, _⟩ := hr2
     exact .inr rfl
   · by_cases hroom : l.length + m.length ≤ cap
     · have hfit : l.length * i.size + (m.map Yj).length ≤ cur.size := by rw [hl, hcs, hsize]; omega
       have hr2 := run_append_room (P := P) w t ty e i ht hi g l.length cap cur hg ⟨r, off, none⟩ m.length c (m.map Yj) (by rw [hsize]; exact hl) hnews h1' hroom hfit
       rw [hr] at hr2
       simp only [Result.ok.injEq] at hr2
       obtain ⟨rfl, _⟩ := hr2
       exact .inl rfl
     · have holds : ∀ j u, (l.map Yj)[j]? = some u → w.cell? ((⟨g, 0, none⟩ : Addr).add j) = some u := hown.cells (g := g) rfl
       have hr2 := run_append_grow (P := P) w t ty e i _ ht hi hz ⟨g, 0, none⟩ l.length cap _ (by rw [hsize]; exact hown.1) holds ⟨r, off, none⟩ m.length c (m.map Yj) (by rw [hsize]; exact hl) hnews (by omega) (by omega) (growslice_fits (by omega) (by rw [hby]; omega))
       rw [hr] at hr2
       simp only [Result.ok.injEq] at hr2
       obtain ⟨rfl, _⟩ := hr2
       exact .inr rfl
theorem Yg {ops : Array Oper} {rest : List Oper} {o : Oper} {a : Act} {Q : Exit → Act → World → Prop} (hgd : o.guard = none) (s x : Operand) (t : TypeId)
 (ho : o.op = .call { callee := .builtin .append, args := #[s, x], argTypes := #[t, t] })
 (base : Nat) (e : TypeId) (i : TypeInfo) (ht : P.underlying t = some (.slice e)) (hi : P.info? e = some i) (hz : i.zero = some (.string ⟨#[]⟩)) (hsize : i.size = 1) (hby : i.bytes = 16)
 (v : Value) (l : List (List UInt8)) (hs : a.eval s = v) (hown : w.ownsRow base e 1 v l.length (l.map Yj))
 (u : Value) (m : List (List UInt8)) (hx : a.eval x = u) (hu : Zn w u m) (hb : l.length + m.length ≤ 1000000) (hbase : base ≤ w.heap.size)
 (h : ∀ v' w', w'.ownsRow base e 1 v' (l ++ m).length ((l ++ m).map Yj) → w.grownBy w' v.ownBlock → (v'.ownBlock = v.ownBlock ∨ v'.ownBlock = some w.heap.size) → wpList P ops Q rest (a.put o.dst v') w') : wpList P ops Q (o :: rest) a w :=
 wpList_plain hgd fun _ hK => by
  obtain ⟨v', w', hr, h2, h3, h4⟩ := Z3i (P := P) w base t o.type e i ht hi hz hsize hby v l hown u m hu hb hbase
  unfold Oper.wp execOp
  simp only [ho, resolve, invoke, builtin, Sem.run_bind, Sem.run_pure, Result.andThen_ok, List.map_toArray, List.map_cons, List.map_nil, hs, hx, hr]
  exact hK _ _ (h v' w' h2 h3 h4)
end
theorem Z2s (n a b : Int) (w : World) : Calls prog 126 #[.int .i64 n, .int .i64 a, .int .i64 b] w fun e w' => e = .returned (.bool (decide (a ≤ n ∧ n ≤ b))) ∧ w' = w := by
 by_cases h1 : a ≤ n
 · by_cases h2 : n ≤ b
   · have hF : Hid (decide (a ≤ n ∧ n ≤ b) = true) := H_ (by simp [h1, h2])
     go_enter func126, ntmps126
     go_wp2_with fail
     all_goals
      go_ret
      exact ⟨Zh (by first | rfl | (simp; omega)), rfl⟩
   · have hF : Hid (decide (a ≤ n ∧ n ≤ b) = false) := H_ (by simp [h2])
     go_enter func126, ntmps126
     go_wp2_with fail
     all_goals
      go_ret
      exact ⟨Zh (by first | rfl | (simp; omega)), rfl⟩
 · have hF : Hid (decide (a ≤ n ∧ n ≤ b) = false) := H_ (by simp [h1])
   go_enter func126, ntmps126
   go_wp2_with fail
   all_goals
    go_ret
    exact ⟨Zh (by first | rfl | (simp; omega)), rfl⟩
def Z7z (r : Option Int) (e : Ending) : Prop := e = .returned (.tuple #[.int .i64 (r.getD 0), .bool r.isSome])
theorem l2Number_c (l : List UInt8) (hl : l.length ≤ 1048576) (w : World) : Calls prog 122 #[.string (bs l)] w fun e w' => Z7z (Qo l) e ∧ w' = w := by
 obtain ⟨R, hR⟩ : ∃ R, R = Qo l := ⟨_, rfl⟩
 rw [← hR]
 have HR := H_ hR
 clear hR
 by_cases h0 : l = [48]
 · subst h0
   have HN := H_ Z8p
   rw [show bs [48] = ⟨#[48]⟩ from rfl]
   go_enter func122, ntmps122
   go_wp2_with fail
   go_ret2
   exact ⟨by rw [HR.out, HN.out]; rfl, rfl⟩
 have hz1 : ((bs l).toList == [48]) = false := by rw [Z5]; simpa using h0
 have hz2 : ¬ (bs l).toList = [48] := by rw [Z5]; exact h0
 by_cases hneg : ∃ h : 0 < (bs l).size, (bs l)[0] = 45
 · obtain ⟨hpos, h45⟩ := hneg
   have hdig : Zj l = l.drop 1 ∧ Vq l = -1 := by
    cases l with
    | nil => simp [Yf] at hpos
    | cons b r =>
      have : b = 45 := h45
      subst this
      simp [Zj, Vq]
   have hsg := hdig.2
   have hdig := hdig.1
   have h45' : (((bs l)[0].toNat : Int) == 45) = true := by rw [h45]; rfl
   have hp1 : decide ((0 : Int) < (bs l).size) = true := by simp; omega
   have hneg : True := trivial
   go_enter func122, ntmps122
   go_wp2_with fail
   obtain ⟨D, hD⟩ : ∃ D, D = (bs l).extract 1 (bs l).size := ⟨_, rfl⟩
   rw [← hD]
   have hDl : D.data.toList = Zj l := by rw [hD, V8, Xy, Xy, hdig, List.take_of_length_le (by simp [Yf])]
   have hDs : D.size = (Zj l).length := by rw [← hDl]; rfl
   have hDz : (bs l).size - 1 = D.size := by rw [hDs, hdig]; simp [Yf]
   rw [hDz]
   clear hD hneg hdig hDz
   by_cases hin : 1 ≤ (Zj l).length ∧ (Zj l).length ≤ 3
   · have hin2 : decide ((1 : Int) ≤ (D.size : Int) ∧ (D.size : Int) ≤ 3) = true := by rw [hDs]; simp; omega
     have hD0 : 0 < D.size := by omega
     have hD3 : D.size ≤ 3 := by omega
     have hD0' : (0 : Int) < (D.size : Int) := by omega
     have HDs := H_ hDs
     have HDl := H_ hDl
     refine (Z2s _ _ _ _).mono ?_
     rintro e w1 ⟨rfl, rfl⟩
     rw [hin2]
     by_cases h48 : D[0] = 48
     · clear hsg
       have hh : ((D[0].toNat : Int) == 48) = true := by rw [h48]; rfl
       have HN := H_ (Z0c h0 (fun q => q.2.2 (by rw [← hDl, List.head?_eq_getElem?, List.getElem?_eq_getElem (by rw [hDl]; omega)]; exact congrArg some h48)))
       clear h48 hDs hDl hin2
       go_wp2_with fail
       go_ret2
       exact ⟨by rw [HR.out, HN.out]; rfl, rfl⟩
     · have hh : ((D[0].toNat : Int) == 48) = false := by simp only [beq_eq_false_iff_ne, ne_eq]; intro q; exact h48 (UInt8.toNat_inj.1 (by have : (48 : UInt8).toNat = 48 := rfl; omega))
       have HN := H_ (Z4a h0 ⟨hin.1, hin.2, fun q => h48 (by rw [← hDl, List.head?_eq_getElem?, List.getElem?_eq_getElem (by rw [hDl]; omega)] at q; exact Option.some.inj q)⟩)
       have HSG := H_ hsg
       clear h48 hin2 hDs hDl hsg
       go_wp2_with fail
       go_loop [6, 7] (fun n i => ∃ k m : Nat, k ≤ D.size ∧ i = .int .i64 k ∧ Hid (Lib.decFrom 0 ((Zj l).take k) = some m) ∧ m ≤ 999 ∧ n = .int .i64 m) (fun n i => D.size - (intOf i).toNat)
       case atStart => exact ⟨0, 0, Nat.zero_le _, rfl, H_ rfl, by omega, rfl⟩
       case round =>
        obtain ⟨k, m, hk, rfl, hm, hm9, rfl⟩ := hrel
        by_cases hlt : k < D.size
        · have hbk : (Zj l)[k]? = some D[k] := by rw [← HDl.out, List.getElem?_eq_getElem (by rw [HDl.out, ← HDs.out]; exact hlt)]; rfl
          have hk0 : (0 : Int) ≤ (k : Int) := by omega
          obtain ⟨b, hb⟩ : ∃ b, b = D[k] := ⟨_, rfl⟩
          by_cases hdg : 48 ≤ b.toNat ∧ b.toNat ≤ 57
          · have hdv : Lib.digitVal D[k] = some (b.toNat - 48) := by rw [← hb]; simp [Lib.digitVal, hdg]
            have HS := H_ (Lib.decFrom_take (Zj l) k 0 m _ _ hm.out hbk hdv)
            have hbd := Z06 _ _ _ HS.out
            have hle : 10 ^ ((Zj l).take (k + 1)).length ≤ 10 ^ 3 := Nat.pow_le_pow_right (by omega) (by simp; omega)
            have hm2 : m * 10 + (b.toNat - 48) ≤ 999 := by omega
            have hd1 : ¬ ((b.toNat : Int) < 48) := by omega
            have hd2 : ¬ ((57 : Int) < b.toNat) := by omega
            rw [← hb] at hbk hdv
            have hb8 : D[k] = b := hb.symm
            clear hb hbk hdv hbd hle
            go_wp2_with fail
            exact ⟨⟨k + 1, m * 10 + (b.toNat - 48), by omega, by go_num, HS, hm2, by go_num⟩, by simp [intOf]; omega⟩
          · have hdv : Lib.digitVal D[k] = none := by rw [← hb]; simp only [Lib.digitVal]; rw [if_neg hdg]
            have HNN := H_ (Ji (Zj l) 0 k _ hbk hdv)
            have hb8 : D[k] = b := hb.symm
            clear hb hbk hdv
            by_cases hd1 : ((b.toNat : Int) < 48)
            · go_wp2_with fail
              go_ret2
              exact ⟨by rw [HR.out, HN.out, HNN.out]; rfl, rfl⟩
            · have hd2 : (57 : Int) < b.toNat := by omega
              go_wp2_with fail
              go_ret2
              exact ⟨by rw [HR.out, HN.out, HNN.out]; rfl, rfl⟩
        · have : k = D.size := by omega
          subst this
          have hm' := hm.out
          rw [HDs.out, List.take_length] at hm'
          have HM := H_ hm'
          clear hm'
          go_wp2_with fail
          go_ret2
          exact ⟨by rw [HR.out, HN.out, HM.out]; simp [Z7z, HSG.out], rfl⟩
   · have hin2 : decide ((1 : Int) ≤ (D.size : Int) ∧ (D.size : Int) ≤ 3) = false := by rw [hDs]; simp; omega
     have HN := H_ (Z0c h0 (fun q => hin ⟨q.1, q.2.1⟩))
     refine (Z2s _ _ _ _).mono ?_
     rintro e w1 ⟨rfl, rfl⟩
     rw [hin2]
     go_wp2_with fail
     go_ret2
     exact ⟨by rw [HR.out, HN.out]; rfl, rfl⟩
 · have hdig : Zj l = l ∧ Vq l = 1 := by
    cases l with
    | nil => simp [Zj, Vq]
    | cons b r =>
      have : ¬ b = 45 := fun e => hneg ⟨by rw [Yf]; simp, e⟩
      simp [Zj, Vq, this]
   have hsg := hdig.2
   have hdig := hdig.1
   by_cases hpos : 0 < (bs l).size
   · have h45 : ¬ (bs l)[0] = 45 := fun e => hneg ⟨hpos, e⟩
     have h45' : (((bs l)[0].toNat : Int) == 45) = false := by simp only [beq_eq_false_iff_ne, ne_eq]; intro q; exact h45 (UInt8.toNat_inj.1 (by have : (45 : UInt8).toNat = 45 := rfl; omega))
     have hp1 : decide ((0 : Int) < (bs l).size) = true := by simp; omega
     go_enter func122, ntmps122
     go_wp2_with fail
     have hDl : (bs l).data.toList = Zj l := by rw [Xy, hdig]
     have hDs : (bs l).size = (Zj l).length := by rw [← hDl]; rfl
     clear hneg hdig
     by_cases hin : 1 ≤ (Zj l).length ∧ (Zj l).length ≤ 3
     · have hin2 : decide ((1 : Int) ≤ ((bs l).size : Int) ∧ ((bs l).size : Int) ≤ 3) = true := by rw [hDs]; simp; omega
       have hD0 : 0 < (bs l).size := by omega
       have hD3 : (bs l).size ≤ 3 := by omega
       have hD0' : (0 : Int) < ((bs l).size : Int) := by omega
       have HDs := H_ hDs
       have HDl := H_ hDl
       refine (Z2s _ _ _ _).mono ?_
       rintro e w1 ⟨rfl, rfl⟩
       rw [hin2]
       by_cases h48 : (bs l)[0] = 48
       · clear hsg
         have hh : (((bs l)[0].toNat : Int) == 48) = true := by rw [h48]; rfl
         have HN := H_ (Z0c h0 (fun q => q.2.2 (by rw [← hDl, List.head?_eq_getElem?, List.getElem?_eq_getElem (by rw [hDl]; omega)]; exact congrArg some h48)))
         clear h48 hDs hDl hin2
         go_wp2_with fail
         go_ret2
         exact ⟨by rw [HR.out, HN.out]; rfl, rfl⟩
       · have hh : (((bs l)[0].toNat : Int) == 48) = false := by simp only [beq_eq_false_iff_ne, ne_eq]; intro q; exact h48 (UInt8.toNat_inj.1 (by have : (48 : UInt8).toNat = 48 := rfl; omega))
         have HN := H_ (Z4a h0 ⟨hin.1, hin.2, fun q => h48 (by rw [← hDl, List.head?_eq_getElem?, List.getElem?_eq_getElem (by rw [hDl]; omega)] at q; exact Option.some.inj q)⟩)
         have HSG := H_ hsg
         clear h48 hin2 hDs hDl hsg
         go_wp2_with fail
         go_loop [6, 7] (fun n i => ∃ k m : Nat, k ≤ (bs l).size ∧ i = .int .i64 k ∧ Hid (Lib.decFrom 0 ((Zj l).take k) = some m) ∧ m ≤ 999 ∧ n = .int .i64 m) (fun n i => (bs l).size - (intOf i).toNat)
         case atStart => exact ⟨0, 0, Nat.zero_le _, rfl, H_ rfl, by omega, rfl⟩
         case round =>
          obtain ⟨k, m, hk, rfl, hm, hm9, rfl⟩ := hrel
          by_cases hlt : k < (bs l).size
          · have hbk : (Zj l)[k]? = some (bs l)[k] := by rw [← HDl.out, List.getElem?_eq_getElem (by rw [HDl.out, ← HDs.out]; exact hlt)]; rfl
            have hk0 : (0 : Int) ≤ (k : Int) := by omega
            obtain ⟨b, hb⟩ : ∃ b, b = (bs l)[k] := ⟨_, rfl⟩
            by_cases hdg : 48 ≤ b.toNat ∧ b.toNat ≤ 57
            · have hdv : Lib.digitVal (bs l)[k] = some (b.toNat - 48) := by rw [← hb]; simp [Lib.digitVal, hdg]
              have HS := H_ (Lib.decFrom_take (Zj l) k 0 m _ _ hm.out hbk hdv)
              have hbd := Z06 _ _ _ HS.out
              have hle : 10 ^ ((Zj l).take (k + 1)).length ≤ 10 ^ 3 := Nat.pow_le_pow_right (by omega) (by simp; omega)
              have hm2 : m * 10 + (b.toNat - 48) ≤ 999 := by omega
              have hd1 : ¬ ((b.toNat : Int) < 48) := by omega
              have hd2 : ¬ ((57 : Int) < b.toNat) := by omega
              rw [← hb] at hbk hdv
              have hb8 : (bs l)[k] = b := hb.symm
              clear hb hbk hdv hbd hle
              go_wp2_with fail
              exact ⟨⟨k + 1, m * 10 + (b.toNat - 48), by omega, by go_num, HS, hm2, by go_num⟩, by simp [intOf]; omega⟩
            · have hdv : Lib.digitVal (bs l)[k] = none := by rw [← hb]; simp only [Lib.digitVal]; rw [if_neg hdg]
              have HNN := H_ (Ji (Zj l) 0 k _ hbk hdv)
              have hb8 : (bs l)[k] = b := hb.symm
              clear hb hbk hdv
              by_cases hd1 : ((b.toNat : Int) < 48)
              · go_wp2_with fail
                go_ret2
                exact ⟨by rw [HR.out, HN.out, HNN.out]; rfl, rfl⟩
              · have hd2 : (57 : Int) < b.toNat := by omega
                go_wp2_with fail
                go_ret2
                exact ⟨by rw [HR.out, HN.out, HNN.out]; rfl, rfl⟩
          · have : k = (bs l).size := by omega
            subst this
            have hm' := hm.out
            rw [HDs.out, List.take_length] at hm'
            have HM := H_ hm'
            clear hm'
            go_wp2_with fail
            go_ret2
            exact ⟨by rw [HR.out, HN.out, HM.out]; simp [Z7z, HSG.out], rfl⟩
     · have hin2 : decide ((1 : Int) ≤ ((bs l).size : Int) ∧ ((bs l).size : Int) ≤ 3) = false := by rw [hDs]; simp; omega
       have HN := H_ (Z0c h0 (fun q => hin ⟨q.1, q.2.1⟩))
       refine (Z2s _ _ _ _).mono ?_
       rintro e w1 ⟨rfl, rfl⟩
       rw [hin2]
       go_wp2_with fail
       go_ret2
       exact ⟨by rw [HR.out, HN.out]; rfl, rfl⟩
   · have hl0 : l = [] := by rw [Yf] at hpos; exact List.eq_nil_of_length_eq_zero (by omega)
     subst hl0
     have HN := H_ (show Qo [] = none from rfl)
     rw [show bs [] = ⟨#[]⟩ from rfl]
     clear hz1 hz2 hpos hneg hdig hsg
     go_enter func122, ntmps122
     go_wp2_with (go_at_call 126; go_must (refine (Z2s _ _ _ _).mono ?_; rintro e w1 ⟨rfl, rfl⟩))
     go_ret2
     exact ⟨by rw [HR.out, HN.out]; rfl, rfl⟩
theorem Z94 (s : ByteArray) (hs : s.size ≤ 1048576) (w : World) : Calls prog 124 #[.string s] w fun e w' => e = .returned (.bool (Lib.decFrom 0 s.data.toList).isSome) ∧ w' = w := by
 obtain ⟨R, hR⟩ : ∃ R, R = (Lib.decFrom 0 s.data.toList).isSome := ⟨_, rfl⟩
 rw [← hR]
 have HR := H_ hR
 clear hR
 go_enter func124, ntmps124
 go_wp2_with fail
 go_loop [6] (fun i => ∃ k : Nat, k ≤ s.size ∧ i = .int .i64 k ∧ Hid (∃ m, Lib.decFrom 0 (s.data.toList.take k) = some m)) (fun i => s.size - (intOf i).toNat)
 case atStart => exact ⟨0, Nat.zero_le _, rfl, H_ ⟨0, rfl⟩⟩
 case round =>
  obtain ⟨k, hk, rfl, hm⟩ := hrel
  by_cases hlt : k < s.size
  · have hbk : s.data.toList[k]? = some s[k] := by rw [List.getElem?_eq_getElem (by simpa using hlt)]; rfl
    have hk0 : (0 : Int) ≤ (k : Int) := by omega
    obtain ⟨b, hb⟩ : ∃ b, b = s[k] := ⟨_, rfl⟩
    by_cases hdg : 48 ≤ b.toNat ∧ b.toNat ≤ 57
    · have hdv : Lib.digitVal s[k] = some (b.toNat - 48) := by rw [← hb]; simp [Lib.digitVal, hdg]
      have HS : Hid (∃ m, Lib.decFrom 0 (s.data.toList.take (k + 1)) = some m) := H_ (by obtain ⟨m, h⟩ := hm.out; exact ⟨_, Lib.decFrom_take _ k 0 m _ _ h hbk hdv⟩)
      have hd1 : ¬ ((b.toNat : Int) < 48) := by omega
      have hd2 : ¬ ((57 : Int) < b.toNat) := by omega
      have hb8 : s[k] = b := hb.symm
      clear hb hbk hdv
      go_wp2_with fail
      exact ⟨⟨k + 1, by omega, by go_num, HS⟩, by simp [intOf]; omega⟩
    · have hdv : Lib.digitVal s[k] = none := by rw [← hb]; simp only [Lib.digitVal]; rw [if_neg hdg]
      have HNN := H_ (Ji s.data.toList 0 k _ hbk hdv)
      have hb8 : s[k] = b := hb.symm
      clear hb hbk hdv
      by_cases hd1 : ((b.toNat : Int) < 48)
      · go_wp2_with fail
        go_ret
        exact ⟨Zh (by rw [HR.out, HNN.out]; rfl), rfl⟩
      · have hd2 : (57 : Int) < b.toNat := by omega
        go_wp2_with fail
        go_ret
        exact ⟨Zh (by rw [HR.out, HNN.out]; rfl), rfl⟩
  · have : k = s.size := by omega
    subst this
    have hm' := hm.out
    rw [← X5, List.take_length] at hm'
    have HM := H_ hm'
    clear hm'
    go_wp2_with fail
    go_ret
    exact ⟨Zh (by obtain ⟨m, h⟩ := HM.out; rw [HR.out, h]; rfl), rfl⟩
theorem trim_c (l : List UInt8) (w : World) : Calls prog 123 #[.string (bs l), .string ⟨#[45]⟩] w fun e w' => e = .returned (.string (bs (Zj l))) ∧ w' = w :=
 (Tryz.strings_TrimPrefix (bs l) ⟨#[45]⟩ w).mono fun e w' ⟨h1, h2⟩ => ⟨by rw [h1, ← trim_minus]; rfl, h2⟩
theorem below_bytes (w : World) (e : TypeId) (s : ByteArray) : Below w.heap.size w (Lib.bytesWorld w e s) := Go.Joins.below_bytesWorld _ _ _ _ (Nat.le_refl _)
theorem Z4t (l : List UInt8) (hl : l.length ≤ 1048576) (w : World) : Calls prog 74 #[.string (bs l)] w fun e w' => Z7z (Qo l) e ∧ Below w.heap.size w w' := by
 obtain ⟨R, hR⟩ : ∃ R, R = Qo l := ⟨_, rfl⟩
 rw [← hR]
 have HR := H_ hR
 clear hR
 by_cases h0 : l = [48]
 · subst h0
   have HN := H_ Z8p
   rw [show bs [48] = ⟨#[48]⟩ from rfl]
   go_enter func74, ntmps74
   go_wp2_with fail
   go_ret2
   exact ⟨by rw [HR.out, HN.out]; rfl, Below.refl _ _⟩
 have hz1 : ((bs l).toList == [48]) = false := by rw [Z5]; simpa using h0
 have hz2 : ¬ (bs l).toList = [48] := by rw [Z5]; exact h0
 have HT := H_ (trim_c l)
 have hdl := Z61 l
 obtain ⟨D, hD⟩ : ∃ D, D = bs (Zj l) := ⟨_, rfl⟩
 have hDs : D.size = (Zj l).length := by rw [hD, Yf]
 have hDl : D.data.toList = Zj l := by rw [hD, Xy]
 rw [← hD] at HT
 have HDl := H_ hDl
 have ID := H_ (Z94 D (by omega))
 by_cases hin : 1 ≤ D.size ∧ D.size ≤ 3
 · have hD0 : 0 < D.size := by omega
   have hD0' : (0 : Int) < (D.size : Int) := by omega
   have hn1 : ¬ ((D.size : Int) < 1) := by omega
   have hn3 : ¬ ((3 : Int) < (D.size : Int)) := by omega
   by_cases h48 : D[0] = 48
   · have hh : ((D[0].toNat : Int) == 48) = true := by rw [h48]; rfl
     have HN := H_ (Z0c h0 (fun q => q.2.2 (by rw [← hDl, List.head?_eq_getElem?, List.getElem?_eq_getElem (by rw [hDl]; omega)]; exact congrArg some h48)))
     clear h48 hDs hDl hD hdl
     go_enter func74, ntmps74
     go_wp2_with (go_at_call 123; go_must (refine (HT.out _).mono ?_; rintro e w1 ⟨rfl, rfl⟩))
     go_ret2
     exact ⟨by rw [HR.out, HN.out]; rfl, Below.refl _ _⟩
   · have hh : ((D[0].toNat : Int) == 48) = false := by simp only [beq_eq_false_iff_ne, ne_eq]; intro q; exact h48 (UInt8.toNat_inj.1 (by have : (48 : UInt8).toNat = 48 := rfl; omega))
     have HN := H_ (Z4a h0 ⟨by omega, by omega, fun q => h48 (by rw [← hDl, List.head?_eq_getElem?, List.getElem?_eq_getElem (by rw [hDl]; omega)] at q; exact Option.some.inj q)⟩)
     cases hdc : Lib.decFrom 0 (Zj l) with
     | none =>
       unfold Hid at ID HN
       rw [hDl, hdc] at ID
       rw [hdc] at HN
       have ID := H_ ID
       have HN := H_ HN
       clear h48 hDs hDl hD hdl hdc
       go_enter func74, ntmps74
       go_wp2_with (first | (go_at_call 123; go_must (refine (HT.out _).mono ?_; rintro e w1 ⟨rfl, rfl⟩)) | (go_at_call 124; go_must (refine (ID.out _).mono ?_; rintro e w2 ⟨rfl, rfl⟩)))
       go_ret2
       exact ⟨by rw [HR.out, HN.out]; rfl, Below.refl _ _⟩
     | some m =>
       have AT := H_ (fun W => Tryz.strconv_Atoi (bs l) (Vq l * (m : Int)) (by rw [Yf]; omega) (atoi_num h0 (by intro q; have q' : Zj l = [] := q; have : D.size = 0 := (by rw [hDs, q']; rfl); omega) hdc) W)
       unfold Hid at ID HN
       rw [hDl, hdc] at ID
       rw [hdc] at HN
       have ID := H_ ID
       have HN := H_ HN
       obtain ⟨v, hv⟩ : ∃ v, v = Vq l * (m : Int) := ⟨_, rfl⟩
       rw [← hv] at AT
       have HV := H_ hv
       clear h48 hDs hDl hD hdl hdc hv
       go_enter func74, ntmps74
       go_wp2_with (first | (go_at_call 123; go_must (refine (HT.out _).mono ?_; rintro e w1 ⟨rfl, rfl⟩)) | (go_at_call 124; go_must (refine (ID.out _).mono ?_; rintro e w2 ⟨rfl, rfl⟩)) | (go_at_call 125; go_must (refine (AT.out _).mono ?_; rintro e w3 ⟨rfl, tt, rfl⟩)))
       go_quiet (fail)
       go_wp2_with fail
       go_ret2
       exact ⟨by rw [HR.out, HN.out, HV.out]; rfl, (below_bytes _ _ _).trans ⟨rfl, rfl, rfl, Nat.le_refl _, fun _ _ => rfl⟩⟩
 · have hn : (D.size : Int) < 1 ∨ (3 : Int) < (D.size : Int) := by omega
   have HN := H_ (Z0c h0 (fun q => hin ⟨by omega, by omega⟩))
   clear hDs hDl hD hdl
   rcases hn with hn | hn
   · go_enter func74, ntmps74
     go_wp2_with (go_at_call 123; go_must (refine (HT.out _).mono ?_; rintro e w1 ⟨rfl, rfl⟩))
     go_ret2
     exact ⟨by rw [HR.out, HN.out]; rfl, Below.refl _ _⟩
   · have hn1 : ¬ ((D.size : Int) < 1) := by omega
     go_enter func74, ntmps74
     go_wp2_with (go_at_call 123; go_must (refine (HT.out _).mono ?_; rintro e w1 ⟨rfl, rfl⟩))
     go_ret2
     exact ⟨by rw [HR.out, HN.out]; rfl, Below.refl _ _⟩
end Go.Proofs.YtfknoigbkleanaaGreatDoor
