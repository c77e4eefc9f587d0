/- strings.Builder at this cut: what a used builder's writers do. -/
import Derived.Test.YtjaaalojcdbcpaaGreatDoorpShelf
import Derived.Test.YtjaaalojcdbcpaaGreatDoorpB1
import Derived.Lib.FrozenHead2
import Derived.Lib.OthersKept
set_option maxHeartbeats 20000000
set_option linter.unusedVariables false
set_option linter.unusedSimpArgs false
namespace Go.Proofs.YtjaaalojcdbcpaaGreatDoor
open Go.RowKit Go.Proofs.Tryz
set_option maxRecDepth 8000
theorem Tryz.infoByte : (prog.info? 5).map (fun i => (i.zero, i.size, i.bytes)) = some (some (.int .u8 0), 1, 1) := by kernel_rfl
def Bld (B b : Nat) (l : List UInt8) (w : World) : Prop := Lib.BuilderAtF 118 5 B b (.pointer (some ⟨b, 0, none⟩)) (Lib.byteCells l) w
theorem Bld.blk {B b : Nat} {l : List UInt8} {w : World} (h : Bld B b l w) : B ≤ b ∧ ∃ p n c, w.heap[b]? = some (.cells #[.pointer (some ⟨b, 0, none⟩), .slice p n c] 118 (0, 0)) := by
 obtain ⟨hB, v, hb, hown, hne⟩ := h
 rcases hown.2 with ⟨rfl, _⟩ | ⟨g, cap, cur, fz, rfl, _⟩
 · exact ⟨hB, _, _, _, hb⟩
 · exact ⟨hB, _, _, _, hb⟩
theorem Tryz.sizeBuilder : (prog.info? 118).map (fun i => i.size) = some 2 := by kernel_rfl
theorem bld_slice {w : World} {B e n : Nat} {v : Value} {xs : List Value} (h : w.ownsRowF B e 1 v (n + 1) xs) : ∃ g cap, v = .slice (some ⟨g, 0, none⟩) (n + 1) cap := by
 rcases h.2 with ⟨_, h0⟩ | ⟨g, cap, cur, fz, hv, _⟩
 · omega
 · exact ⟨g, cap, hv⟩
theorem bld_slice2 {w : World} {B e n : Nat} {v : Value} {xs : List Value} (h : w.ownsRowF B e 1 v n xs) : ∃ g n' cap, v = .slice g n' cap := by
 rcases h.2 with ⟨hv, _⟩ | ⟨g, cap, cur, fz, hv, _⟩
 · exact ⟨_, _, _, hv⟩
 · exact ⟨_, _, _, hv⟩
theorem Z1x (b : Nat) (p : Value) (w : World) (hb : w.heap[b]? = some (.cells #[.pointer (some ⟨b, 0, none⟩), p] 118 (0, 0))) :
 Calls prog 133 #[.pointer (some ⟨b, 0, none⟩)] w fun e w' => e = .returned (.tuple #[]) ∧ w = w' := by
 have c0 := Z8 (j := 0) hb
 go_enter func133, ntmps133
 go_wp2_with fail
 obtain ⟨j, hj, _⟩ := Option.map_eq_some_iff.1 Tryz.sizeBuilder
 rw [Lib.run_neq_ptr_same w _ underlying116 hj]
 go_wp2_with fail
 go_end0
 exact ⟨rfl, rfl⟩
theorem Z20 (B b : Nat) (l : List UInt8) (c : UInt8) (x : Int) (hx : x = c.toNat) (w : World) (h : Bld B b l w) (hlen : l.length + 1 ≤ 140737488355328) (hBw : B ≤ w.heap.size) :
 Calls prog 136 #[.pointer (some ⟨b, 0, none⟩), .int .u8 x] w fun e w' => e = .returned .nilIface ∧ Bld B b (l ++ [c]) w' ∧ Below B w w' ∧ Lib.OthersKept 5 (some b) w w' := by
 subst hx
 obtain ⟨i0, hi, hz0, hz1, hz2⟩ := info_parts Tryz.infoByte
 obtain ⟨hB, v, hbk, hown, hne⟩ := h
 have hll : (Lib.byteCells l).length = l.length := by simp [Lib.byteCells]
 rw [hll] at hown
 obtain ⟨p, n, cc, rfl⟩ : ∃ p n cc, v = .slice p n cc := by
  rcases hown.2 with ⟨hv, _⟩ | ⟨g, cap, cur, fz, hv, _⟩
  · exact ⟨_, _, _, hv⟩
  · exact ⟨_, _, _, hv⟩
 have hlt := lt_of_block hbk
 obtain ⟨c0, c1⟩ := Zm hbk
 have HO := H_ hown
 have HNE := H_ hne
 clear hown hne hll
 go_enter func136, ntmps136
 go_wp2_with (first | (go_at_call 133; go_must (refine (Z1x b _ _ hbk).mono ?_; rintro e w1 ⟨rfl, rfl⟩)) | (at_builtin; go_must (refine wpList_append_ownF _ rfl _ _ 26 rfl B 5 i0 (.int .u8 0) 1 1 underlying26 hi hz0 hz1 hz2 rfl (by decide) _ _ _ rfl (HO.out.alloc _) ⟨w.heap.size, 0, none⟩ 1 1 [.int .u8 c.toNat] rfl rfl (X4 (heap_alloc_new _ _)) (by intro u hu; simp at hu; subst hu; rfl) (by unfold maxLen; omega) (by omega) (by simp; omega) ?_; intro v' w2 hown' hgrow _; have hb2 := Ya hgrow (Zc hbk) HNE.out; obtain ⟨g, cap, rfl⟩ := bld_slice hown'; obtain ⟨d0, d1⟩ := Zm hb2; have f1 := Yg (j := 1) hb2)))
 go_ret
 refine ⟨rfl, ?_, ?_, ?_⟩
 · exact Lib.BuilderAtF.put hB hb2 (bs' := Lib.byteCells (l ++ [c])) (by simpa [Lib.byteCells] using hown') (by decide)
 · exact (((Below.refl B w).alloc hBw _).grown hgrow (by simp; omega) (fun k hk => (HO.out.lt k hk).1)).setCell (p := ⟨b, 1, none⟩) hB _
 · exact (((Lib.OthersKept.refl _ _ _).alloc _).grown hgrow (Lib.ownsRowF_kind (HO.out.alloc _))).setCell ⟨b, 1, none⟩ rfl _
theorem WriteString_c (B b : Nat) (l s : List UInt8) (w : World) (h : Bld B b l w) (hlen : l.length + s.length ≤ 140737488355328) (hBw : B ≤ w.heap.size) :
 Calls prog 135 #[.pointer (some ⟨b, 0, none⟩), .string (bs s)] w fun e w' => e = .returned (.tuple #[.int .i64 s.length, .nilIface]) ∧ Bld B b (l ++ s) w' ∧ Below B w w' ∧ Lib.OthersKept 5 (some b) w w' := by
 obtain ⟨i0, hi, hz0, hz1, hz2⟩ := info_parts Tryz.infoByte
 obtain ⟨hB, v, hbk, hown, hne⟩ := h
 have hll : (Lib.byteCells l).length = l.length := by simp [Lib.byteCells]
 rw [hll] at hown
 obtain ⟨p, n, cc, rfl⟩ : ∃ p n cc, v = .slice p n cc := by
  rcases hown.2 with ⟨hv, _⟩ | ⟨g, cap, cur, fz, hv, _⟩
  · exact ⟨_, _, _, hv⟩
  · exact ⟨_, _, _, hv⟩
 have hlt := lt_of_block hbk
 obtain ⟨c0, c1⟩ := Zm hbk
 have HO := H_ hown
 have HNE := H_ hne
 have hbs := Xj s
 have HBS := H_ hbs
 have hl2 : l.length + (bs s).size ≤ 140737488355328 := by rw [hbs]; exact hlen
 clear hown hne hll hbs
 go_enter func135, ntmps135
 go_wp2_with (first | (go_at_call 133; go_must (refine (Z1x b _ _ hbk).mono ?_; rintro e w1 ⟨rfl, rfl⟩)) | (at_builtin; go_must (refine Lib.wpList_append_own_stringF _ rfl _ _ 26 9 rfl B 5 i0 underlying26 underlying9 hi hz0 hz1 hz2 _ _ _ rfl HO.out (bs s) rfl (by unfold maxLen; omega) hl2 hBw ?_; intro v' w2 hown' hgrow _; have hb2 := Ya hgrow hbk HNE.out; obtain ⟨g, n2, cap, rfl⟩ := bld_slice2 hown'; obtain ⟨d0, d1⟩ := Zm hb2; have f1 := Yg (j := 1) hb2)))
 go_ret2
 refine ⟨rfl, ?_, ?_, ?_⟩
 · exact Lib.BuilderAtF.put hB hb2 (bs' := Lib.byteCells (l ++ s)) (by have h3 := HBS.out; rw [h3] at hown'; simpa [Lib.byteCells, Lib.strCells, bs] using hown') (by decide)
 · exact ((Below.refl B w).grown hgrow hBw (fun k hk => (HO.out.lt k hk).1)).setCell (p := ⟨b, 1, none⟩) hB _
 · exact ((Lib.OthersKept.refl _ _ _).grown hgrow (Lib.ownsRowF_kind HO.out)).setCell ⟨b, 1, none⟩ rfl _
end Go.Proofs.YtjaaalojcdbcpaaGreatDoor
