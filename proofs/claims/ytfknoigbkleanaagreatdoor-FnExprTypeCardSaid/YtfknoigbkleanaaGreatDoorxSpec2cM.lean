/- The program's expressions: heads and kids by the methods of their types. strings.Builder at this cut: what a used builder's writers do. The reference model reads whole texts as expressions. -/
import Derived.Test.YtfknoigbkleanaaGreatDoorxI2e
import Derived.Test.YtfknoigbkleanaaGreatDoorxB3
import Derived.Handy
import Derived.Test.YtfknoigbkleanaaGreatDoorxShelf
import Derived.Test.YtfknoigbkleanaaGreatDoorxB1
import Derived.Lib.FrozenHead2
import Derived.Lib.OthersKept
import Derived.Test.YtfknoigbkleanaaGreatDoorxSpec2b
import Derived.Deep.RegionWith
namespace Go.Proofs.YtfknoigbkleanaaGreatDoor
open Go.RowKit Go.Proofs.Tryz
set_option maxRecDepth 8000
set_option maxHeartbeats 20000000
set_option linter.unusedVariables false
set_option linter.unusedSimpArgs false
theorem head_name_c (vs : Array Value) (w : World) : Calls prog 246 #[.agg vs] w fun e w' => e = .returned (.string (bs [110, 97, 109, 101])) ∧ Below w.heap.size w w' := by
 rw [show bs [110, 97, 109, 101] = ⟨#[110, 97, 109, 101]⟩ from rfl]
 go_enter func246, ntmps246
 go_wp2_with fail
 go_ret
 exact ⟨rfl, Z4 _ _⟩
theorem head_number_c (vs : Array Value) (w : World) : Calls prog 254 #[.agg vs] w fun e w' => e = .returned (.string (bs [110, 117, 109, 98, 101, 114])) ∧ Below w.heap.size w w' := by
 rw [show bs [110, 117, 109, 98, 101, 114] = ⟨#[110, 117, 109, 98, 101, 114]⟩ from rfl]
 go_enter func254, ntmps254
 go_wp2_with fail
 go_ret
 exact ⟨rfl, Z4 _ _⟩
theorem head_add_c (vs : Array Value) (w : World) : Calls prog 257 #[.agg vs] w fun e w' => e = .returned (.string (bs [43])) ∧ Below w.heap.size w w' := by
 rw [show bs [43] = ⟨#[43]⟩ from rfl]
 go_enter func257, ntmps257
 go_wp2_with fail
 go_ret
 exact ⟨rfl, Z4 _ _⟩
theorem head_sub_c (vs : Array Value) (w : World) : Calls prog 259 #[.agg vs] w fun e w' => e = .returned (.string (bs [45])) ∧ Below w.heap.size w w' := by
 rw [show bs [45] = ⟨#[45]⟩ from rfl]
 go_enter func259, ntmps259
 go_wp2_with fail
 go_ret
 exact ⟨rfl, Z4 _ _⟩
theorem head_mul_c (vs : Array Value) (w : World) : Calls prog 261 #[.agg vs] w fun e w' => e = .returned (.string (bs [42])) ∧ Below w.heap.size w w' := by
 rw [show bs [42] = ⟨#[42]⟩ from rfl]
 go_enter func261, ntmps261
 go_wp2_with fail
 go_ret
 exact ⟨rfl, Z4 _ _⟩
theorem head_if_c (vs : Array Value) (w : World) : Calls prog 263 #[.agg vs] w fun e w' => e = .returned (.string (bs [105, 102])) ∧ Below w.heap.size w w' := by
 rw [show bs [105, 102] = ⟨#[105, 102]⟩ from rfl]
 go_enter func263, ntmps263
 go_wp2_with fail
 go_ret
 exact ⟨rfl, Z4 _ _⟩
theorem head_let_c (vs : Array Value) (w : World) : Calls prog 240 #[.agg vs] w fun e w' => e = .returned (.string (bs [108, 101, 116])) ∧ Below w.heap.size w w' := by
 rw [show bs [108, 101, 116] = ⟨#[108, 101, 116]⟩ from rfl]
 go_enter func240, ntmps240
 go_wp2_with fail
 go_ret
 exact ⟨rfl, Z4 _ _⟩
theorem head_fun_c (vs : Array Value) (w : World) : Calls prog 243 #[.agg vs] w fun e w' => e = .returned (.string (bs [102, 117, 110])) ∧ Below w.heap.size w w' := by
 rw [show bs [102, 117, 110] = ⟨#[102, 117, 110]⟩ from rfl]
 go_enter func243, ntmps243
 go_wp2_with fail
 go_ret
 exact ⟨rfl, Z4 _ _⟩
theorem head_call_c (vs : Array Value) (w : World) : Calls prog 266 #[.agg vs] w fun e w' => e = .returned (.string (bs [99, 97, 108, 108])) ∧ Below w.heap.size w w' := by
 rw [show bs [99, 97, 108, 108] = ⟨#[99, 97, 108, 108]⟩ from rfl]
 go_enter func266, ntmps266
 go_wp2_with fail
 go_ret
 exact ⟨rfl, Z4 _ _⟩
theorem head_pair_c (vs : Array Value) (w : World) : Calls prog 251 #[.agg vs] w fun e w' => e = .returned (.string (bs [112, 97, 105, 114])) ∧ Below w.heap.size w w' := by
 rw [show bs [112, 97, 105, 114] = ⟨#[112, 97, 105, 114]⟩ from rfl]
 go_enter func251, ntmps251
 go_wp2_with fail
 go_ret
 exact ⟨rfl, Z4 _ _⟩
theorem head_fst_c (vs : Array Value) (w : World) : Calls prog 269 #[.agg vs] w fun e w' => e = .returned (.string (bs [102, 115, 116])) ∧ Below w.heap.size w w' := by
 rw [show bs [102, 115, 116] = ⟨#[102, 115, 116]⟩ from rfl]
 go_enter func269, ntmps269
 go_wp2_with fail
 go_ret
 exact ⟨rfl, Z4 _ _⟩
theorem head_snd_c (vs : Array Value) (w : World) : Calls prog 272 #[.agg vs] w fun e w' => e = .returned (.string (bs [115, 110, 100])) ∧ Below w.heap.size w w' := by
 rw [show bs [115, 110, 100] = ⟨#[115, 110, 100]⟩ from rfl]
 go_enter func272, ntmps272
 go_wp2_with fail
 go_ret
 exact ⟨rfl, Z4 _ _⟩
theorem Z0j {s : ByteArray} (hs : s.size ≤ 1048576) (hp : Yf s.data.toList = none) (W : World) : Calls prog 46 #[.string s] W fun e w' => (∃ v, e = .returned (.tuple #[v, .bool false])) ∧ Below W.heap.size W w' :=
 (Z6v s hs W).mono fun e w' ⟨h1, h2⟩ => ⟨by rw [hp] at h1; exact rdPost_shape h1, h2⟩
theorem Z0i {s : ByteArray} (hs : s.size ≤ 1048576) {x : Ex} (hp : Yf s.data.toList = some x) (W : World) : Calls prog 46 #[.string s] W fun e w' => (∃ v, e = .returned (.tuple #[v, .bool true]) ∧ EV w' (fun k => W.heap.size ≤ k ∧ k < w'.heap.size) x v) ∧ Below W.heap.size W w' :=
 (Z6v s hs W).mono fun e w' ⟨h1, h2⟩ => ⟨by rw [hp] at h1; exact h1, h2⟩
def headI (l : List UInt8) : List UInt8 := match Yf l with | none => [] | some x => headOf x
theorem Tryz.infoByte : (prog.info? 5).map (fun i => (i.zero, i.size, i.bytes)) = some (some (.int .u8 0), 1, 1) := by kernel_rfl
def Bld (B b : Nat) (l : List UInt8) (w : World) : Prop := Lib.BuilderAtF 107 5 B b (.pointer (some ⟨b, 0, none⟩)) (Lib.byteCells l) w
theorem Bld.blk {B b : Nat} {l : List UInt8} {w : World} (h : Bld B b l w) : B ≤ b ∧ ∃ p n c, w.heap[b]? = some (.cells #[.pointer (some ⟨b, 0, none⟩), .slice p n c] 107 (0, 0)) := by
 obtain ⟨hB, v, hb, hown, hne⟩ := h
 rcases hown.2 with ⟨rfl, _⟩ | ⟨g, cap, cur, fz, rfl, _⟩
 · exact ⟨hB, _, _, _, hb⟩
 · exact ⟨hB, _, _, _, hb⟩
theorem Tryz.sizeBuilder : (prog.info? 107).map (fun i => i.size) = some 2 := by kernel_rfl
theorem bld_slice {w : World} {B e n : Nat} {v : Value} {xs : List Value} (h : w.ownsRowF B e 1 v (n + 1) xs) : ∃ g cap, v = .slice (some ⟨g, 0, none⟩) (n + 1) cap := by
 rcases h.2 with ⟨_, h0⟩ | ⟨g, cap, cur, fz, hv, _⟩
 · omega
 · exact ⟨g, cap, hv⟩
theorem bld_slice2 {w : World} {B e n : Nat} {v : Value} {xs : List Value} (h : w.ownsRowF B e 1 v n xs) : ∃ g n' cap, v = .slice g n' cap := by
 rcases h.2 with ⟨hv, _⟩ | ⟨g, cap, cur, fz, hv, _⟩
 · exact ⟨_, _, _, hv⟩
 · exact ⟨_, _, _, hv⟩
theorem Z5r (b : Nat) (p : Value) (w : World) (hb : w.heap[b]? = some (.cells #[.pointer (some ⟨b, 0, none⟩), p] 107 (0, 0))) :
 Calls prog 144 #[.pointer (some ⟨b, 0, none⟩)] w fun e w' => e = .returned (.tuple #[]) ∧ w = w' := by
 have c0 := Z2 (j := 0) hb
 go_enter func144, ntmps144
 go_wp2_with fail
 obtain ⟨j, hj, _⟩ := Option.map_eq_some_iff.1 Tryz.sizeBuilder
 rw [Lib.run_neq_ptr_same w _ underlying105 hj]
 go_wp2_with fail
 go_end0
 exact ⟨rfl, rfl⟩
theorem Z5v (B b : Nat) (l : List UInt8) (c : UInt8) (x : Int) (hx : x = c.toNat) (w : World) (h : Bld B b l w) (hlen : l.length + 1 ≤ 140737488355328) (hBw : B ≤ w.heap.size) :
 Calls prog 147 #[.pointer (some ⟨b, 0, none⟩), .int .u8 x] w fun e w' => e = .returned .nilIface ∧ Bld B b (l ++ [c]) w' ∧ Below B w w' ∧ Lib.OthersKept 5 (some b) w w' := by
 subst hx
 obtain ⟨i0, hi, hz0, hz1, hz2⟩ := info_parts Tryz.infoByte
 obtain ⟨hB, v, hbk, hown, hne⟩ := h
 have hll : (Lib.byteCells l).length = l.length := by simp [Lib.byteCells]
 rw [hll] at hown
 obtain ⟨p, n, cc, rfl⟩ : ∃ p n cc, v = .slice p n cc := by
  rcases hown.2 with ⟨hv, _⟩ | ⟨g, cap, cur, fz, hv, _⟩
  · exact ⟨_, _, _, hv⟩
  · exact ⟨_, _, _, hv⟩
 have hlt := lt_of_block hbk
 obtain ⟨c0, c1⟩ := Zq hbk
 have HO := H_ hown
 have HNE := H_ hne
 clear hown hne hll
 go_enter func147, ntmps147
 go_wp2_with (first | (go_at_call 144; go_must (refine (Z5r b _ _ hbk).mono ?_; rintro e w1 ⟨rfl, rfl⟩)) | (at_builtin; go_must (refine wpList_append_ownF _ rfl _ _ 22 rfl B 5 i0 (.int .u8 0) 1 1 underlying22 hi hz0 hz1 hz2 rfl (by decide) _ _ _ rfl (HO.out.alloc _) ⟨w.heap.size, 0, none⟩ 1 1 [.int .u8 c.toNat] rfl rfl (Xl (heap_alloc_new _ _)) (by intro u hu; simp at hu; subst hu; rfl) (by unfold maxLen; omega) (by omega) (by simp; omega) ?_; intro v' w2 hown' hgrow _; have hb2 := Xc hgrow (Z8 hbk) HNE.out; obtain ⟨g, cap, rfl⟩ := bld_slice hown'; obtain ⟨d0, d1⟩ := Zq hb2; have f1 := Xb (j := 1) hb2)))
 go_ret
 refine ⟨rfl, ?_, ?_, ?_⟩
 · exact Lib.BuilderAtF.put hB hb2 (bs' := Lib.byteCells (l ++ [c])) (by simpa [Lib.byteCells] using hown') (by decide)
 · exact (((Below.refl B w).alloc hBw _).grown hgrow (by simp; omega) (fun k hk => (HO.out.lt k hk).1)).setCell (p := ⟨b, 1, none⟩) hB _
 · exact (((Lib.OthersKept.refl _ _ _).alloc _).grown hgrow (Lib.ownsRowF_kind (HO.out.alloc _))).setCell ⟨b, 1, none⟩ rfl _
theorem WriteString_c (B b : Nat) (l s : List UInt8) (w : World) (h : Bld B b l w) (hlen : l.length + s.length ≤ 140737488355328) (hBw : B ≤ w.heap.size) :
 Calls prog 146 #[.pointer (some ⟨b, 0, none⟩), .string (bs s)] w fun e w' => e = .returned (.tuple #[.int .i64 s.length, .nilIface]) ∧ Bld B b (l ++ s) w' ∧ Below B w w' ∧ Lib.OthersKept 5 (some b) w w' := by
 obtain ⟨i0, hi, hz0, hz1, hz2⟩ := info_parts Tryz.infoByte
 obtain ⟨hB, v, hbk, hown, hne⟩ := h
 have hll : (Lib.byteCells l).length = l.length := by simp [Lib.byteCells]
 rw [hll] at hown
 obtain ⟨p, n, cc, rfl⟩ : ∃ p n cc, v = .slice p n cc := by
  rcases hown.2 with ⟨hv, _⟩ | ⟨g, cap, cur, fz, hv, _⟩
  · exact ⟨_, _, _, hv⟩
  · exact ⟨_, _, _, hv⟩
 have hlt := lt_of_block hbk
 obtain ⟨c0, c1⟩ := Zq hbk
 have HO := H_ hown
 have HNE := H_ hne
 have hbs := Y3 s
 have HBS := H_ hbs
 have hl2 : l.length + (bs s).size ≤ 140737488355328 := by rw [hbs]; exact hlen
 clear hown hne hll hbs
 go_enter func146, ntmps146
 go_wp2_with (first | (go_at_call 144; go_must (refine (Z5r b _ _ hbk).mono ?_; rintro e w1 ⟨rfl, rfl⟩)) | (at_builtin; go_must (refine Lib.wpList_append_own_stringF _ rfl _ _ 22 9 rfl B 5 i0 underlying22 underlying9 hi hz0 hz1 hz2 _ _ _ rfl HO.out (bs s) rfl (by unfold maxLen; omega) hl2 hBw ?_; intro v' w2 hown' hgrow _; have hb2 := Xc hgrow hbk HNE.out; obtain ⟨g, n2, cap, rfl⟩ := bld_slice2 hown'; obtain ⟨d0, d1⟩ := Zq hb2; have f1 := Xb (j := 1) hb2)))
 go_ret2
 refine ⟨rfl, ?_, ?_, ?_⟩
 · exact Lib.BuilderAtF.put hB hb2 (bs' := Lib.byteCells (l ++ s)) (by have h3 := HBS.out; rw [h3] at hown'; simpa [Lib.byteCells, Lib.strCells, bs] using hown') (by decide)
 · exact ((Below.refl B w).grown hgrow hBw (fun k hk => (HO.out.lt k hk).1)).setCell (p := ⟨b, 1, none⟩) hB _
 · exact ((Lib.OthersKept.refl _ _ _).grown hgrow (Lib.ownsRowF_kind HO.out)).setCell ⟨b, 1, none⟩ rfl _
def Qp (l : List UInt8) : Option Tr :=
 match Zt l with
 | none => none
 | some t => if Jz t = true ∧ t.size ≤ 120 then some t else none
theorem Z1v {l : List UInt8} (h : Zt l = none) : Qp l = none := by simp [Qp, h]
theorem Z6y {l : List UInt8} {t : Tr} (h : Zt l = some t) (hb : Jz t = false) : Qp l = none := by simp [Qp, h, hb]
theorem Z1w {l : List UInt8} {t : Tr} (h : Zt l = some t) (hb : ¬ t.size ≤ 120) : Qp l = none := by simp [Qp, h, hb]
theorem Z1u {l : List UInt8} {t : Tr} (h : Zt l = some t) (hb : Jz t = true) (hs : t.size ≤ 120) : Qp l = some t := by simp [Qp, h, hb, hs]
theorem Z6x {l : List UInt8} {t : Tr} (h : Qp l = some t) : Zt l = some t ∧ Jz t = true ∧ t.size ≤ 120 := by
 unfold Qp at h
 cases hp : Zt l with
 | none => simp [hp] at h
 | some t2 =>
   simp only [hp] at h
   split at h
   · rename_i hq
     simp only [Option.some.injEq] at h
     subst h
     exact ⟨rfl, hq⟩
   · simp at h
theorem readEx_parseE (l : List UInt8) : (Yf l).isSome = (Qp l).isSome := by
 cases hp : Zt l with
 | none => rw [Kl hp, Z1v hp]; rfl
 | some t =>
   rw [J9 hp]
   by_cases hs : t.size ≤ 120
   · rw [if_pos hs]
     cases hv : Jz t with
     | true => rw [Z1u hp hv hs]; exact hv
     | false => rw [Z6y hp hv]; exact hv
   · rw [if_neg hs, Z1w hp hs]; rfl
theorem set2 {w W : World} (h : Below w.heap.size w W) (v u : Value) : Below w.heap.size w ((W.setCell ⟨w.heap.size, 0, none⟩ v).setCell ⟨w.heap.size, 1, none⟩ u) := (h.setCell (Nat.le_refl _) v).setCell (Nat.le_refl _) u
theorem fv_lenS {w : World} {ok : Nat → Prop} : ∀ {t : Tr} {p : Option Addr} {n c : Nat}, FV nS w ok t (nS t (.slice p n c)) → n ≤ maxLen
 | .atom a, p, n, c, h => by
   simp only [FV, nS] at h
   simp at h
   omega
 | .list ts, p, n, c, h => by
   simp only [FV] at h
   obtain ⟨r, off, cap, xs, hh, _, h3, h4, _⟩ := h
   simp [nS] at hh
   omega
theorem Z51 (s : ByteArray) (hs : s.size ≤ 1048576) (w : World) :
 Calls prog 49 #[.string s] w fun e w' => Z5a w.heap.size (Qp s.data.toList) e w' ∧ Below w.heap.size w w' := by
 cases hp : Zt s.data.toList with
 | none =>
   have HD := H_ (Z1v hp)
   have C : Hid (∀ W, Calls prog 65 #[.string s] W fun e w' => (∃ a p n c, e = .returned (.tuple #[.agg #[.string a, .slice p n c], .bool false]) ∧ n ≤ maxLen) ∧ Below W.heap.size W w') := H_ (fun W => (Vv s hs W).mono fun e w' ⟨h1, h2⟩ => ⟨by rw [hp] at h1; exact h1, h2⟩)
   clear hp
   go_enter func49, ntmps49
   go_wp2_with (go_at_call 65; go_must (refine (C.out _).mono ?_; rintro e w1 ⟨⟨a, p, n, c, rfl, hn⟩, hb1⟩; have y0 := Z1 hb1 (by simp) (heap_alloc_new _ _); obtain ⟨z0, z1⟩ := Zq y0; obtain ⟨f0, f1⟩ := Q9 y0; have hs1 := hb1.size; have hs4 : w.heap.size < w1.heap.size := (by simp at hs1; omega)))
   go_region_with (fail)
   all_goals
    go_wp2_with fail
    refine bodyPost_ret (v := .tuple #[.agg #[.string a, .slice p n c], .bool false]) (by simp [results, results49, go_sem, z0, z1, hs4]) rfl ⟨by rw [HD.out]; exact ⟨_, _, _, _, rfl, hn⟩, ?_⟩
    have hw1 : Below w.heap.size w w1 := (Z4 w _).trans (hb1.mono (by simp))
    have h2 := set2 hw1 (.string a) (.slice p n c)
    exact (h2.alloc h2.size _).drew
 | some t =>
   have hg := Yp hp
   have hwf := hg.1
   have hbt : t.bytes ≤ 12000 := by have := hg.2; omega
   have C : Hid (∀ W, Calls prog 65 #[.string s] W fun e w' => (∃ p n c, e = .returned (.tuple #[.agg #[.string (bs (Z0 t)), .slice p n c], .bool true]) ∧ FV nS w' (fun k => W.heap.size ≤ k ∧ k < w'.heap.size) t (nS t (.slice p n c))) ∧ Below W.heap.size W w') := H_ (fun W => (Vv s hs W).mono fun e w' ⟨h1, h2⟩ => ⟨by rw [hp] at h1; exact h1, h2⟩)
   have CV : Hid (∀ (w1 W : World) (B : Nat) p n c, FV nS w1 (fun k => B ≤ k ∧ k < w1.heap.size) t (nS t (.slice p n c)) → Below w1.heap.size w1 W → Calls prog 96 #[.agg #[.string (bs (Z0 t)), .slice p n c]] W fun e w' => e = .returned (.bool (Jz t)) ∧ Below W.heap.size W w') :=
    H_ (fun w1 W B p n c hv hW => l2Valid_c (t.depth + 1) t (nS t (.slice p n c)) _ W (by omega) hwf hbt (hv.below hW (fun k hk => hk.2)) (fun k hk => Nat.lt_of_lt_of_le hk.2 hW.size))
   have CS : Hid (∀ (w1 W : World) (B : Nat) p n c, FV nS w1 (fun k => B ≤ k ∧ k < w1.heap.size) t (nS t (.slice p n c)) → Below w1.heap.size w1 W → Calls prog 97 #[.agg #[.string (bs (Z0 t)), .slice p n c]] W fun e w' => e = .returned (.int .i64 t.size) ∧ Below W.heap.size W w') :=
    H_ (fun w1 W B p n c hv hW => l1Size_c (t.depth + 1) t (nS t (.slice p n c)) _ W (by omega) hwf (by omega) (hv.below hW (fun k hk => hk.2)) (fun k hk => Nat.lt_of_lt_of_le hk.2 hW.size))
   have hst : t.size ≤ 12000 := by have := (Q5 t hwf).1; omega
   clear hg hbt
   cases hx : Jz t with
   | false =>
     have HD := H_ (Z6y hp hx)
     rw [hx] at CV
     clear hp hx hwf hst
     go_enter func49, ntmps49
     go_wp2_with (go_at_call 65; go_must (refine (C.out _).mono ?_; rintro e w1 ⟨⟨p, n, c, rfl, hv⟩, hb1⟩; have y0 := Z1 hb1 (by simp) (heap_alloc_new _ _); obtain ⟨z0, z1⟩ := Zq y0; obtain ⟨f0, f1⟩ := Q9 y0; have hs1 := hb1.size; have hs4 : w.heap.size < w1.heap.size := (by simp at hs1; omega)))
     go_region_with (first | (go_at_call 96; refine (CV.out _ _ _ _ _ _ hv (((Below.refl _ _).alloc (Nat.le_refl _) _).drew)).mono ?_; rintro e w2 ⟨rfl, hb2⟩; have hk2 := (((Below.refl w1.heap.size w1).alloc (Nat.le_refl _) _).drew).trans (hb2.mono (by simp)); have y2 := Z1 hk2 hs4 y0; have x2 := Z1 hb2 (by simp) (heap_alloc_new _ _); obtain ⟨p0, p1⟩ := Zq y2; obtain ⟨q0, q1⟩ := Q9 y2; obtain ⟨u0, u1⟩ := Zq x2; have hs5 : w.heap.size < w2.heap.size := (by have := hk2.size; omega)) | (go_at_call 97; refine (CS.out _ _ _ _ _ _ hv hk2).mono ?_; rintro e w3 ⟨rfl, hb3⟩; have hk3 := hk2.trans (hb3.mono hk2.size); have y3 := Z1 hk3 hs4 y0; have x3 := Z1 hb3 (lt_of_block x2) x2; obtain ⟨p0, p1⟩ := Zq y3; obtain ⟨q0, q1⟩ := Q9 y3; obtain ⟨u0, u1⟩ := Zq x3; have hs6 : w.heap.size < w3.heap.size := (by have := hk3.size; omega)))
     all_goals
      go_wp2_with fail
      refine bodyPost_ret (v := .tuple #[.agg #[.string (bs (Z0 t)), .slice p n c], .bool false]) (by simp [results, results49, go_sem, p0, p1, hs4, hs5]) rfl ⟨?_, ?_⟩
      · rw [HD.out]; exact ⟨_, _, _, _, rfl, fv_lenS hv⟩
      · have hw1 : Below w.heap.size w w1 := (Z4 w _).trans (hb1.mono (by simp))
        exact set2 (hw1.trans (hk2.mono hw1.size)) _ _
   | true =>
     rw [hx] at CV
     by_cases hz : t.size ≤ 120
     · have HD := H_ (Z1u hp hx hz)
       have hz2 : (t.size : Int) ≤ 120 := by omega
       clear hp hx hwf
       go_enter func49, ntmps49
       go_wp2_with (go_at_call 65; go_must (refine (C.out _).mono ?_; rintro e w1 ⟨⟨p, n, c, rfl, hv⟩, hb1⟩; have y0 := Z1 hb1 (by simp) (heap_alloc_new _ _); obtain ⟨z0, z1⟩ := Zq y0; obtain ⟨f0, f1⟩ := Q9 y0; have hs1 := hb1.size; have hs4 : w.heap.size < w1.heap.size := (by simp at hs1; omega)))
       go_region_with (first | (go_at_call 96; refine (CV.out _ _ _ _ _ _ hv (((Below.refl _ _).alloc (Nat.le_refl _) _).drew)).mono ?_; rintro e w2 ⟨rfl, hb2⟩; have hk2 := (((Below.refl w1.heap.size w1).alloc (Nat.le_refl _) _).drew).trans (hb2.mono (by simp)); have y2 := Z1 hk2 hs4 y0; have x2 := Z1 hb2 (by simp) (heap_alloc_new _ _); obtain ⟨p0, p1⟩ := Zq y2; obtain ⟨q0, q1⟩ := Q9 y2; obtain ⟨u0, u1⟩ := Zq x2; have hs5 : w.heap.size < w2.heap.size := (by have := hk2.size; omega)) | (go_at_call 97; refine (CS.out _ _ _ _ _ _ hv hk2).mono ?_; rintro e w3 ⟨rfl, hb3⟩; have hk3 := hk2.trans (hb3.mono hk2.size); have y3 := Z1 hk3 hs4 y0; have x3 := Z1 hb3 (lt_of_block x2) x2; obtain ⟨p0, p1⟩ := Zq y3; obtain ⟨q0, q1⟩ := Q9 y3; obtain ⟨u0, u1⟩ := Zq x3; have hs6 : w.heap.size < w3.heap.size := (by have := hk3.size; omega)))
       all_goals
        go_wp2_with fail
        refine bodyPost_ret (v := .tuple #[.agg #[.string (bs (Z0 t)), .slice p n c], .bool true]) (by simp [results, results49, go_sem, p0, p1, hs4, hs5, hs6]) rfl ⟨?_, ?_⟩
        · rw [HD.out]
          refine ⟨p, n, c, rfl, FV.move (fun k hk => ?_) (fun k hk => ?_) _ _ hv⟩
          · have := hk3.size; simp at hk ⊢; omega
          · rw [Z9 _ (by simp at hk ⊢; omega), Z9 _ (by simp at hk ⊢; omega)]; exact hk3.block k hk.2
        · have hw1 : Below w.heap.size w w1 := (Z4 w _).trans (hb1.mono (by simp))
          exact set2 (hw1.trans (hk3.mono hw1.size)) _ _
     · have HD := H_ (Z1w hp hz)
       have hz2 : ¬ (t.size : Int) ≤ 120 := by omega
       clear hp hx hwf
       go_enter func49, ntmps49
       go_wp2_with (go_at_call 65; go_must (refine (C.out _).mono ?_; rintro e w1 ⟨⟨p, n, c, rfl, hv⟩, hb1⟩; have y0 := Z1 hb1 (by simp) (heap_alloc_new _ _); obtain ⟨z0, z1⟩ := Zq y0; obtain ⟨f0, f1⟩ := Q9 y0; have hs1 := hb1.size; have hs4 : w.heap.size < w1.heap.size := (by simp at hs1; omega)))
       go_region_with (first | (go_at_call 96; refine (CV.out _ _ _ _ _ _ hv (((Below.refl _ _).alloc (Nat.le_refl _) _).drew)).mono ?_; rintro e w2 ⟨rfl, hb2⟩; have hk2 := (((Below.refl w1.heap.size w1).alloc (Nat.le_refl _) _).drew).trans (hb2.mono (by simp)); have y2 := Z1 hk2 hs4 y0; have x2 := Z1 hb2 (by simp) (heap_alloc_new _ _); obtain ⟨p0, p1⟩ := Zq y2; obtain ⟨q0, q1⟩ := Q9 y2; obtain ⟨u0, u1⟩ := Zq x2; have hs5 : w.heap.size < w2.heap.size := (by have := hk2.size; omega)) | (go_at_call 97; refine (CS.out _ _ _ _ _ _ hv hk2).mono ?_; rintro e w3 ⟨rfl, hb3⟩; have hk3 := hk2.trans (hb3.mono hk2.size); have y3 := Z1 hk3 hs4 y0; have x3 := Z1 hb3 (lt_of_block x2) x2; obtain ⟨p0, p1⟩ := Zq y3; obtain ⟨q0, q1⟩ := Q9 y3; obtain ⟨u0, u1⟩ := Zq x3; have hs6 : w.heap.size < w3.heap.size := (by have := hk3.size; omega)))
       all_goals
        go_wp2_with fail
        refine bodyPost_ret (v := .tuple #[.agg #[.string (bs (Z0 t)), .slice p n c], .bool false]) (by simp [results, results49, go_sem, p0, p1, hs4, hs5, hs6]; omega) rfl ⟨?_, ?_⟩
        · rw [HD.out]; exact ⟨_, _, _, _, rfl, fv_lenS hv⟩
        · have hw1 : Below w.heap.size w w1 := (Z4 w _).trans (hb1.mono (by simp))
          exact set2 (hw1.trans (hk3.mono hw1.size)) _ _
theorem Vh (s : ByteArray) (hs : s.size ≤ 1048576) (w : World) :
 Calls prog 67 #[.string s] w fun e w' => e = .returned (.bool (Qp s.data.toList).isSome) ∧ Below w.heap.size w w' := by
 go_enter func67, ntmps67
 go_wp2_with (go_at_call 49; go_must (refine (Z51 s hs _).mono ?_; rintro e w1 ⟨hp, hb1⟩; obtain ⟨a, p, n, c, rfl⟩ := Vi hp; clear hp))
 go_ret
 exact ⟨rfl, hb1.alloc hb1.size _⟩
end Go.Proofs.YtfknoigbkleanaaGreatDoor
