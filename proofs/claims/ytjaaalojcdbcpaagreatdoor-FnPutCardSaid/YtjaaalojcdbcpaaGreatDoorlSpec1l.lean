/- The reference model replaces atoms. FormReplace of the reference model. -/
import Derived.Test.YtjaaalojcdbcpaaGreatDoorlS1z
import Derived.Test.YtjaaalojcdbcpaaGreatDoorlPureXM
import Derived.Deep.LoopGhost
import Derived.Deep.RegionHeld3
import Derived.Deep.RegionLaw
import Derived.Deep.DrawnRows
import Derived.Test.YtjaaalojcdbcpaaGreatDoorlI1y
set_option maxHeartbeats 20000000
set_option linter.unusedVariables false
set_option linter.unusedSimpArgs false
namespace Go.Proofs.YtjaaalojcdbcpaaGreatDoor
open Go.RowKit Go.Proofs.Tryz
set_option maxRecDepth 8000
attribute [local go_sem ↓] Go.wp_at_zero Go.wp_at_succ
def RplPost (nd : Tr → Value → List Value) (B N : Nat) (t : Tr) (e : Ending) (w' : World) : Prop :=
 ∃ p m c, e = .returned (.agg (nd t (.slice p m c)).toArray) ∧ FV nd w' (fun k => k < B ∨ (N ≤ k ∧ k < w'.heap.size)) t (nd t (.slice p m c))
theorem nS_named (t : Tr) : ∃ u, u = bs (Z1 t) ∧ ∀ v, nS t v = [.string u, v] := ⟨_, rfl, fun _ => rfl⟩
theorem Z7k (x a : List UInt8) (b : Tr) (cs cb : List Value) (B : Nat) (w : World) (hx : x ≠ []) (ha : a ≠ []) (hv : FV nS w (fun k => k < B) (.atom x) cs) (hw : FV nS w (fun k => k < B) b cb) (hB : B ≤ w.heap.size) :
 Calls prog 77 #[.agg cs.toArray, .string (bs a), .agg cb.toArray] w fun e w' => RplPost nS B w.heap.size (Qi a b (.atom x)) e w' ∧ Below w.heap.size w w' := by
 obtain ⟨p, m, c, rfl⟩ := hw.node
 simp only [FV] at hv
 subst hv
 have hne := V7 hx
 have hna := V7 ha
 obtain ⟨u, hu, hn⟩ := nS_named b
 by_cases h : x = a
 · subst h
   have HR := H_ (repl_atom_yes (a := x) b rfl)
   have HW := H_ hw
   rw [hn]
   simp only [nS, Z1]
   have hN := H_ (hn (.slice p m c))
   clear hw hn hu
   go_enter func77, ntmps77
   go_wp2_with fail
   refine bodyPost_ret (v := .agg #[.string u, .slice p m c]) (by simp [results, results77, go_sem]) rfl ⟨?_, Qf w _ _ _⟩
   rw [HR.out]
   refine ⟨p, m, c, by rw [hN.out], FV.move (fun k hk => .inl hk) (fun k hk => ?_) _ _ HW.out⟩
   exact (Qf w _ _ _).block k (by omega)
 · have HR := H_ (repl_atom_no b h)
   have HW := H_ hw
   rw [hn]
   simp only [nS, Z1]
   have hN := H_ (hn (.slice p m c))
   clear hw hn hu
   have hd : ¬ (bs x).toList = (bs a).toList := by rw [Z9, Z9]; exact h
   have hd1 : ((bs x).toList == (bs a).toList) = false := by rw [Z9, Z9]; simpa using h
   go_enter func77, ntmps77
   go_wp2_with fail
   refine bodyPost_ret (v := .agg #[.string (bs x), .slice none 0 0]) (by simp [results, results77, go_sem]) rfl ⟨?_, Qf w _ _ _⟩
   rw [HR.out]
   exact ⟨none, 0, 0, rfl, by simp only [FV]⟩
theorem FVs.grownP {nd : Tr → Value → List Value} {P : Nat → Prop} {w W w2 : World} {v v' : Value} {g' : Nat} {ts : List Tr} {xs : List Value}
 (h : FVs nd w (fun q => P q ∧ q < w.heap.size ∧ v.ownBlock ≠ some q) ts xs) (hb : Below w.heap.size w W) (hg : W.grownBy w2 v.ownBlock) (hv : v'.ownBlock = some g') (hgg : v.ownBlock = some g' ∨ g' = W.heap.size) :
 FVs nd w2 (fun q => P q ∧ q < w2.heap.size ∧ v'.ownBlock ≠ some q) ts xs := by
 refine FVs.move ?_ ?_ ts xs h
 · rintro q ⟨h1, h2, h3⟩
   refine ⟨h1, Nat.lt_of_lt_of_le h2 (Nat.le_trans hb.size hg.size), ?_⟩
   rw [hv]
   rcases hgg with hgg | hgg
   · rw [← hgg]; exact h3
   · intro e
     have := hb.size
     simp only [Option.some.injEq] at e
     omega
 · rintro q ⟨h1, h2, h3⟩
   rw [hg.block q (Nat.lt_of_lt_of_le h2 hb.size) (fun e => h3 e.symm), hb.block q h2]
theorem FV.grownP {nd : Tr → Value → List Value} {w w' W w2 : World} {B N : Nat} {v v' : Value} {g' : Nat} {t : Tr} {cs : List Value}
 (h : FV nd w' (fun q => q < B ∨ (w.heap.size ≤ q ∧ q < w'.heap.size)) t cs) (hB : B ≤ N) (hN : N ≤ w.heap.size) (hw : w.heap.size ≤ w'.heap.size) (hb : Below w'.heap.size w' W) (hg : W.grownBy w2 v.ownBlock) (hv : v'.ownBlock = some g') (hgg : v.ownBlock = some g' ∨ g' = W.heap.size)
 (hold : ∀ q, v.ownBlock = some q → N ≤ q ∧ q < w.heap.size) :
 FV nd w2 (fun q => (q < B ∨ N ≤ q) ∧ q < w2.heap.size ∧ v'.ownBlock ≠ some q) t cs := by
 have hs := hb.size
 have hs2 := hg.size
 refine FV.move ?_ ?_ t cs h
 · intro q hq
   refine ⟨by omega, by omega, ?_⟩
   rw [hv]
   intro e
   simp only [Option.some.injEq] at e
   subst e
   rcases hgg with hgg | hgg
   · have := hold _ hgg; omega
   · omega
 · intro q hq
   rw [hg.block q (by omega) (fun e => by have := hold q e.symm; omega), hb.block q (by omega)]
theorem Z4b (w : World) : Below w.heap.size w w.drew := (Below.refl _ _).drew
def RplS (n : Nat) : Prop := ∀ (t b : Tr) (a : List UInt8) (cs cb : List Value) (B : Nat) (w : World), t.depth < n → t.wf → a ≠ [] → t.bytes ≤ 1000000000 → FV nS w (fun k => k < B) t cs → FV nS w (fun k => k < B) b cb → B ≤ w.heap.size →
    Calls prog 77 #[.agg cs.toArray, .string (bs a), .agg cb.toArray] w fun e w' => RplPost nS B w.heap.size (Qi a b t) e w' ∧ Below w.heap.size w w'
theorem Z7j (n : Nat) (ih : RplS n) (ts : List Tr) (b : Tr) (a : List UInt8) (cs cb : List Value) (B : Nat) (w : World) (hd : (Tr.list ts).depth < n + 1) (hwf : (Tr.list ts).wf) (ha : a ≠ []) (hsz : (Tr.list ts).bytes ≤ 1000000000)
 (hv : FV nS w (fun k => k < B) (.list ts) cs) (hw : FV nS w (fun k => k < B) b cb) (hB : B ≤ w.heap.size) :
 Calls prog 77 #[.agg cs.toArray, .string (bs a), .agg cb.toArray] w fun e w' => RplPost nS B w.heap.size (Qi a b (.list ts)) e w' ∧ Below w.heap.size w w' := by
 obtain ⟨pb, mb, cpb, rfl⟩ := hw.node
 obtain ⟨r, off, cap, xs, rfl, h2, h3, h4, h5, h6⟩ := FV.list_cells hv
 obtain ⟨u, hu, hn⟩ := nS_named b
 have hn0 := hn (.slice pb mb cpb)
 rw [hn0]
 simp only [nS, Z1]
 have hemp := Jl
 have hna := V7 ha
 have h3' : ts.length ≤ 9223372036854775807 := by have := Yl h4; omega
 have hlen := Xi ts
 simp only [Tr.bytes] at hsz
 have HR := H_ (repl_list a b ts)
 have HWB := H_ hw
 have HN := H_ hn0
 have HW := H_ hwf.2
 have hne : ts.length ≠ 0 := by intro e; exact hwf.1 (List.eq_nil_of_length_eq_zero e)
 have HI := H_ ih
 have hdn : ¬ (bs []).toList = (bs a).toList := by rw [Z9, Z9]; exact fun e => ha e.symm
 have hd1 : ((bs []).toList == (bs a).toList) = false := by rw [Z9, Z9]; simpa using fun e => ha e
 obtain ⟨i0, hi0, hz0, hz1, hz2⟩ := info_parts Tryz.infoS
 clear ih hw hn hu hn0 hv hwf
 go_enter func77, ntmps77
 go_wp2_with fail
 go_loopg [8] ts.length (fun q i wr => ∃ (k : Nat) (pv : Value) (ys : List Value), q + k = ts.length ∧ i = .int .i64 k ∧ wr.heap[w.heap.size]? = some (.cells #[.string (bs []), .slice (some ⟨r, off, none⟩) ts.length cap] 47 (0, 0)) ∧
  wr.heap[w.heap.size + 1]? = some (.cells #[.string u, .slice pb mb cpb] 47 (0, 0)) ∧ wr.heap[w.heap.size + 2]? = some (.cells #[.string ⟨#[]⟩, .slice none 0 0] 47 (0, 0)) ∧ wr.heap[w.heap.size + 3]? = some (.cells #[.string ⟨#[]⟩, pv] 47 (0, 0)) ∧
  Hid (wr.ownsRow (w.heap.size + 4) 47 2 pv k ys) ∧ Hid (FVs nS wr (fun q => (q < B ∨ w.heap.size + 4 ≤ q) ∧ q < wr.heap.size ∧ pv.ownBlock ≠ some q) (Z3g a b (ts.take k)) ys) ∧ Hid (Below w.heap.size w wr))
 case atStart =>
  refine ⟨0, .slice none 0 0, [], by omega, rfl, ?_, ?_, ?_, ?_, H_ (World.ownsRow_nil _ _ _ _), H_ ?_, H_ (((Qf w _ _ _).alloc (by simp; omega) _))⟩
  · exact Z8 (Z8 (Z8 (heap_alloc_new _ _)))
  · exact Z8 (Z8 (Za _ _ _))
  · have := Za (w.alloc (.cells #[.string (bs []), .slice (some ⟨r, off, none⟩) ts.length cap] 47)) (.cells #[.string u, .slice pb mb cpb] 47) (.cells #[.string ⟨#[]⟩, .slice none 0 0] 47)
    exact Z8 (by simpa using this)
  · have := Za ((w.alloc (.cells #[.string (bs []), .slice (some ⟨r, off, none⟩) ts.length cap] 47)).alloc (.cells #[.string u, .slice pb mb cpb] 47)) (.cells #[.string ⟨#[]⟩, .slice none 0 0] 47) (.cells #[.string ⟨#[]⟩, .slice none 0 0] 47)
    simpa using this
  · simp only [List.take_zero, Z3g, Kj, FVs]
 case round =>
  obtain ⟨k, pv, ys, hq, rfl, hb0, hb1, hb2, hb3, ho, hfv, hbel⟩ := hrel
  obtain ⟨pp, pc, rfl⟩ := Zn ho.out
  have hN := lt_of_block hb3
  have x1 := Z4 (j := 1) hb0
  by_cases hlt : k < ts.length
  · obtain ⟨ds, g1, g2⟩ := FVs.get Jn h6 h5 k hlt
    obtain ⟨p, pn, pnc, rfl⟩ := g1.node
    have hrl : r < w.heap.size := by omega
    have e0 : wr.cell? ⟨r, off + k * 2, none⟩ = some (.string (bs (Z1 ts[k]))) := by rw [hbel.out.cell (by exact hrl)]; exact g2 0 _ rfl
    have e1 : wr.cell? ⟨r, off + k * 2 + 1, none⟩ = some (.slice p pn pnc) := by rw [hbel.out.cell (by exact hrl)]; exact g2 1 _ rfl
    obtain ⟨y0, y1⟩ := Zh hb1
    have z1 := Z4 (j := 1) hb3
    have f1 := Yf (j := 1) hb3
    have hk0 : (0 : Int) ≤ (k : Int) := Int.natCast_nonneg _
    have hk1 : (k : Int) < (ts.length : Int) := by omega
    have hdk : ts[k].depth < n := by have := Xk hlt; omega
    have hbk := J5 hlt
    have hwk := Ji HW.out hlt
    have g1' := H_ g1
    simp only [Tr.bytes] at hbk
    have C : Hid (∀ W, Below wr.heap.size wr W → Calls prog 77 #[.agg #[.string (bs (Z1 ts[k])), .slice p pn pnc], .string (bs a), .agg #[.string u, .slice pb mb cpb]] W fun e w' => (∃ p m c, e = .returned (.agg #[.string (bs (Z1 (Qi a b ts[k]))), .slice p m c]) ∧ FV nS w' (fun k => k < B ∨ (W.heap.size ≤ k ∧ k < w'.heap.size)) (Qi a b ts[k]) (nS (Qi a b ts[k]) (.slice p m c))) ∧ Below W.heap.size W w') :=
     H_ (fun W hW => by
      have hBW := hbel.out.trans (hW.mono hbel.out.size)
      have := HI.out ts[k] b a _ _ B W hdk hwk ha (by omega) (g1'.out.below hBW (fun j hj => by omega)) (HWB.out.below hBW (fun j hj => by omega)) (by have := hBW.size; omega)
      rw [HN.out] at this
      exact this)
    clear g1 hbk hwk
    go_wp2_with fail
    go_region_law (first | (go_simp; go_at_call 77; refine (C.out _ (Z4b _)).mono ?_; rintro e w5 ⟨⟨p5, m5, c5, rfl, hv5⟩, hb5⟩; have y5 := Z2 hb5 (by simp; omega) hb3; have z5 := Z4 (j := 1) y5; have hs5 := hb5.size; have hl5 : w.heap.size + 3 < w5.heap.size := Nat.lt_of_lt_of_le hN hs5; have hl6 : w.heap.size + 1 + 1 + 1 < w5.heap.size := hl5; have z5a : ∀ o, (w5.alloc o).cell? ⟨w.heap.size + 1 + 1 + 1, 1, none⟩ = some (.slice pp k pc) := fun o => Z4 (j := 1) (Z8 (o' := o) y5)) | (refine Z6a _ (by rfl) _ _ _ (by rfl) (w.heap.size + 4) 47 i0 _ 2 40 underlying45 hi0 hz0 hz1 hz2 rfl (by omega) _ k ys (by rfl) ((Zx ho.out.drew hb5).alloc _) ⟨w5.heap.size, 0, none⟩ [.string (bs (Z1 (Qi a b ts[k]))), .slice p5 m5 c5] (by rfl) (by rfl) (Xr (heap_alloc_new _ _)) (by simp [Value.oneCell']) (by unfold maxLen; omega) (by omega) (by have := hb5.size; simp at this ⊢; omega) _ rfl ?_; intro g' c' w6 hown' hgrow hgg; have y6 := Yc hgrow (Z8 y5) (Xq ho.out (by omega)); have z6 := Z4 (j := 1) y6; have f6 := Yf (j := 1) y6))
    all_goals
     go_wp2_with fail
     go_roundg (gk - 1)
     case measure => omega
     case rel =>
      have hgs := hgrow.size
      simp only [Jg] at hgs
      refine ⟨k + 1, .slice (some ⟨g', 0, none⟩) (k + 1) c', ys ++ [.string (bs (Z1 (Qi a b ts[k]))), .slice p5 m5 c5], by omega, by go_num, ?_, ?_, ?_, ?_, ?_, ?_, ?_⟩
      · rw [Z3 _ (by simp <;> omega)]; exact Yc hgrow (Z8 (Z2 hb5 (by simp; omega) hb0)) (Xq ho.out (by omega))
      · rw [Z3 _ (by simp <;> omega)]; exact Yc hgrow (Z8 (Z2 hb5 (by simp; omega) hb1)) (Xq ho.out (by omega))
      · rw [Z3 _ (by simp <;> omega)]; exact Yc hgrow (Z8 (Z2 hb5 (by simp; omega) hb2)) (Xq ho.out (by omega))
      · exact Yu y6 _
      · exact H_ (by have := ownsRow_setCell_other hown' (a := ⟨w.heap.size + 3, 1, none⟩) (Xq hown' (by simp)) (.slice (some ⟨g', 0, none⟩) (k + 1) c'); simpa using this)
      · refine H_ ?_
        rw [repls_take a b ts k hlt]
        refine FVs.move (w := w6) (ok := fun q => (q < B ∨ w.heap.size + 4 ≤ q) ∧ q < w6.heap.size ∧ (Value.slice (some ⟨g', 0, none⟩) (k + 1) c').ownBlock ≠ some q) (fun q hq => by simpa using hq) (fun q hq => Z3 _ (by simp; omega)) _ _ ?_
        exact FVs.snoc (FV.grownP (w := wr.drew) (N := w.heap.size + 4) hv5 (by omega) (by simp; omega) hb5.size (Z5 _ _) hgrow rfl hgg (fun q hq => ho.out.lt q hq)) (FVs.grownP hfv.out ((Z4b wr).trans ((hb5.mono (by simp)).trans ((Z5 _ _).mono hs5))) hgrow rfl hgg)
      · exact H_ (((((hbel.out.trans ((Z4b wr).mono hbel.out.size)).trans (hb5.mono (by simp; omega))).alloc (by omega) _).grown hgrow (by simp; omega) (fun q hq => by have := ho.out.lt q hq; omega)).setCell (by simp <;> omega) _)
  · have : k = ts.length := by omega
    subst this
    obtain ⟨v0, v1⟩ := Zh hb3
    obtain ⟨q0, q1⟩ := Zh hb2
    obtain ⟨f0, f1⟩ := Xb hb2
    have hown := ho.out
    have hcap := Xx hown
    have hpp : ∃ g, pp = some ⟨g, 0, none⟩ := by
     rcases hown.2 with ⟨e1, e2⟩ | ⟨g, cap', cur, e1, _⟩
     · exact absurd e2 hne
     · simp only [Value.slice.injEq] at e1; exact ⟨g, e1.1⟩
    obtain ⟨g, rfl⟩ := hpp
    have hlt' := hown.lt g rfl
    go_wp2_with fail
    refine bodyPost_ret (v := .agg #[.string ⟨#[]⟩, .slice (some ⟨g, 0, none⟩) ts.length pc]) (by simp [results, results77, go_sem, q0, q1]) rfl ⟨?_, ?_⟩
    · rw [HR.out]
      refine ⟨some ⟨g, 0, none⟩, ts.length, pc, rfl, ?_⟩
      simp only [FV]
      have hfs := hfv.out
      rw [List.take_length] at hfs
      refine ⟨g, 0, pc, ys, by rw [Z4i], .inr ⟨by omega, by simp; omega⟩, by rw [Z4i]; exact hcap.1, hcap.2, (X4 hown).move ?_, FVs.move (fun q hq => ?_) (fun q hq => ?_) _ _ hfs⟩
      · rw [Z3 _ (by simp; omega), Z3 _ (by simp; omega)]
      · simp; omega
      · rw [Z3 _ (by simp; omega), Z3 _ (by simp; omega)]
    · exact (hbel.out.setCell (by simp <;> omega) _).setCell (by simp <;> omega) _
theorem Z3o : ∀ n, RplS n
 | 0 => fun t _ _ _ _ _ _ h => by omega
 | n + 1 => fun t b a cs cb B w hd hwf ha hsz hv hw hB => by
   match t, hd, hwf, hsz, hv with
   | .atom x, hd, hwf, hsz, hv => exact Z7k x a b cs cb B w hwf.1 ha hv hw hB
   | .list ts, hd, hwf, hsz, hv => exact Z7j n (Z3o n) ts b a cs cb B w hd hwf ha hsz hv hw hB
theorem Z00 (s : ByteArray) (hs : s.size ≤ 1048576) {b : Bool} (hb : (Zt s.data.toList).isSome = b) (W : World) : Calls prog 64 #[.string s] W fun e w' => (∃ u p n c, e = .returned (.tuple #[.agg #[.string u, .slice p n c], .bool b])) ∧ Below W.heap.size W w' :=
 (Z0c s hs W).mono fun e w' ⟨h1, h2⟩ => ⟨by rw [← hb]; exact Kh h1, h2⟩
theorem l1Parse_long (s : ByteArray) (hl : 12000 < s.size) (hs : s.size ≤ 100000000000) (w : World) : Calls prog 64 #[.string s] w fun e w' => e = .returned (.tuple #[.agg #[.string ⟨#[]⟩, .slice none 0 0], .bool false]) ∧ Below w.heap.size w w' := by
 have hd : decide (12000 < (s.size : Int)) = true := by simp; omega
 go_enter func64, ntmps64
 go_wp2_with fail
 exact bodyPost_ret (v := .tuple #[.agg #[.string ⟨#[]⟩, .slice none 0 0], .bool false]) (by simp [results, results64, go_sem]) rfl ⟨rfl, Z5 _ _⟩
theorem Z3x (s : ByteArray) (hl : 12000 < s.size) (hs : s.size ≤ 100000000000) (w : World) : Calls prog 78 #[.string s] w fun e w' => e = .returned (.bool false) ∧ Below w.heap.size w w' := by
 go_enter func78, ntmps78
 go_wp2_with (go_at_call 64; go_must (refine (l1Parse_long s hl hs _).mono ?_; rintro e w1 ⟨rfl, hb1⟩))
 go_ret
 exact ⟨rfl, hb1.alloc hb1.size _⟩
theorem Z3w (t : Tr) (hw : t.wf) (hb : t.bytes ≤ 100000000000) (w : World) : Calls prog 78 #[.string (bs t.text)] w fun e w' => e = .returned (.bool (decide (t.bytes ≤ 12000 ∧ t.depth ≤ 60))) ∧ Below w.heap.size w w' := by
 have hl := Y4 t hw
 by_cases h : t.bytes ≤ 12000
 · refine (Z6b (bs t.text) (by rw [Y0]; omega) w).mono fun e w' ⟨h1, h2⟩ => ⟨?_, h2⟩
   rw [h1, K4]
   by_cases hd : t.depth ≤ 60
   · rw [Z1j hw h hd]; simp [h, hd]
   · rw [Z1z hw (fun q => hd q.2)]; simp [hd]
 · refine (Z3x (bs t.text) (by rw [Y0]; omega) (by rw [Y0]; omega) w).mono fun e w' ⟨h1, h2⟩ => ⟨?_, h2⟩
   rw [h1]; simp [h]
theorem Z26 {w w1 w2 w3 : World} {a b c : Obj} (h1 : Below w.heap.size w w1) (h2 : Below (w1.alloc a).heap.size (w1.alloc a) w2) (h3 : Below (w2.alloc b).heap.size (w2.alloc b) w3) : Below w.heap.size w (w3.alloc c) ∧ w.heap.size ≤ w1.heap.size ∧ w1.heap.size < w2.heap.size ∧ w2.heap.size < w3.heap.size := by
 have s1 := h1.size
 have s2 := h2.size
 have s3 := h3.size
 simp only [Jg] at s2 s3
 exact ⟨(((h1.alloc s1 a).trans (h2.mono (by simp; omega))).alloc (by omega) b).trans (h3.mono (by simp; omega)) |>.alloc (by omega) c, s1, by omega, by omega⟩
theorem Kl (s a y : ByteArray) (hs : s.size ≤ 1048576) (ha : a.size ≤ 1048576) (hy : y.size ≤ 1048576) (b1 b2 b3 : Bool) (h1 : (Zt s.data.toList).isSome = b1) (h2 : (Zt a.data.toList).isSome = b2) (h3 : (Zt y.data.toList).isSome = b3) (hb : (b1 && b2 && b3) = false) (w : World) :
 Calls prog 42 #[.string s, .string a, .string y] w fun e w' => e = .returned (.tuple #[.string ⟨#[]⟩, .bool false]) ∧ Below w.heap.size w w' := by
 have C1 := H_ (Z00 s hs h1)
 have C2 := H_ (Z00 a ha h2)
 have C3 := H_ (Z00 y hy h3)
 clear h1 h2 h3
 cases b1 <;> cases b2 <;> cases b3 <;> first
  | (exact absurd hb (by decide))
  | (clear hb
     go_enter func42, ntmps42
     go_wp2_with (go_at_call 64; first | ((with_reducible refine (C1.out _).mono ?_); rintro e w1 ⟨⟨u1, p1, n1, c1, rfl⟩, hb1⟩) | ((with_reducible refine (C2.out _).mono ?_); rintro e w2 ⟨⟨u2, p2, n2, c2, rfl⟩, hb2⟩) | ((with_reducible refine (C3.out _).mono ?_); rintro e w3 ⟨⟨u3, p3, n3, c3, rfl⟩, hb3⟩))
     go_ret2
     exact ⟨rfl, (Z26 hb1 hb2 hb3).1⟩)
theorem Z27 (s a y : ByteArray) (hs : s.size ≤ 1048576) (ha : a.size ≤ 1048576) (hy : y.size ≤ 1048576) (h1 : (Zt s.data.toList).isSome = true) {ts : List Tr} (h2 : Zt a.data.toList = some (.list ts)) (h3 : (Zt y.data.toList).isSome = true) (w : World) :
 Calls prog 42 #[.string s, .string a, .string y] w fun e w' => e = .returned (.tuple #[.string ⟨#[]⟩, .bool false]) ∧ Below w.heap.size w w' := by
 have C1 := H_ (Z00 s hs h1)
 have C2 := H_ (Je ha h2)
 have C3 := H_ (Z00 y hy h3)
 have hemp := Jl
 have hemp2 : (bs []).toList.isEmpty = true := by simp [Z9]
 clear h1 h2 h3
 simp only [Z1] at C2
 go_enter func42, ntmps42
 go_wp2_with (go_at_call 64; first | ((with_reducible refine (C1.out _).mono ?_); rintro e w1 ⟨⟨u1, p1, n1, c1, rfl⟩, hb1⟩) | ((with_reducible refine (C2.out _).mono ?_); rintro e w2 ⟨⟨p2, n2, c2, rfl, hv2⟩, hb2⟩; clear hv2; have x2 := heap_alloc_new w2 (.cells #[.string (bs []), .slice p2 n2 c2] 47)) | ((with_reducible refine (C3.out _).mono ?_); rintro e w3 ⟨⟨u3, p3, n3, c3, rfl⟩, hb3⟩; have x3 := Z8 (o' := .cells #[.string u3, .slice p3 n3 c3] 47) (Z2 hb3 (by simp) x2); have z3 := Z4 (j := 0) x3))
 go_ret2
 exact ⟨rfl, (Z26 hb1 hb2 hb3).1⟩
theorem Z3d (s a y : ByteArray) (hs : s.size ≤ 1048576) (ha : a.size ≤ 1048576) (hy : y.size ≤ 1048576) {t b : Tr} {x : List UInt8} (h1 : Zt s.data.toList = some t) (h2 : Zt a.data.toList = some (.atom x)) (h3 : Zt y.data.toList = some b) (w : World) :
 Calls prog 42 #[.string s, .string a, .string y] w fun e w' => MakePost (if (Qi x b t).bytes ≤ 12000 ∧ (Qi x b t).depth ≤ 60 then some (Qi x b t) else none) e ∧ Below w.heap.size w w' := by
 have C1 := H_ (Je hs h1)
 have C2 := H_ (Je ha h2)
 have C3 := H_ (Je hy h3)
 have g1 := Yk h1
 have g2 := Yk h2
 have g3 := Yk h3
 have hax : a = bs x := Z5j g2.2.2.2
 have hwf := repl_wf (a := x) g3.1 t g1.1
 have hby := repl_bytes (a := x) (b := b) (m := 12000) g3.2.1 (by omega) t g1.1
 have hby2 : (Qi x b t).bytes ≤ 100000000000 := by have := g1.2.1; omega
 have hne := V7 g2.1.1
 have hne2 : (bs x).toList.isEmpty = false := by simpa [Z9] using g2.1.1
 have VT : Hid (∀ W, Calls prog 78 #[.string (bs (Qi x b t).text)] W fun e w' => e = .returned (.bool (decide ((Qi x b t).bytes ≤ 12000 ∧ (Qi x b t).depth ≤ 60))) ∧ Below W.heap.size W w') := H_ (fun W => Z3w _ hwf hby2 W)
 have TX : Hid (∀ (W : World) (p : Option Addr) (m c : Nat) (ok : Nat → Prop), FV nS W ok (Qi x b t) (nS (Qi x b t) (.slice p m c)) → (∀ k, ok k → k < W.heap.size) → Calls prog 31 #[.agg #[.string (bs (Z1 (Qi x b t))), .slice p m c]] W fun e w' => e = .returned (.string (bs (Qi x b t).text)) ∧ Below W.heap.size W w') :=
  H_ (fun W p m c ok h1 h2 => Z0k ((Qi x b t).depth + 1) (Qi x b t) _ ok W (by omega) hwf hby2 h1 h2)
 have RC : Hid (∀ (W : World) (p q : Option Addr) (m c m' c' : Nat), FV nS W (fun k => k < W.heap.size) t (nS t (.slice p m c)) → FV nS W (fun k => k < W.heap.size) b (nS b (.slice q m' c')) → Calls prog 77 #[.agg #[.string (bs (Z1 t)), .slice p m c], .string (bs x), .agg #[.string (bs (Z1 b)), .slice q m' c']] W fun e w' => (∃ p m c, e = .returned (.agg #[.string (bs (Z1 (Qi x b t))), .slice p m c]) ∧ FV nS w' (fun k => k < w'.heap.size) (Qi x b t) (nS (Qi x b t) (.slice p m c))) ∧ Below W.heap.size W w') :=
  H_ (fun W p q m c m' c' k1 k2 => (Z3o (t.depth + 1) t b x _ _ W.heap.size W (by omega) g1.1 g2.1.1 (by have := g1.2.1; omega) k1 k2 (Nat.le_refl _)).mono fun e w' ⟨⟨p, m, c, e1, e2⟩, e3⟩ => ⟨⟨p, m, c, e1, e2.wide (fun k hk => by have := e3.size; omega)⟩, e3⟩)
 obtain ⟨v, hv⟩ : ∃ v, v = decide ((Qi x b t).bytes ≤ 12000 ∧ (Qi x b t).depth ≤ 60) := ⟨_, rfl⟩
 rw [← hv] at VT
 obtain ⟨R, hR⟩ : ∃ R, R = if (Qi x b t).bytes ≤ 12000 ∧ (Qi x b t).depth ≤ 60 then some (Qi x b t) else none := ⟨_, rfl⟩
 rw [← hR]
 have HR : Hid (R = if v = true then some (Qi x b t) else none) := H_ (by rw [hR, hv]; simp)
 clear hR
 clear hv h1 h2 h3 g1 g2 g3 hwf hby hby2
 subst hax
 simp only [Z1] at C2
 cases v <;>
  (go_enter func42, ntmps42
   go_wp2_with (first | (go_at_call 64; first | ((with_reducible refine (C1.out _).mono ?_); rintro e w1 ⟨⟨p1, n1, c1, rfl, hv1⟩, hb1⟩; have x1 := heap_alloc_new w1 (.cells #[.string (bs (Z1 t)), .slice p1 n1 c1] 47); have k1 := FV.below (hv1.wide (fun k hk => hk.2)) (Z5 w1 (.cells #[.string (bs (Z1 t)), .slice p1 n1 c1] 47)) (fun k hk => hk)) | ((with_reducible refine (C2.out _).mono ?_); rintro e w2 ⟨⟨p2, n2, c2, rfl, hv2⟩, hb2⟩; clear hv2; have x2 := heap_alloc_new w2 (.cells #[.string (bs x), .slice p2 n2 c2] 47); have k2 := (k1.below hb2 (fun k hk => by simp; omega)).below (Z5 w2 (.cells #[.string (bs x), .slice p2 n2 c2] 47)) (fun k hk => by have := hb2.size; simp at this; omega); have x1' := Z8 (o' := .cells #[.string (bs x), .slice p2 n2 c2] 47) (Z2 hb2 (by simp) x1)) | ((with_reducible refine (C3.out _).mono ?_); rintro e w3 ⟨⟨p3, n3, c3, rfl, hv3⟩, hb3⟩; have HT := H_ (Z26 (c := .cells #[.string (bs (Z1 b)), .slice p3 n3 c3] 47) hb1 hb2 hb3); have x3 := Z8 (o' := .cells #[.string (bs (Z1 b)), .slice p3 n3 c3] 47) (Z2 hb3 (by simp) x2); have x4 := Z8 (o' := .cells #[.string (bs (Z1 b)), .slice p3 n3 c3] 47) (Z2 hb3 (lt_of_block x1') x1'); have z3 := Z4 (j := 0) x3; obtain ⟨z4, z5⟩ := Zh x4; have k3 := H_ (FV.wide ((k2.below hb3 (fun k hk => by have := hb2.size; simp at this ⊢; omega)).below (Z5 w3 (.cells #[.string (bs (Z1 b)), .slice p3 n3 c3] 47)) (fun k hk => by have := hb2.size; have := hb3.size; simp at *; omega)) (ok' := fun k => k < (w3.alloc (.cells #[.string (bs (Z1 b)), .slice p3 n3 c3] 47)).heap.size) (fun k hk => by have := HT.out.2; simp; omega)); have k4 := H_ (FV.wide (hv3.below (Z5 w3 (.cells #[.string (bs (Z1 b)), .slice p3 n3 c3] 47)) (fun k hk => hk.2)) (ok' := fun k => k < (w3.alloc (.cells #[.string (bs (Z1 b)), .slice p3 n3 c3] 47)).heap.size) (fun k hk => by simp; omega)); clear hb1 hb2 hb3 hv1 k1 k2 hv3 x1 x2 x1' x3 x4)) | (go_at_call 77; go_must (refine (RC.out _ _ _ _ _ _ _ k3.out k4.out).mono ?_; rintro e w5 ⟨⟨p5, m5, c5, rfl, hv5⟩, hb5⟩)) | (go_at_call 31; go_must (refine (TX.out _ p5 m5 c5 _ hv5 (fun k hk => hk)).mono ?_; rintro e w6 ⟨rfl, hb6⟩)) | (go_at_call 78; go_must (refine (VT.out _).mono ?_; rintro e w7 ⟨rfl, hb7⟩)))
   go_ret2
   exact ⟨by rw [HR.out]; rfl, HT.out.1.trans ((hb5.mono (by have := HT.out.2; simp; omega)).trans ((hb6.mono (by have := HT.out.2; have := hb5.size; simp at this; omega)).trans (hb7.mono (by have := HT.out.2; have := hb5.size; have := hb6.size; simp at *; omega))))⟩)
theorem Z4f (s a y : ByteArray) (hs : s.size ≤ 1048576) (ha : a.size ≤ 1048576) (hy : y.size ≤ 1048576) (w : World) :
 Calls prog 42 #[.string s, .string a, .string y] w fun e w' => MakePost (Vd s.data.toList a.data.toList y.data.toList) e ∧ Below w.heap.size w w' := by
 cases h1 : Zt s.data.toList with
 | none => rw [replOf_1 _ _ h1]; exact Kl s a y hs ha hy false _ _ (by rw [h1]; rfl) rfl rfl (by simp) w
 | some t =>
   cases h2 : Zt a.data.toList with
   | none => rw [replOf_2 _ _ h2]; exact Kl s a y hs ha hy _ false _ rfl (by rw [h2]; rfl) rfl (by simp) w
   | some a' =>
     cases h3 : Zt y.data.toList with
     | none => rw [replOf_3 _ _ h3]; exact Kl s a y hs ha hy _ _ false rfl rfl (by rw [h3]; rfl) (by simp) w
     | some b =>
       match a', h2 with
       | .list ts, h2 => rw [replOf_4 _ _ h2]; exact Z27 s a y hs ha hy (by rw [h1]; rfl) h2 (by rw [h3]; rfl) w
       | .atom x, h2 => rw [Z5s h1 h2 h3]; exact Z3d s a y hs ha hy h1 h2 h3 w
end Go.Proofs.YtjaaalojcdbcpaaGreatDoor
