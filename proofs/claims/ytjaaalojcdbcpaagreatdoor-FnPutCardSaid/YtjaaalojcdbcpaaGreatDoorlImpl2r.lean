/- The program writes expressions as forms: what binds no names. The program writes expressions as forms: what binds no names, by its heads. The program writes expressions as forms: let. -/
import Derived.Test.YtjaaalojcdbcpaaGreatDoorlPureT
import Derived.Test.YtjaaalojcdbcpaaGreatDoorlAssertsM
import Derived.Test.YtjaaalojcdbcpaaGreatDoorlImpl2ma
import Derived.Test.YtjaaalojcdbcpaaGreatDoorlI2e
import Derived.Test.YtjaaalojcdbcpaaGreatDoorlShelf
import Derived.Lib.AppendIntMem
import Derived.Lib.SmallJoins
set_option maxHeartbeats 20000000
set_option linter.unusedVariables false
set_option linter.unusedSimpArgs false
namespace Go.Proofs.YtjaaalojcdbcpaaGreatDoor
open Go.RowKit Go.Proofs.Tryz
set_option maxRecDepth 8000
def Tab (w : World) : Prop := Lib.TabIs prog w "internal/strconv.uint64pow10" .u64 Lib.pow10Tab
theorem Tab.below {w w' : World} (h : Tab w) (hb : Below w.heap.size w w') : Tab w' := Lib.tabBelow_of_tabIs h w' hb
def Qa : Ex → Prop
 | .name s => s.length ≤ 4
 | .num n => -1000 < n ∧ n < 1000
 | .two _ a b => Qa a ∧ Qa b
 | .one _ a => Qa a
 | .cond a b c => Qa a ∧ Qa b ∧ Qa c
 | .lete x e b => x.length ≤ 4 ∧ Qa e ∧ Qa b
 | .func f x _ _ e => f.length ≤ 4 ∧ x.length ≤ 4 ∧ Qa e
def FmPost (B N : Nat) (t : Tr) (e : Ending) (w' : World) : Prop :=
 ∃ p m c, e = .returned (.agg (nI t (.slice p m c)).toArray) ∧ FV nI w' (fun k => k < B ∨ (N ≤ k ∧ k < w'.heap.size)) t (nI t (.slice p m c))
def FmC (x : Ex) : Prop := ∀ (v : Value) (B : Nat) (w : World), Qa x → (Z0 x).wf → (Z0 x).bytes ≤ 500000000 → EV w (fun k => k < B) x v → B ≤ w.heap.size → Tab w →
    Calls prog 69 #[v] w fun e w' => FmPost B w.heap.size (Z0 x) e w' ∧ Below w.heap.size w w'
structure FmInv (B : Nat) (w : World) (kb : Nat) (kvs : List Value) (ts : List Tr) (ys : List Value) (v1 : Value) (wr : World) : Prop where
 own : wr.ownsRow (w.heap.size + 1) 65 5 v1 ts.length ys
 fv : FVs nI wr (fun q => (q < B ∨ w.heap.size + 1 ≤ q) ∧ q < wr.heap.size ∧ v1.ownBlock ≠ some q) ts ys
 below : Below w.heap.size w wr
 res : wr.heap[w.heap.size]? = some (.cells #[.string ⟨#[]⟩, .slice none 0 0, .int .i64 0, .int .i64 0, .int .i64 0] 65 (0, 0))
 blk : wr.heap[kb]? = some (.cells kvs.toArray 53 (0, 0))
 ne : v1.ownBlock ≠ some kb
theorem FmInv.step {B : Nat} {w wr w2 w3 : World} {kb : Nat} {kvs : List Value} {ts : List Tr} {ys : List Value} {v1 : Value} {t : Tr} {cs : List Value} {o : Obj} {g' c' : Nat} (h : FmInv B w kb kvs ts ys v1 wr) (hB : B ≤ w.heap.size) (h2 : Below wr.heap.size wr w2)
 (hf : FV nI w2 (fun k => k < B ∨ (wr.heap.size ≤ k ∧ k < w2.heap.size)) t cs) (hg : (w2.alloc o).grownBy w3 v1.ownBlock)
 (ho : w3.ownsRow (w.heap.size + 1) 65 5 (.slice (some ⟨g', 0, none⟩) (ts.length + 1) c') (ts.length + 1) (ys ++ cs)) (hv : v1.ownBlock = some g' ∨ g' = (w2.alloc o).heap.size) : FmInv B w kb kvs (ts ++ [t]) (ys ++ cs) (.slice (some ⟨g', 0, none⟩) (ts.length + 1) c') w3 := by
 have hs2 := h2.size
 have hsg := hg.size
 have hbs := h.below.size
 simp only [Jg] at hsg hv
 have hres := lt_of_block h.res
 have hblk := lt_of_block h.blk
 have hold : ∀ q, v1.ownBlock = some q → w.heap.size + 1 ≤ q ∧ q < wr.heap.size := fun q hq => Yb h.own hq
 have hmv : ∀ q, q < wr.heap.size → v1.ownBlock ≠ some q → w3.heap[q]? = wr.heap[q]? := fun q hq hne => by
  rw [hg.block q (by simp; omega) (fun e => hne e.symm), heap_alloc_old _ _ (by omega), h2.block q hq]
 have hnew : ∀ q, (q < wr.heap.size ∧ v1.ownBlock ≠ some q) → (Value.slice (some ⟨g', 0, none⟩) (ts.length + 1) c').ownBlock ≠ some q := fun q hq e => by
  simp only [Value.ownBlock, Option.some.injEq] at e
  subst e
  rcases hv with hv | hv
  · exact hq.2 hv
  · omega
 refine ⟨by simpa using ho, ?_, ?_, ?_, ?_, hnew kb ⟨hblk, h.ne⟩⟩
 · refine FVs.snoc (FV.move ?_ ?_ _ _ hf) (FVs.move ?_ ?_ _ _ h.fv)
   · intro q hq
     refine ⟨by omega, by omega, ?_⟩
     intro e
     simp only [Value.ownBlock, Option.some.injEq] at e
     subst e
     rcases hv with hv | hv
     · have := hold _ hv; omega
     · omega
   · intro q hq
     rw [hg.block q (by simp; omega) (fun e => by have := hold q e.symm; omega), heap_alloc_old _ _ (by omega)]
   · rintro q ⟨q1, q2, q3⟩
     exact ⟨q1, by omega, hnew q ⟨q2, q3⟩⟩
   · rintro q ⟨q1, q2, q3⟩
     exact hmv q q2 q3
 · exact Ya h.below (h2.alloc hs2 o) hg (fun k hk => by have := hold k hk; omega)
 · rw [hmv _ hres (fun e => by have := hold _ e; omega)]; exact h.res
 · rw [hmv _ hblk h.ne]; exact h.blk
theorem Xh (a : List UInt8) (h : a.length ≤ 6) (w : World) : Calls prog 113 #[.string (bs a)] w fun e w' => e = .returned (.agg #[.string (bs a), .slice none 0 0, .int .i64 (bs a).size, .int .i64 1, .int .i64 0]) ∧ Below w.heap.size w w' := Z5d (bs a) w (by rw [Y0]; omega)
theorem Z1w (a : List UInt8) : nI (.atom a) (.slice none 0 0) = [.string (bs a), .slice none 0 0, .int .i64 (bs a).size, .int .i64 1, .int .i64 0] := by simp [nI, Z1, Tr.bytes, Tr.size, Tr.depth, Y0]
theorem fm_atom {B N : Nat} (a : List UInt8) (w' : World) : FmPost B N (.atom a) (.returned (.agg #[.string (bs a), .slice none 0 0, .int .i64 (bs a).size, .int .i64 1, .int .i64 0])) w' :=
 ⟨none, 0, 0, by rw [Z1w], by simp only [FV]⟩
theorem fm_name (s : Nm) : FmC (.name s) := by
 intro v B w hn hw hb hv hB hT
 simp only [EV] at hv
 subst hv
 simp only [Qa] at hn
 rw [show Z0 (.name s) = .atom s from rfl]
 have N1 := H_ (Xh [110, 97, 109, 101] (by decide))
 have N2 := H_ (Xh s (by omega))
 obtain ⟨o, ho⟩ : ∃ o : Obj, o = (.cells #[.string ⟨#[]⟩, .slice none 0 0, .int .i64 0, .int .i64 0, .int .i64 0] 65 (0, 0)) := ⟨_, rfl⟩
 clear hn hw hb hT
 go_enter func69, ntmps69
 go_wp2_with (first | (go_at_call 211; go_must (refine (head_name_c _ _).mono ?_; rintro e w1 ⟨rfl, hb1⟩; have y1 := Z2 hb1 (by simp) (heap_alloc_new _ _))) | (go_at_call_of 113 (bs s); refine (N2.out _).mono ?_; rintro e w5 ⟨rfl, hb5⟩; have y5 := Z2 hb5 (by have := lt_of_block y2; simp; omega) (Z8 (Z8 y2)); obtain ⟨f0, f1, f2, f3, f4⟩ := Q7 y5; obtain ⟨z0, z1, z2, z3, z4⟩ := Yo y5; have hs5 := hb5.size) | (go_at_call 113; refine (N1.out _).mono ?_; rintro e w2 ⟨rfl, hb2⟩; have y2 := Z2 hb2 (lt_of_block y1) y1))
 refine bodyPost_ret (v := .agg #[.string (bs s), .slice none 0 0, .int .i64 (bs s).size, .int .i64 1, .int .i64 0]) (by simp [results, results69, go_sem, z0, z1, z2, z3, z4]) rfl ⟨fm_atom s _, ?_⟩
 have k2 : Below w.heap.size w w2 := ((Z5 w _).trans (hb1.mono (by simp))).trans (hb2.mono (by have := hb1.size; simp at this; omega))
 have k5 : Below w.heap.size w w5 := ((k2.alloc k2.size _).alloc (by have := k2.size; simp; omega) _).trans (hb5.mono (by have := k2.size; simp; omega))
 exact set5 k5 (Nat.le_refl _) _ _ _ _ _
theorem itoa_b (n : Int) (h : -1000 < n ∧ n < 1000) (w : World) (hT : Tab w) : Calls prog 114 #[.int .i64 n] w fun e w' => e = .returned (.string (bs (Lib.itoa n))) ∧ Below w.heap.size w w' :=
 (Tryz.strconv_Itoa n (by omega) (by omega) w hT).mono fun e w' ⟨h1, k, os, h2⟩ => ⟨h1, by rw [h2]; exact Lib.below_grow _ w (Nat.le_refl _) k os⟩
theorem itoa_len {n : Int} (h : -1000 < n ∧ n < 1000) : (Lib.itoa n).length ≤ 6 := by
 have hd : ∀ u : Nat, u < 1000 → (Lib.decDigits u).length ≤ 3 := fun u hu => by
  by_cases h1 : u < 10
  · rw [dd1 u h1]; simp
  · by_cases h2 : u < 100
    · have := dd2 (u / 10) (u % 10) (by omega) (by omega) (by omega)
      rw [show u / 10 * 10 + u % 10 = u by omega] at this
      rw [this]; simp
    · have := dd3 (u / 100) (u / 10 % 10) (u % 10) (by omega) (by omega) (by omega) (by omega)
      rw [show (u / 100 * 10 + u / 10 % 10) * 10 + u % 10 = u by omega] at this
      rw [this]; simp
 unfold Lib.itoa
 split
 · have := hd n.natAbs (by omega); simp only [List.length_cons]; omega
 · have := hd n.toNat (by omega); omega
theorem fm_num (n : Int) : FmC (.num n) := by
 intro v B w hn hw hb hv hB hT
 simp only [EV] at hv
 subst hv
 simp only [Qa] at hn
 rw [show Z0 (.num n) = .atom (Lib.itoa n) from rfl]
 have N1 := H_ (Xh [110, 117, 109, 98, 101, 114] (by decide))
 have N2 := H_ (Xh (Lib.itoa n) (itoa_len hn))
 have NI := H_ (fun (W : World) (hW : Below w.heap.size w W) => itoa_b n hn W (hT.below hW))
 clear hn hw hb hT
 generalize Lib.itoa n = s at *
 go_enter func69, ntmps69
 go_wp2_with (first | (go_at_call 215; go_must (refine (head_number_c _ _).mono ?_; rintro e w1 ⟨rfl, hb1⟩; have y1 := Z2 hb1 (by simp) (heap_alloc_new _ _); have k1 : Below w.heap.size w w1 := (Z5 w _).trans (hb1.mono (by simp)))) | (go_at_call_of 113 (bs s); refine (N2.out _).mono ?_; rintro e w5 ⟨rfl, hb5⟩; have y5 := Z2 hb5 (lt_of_block y3) y3; obtain ⟨f0, f1, f2, f3, f4⟩ := Q7 y5; obtain ⟨z0, z1, z2, z3, z4⟩ := Yo y5; have k5 : Below w.heap.size w w5 := k3.trans (hb5.mono k3.size)) | (go_at_call 113; refine (N1.out _).mono ?_; rintro e w2 ⟨rfl, hb2⟩; have y2 := Z2 hb2 (lt_of_block y1) y1; have k2 : Below w.heap.size w w2 := k1.trans (hb2.mono k1.size); have k2s := k2.size; have k2a := fun o o' => (k2.alloc k2.size o).alloc (by simp; omega) o') | (go_at_call 114; refine (NI.out _ (k2a _ _)).mono ?_; rintro e w3 ⟨rfl, hb3⟩; have y3 := Z2 hb3 (by have := lt_of_block y2; simp; omega) (Z8 (Z8 y2)); have k3 : Below w.heap.size w w3 := (k2a _ _).trans (hb3.mono (k2a _ _).size)))
 refine bodyPost_ret (v := .agg #[.string (bs s), .slice none 0 0, .int .i64 (bs s).size, .int .i64 1, .int .i64 0]) (by simp [results, results69, go_sem, z0, z1, z2, z3, z4]) rfl ⟨fm_atom s _, ?_⟩
 exact set5 k5 (Nat.le_refl _) _ _ _ _ _
theorem FmInv.start {B : Nat} {w w2 w3 : World} {kb : Nat} {kvs : List Value} (h : List UInt8) (k2 : Below w.heap.size w w2) (y2 : w2.heap[w.heap.size]? = some (.cells #[.string ⟨#[]⟩, .slice none 0 0, .int .i64 0, .int .i64 0, .int .i64 0] 65 (0, 0)))
 (hb3 : Below (w2.alloc (.cells #[.string (bs h), .slice none 0 0, .int .i64 (bs h).size, .int .i64 1, .int .i64 0] 65)).heap.size (w2.alloc (.cells #[.string (bs h), .slice none 0 0, .int .i64 (bs h).size, .int .i64 1, .int .i64 0] 65)) w3)
 (hbl : (w2.alloc (.cells #[.string (bs h), .slice none 0 0, .int .i64 (bs h).size, .int .i64 1, .int .i64 0] 65)).heap.size ≤ kb) (hblk : w3.heap[kb]? = some (.cells kvs.toArray 53 (0, 0))) :
 FmInv B w kb kvs [.atom h] [.string (bs h), .slice none 0 0, .int .i64 (bs h).size, .int .i64 1, .int .i64 0] (.slice (some ⟨w2.heap.size, 0, none⟩) 1 1) w3 := by
 have hs := k2.size
 have hr := lt_of_block y2
 have hq : w3.heap[w2.heap.size]? = some (.cells #[.string (bs h), .slice none 0 0, .int .i64 (bs h).size, .int .i64 1, .int .i64 0] 65 (0, 0)) := Z2 hb3 (by simp) (heap_alloc_new _ _)
 simp only [Jg] at hbl
 refine ⟨⟨rfl, .inr ⟨w2.heap.size, 1, _, rfl, by omega, hq, Nat.le_refl _, by decide, rfl, rfl⟩⟩, ?_, (k2.alloc hs _).trans (hb3.mono (by simp; omega)), Z2 hb3 (by simp; omega) (Z8 y2), hblk, by simp [Value.ownBlock]; omega⟩
 simp only [FVs]
 exact ⟨[.string (bs h), .slice none 0 0, .int .i64 (bs h).size, .int .i64 1, .int .i64 0], [], rfl, by simp only [FV]; rw [Z1w], rfl⟩
theorem FmInv.fin {B : Nat} {w wr w7 : World} {kb : Nat} {kvs : List Value} {ts : List Tr} {ys : List Value} {g vc : Nat} (h : FmInv B w kb kvs ts ys (.slice (some ⟨g, 0, none⟩) ts.length vc) wr) (hB : B ≤ w.heap.size) (h7 : Below wr.heap.size wr w7) (v0 v1 v2 v3 v4 : Value) :
 FmPost B w.heap.size (.list ts) (.returned (.agg #[.string ⟨#[]⟩, .slice (some ⟨g, 0, none⟩) ts.length vc, .int .i64 (Tr.list ts).bytes, .int .i64 (Tr.list ts).size, .int .i64 (Tr.list ts).depth])) (((((w7.setCell ⟨w.heap.size, 0, none⟩ v0).setCell ⟨w.heap.size, 1, none⟩ v1).setCell ⟨w.heap.size, 2, none⟩ v2).setCell ⟨w.heap.size, 3, none⟩ v3).setCell ⟨w.heap.size, 4, none⟩ v4) ∧
  Below w.heap.size w (((((w7.setCell ⟨w.heap.size, 0, none⟩ v0).setCell ⟨w.heap.size, 1, none⟩ v1).setCell ⟨w.heap.size, 2, none⟩ v2).setCell ⟨w.heap.size, 3, none⟩ v3).setCell ⟨w.heap.size, 4, none⟩ v4) := by
 have hs7 := h7.size
 have hlt := Yb h.own (k := g) rfl
 have hcap := Xx h.own
 have hmv : ∀ q, q < wr.heap.size → q ≠ w.heap.size → (((((w7.setCell ⟨w.heap.size, 0, none⟩ v0).setCell ⟨w.heap.size, 1, none⟩ v1).setCell ⟨w.heap.size, 2, none⟩ v2).setCell ⟨w.heap.size, 3, none⟩ v3).setCell ⟨w.heap.size, 4, none⟩ v4).heap[q]? = wr.heap[q]? := fun q hq hne => by
  rw [Z3 _ hne, Z3 _ hne, Z3 _ hne, Z3 _ hne, Z3 _ hne, h7.block q hq]
 refine ⟨⟨some ⟨g, 0, none⟩, ts.length, vc, rfl, ?_⟩, set5 (h.below.trans (h7.mono h.below.size)) (Nat.le_refl _) _ _ _ _ _⟩
 simp only [FV]
 refine ⟨g, 0, vc, ys, rfl, .inr ⟨by omega, by simp; omega⟩, hcap.1, hcap.2, (X4 h.own).move (hmv g hlt.2 (by omega)), FVs.move (fun q hq => ?_) (fun q hq => ?_) _ _ h.fv⟩
 · simp; omega
 · exact hmv q hq.2.1 (by omega)
def Z3u (B : Nat) (w : World) (ks : List Ex) (kvs : List Value) : Prop := ∀ j (hj : j < ks.length), ∃ T u s o1 o2 o3, kvs[j]? = some (.iface T u) ∧ (∀ q, nI (Z0 ks[j]) q = [.string s, q, .int .i64 o1, .int .i64 o2, .int .i64 o3]) ∧
 ∀ W, Below w.heap.size w W → Calls prog 69 #[.iface T u] W fun e w' => (∃ p m c, e = .returned (.agg #[.string s, .slice p m c, .int .i64 o1, .int .i64 o2, .int .i64 o3]) ∧ FV nI w' (fun k => k < B ∨ (W.heap.size ≤ k ∧ k < w'.heap.size)) (Z0 ks[j]) [.string s, .slice p m c, .int .i64 o1, .int .i64 o2, .int .i64 o3]) ∧ Below W.heap.size W w'
theorem Qg {x : Ex} {T : TypeId} {u : Value} {w : World} {B : Nat} (ih : FmC x) (hn : Qa x) (hw : (Z0 x).wf) (hb : (Z0 x).bytes ≤ 500000000) (hv : EV w (fun k => k < B) x (.iface T u)) (hB : B ≤ w.heap.size) (hT : Tab w) :
 ∃ s o1 o2 o3, (∀ q, nI (Z0 x) q = [.string s, q, .int .i64 o1, .int .i64 o2, .int .i64 o3]) ∧ ∀ W, Below w.heap.size w W → Calls prog 69 #[.iface T u] W fun e w' => (∃ p m c, e = .returned (.agg #[.string s, .slice p m c, .int .i64 o1, .int .i64 o2, .int .i64 o3]) ∧ FV nI w' (fun k => k < B ∨ (W.heap.size ≤ k ∧ k < w'.heap.size)) (Z0 x) [.string s, .slice p m c, .int .i64 o1, .int .i64 o2, .int .i64 o3]) ∧ Below W.heap.size W w' := by
 obtain ⟨s, o1, o2, o3, -, -, -, -, hq⟩ := Jo (Z0 x)
 refine ⟨s, o1, o2, o3, hq, fun W hW => (ih _ B W hn hw hb (hv.below hW (fun k hk => Nat.lt_of_lt_of_le hk hB)) (Nat.le_trans hB hW.size) (hT.below hW)).mono fun e w' ⟨⟨p, m, c, h1, h2⟩, h3⟩ => ⟨⟨p, m, c, ?_, ?_⟩, h3⟩⟩
 · rw [h1, hq]
 · rw [hq] at h2; exact h2
theorem fm_add (a b : Ex) (iha : FmC a) (ihb : FmC b) : FmC (Ex.two Op2.add a b) := by
 intro v B w hn hw hb hv hB hT
 simp only [EV] at hv
 obtain ⟨x, y, rfl, hx, hy⟩ := hv
 obtain ⟨Tx, ux, rfl⟩ := hx.iface
 obtain ⟨Ty, uy, rfl⟩ := hy.iface
 simp only [Qa] at hn
 have hfo : Z0 (Ex.two Op2.add a b) = .list (.atom [43] :: (Zb (Ex.two Op2.add a b)).map Z0) := rfl
 have hwf := hw
 have hby := hb
 simp only [Z0, Tr.wf, wfs, Tr.bytes, Zi] at hw hb
 have HK : Hid (Z3u B w (Zb (Ex.two Op2.add a b)) [Value.iface Tx ux, Value.iface Ty uy]) := H_ (by
  intro j hj
  match j, hj with
  | 0, _ => obtain ⟨s, o1, o2, o3, q1, q2⟩ := Qg (x := a) iha (by simp_all) (by simp_all) (by omega) hx hB hT; exact ⟨_, _, s, o1, o2, o3, rfl, q1, q2⟩
  | 1, _ => obtain ⟨s, o1, o2, o3, q1, q2⟩ := Qg (x := b) ihb (by simp_all) (by simp_all) (by omega) hy hB hT; exact ⟨_, _, s, o1, o2, o3, rfl, q1, q2⟩
  )
 have N1 := H_ (Xh [43] (by decide))
 have HW : Hid (wfs (.atom [43] :: (Zb (Ex.two Op2.add a b)).map Z0)) := H_ (by rw [hfo] at hwf; simp only [Tr.wf] at hwf; exact hwf.2)
 have HBy : Hid (Zi (.atom [43] :: (Zb (Ex.two Op2.add a b)).map Z0) ≤ 1000000000) := H_ (by rw [hfo] at hby; simp only [Tr.bytes] at hby; omega)
 have hlen : (Zb (Ex.two Op2.add a b)).length = 2 := rfl
 obtain ⟨i0, hi0, hz0, hz1, hz2⟩ := info_parts Tryz.infoI
 rw [hfo]
 generalize hX : Zb (Ex.two Op2.add a b) = ks at *
 try simp only [Kv, Vg]
 obtain ⟨kvs, hkvs⟩ : ∃ kvs, kvs = [Value.iface Tx ux, Value.iface Ty uy] := ⟨_, rfl⟩
 rw [← hkvs] at HK
 have Hkv := H_ hkvs
 clear hkvs hn hw hb hfo hwf hby hT hX hx hy iha ihb
 go_enter func69, ntmps69
 go_wp2_with (first | (go_at_call 219; go_must (refine (head_add_c _ _).mono ?_; rintro e w1 ⟨rfl, hb1⟩; have y1 := Z2 hb1 (by simp) (heap_alloc_new _ _); have k1 : Below w.heap.size w w1 := (Z5 w _).trans (hb1.mono (by simp)))) | (go_at_call 113; refine (N1.out _).mono ?_; rintro e w2 ⟨rfl, hb2⟩; have y2 := Z2 hb2 (lt_of_block y1) y1; have k2 : Below w.heap.size w w2 := k1.trans (hb2.mono k1.size)) | (go_at_call 218; go_must (refine (Xa Tx Ty ux uy _).mono ?_; rintro e w3 ⟨⟨b, rfl, hbB, hbl, hblk⟩, hb3⟩)))
 have hS := H_ (FmInv.start (B := B) [43] k2 y2 hb3 hbB hblk)
 clear hblk
 rw [← Hkv.out] at hS
 clear Hkv
 have hR := lt_of_block y2
 go_loopw [3, 56] (fun v1 i wr => ∃ (j : Nat) (ts : List Tr) (ys : List Value), j ≤ 2 ∧ i = .int .i64 j ∧ Hid (ts = .atom [43] :: (ks.take j).map Z0) ∧ 1 ≤ ts.length ∧ ts.length ≤ 1 + j ∧ Hid (FmInv B w b kvs ts ys v1 wr)) (fun _ i _ => 2 - (intOf i).toNat)
 case atStart => exact ⟨0, _, _, Nat.zero_le _, rfl, H_ (by simp), Nat.le_refl _, Nat.le_refl _, hS⟩
 case round =>
  obtain ⟨j, ts, ys, hj, rfl, hts, htl0, htl, hI⟩ := hrel
  have HO := H_ hI.out.own
  obtain ⟨p1, c1, rfl⟩ := Zn HO.out
  have hbel := hI.out.below.size
  have hresb := lt_of_block hI.out.res
  by_cases hlt : j < 2
  · have hjl : j < ks.length := by omega
    obtain ⟨T, u, s, o1, o2, o3, hkv, hnI, HC⟩ := HK.out j hjl
    have c0 : wr.cell? ⟨b, j, none⟩ = some (.iface T u) := by rw [Z4 hI.out.blk]; simpa using hkv
    have C := H_ (HC wr hI.out.below)
    have HS := H_ (show ts ++ [Z0 ks[j]] = .atom [43] :: (ks.take (j + 1)).map Z0 by rw [hts.out, List.take_succ_eq_append_getElem hjl, List.map_append]; rfl)
    generalize Z0 ks[j] = ft at *
    clear HC hkv HK hnI
    go_wp2_with (first | (go_at_call 69; go_must (refine (C.out).mono ?_; rintro e w5 ⟨⟨p5, m5, c5, rfl, hv5⟩, hb5⟩; have hs5 := hb5.size)) | (at_builtin; go_must (refine Zm _ rfl _ _ 63 rfl (w.heap.size + 1) 65 i0 (.agg #[.string ⟨#[]⟩, .slice none 0 0, .int .i64 0, .int .i64 0, .int .i64 0]) 5 64 underlying63 hi0 hz0 hz1 hz2 rfl (by decide) (.slice p1 ts.length c1) ts.length ys rfl ((Zx HO.out hb5).alloc _) ⟨w5.heap.size, 0, none⟩ [.string s, .slice p5 m5 c5, .int .i64 o1, .int .i64 o2, .int .i64 o3] rfl rfl (Xr (heap_alloc_new _ _)) (by intro u hu; simp at hu; rcases hu with rfl | rfl | rfl | rfl | rfl <;> rfl) (by unfold maxLen; omega) (by omega) (by simp; omega) ?_; intro g' c' w6 hown' hgrow hgg)))
    go_roundw
    case rel => exact ⟨j + 1, ts ++ [ft], _, by omega, by go_num, HS, by simp, by simp; omega, H_ (hI.out.step hB hb5 hv5 hgrow hown' hgg)⟩
    case measure => simp [intOf]; omega
  · have : j = 2 := by omega
    subst this
    have hts2 := hts.out
    rw [List.take_of_length_le (by omega)] at hts2
    have HT2 := H_ hts2
    obtain ⟨g, rfl⟩ : ∃ g, p1 = some ⟨g, 0, none⟩ := by
     rcases HO.out.2 with ⟨e1, e2⟩ | ⟨g, cap', cur, e1, _⟩
     · omega
     · simp only [Value.slice.injEq] at e1; exact ⟨g, e1.1⟩
    have hown := HO.out
    have hcap := Xx hown
    have hlt' := Yb hown (k := g) rfl
    have NL := H_ (J0 ts.length ts rfl ys _ g c1 wr hI.out.fv (X4 hown) (fun k hk => hk.2.1) hlt'.2 (by rw [hts2]; exact HW.out) (by rw [hts2]; have := HBy.out; omega) hcap.2 hcap.1)
    have hres := hI.out.res
    have hFin := H_ (fun w7 (h7 : Below wr.heap.size wr w7) => hI.out.fin hB h7)
    have HEq := H_ (show Tr.list (.atom [43] :: ks.map Z0) = Tr.list ts by rw [hts2])
    obtain ⟨q1, hq1⟩ : ∃ q : Int, q = (Tr.list ts).bytes := ⟨_, rfl⟩
    obtain ⟨q2, hq2⟩ : ∃ q : Int, q = (Tr.list ts).size := ⟨_, rfl⟩
    obtain ⟨q3, hq3⟩ : ∃ q : Int, q = (Tr.list ts).depth := ⟨_, rfl⟩
    rw [← hq1, ← hq2, ← hq3] at NL hFin
    clear hts2 hq1 hq2 hq3 HK hI HW HBy hown
    go_wp2_with (go_at_call 115; go_must (refine NL.out.mono ?_; rintro e w7 ⟨rfl, hb7⟩; have z := Z2 hb7 (lt_of_block hres) hres; obtain ⟨z0, z1, z2, z3, z4⟩ := Yo z; obtain ⟨f0, f1, f2, f3, f4⟩ := Q7 z))
    refine bodyPost_ret (v := .agg #[.string ⟨#[]⟩, .slice (some ⟨g, 0, none⟩) ts.length c1, .int .i64 q1, .int .i64 q2, .int .i64 q3]) (by simp [results, results69, go_sem, z0, z1, z2, z3, z4]) rfl ?_
    rw [HEq.out]
    exact hFin.out w7 hb7 _ _ _ _ _
theorem fm_sub (a b : Ex) (iha : FmC a) (ihb : FmC b) : FmC (Ex.two Op2.sub a b) := by
 intro v B w hn hw hb hv hB hT
 simp only [EV] at hv
 obtain ⟨x, y, rfl, hx, hy⟩ := hv
 obtain ⟨Tx, ux, rfl⟩ := hx.iface
 obtain ⟨Ty, uy, rfl⟩ := hy.iface
 simp only [Qa] at hn
 have hfo : Z0 (Ex.two Op2.sub a b) = .list (.atom [45] :: (Zb (Ex.two Op2.sub a b)).map Z0) := rfl
 have hwf := hw
 have hby := hb
 simp only [Z0, Tr.wf, wfs, Tr.bytes, Zi] at hw hb
 have HK : Hid (Z3u B w (Zb (Ex.two Op2.sub a b)) [Value.iface Tx ux, Value.iface Ty uy]) := H_ (by
  intro j hj
  match j, hj with
  | 0, _ => obtain ⟨s, o1, o2, o3, q1, q2⟩ := Qg (x := a) iha (by simp_all) (by simp_all) (by omega) hx hB hT; exact ⟨_, _, s, o1, o2, o3, rfl, q1, q2⟩
  | 1, _ => obtain ⟨s, o1, o2, o3, q1, q2⟩ := Qg (x := b) ihb (by simp_all) (by simp_all) (by omega) hy hB hT; exact ⟨_, _, s, o1, o2, o3, rfl, q1, q2⟩
  )
 have N1 := H_ (Xh [45] (by decide))
 have HW : Hid (wfs (.atom [45] :: (Zb (Ex.two Op2.sub a b)).map Z0)) := H_ (by rw [hfo] at hwf; simp only [Tr.wf] at hwf; exact hwf.2)
 have HBy : Hid (Zi (.atom [45] :: (Zb (Ex.two Op2.sub a b)).map Z0) ≤ 1000000000) := H_ (by rw [hfo] at hby; simp only [Tr.bytes] at hby; omega)
 have hlen : (Zb (Ex.two Op2.sub a b)).length = 2 := rfl
 obtain ⟨i0, hi0, hz0, hz1, hz2⟩ := info_parts Tryz.infoI
 rw [hfo]
 generalize hX : Zb (Ex.two Op2.sub a b) = ks at *
 try simp only [Kv, Vg]
 obtain ⟨kvs, hkvs⟩ : ∃ kvs, kvs = [Value.iface Tx ux, Value.iface Ty uy] := ⟨_, rfl⟩
 rw [← hkvs] at HK
 have Hkv := H_ hkvs
 clear hkvs hn hw hb hfo hwf hby hT hX hx hy iha ihb
 go_enter func69, ntmps69
 go_wp2_with (first | (go_at_call 222; go_must (refine (head_sub_c _ _).mono ?_; rintro e w1 ⟨rfl, hb1⟩; have y1 := Z2 hb1 (by simp) (heap_alloc_new _ _); have k1 : Below w.heap.size w w1 := (Z5 w _).trans (hb1.mono (by simp)))) | (go_at_call 113; refine (N1.out _).mono ?_; rintro e w2 ⟨rfl, hb2⟩; have y2 := Z2 hb2 (lt_of_block y1) y1; have k2 : Below w.heap.size w w2 := k1.trans (hb2.mono k1.size)) | (go_at_call 218; go_must (refine (Xa Tx Ty ux uy _).mono ?_; rintro e w3 ⟨⟨b, rfl, hbB, hbl, hblk⟩, hb3⟩)))
 have hS := H_ (FmInv.start (B := B) [45] k2 y2 hb3 hbB hblk)
 clear hblk
 rw [← Hkv.out] at hS
 clear Hkv
 have hR := lt_of_block y2
 go_loopw [3, 56] (fun v1 i wr => ∃ (j : Nat) (ts : List Tr) (ys : List Value), j ≤ 2 ∧ i = .int .i64 j ∧ Hid (ts = .atom [45] :: (ks.take j).map Z0) ∧ 1 ≤ ts.length ∧ ts.length ≤ 1 + j ∧ Hid (FmInv B w b kvs ts ys v1 wr)) (fun _ i _ => 2 - (intOf i).toNat)
 case atStart => exact ⟨0, _, _, Nat.zero_le _, rfl, H_ (by simp), Nat.le_refl _, Nat.le_refl _, hS⟩
 case round =>
  obtain ⟨j, ts, ys, hj, rfl, hts, htl0, htl, hI⟩ := hrel
  have HO := H_ hI.out.own
  obtain ⟨p1, c1, rfl⟩ := Zn HO.out
  have hbel := hI.out.below.size
  have hresb := lt_of_block hI.out.res
  by_cases hlt : j < 2
  · have hjl : j < ks.length := by omega
    obtain ⟨T, u, s, o1, o2, o3, hkv, hnI, HC⟩ := HK.out j hjl
    have c0 : wr.cell? ⟨b, j, none⟩ = some (.iface T u) := by rw [Z4 hI.out.blk]; simpa using hkv
    have C := H_ (HC wr hI.out.below)
    have HS := H_ (show ts ++ [Z0 ks[j]] = .atom [45] :: (ks.take (j + 1)).map Z0 by rw [hts.out, List.take_succ_eq_append_getElem hjl, List.map_append]; rfl)
    generalize Z0 ks[j] = ft at *
    clear HC hkv HK hnI
    go_wp2_with (first | (go_at_call 69; go_must (refine (C.out).mono ?_; rintro e w5 ⟨⟨p5, m5, c5, rfl, hv5⟩, hb5⟩; have hs5 := hb5.size)) | (at_builtin; go_must (refine Zm _ rfl _ _ 63 rfl (w.heap.size + 1) 65 i0 (.agg #[.string ⟨#[]⟩, .slice none 0 0, .int .i64 0, .int .i64 0, .int .i64 0]) 5 64 underlying63 hi0 hz0 hz1 hz2 rfl (by decide) (.slice p1 ts.length c1) ts.length ys rfl ((Zx HO.out hb5).alloc _) ⟨w5.heap.size, 0, none⟩ [.string s, .slice p5 m5 c5, .int .i64 o1, .int .i64 o2, .int .i64 o3] rfl rfl (Xr (heap_alloc_new _ _)) (by intro u hu; simp at hu; rcases hu with rfl | rfl | rfl | rfl | rfl <;> rfl) (by unfold maxLen; omega) (by omega) (by simp; omega) ?_; intro g' c' w6 hown' hgrow hgg)))
    go_roundw
    case rel => exact ⟨j + 1, ts ++ [ft], _, by omega, by go_num, HS, by simp, by simp; omega, H_ (hI.out.step hB hb5 hv5 hgrow hown' hgg)⟩
    case measure => simp [intOf]; omega
  · have : j = 2 := by omega
    subst this
    have hts2 := hts.out
    rw [List.take_of_length_le (by omega)] at hts2
    have HT2 := H_ hts2
    obtain ⟨g, rfl⟩ : ∃ g, p1 = some ⟨g, 0, none⟩ := by
     rcases HO.out.2 with ⟨e1, e2⟩ | ⟨g, cap', cur, e1, _⟩
     · omega
     · simp only [Value.slice.injEq] at e1; exact ⟨g, e1.1⟩
    have hown := HO.out
    have hcap := Xx hown
    have hlt' := Yb hown (k := g) rfl
    have NL := H_ (J0 ts.length ts rfl ys _ g c1 wr hI.out.fv (X4 hown) (fun k hk => hk.2.1) hlt'.2 (by rw [hts2]; exact HW.out) (by rw [hts2]; have := HBy.out; omega) hcap.2 hcap.1)
    have hres := hI.out.res
    have hFin := H_ (fun w7 (h7 : Below wr.heap.size wr w7) => hI.out.fin hB h7)
    have HEq := H_ (show Tr.list (.atom [45] :: ks.map Z0) = Tr.list ts by rw [hts2])
    obtain ⟨q1, hq1⟩ : ∃ q : Int, q = (Tr.list ts).bytes := ⟨_, rfl⟩
    obtain ⟨q2, hq2⟩ : ∃ q : Int, q = (Tr.list ts).size := ⟨_, rfl⟩
    obtain ⟨q3, hq3⟩ : ∃ q : Int, q = (Tr.list ts).depth := ⟨_, rfl⟩
    rw [← hq1, ← hq2, ← hq3] at NL hFin
    clear hts2 hq1 hq2 hq3 HK hI HW HBy hown
    go_wp2_with (go_at_call 115; go_must (refine NL.out.mono ?_; rintro e w7 ⟨rfl, hb7⟩; have z := Z2 hb7 (lt_of_block hres) hres; obtain ⟨z0, z1, z2, z3, z4⟩ := Yo z; obtain ⟨f0, f1, f2, f3, f4⟩ := Q7 z))
    refine bodyPost_ret (v := .agg #[.string ⟨#[]⟩, .slice (some ⟨g, 0, none⟩) ts.length c1, .int .i64 q1, .int .i64 q2, .int .i64 q3]) (by simp [results, results69, go_sem, z0, z1, z2, z3, z4]) rfl ?_
    rw [HEq.out]
    exact hFin.out w7 hb7 _ _ _ _ _
theorem fm_mul (a b : Ex) (iha : FmC a) (ihb : FmC b) : FmC (Ex.two Op2.mul a b) := by
 intro v B w hn hw hb hv hB hT
 simp only [EV] at hv
 obtain ⟨x, y, rfl, hx, hy⟩ := hv
 obtain ⟨Tx, ux, rfl⟩ := hx.iface
 obtain ⟨Ty, uy, rfl⟩ := hy.iface
 simp only [Qa] at hn
 have hfo : Z0 (Ex.two Op2.mul a b) = .list (.atom [42] :: (Zb (Ex.two Op2.mul a b)).map Z0) := rfl
 have hwf := hw
 have hby := hb
 simp only [Z0, Tr.wf, wfs, Tr.bytes, Zi] at hw hb
 have HK : Hid (Z3u B w (Zb (Ex.two Op2.mul a b)) [Value.iface Tx ux, Value.iface Ty uy]) := H_ (by
  intro j hj
  match j, hj with
  | 0, _ => obtain ⟨s, o1, o2, o3, q1, q2⟩ := Qg (x := a) iha (by simp_all) (by simp_all) (by omega) hx hB hT; exact ⟨_, _, s, o1, o2, o3, rfl, q1, q2⟩
  | 1, _ => obtain ⟨s, o1, o2, o3, q1, q2⟩ := Qg (x := b) ihb (by simp_all) (by simp_all) (by omega) hy hB hT; exact ⟨_, _, s, o1, o2, o3, rfl, q1, q2⟩
  )
 have N1 := H_ (Xh [42] (by decide))
 have HW : Hid (wfs (.atom [42] :: (Zb (Ex.two Op2.mul a b)).map Z0)) := H_ (by rw [hfo] at hwf; simp only [Tr.wf] at hwf; exact hwf.2)
 have HBy : Hid (Zi (.atom [42] :: (Zb (Ex.two Op2.mul a b)).map Z0) ≤ 1000000000) := H_ (by rw [hfo] at hby; simp only [Tr.bytes] at hby; omega)
 have hlen : (Zb (Ex.two Op2.mul a b)).length = 2 := rfl
 obtain ⟨i0, hi0, hz0, hz1, hz2⟩ := info_parts Tryz.infoI
 rw [hfo]
 generalize hX : Zb (Ex.two Op2.mul a b) = ks at *
 try simp only [Kv, Vg]
 obtain ⟨kvs, hkvs⟩ : ∃ kvs, kvs = [Value.iface Tx ux, Value.iface Ty uy] := ⟨_, rfl⟩
 rw [← hkvs] at HK
 have Hkv := H_ hkvs
 clear hkvs hn hw hb hfo hwf hby hT hX hx hy iha ihb
 go_enter func69, ntmps69
 go_wp2_with (first | (go_at_call 224; go_must (refine (head_mul_c _ _).mono ?_; rintro e w1 ⟨rfl, hb1⟩; have y1 := Z2 hb1 (by simp) (heap_alloc_new _ _); have k1 : Below w.heap.size w w1 := (Z5 w _).trans (hb1.mono (by simp)))) | (go_at_call 113; refine (N1.out _).mono ?_; rintro e w2 ⟨rfl, hb2⟩; have y2 := Z2 hb2 (lt_of_block y1) y1; have k2 : Below w.heap.size w w2 := k1.trans (hb2.mono k1.size)) | (go_at_call 218; go_must (refine (Xa Tx Ty ux uy _).mono ?_; rintro e w3 ⟨⟨b, rfl, hbB, hbl, hblk⟩, hb3⟩)))
 have hS := H_ (FmInv.start (B := B) [42] k2 y2 hb3 hbB hblk)
 clear hblk
 rw [← Hkv.out] at hS
 clear Hkv
 have hR := lt_of_block y2
 go_loopw [3, 56] (fun v1 i wr => ∃ (j : Nat) (ts : List Tr) (ys : List Value), j ≤ 2 ∧ i = .int .i64 j ∧ Hid (ts = .atom [42] :: (ks.take j).map Z0) ∧ 1 ≤ ts.length ∧ ts.length ≤ 1 + j ∧ Hid (FmInv B w b kvs ts ys v1 wr)) (fun _ i _ => 2 - (intOf i).toNat)
 case atStart => exact ⟨0, _, _, Nat.zero_le _, rfl, H_ (by simp), Nat.le_refl _, Nat.le_refl _, hS⟩
 case round =>
  obtain ⟨j, ts, ys, hj, rfl, hts, htl0, htl, hI⟩ := hrel
  have HO := H_ hI.out.own
  obtain ⟨p1, c1, rfl⟩ := Zn HO.out
  have hbel := hI.out.below.size
  have hresb := lt_of_block hI.out.res
  by_cases hlt : j < 2
  · have hjl : j < ks.length := by omega
    obtain ⟨T, u, s, o1, o2, o3, hkv, hnI, HC⟩ := HK.out j hjl
    have c0 : wr.cell? ⟨b, j, none⟩ = some (.iface T u) := by rw [Z4 hI.out.blk]; simpa using hkv
    have C := H_ (HC wr hI.out.below)
    have HS := H_ (show ts ++ [Z0 ks[j]] = .atom [42] :: (ks.take (j + 1)).map Z0 by rw [hts.out, List.take_succ_eq_append_getElem hjl, List.map_append]; rfl)
    generalize Z0 ks[j] = ft at *
    clear HC hkv HK hnI
    go_wp2_with (first | (go_at_call 69; go_must (refine (C.out).mono ?_; rintro e w5 ⟨⟨p5, m5, c5, rfl, hv5⟩, hb5⟩; have hs5 := hb5.size)) | (at_builtin; go_must (refine Zm _ rfl _ _ 63 rfl (w.heap.size + 1) 65 i0 (.agg #[.string ⟨#[]⟩, .slice none 0 0, .int .i64 0, .int .i64 0, .int .i64 0]) 5 64 underlying63 hi0 hz0 hz1 hz2 rfl (by decide) (.slice p1 ts.length c1) ts.length ys rfl ((Zx HO.out hb5).alloc _) ⟨w5.heap.size, 0, none⟩ [.string s, .slice p5 m5 c5, .int .i64 o1, .int .i64 o2, .int .i64 o3] rfl rfl (Xr (heap_alloc_new _ _)) (by intro u hu; simp at hu; rcases hu with rfl | rfl | rfl | rfl | rfl <;> rfl) (by unfold maxLen; omega) (by omega) (by simp; omega) ?_; intro g' c' w6 hown' hgrow hgg)))
    go_roundw
    case rel => exact ⟨j + 1, ts ++ [ft], _, by omega, by go_num, HS, by simp, by simp; omega, H_ (hI.out.step hB hb5 hv5 hgrow hown' hgg)⟩
    case measure => simp [intOf]; omega
  · have : j = 2 := by omega
    subst this
    have hts2 := hts.out
    rw [List.take_of_length_le (by omega)] at hts2
    have HT2 := H_ hts2
    obtain ⟨g, rfl⟩ : ∃ g, p1 = some ⟨g, 0, none⟩ := by
     rcases HO.out.2 with ⟨e1, e2⟩ | ⟨g, cap', cur, e1, _⟩
     · omega
     · simp only [Value.slice.injEq] at e1; exact ⟨g, e1.1⟩
    have hown := HO.out
    have hcap := Xx hown
    have hlt' := Yb hown (k := g) rfl
    have NL := H_ (J0 ts.length ts rfl ys _ g c1 wr hI.out.fv (X4 hown) (fun k hk => hk.2.1) hlt'.2 (by rw [hts2]; exact HW.out) (by rw [hts2]; have := HBy.out; omega) hcap.2 hcap.1)
    have hres := hI.out.res
    have hFin := H_ (fun w7 (h7 : Below wr.heap.size wr w7) => hI.out.fin hB h7)
    have HEq := H_ (show Tr.list (.atom [42] :: ks.map Z0) = Tr.list ts by rw [hts2])
    obtain ⟨q1, hq1⟩ : ∃ q : Int, q = (Tr.list ts).bytes := ⟨_, rfl⟩
    obtain ⟨q2, hq2⟩ : ∃ q : Int, q = (Tr.list ts).size := ⟨_, rfl⟩
    obtain ⟨q3, hq3⟩ : ∃ q : Int, q = (Tr.list ts).depth := ⟨_, rfl⟩
    rw [← hq1, ← hq2, ← hq3] at NL hFin
    clear hts2 hq1 hq2 hq3 HK hI HW HBy hown
    go_wp2_with (go_at_call 115; go_must (refine NL.out.mono ?_; rintro e w7 ⟨rfl, hb7⟩; have z := Z2 hb7 (lt_of_block hres) hres; obtain ⟨z0, z1, z2, z3, z4⟩ := Yo z; obtain ⟨f0, f1, f2, f3, f4⟩ := Q7 z))
    refine bodyPost_ret (v := .agg #[.string ⟨#[]⟩, .slice (some ⟨g, 0, none⟩) ts.length c1, .int .i64 q1, .int .i64 q2, .int .i64 q3]) (by simp [results, results69, go_sem, z0, z1, z2, z3, z4]) rfl ?_
    rw [HEq.out]
    exact hFin.out w7 hb7 _ _ _ _ _
theorem fm_call (a b : Ex) (iha : FmC a) (ihb : FmC b) : FmC (Ex.two Op2.call a b) := by
 intro v B w hn hw hb hv hB hT
 simp only [EV] at hv
 obtain ⟨x, y, rfl, hx, hy⟩ := hv
 obtain ⟨Tx, ux, rfl⟩ := hx.iface
 obtain ⟨Ty, uy, rfl⟩ := hy.iface
 simp only [Qa] at hn
 have hfo : Z0 (Ex.two Op2.call a b) = .list (.atom [99, 97, 108, 108] :: (Zb (Ex.two Op2.call a b)).map Z0) := rfl
 have hwf := hw
 have hby := hb
 simp only [Z0, Tr.wf, wfs, Tr.bytes, Zi] at hw hb
 have HK : Hid (Z3u B w (Zb (Ex.two Op2.call a b)) [Value.iface Tx ux, Value.iface Ty uy]) := H_ (by
  intro j hj
  match j, hj with
  | 0, _ => obtain ⟨s, o1, o2, o3, q1, q2⟩ := Qg (x := a) iha (by simp_all) (by simp_all) (by omega) hx hB hT; exact ⟨_, _, s, o1, o2, o3, rfl, q1, q2⟩
  | 1, _ => obtain ⟨s, o1, o2, o3, q1, q2⟩ := Qg (x := b) ihb (by simp_all) (by simp_all) (by omega) hy hB hT; exact ⟨_, _, s, o1, o2, o3, rfl, q1, q2⟩
  )
 have N1 := H_ (Xh [99, 97, 108, 108] (by decide))
 have HW : Hid (wfs (.atom [99, 97, 108, 108] :: (Zb (Ex.two Op2.call a b)).map Z0)) := H_ (by rw [hfo] at hwf; simp only [Tr.wf] at hwf; exact hwf.2)
 have HBy : Hid (Zi (.atom [99, 97, 108, 108] :: (Zb (Ex.two Op2.call a b)).map Z0) ≤ 1000000000) := H_ (by rw [hfo] at hby; simp only [Tr.bytes] at hby; omega)
 have hlen : (Zb (Ex.two Op2.call a b)).length = 2 := rfl
 obtain ⟨i0, hi0, hz0, hz1, hz2⟩ := info_parts Tryz.infoI
 rw [hfo]
 generalize hX : Zb (Ex.two Op2.call a b) = ks at *
 try simp only [Kv, Vg]
 obtain ⟨kvs, hkvs⟩ : ∃ kvs, kvs = [Value.iface Tx ux, Value.iface Ty uy] := ⟨_, rfl⟩
 rw [← hkvs] at HK
 have Hkv := H_ hkvs
 clear hkvs hn hw hb hfo hwf hby hT hX hx hy iha ihb
 go_enter func69, ntmps69
 go_wp2_with (first | (go_at_call 229; go_must (refine (head_call_c _ _).mono ?_; rintro e w1 ⟨rfl, hb1⟩; have y1 := Z2 hb1 (by simp) (heap_alloc_new _ _); have k1 : Below w.heap.size w w1 := (Z5 w _).trans (hb1.mono (by simp)))) | (go_at_call 113; refine (N1.out _).mono ?_; rintro e w2 ⟨rfl, hb2⟩; have y2 := Z2 hb2 (lt_of_block y1) y1; have k2 : Below w.heap.size w w2 := k1.trans (hb2.mono k1.size)) | (go_at_call 218; go_must (refine (Xa Tx Ty ux uy _).mono ?_; rintro e w3 ⟨⟨b, rfl, hbB, hbl, hblk⟩, hb3⟩)))
 have hS := H_ (FmInv.start (B := B) [99, 97, 108, 108] k2 y2 hb3 hbB hblk)
 clear hblk
 rw [← Hkv.out] at hS
 clear Hkv
 have hR := lt_of_block y2
 go_loopw [3, 56] (fun v1 i wr => ∃ (j : Nat) (ts : List Tr) (ys : List Value), j ≤ 2 ∧ i = .int .i64 j ∧ Hid (ts = .atom [99, 97, 108, 108] :: (ks.take j).map Z0) ∧ 1 ≤ ts.length ∧ ts.length ≤ 1 + j ∧ Hid (FmInv B w b kvs ts ys v1 wr)) (fun _ i _ => 2 - (intOf i).toNat)
 case atStart => exact ⟨0, _, _, Nat.zero_le _, rfl, H_ (by simp), Nat.le_refl _, Nat.le_refl _, hS⟩
 case round =>
  obtain ⟨j, ts, ys, hj, rfl, hts, htl0, htl, hI⟩ := hrel
  have HO := H_ hI.out.own
  obtain ⟨p1, c1, rfl⟩ := Zn HO.out
  have hbel := hI.out.below.size
  have hresb := lt_of_block hI.out.res
  by_cases hlt : j < 2
  · have hjl : j < ks.length := by omega
    obtain ⟨T, u, s, o1, o2, o3, hkv, hnI, HC⟩ := HK.out j hjl
    have c0 : wr.cell? ⟨b, j, none⟩ = some (.iface T u) := by rw [Z4 hI.out.blk]; simpa using hkv
    have C := H_ (HC wr hI.out.below)
    have HS := H_ (show ts ++ [Z0 ks[j]] = .atom [99, 97, 108, 108] :: (ks.take (j + 1)).map Z0 by rw [hts.out, List.take_succ_eq_append_getElem hjl, List.map_append]; rfl)
    generalize Z0 ks[j] = ft at *
    clear HC hkv HK hnI
    go_wp2_with (first | (go_at_call 69; go_must (refine (C.out).mono ?_; rintro e w5 ⟨⟨p5, m5, c5, rfl, hv5⟩, hb5⟩; have hs5 := hb5.size)) | (at_builtin; go_must (refine Zm _ rfl _ _ 63 rfl (w.heap.size + 1) 65 i0 (.agg #[.string ⟨#[]⟩, .slice none 0 0, .int .i64 0, .int .i64 0, .int .i64 0]) 5 64 underlying63 hi0 hz0 hz1 hz2 rfl (by decide) (.slice p1 ts.length c1) ts.length ys rfl ((Zx HO.out hb5).alloc _) ⟨w5.heap.size, 0, none⟩ [.string s, .slice p5 m5 c5, .int .i64 o1, .int .i64 o2, .int .i64 o3] rfl rfl (Xr (heap_alloc_new _ _)) (by intro u hu; simp at hu; rcases hu with rfl | rfl | rfl | rfl | rfl <;> rfl) (by unfold maxLen; omega) (by omega) (by simp; omega) ?_; intro g' c' w6 hown' hgrow hgg)))
    go_roundw
    case rel => exact ⟨j + 1, ts ++ [ft], _, by omega, by go_num, HS, by simp, by simp; omega, H_ (hI.out.step hB hb5 hv5 hgrow hown' hgg)⟩
    case measure => simp [intOf]; omega
  · have : j = 2 := by omega
    subst this
    have hts2 := hts.out
    rw [List.take_of_length_le (by omega)] at hts2
    have HT2 := H_ hts2
    obtain ⟨g, rfl⟩ : ∃ g, p1 = some ⟨g, 0, none⟩ := by
     rcases HO.out.2 with ⟨e1, e2⟩ | ⟨g, cap', cur, e1, _⟩
     · omega
     · simp only [Value.slice.injEq] at e1; exact ⟨g, e1.1⟩
    have hown := HO.out
    have hcap := Xx hown
    have hlt' := Yb hown (k := g) rfl
    have NL := H_ (J0 ts.length ts rfl ys _ g c1 wr hI.out.fv (X4 hown) (fun k hk => hk.2.1) hlt'.2 (by rw [hts2]; exact HW.out) (by rw [hts2]; have := HBy.out; omega) hcap.2 hcap.1)
    have hres := hI.out.res
    have hFin := H_ (fun w7 (h7 : Below wr.heap.size wr w7) => hI.out.fin hB h7)
    have HEq := H_ (show Tr.list (.atom [99, 97, 108, 108] :: ks.map Z0) = Tr.list ts by rw [hts2])
    obtain ⟨q1, hq1⟩ : ∃ q : Int, q = (Tr.list ts).bytes := ⟨_, rfl⟩
    obtain ⟨q2, hq2⟩ : ∃ q : Int, q = (Tr.list ts).size := ⟨_, rfl⟩
    obtain ⟨q3, hq3⟩ : ∃ q : Int, q = (Tr.list ts).depth := ⟨_, rfl⟩
    rw [← hq1, ← hq2, ← hq3] at NL hFin
    clear hts2 hq1 hq2 hq3 HK hI HW HBy hown
    go_wp2_with (go_at_call 115; go_must (refine NL.out.mono ?_; rintro e w7 ⟨rfl, hb7⟩; have z := Z2 hb7 (lt_of_block hres) hres; obtain ⟨z0, z1, z2, z3, z4⟩ := Yo z; obtain ⟨f0, f1, f2, f3, f4⟩ := Q7 z))
    refine bodyPost_ret (v := .agg #[.string ⟨#[]⟩, .slice (some ⟨g, 0, none⟩) ts.length c1, .int .i64 q1, .int .i64 q2, .int .i64 q3]) (by simp [results, results69, go_sem, z0, z1, z2, z3, z4]) rfl ?_
    rw [HEq.out]
    exact hFin.out w7 hb7 _ _ _ _ _
theorem fm_pair (a b : Ex) (iha : FmC a) (ihb : FmC b) : FmC (Ex.two Op2.pair a b) := by
 intro v B w hn hw hb hv hB hT
 simp only [EV] at hv
 obtain ⟨x, y, rfl, hx, hy⟩ := hv
 obtain ⟨Tx, ux, rfl⟩ := hx.iface
 obtain ⟨Ty, uy, rfl⟩ := hy.iface
 simp only [Qa] at hn
 have hfo : Z0 (Ex.two Op2.pair a b) = .list (.atom [112, 97, 105, 114] :: (Zb (Ex.two Op2.pair a b)).map Z0) := rfl
 have hwf := hw
 have hby := hb
 simp only [Z0, Tr.wf, wfs, Tr.bytes, Zi] at hw hb
 have HK : Hid (Z3u B w (Zb (Ex.two Op2.pair a b)) [Value.iface Tx ux, Value.iface Ty uy]) := H_ (by
  intro j hj
  match j, hj with
  | 0, _ => obtain ⟨s, o1, o2, o3, q1, q2⟩ := Qg (x := a) iha (by simp_all) (by simp_all) (by omega) hx hB hT; exact ⟨_, _, s, o1, o2, o3, rfl, q1, q2⟩
  | 1, _ => obtain ⟨s, o1, o2, o3, q1, q2⟩ := Qg (x := b) ihb (by simp_all) (by simp_all) (by omega) hy hB hT; exact ⟨_, _, s, o1, o2, o3, rfl, q1, q2⟩
  )
 have N1 := H_ (Xh [112, 97, 105, 114] (by decide))
 have HW : Hid (wfs (.atom [112, 97, 105, 114] :: (Zb (Ex.two Op2.pair a b)).map Z0)) := H_ (by rw [hfo] at hwf; simp only [Tr.wf] at hwf; exact hwf.2)
 have HBy : Hid (Zi (.atom [112, 97, 105, 114] :: (Zb (Ex.two Op2.pair a b)).map Z0) ≤ 1000000000) := H_ (by rw [hfo] at hby; simp only [Tr.bytes] at hby; omega)
 have hlen : (Zb (Ex.two Op2.pair a b)).length = 2 := rfl
 obtain ⟨i0, hi0, hz0, hz1, hz2⟩ := info_parts Tryz.infoI
 rw [hfo]
 generalize hX : Zb (Ex.two Op2.pair a b) = ks at *
 try simp only [Kv, Vg]
 obtain ⟨kvs, hkvs⟩ : ∃ kvs, kvs = [Value.iface Tx ux, Value.iface Ty uy] := ⟨_, rfl⟩
 rw [← hkvs] at HK
 have Hkv := H_ hkvs
 clear hkvs hn hw hb hfo hwf hby hT hX hx hy iha ihb
 go_enter func69, ntmps69
 go_wp2_with (first | (go_at_call 231; go_must (refine (head_pair_c _ _).mono ?_; rintro e w1 ⟨rfl, hb1⟩; have y1 := Z2 hb1 (by simp) (heap_alloc_new _ _); have k1 : Below w.heap.size w w1 := (Z5 w _).trans (hb1.mono (by simp)))) | (go_at_call 113; refine (N1.out _).mono ?_; rintro e w2 ⟨rfl, hb2⟩; have y2 := Z2 hb2 (lt_of_block y1) y1; have k2 : Below w.heap.size w w2 := k1.trans (hb2.mono k1.size)) | (go_at_call 218; go_must (refine (Xa Tx Ty ux uy _).mono ?_; rintro e w3 ⟨⟨b, rfl, hbB, hbl, hblk⟩, hb3⟩)))
 have hS := H_ (FmInv.start (B := B) [112, 97, 105, 114] k2 y2 hb3 hbB hblk)
 clear hblk
 rw [← Hkv.out] at hS
 clear Hkv
 have hR := lt_of_block y2
 go_loopw [3, 56] (fun v1 i wr => ∃ (j : Nat) (ts : List Tr) (ys : List Value), j ≤ 2 ∧ i = .int .i64 j ∧ Hid (ts = .atom [112, 97, 105, 114] :: (ks.take j).map Z0) ∧ 1 ≤ ts.length ∧ ts.length ≤ 1 + j ∧ Hid (FmInv B w b kvs ts ys v1 wr)) (fun _ i _ => 2 - (intOf i).toNat)
 case atStart => exact ⟨0, _, _, Nat.zero_le _, rfl, H_ (by simp), Nat.le_refl _, Nat.le_refl _, hS⟩
 case round =>
  obtain ⟨j, ts, ys, hj, rfl, hts, htl0, htl, hI⟩ := hrel
  have HO := H_ hI.out.own
  obtain ⟨p1, c1, rfl⟩ := Zn HO.out
  have hbel := hI.out.below.size
  have hresb := lt_of_block hI.out.res
  by_cases hlt : j < 2
  · have hjl : j < ks.length := by omega
    obtain ⟨T, u, s, o1, o2, o3, hkv, hnI, HC⟩ := HK.out j hjl
    have c0 : wr.cell? ⟨b, j, none⟩ = some (.iface T u) := by rw [Z4 hI.out.blk]; simpa using hkv
    have C := H_ (HC wr hI.out.below)
    have HS := H_ (show ts ++ [Z0 ks[j]] = .atom [112, 97, 105, 114] :: (ks.take (j + 1)).map Z0 by rw [hts.out, List.take_succ_eq_append_getElem hjl, List.map_append]; rfl)
    generalize Z0 ks[j] = ft at *
    clear HC hkv HK hnI
    go_wp2_with (first | (go_at_call 69; go_must (refine (C.out).mono ?_; rintro e w5 ⟨⟨p5, m5, c5, rfl, hv5⟩, hb5⟩; have hs5 := hb5.size)) | (at_builtin; go_must (refine Zm _ rfl _ _ 63 rfl (w.heap.size + 1) 65 i0 (.agg #[.string ⟨#[]⟩, .slice none 0 0, .int .i64 0, .int .i64 0, .int .i64 0]) 5 64 underlying63 hi0 hz0 hz1 hz2 rfl (by decide) (.slice p1 ts.length c1) ts.length ys rfl ((Zx HO.out hb5).alloc _) ⟨w5.heap.size, 0, none⟩ [.string s, .slice p5 m5 c5, .int .i64 o1, .int .i64 o2, .int .i64 o3] rfl rfl (Xr (heap_alloc_new _ _)) (by intro u hu; simp at hu; rcases hu with rfl | rfl | rfl | rfl | rfl <;> rfl) (by unfold maxLen; omega) (by omega) (by simp; omega) ?_; intro g' c' w6 hown' hgrow hgg)))
    go_roundw
    case rel => exact ⟨j + 1, ts ++ [ft], _, by omega, by go_num, HS, by simp, by simp; omega, H_ (hI.out.step hB hb5 hv5 hgrow hown' hgg)⟩
    case measure => simp [intOf]; omega
  · have : j = 2 := by omega
    subst this
    have hts2 := hts.out
    rw [List.take_of_length_le (by omega)] at hts2
    have HT2 := H_ hts2
    obtain ⟨g, rfl⟩ : ∃ g, p1 = some ⟨g, 0, none⟩ := by
     rcases HO.out.2 with ⟨e1, e2⟩ | ⟨g, cap', cur, e1, _⟩
     · omega
     · simp only [Value.slice.injEq] at e1; exact ⟨g, e1.1⟩
    have hown := HO.out
    have hcap := Xx hown
    have hlt' := Yb hown (k := g) rfl
    have NL := H_ (J0 ts.length ts rfl ys _ g c1 wr hI.out.fv (X4 hown) (fun k hk => hk.2.1) hlt'.2 (by rw [hts2]; exact HW.out) (by rw [hts2]; have := HBy.out; omega) hcap.2 hcap.1)
    have hres := hI.out.res
    have hFin := H_ (fun w7 (h7 : Below wr.heap.size wr w7) => hI.out.fin hB h7)
    have HEq := H_ (show Tr.list (.atom [112, 97, 105, 114] :: ks.map Z0) = Tr.list ts by rw [hts2])
    obtain ⟨q1, hq1⟩ : ∃ q : Int, q = (Tr.list ts).bytes := ⟨_, rfl⟩
    obtain ⟨q2, hq2⟩ : ∃ q : Int, q = (Tr.list ts).size := ⟨_, rfl⟩
    obtain ⟨q3, hq3⟩ : ∃ q : Int, q = (Tr.list ts).depth := ⟨_, rfl⟩
    rw [← hq1, ← hq2, ← hq3] at NL hFin
    clear hts2 hq1 hq2 hq3 HK hI HW HBy hown
    go_wp2_with (go_at_call 115; go_must (refine NL.out.mono ?_; rintro e w7 ⟨rfl, hb7⟩; have z := Z2 hb7 (lt_of_block hres) hres; obtain ⟨z0, z1, z2, z3, z4⟩ := Yo z; obtain ⟨f0, f1, f2, f3, f4⟩ := Q7 z))
    refine bodyPost_ret (v := .agg #[.string ⟨#[]⟩, .slice (some ⟨g, 0, none⟩) ts.length c1, .int .i64 q1, .int .i64 q2, .int .i64 q3]) (by simp [results, results69, go_sem, z0, z1, z2, z3, z4]) rfl ?_
    rw [HEq.out]
    exact hFin.out w7 hb7 _ _ _ _ _
theorem fm_fst (a : Ex) (iha : FmC a) : FmC (Ex.one Op1.fst a) := by
 intro v B w hn hw hb hv hB hT
 simp only [EV] at hv
 obtain ⟨x, rfl, hx⟩ := hv
 obtain ⟨Tx, ux, rfl⟩ := hx.iface
 simp only [Qa] at hn
 have hfo : Z0 (Ex.one Op1.fst a) = .list (.atom [102, 115, 116] :: (Zb (Ex.one Op1.fst a)).map Z0) := rfl
 have hwf := hw
 have hby := hb
 simp only [Z0, Tr.wf, wfs, Tr.bytes, Zi] at hw hb
 have HK : Hid (Z3u B w (Zb (Ex.one Op1.fst a)) [Value.iface Tx ux]) := H_ (by
  intro j hj
  match j, hj with
  | 0, _ => obtain ⟨s, o1, o2, o3, q1, q2⟩ := Qg (x := a) iha (by simp_all) (by simp_all) (by omega) hx hB hT; exact ⟨_, _, s, o1, o2, o3, rfl, q1, q2⟩
  )
 have N1 := H_ (Xh [102, 115, 116] (by decide))
 have HW : Hid (wfs (.atom [102, 115, 116] :: (Zb (Ex.one Op1.fst a)).map Z0)) := H_ (by rw [hfo] at hwf; simp only [Tr.wf] at hwf; exact hwf.2)
 have HBy : Hid (Zi (.atom [102, 115, 116] :: (Zb (Ex.one Op1.fst a)).map Z0) ≤ 1000000000) := H_ (by rw [hfo] at hby; simp only [Tr.bytes] at hby; omega)
 have hlen : (Zb (Ex.one Op1.fst a)).length = 1 := rfl
 obtain ⟨i0, hi0, hz0, hz1, hz2⟩ := info_parts Tryz.infoI
 rw [hfo]
 generalize hX : Zb (Ex.one Op1.fst a) = ks at *
 try simp only [Kv, Vg]
 obtain ⟨kvs, hkvs⟩ : ∃ kvs, kvs = [Value.iface Tx ux] := ⟨_, rfl⟩
 rw [← hkvs] at HK
 have Hkv := H_ hkvs
 clear hkvs hn hw hb hfo hwf hby hT hX hx iha
 go_enter func69, ntmps69
 go_wp2_with (first | (go_at_call 234; go_must (refine (head_fst_c _ _).mono ?_; rintro e w1 ⟨rfl, hb1⟩; have y1 := Z2 hb1 (by simp) (heap_alloc_new _ _); have k1 : Below w.heap.size w w1 := (Z5 w _).trans (hb1.mono (by simp)))) | (go_at_call 113; refine (N1.out _).mono ?_; rintro e w2 ⟨rfl, hb2⟩; have y2 := Z2 hb2 (lt_of_block y1) y1; have k2 : Below w.heap.size w w2 := k1.trans (hb2.mono k1.size)) | (go_at_call 233; go_must (refine (Vr Tx ux _).mono ?_; rintro e w3 ⟨⟨b, rfl, hbB, hbl, hblk⟩, hb3⟩)))
 have hS := H_ (FmInv.start (B := B) [102, 115, 116] k2 y2 hb3 hbB hblk)
 clear hblk
 rw [← Hkv.out] at hS
 clear Hkv
 have hR := lt_of_block y2
 go_loopw [3, 56] (fun v1 i wr => ∃ (j : Nat) (ts : List Tr) (ys : List Value), j ≤ 1 ∧ i = .int .i64 j ∧ Hid (ts = .atom [102, 115, 116] :: (ks.take j).map Z0) ∧ 1 ≤ ts.length ∧ ts.length ≤ 1 + j ∧ Hid (FmInv B w b kvs ts ys v1 wr)) (fun _ i _ => 1 - (intOf i).toNat)
 case atStart => exact ⟨0, _, _, Nat.zero_le _, rfl, H_ (by simp), Nat.le_refl _, Nat.le_refl _, hS⟩
 case round =>
  obtain ⟨j, ts, ys, hj, rfl, hts, htl0, htl, hI⟩ := hrel
  have HO := H_ hI.out.own
  obtain ⟨p1, c1, rfl⟩ := Zn HO.out
  have hbel := hI.out.below.size
  have hresb := lt_of_block hI.out.res
  by_cases hlt : j < 1
  · have hjl : j < ks.length := by omega
    obtain ⟨T, u, s, o1, o2, o3, hkv, hnI, HC⟩ := HK.out j hjl
    have c0 : wr.cell? ⟨b, j, none⟩ = some (.iface T u) := by rw [Z4 hI.out.blk]; simpa using hkv
    have C := H_ (HC wr hI.out.below)
    have HS := H_ (show ts ++ [Z0 ks[j]] = .atom [102, 115, 116] :: (ks.take (j + 1)).map Z0 by rw [hts.out, List.take_succ_eq_append_getElem hjl, List.map_append]; rfl)
    generalize Z0 ks[j] = ft at *
    clear HC hkv HK hnI
    go_wp2_with (first | (go_at_call 69; go_must (refine (C.out).mono ?_; rintro e w5 ⟨⟨p5, m5, c5, rfl, hv5⟩, hb5⟩; have hs5 := hb5.size)) | (at_builtin; go_must (refine Zm _ rfl _ _ 63 rfl (w.heap.size + 1) 65 i0 (.agg #[.string ⟨#[]⟩, .slice none 0 0, .int .i64 0, .int .i64 0, .int .i64 0]) 5 64 underlying63 hi0 hz0 hz1 hz2 rfl (by decide) (.slice p1 ts.length c1) ts.length ys rfl ((Zx HO.out hb5).alloc _) ⟨w5.heap.size, 0, none⟩ [.string s, .slice p5 m5 c5, .int .i64 o1, .int .i64 o2, .int .i64 o3] rfl rfl (Xr (heap_alloc_new _ _)) (by intro u hu; simp at hu; rcases hu with rfl | rfl | rfl | rfl | rfl <;> rfl) (by unfold maxLen; omega) (by omega) (by simp; omega) ?_; intro g' c' w6 hown' hgrow hgg)))
    go_roundw
    case rel => exact ⟨j + 1, ts ++ [ft], _, by omega, by go_num, HS, by simp, by simp; omega, H_ (hI.out.step hB hb5 hv5 hgrow hown' hgg)⟩
    case measure => simp [intOf]; omega
  · have : j = 1 := by omega
    subst this
    have hts2 := hts.out
    rw [List.take_of_length_le (by omega)] at hts2
    have HT2 := H_ hts2
    obtain ⟨g, rfl⟩ : ∃ g, p1 = some ⟨g, 0, none⟩ := by
     rcases HO.out.2 with ⟨e1, e2⟩ | ⟨g, cap', cur, e1, _⟩
     · omega
     · simp only [Value.slice.injEq] at e1; exact ⟨g, e1.1⟩
    have hown := HO.out
    have hcap := Xx hown
    have hlt' := Yb hown (k := g) rfl
    have NL := H_ (J0 ts.length ts rfl ys _ g c1 wr hI.out.fv (X4 hown) (fun k hk => hk.2.1) hlt'.2 (by rw [hts2]; exact HW.out) (by rw [hts2]; have := HBy.out; omega) hcap.2 hcap.1)
    have hres := hI.out.res
    have hFin := H_ (fun w7 (h7 : Below wr.heap.size wr w7) => hI.out.fin hB h7)
    have HEq := H_ (show Tr.list (.atom [102, 115, 116] :: ks.map Z0) = Tr.list ts by rw [hts2])
    obtain ⟨q1, hq1⟩ : ∃ q : Int, q = (Tr.list ts).bytes := ⟨_, rfl⟩
    obtain ⟨q2, hq2⟩ : ∃ q : Int, q = (Tr.list ts).size := ⟨_, rfl⟩
    obtain ⟨q3, hq3⟩ : ∃ q : Int, q = (Tr.list ts).depth := ⟨_, rfl⟩
    rw [← hq1, ← hq2, ← hq3] at NL hFin
    clear hts2 hq1 hq2 hq3 HK hI HW HBy hown
    go_wp2_with (go_at_call 115; go_must (refine NL.out.mono ?_; rintro e w7 ⟨rfl, hb7⟩; have z := Z2 hb7 (lt_of_block hres) hres; obtain ⟨z0, z1, z2, z3, z4⟩ := Yo z; obtain ⟨f0, f1, f2, f3, f4⟩ := Q7 z))
    refine bodyPost_ret (v := .agg #[.string ⟨#[]⟩, .slice (some ⟨g, 0, none⟩) ts.length c1, .int .i64 q1, .int .i64 q2, .int .i64 q3]) (by simp [results, results69, go_sem, z0, z1, z2, z3, z4]) rfl ?_
    rw [HEq.out]
    exact hFin.out w7 hb7 _ _ _ _ _
theorem fm_snd (a : Ex) (iha : FmC a) : FmC (Ex.one Op1.snd a) := by
 intro v B w hn hw hb hv hB hT
 simp only [EV] at hv
 obtain ⟨x, rfl, hx⟩ := hv
 obtain ⟨Tx, ux, rfl⟩ := hx.iface
 simp only [Qa] at hn
 have hfo : Z0 (Ex.one Op1.snd a) = .list (.atom [115, 110, 100] :: (Zb (Ex.one Op1.snd a)).map Z0) := rfl
 have hwf := hw
 have hby := hb
 simp only [Z0, Tr.wf, wfs, Tr.bytes, Zi] at hw hb
 have HK : Hid (Z3u B w (Zb (Ex.one Op1.snd a)) [Value.iface Tx ux]) := H_ (by
  intro j hj
  match j, hj with
  | 0, _ => obtain ⟨s, o1, o2, o3, q1, q2⟩ := Qg (x := a) iha (by simp_all) (by simp_all) (by omega) hx hB hT; exact ⟨_, _, s, o1, o2, o3, rfl, q1, q2⟩
  )
 have N1 := H_ (Xh [115, 110, 100] (by decide))
 have HW : Hid (wfs (.atom [115, 110, 100] :: (Zb (Ex.one Op1.snd a)).map Z0)) := H_ (by rw [hfo] at hwf; simp only [Tr.wf] at hwf; exact hwf.2)
 have HBy : Hid (Zi (.atom [115, 110, 100] :: (Zb (Ex.one Op1.snd a)).map Z0) ≤ 1000000000) := H_ (by rw [hfo] at hby; simp only [Tr.bytes] at hby; omega)
 have hlen : (Zb (Ex.one Op1.snd a)).length = 1 := rfl
 obtain ⟨i0, hi0, hz0, hz1, hz2⟩ := info_parts Tryz.infoI
 rw [hfo]
 generalize hX : Zb (Ex.one Op1.snd a) = ks at *
 try simp only [Kv, Vg]
 obtain ⟨kvs, hkvs⟩ : ∃ kvs, kvs = [Value.iface Tx ux] := ⟨_, rfl⟩
 rw [← hkvs] at HK
 have Hkv := H_ hkvs
 clear hkvs hn hw hb hfo hwf hby hT hX hx iha
 go_enter func69, ntmps69
 go_wp2_with (first | (go_at_call 237; go_must (refine (head_snd_c _ _).mono ?_; rintro e w1 ⟨rfl, hb1⟩; have y1 := Z2 hb1 (by simp) (heap_alloc_new _ _); have k1 : Below w.heap.size w w1 := (Z5 w _).trans (hb1.mono (by simp)))) | (go_at_call 113; refine (N1.out _).mono ?_; rintro e w2 ⟨rfl, hb2⟩; have y2 := Z2 hb2 (lt_of_block y1) y1; have k2 : Below w.heap.size w w2 := k1.trans (hb2.mono k1.size)) | (go_at_call 233; go_must (refine (Vr Tx ux _).mono ?_; rintro e w3 ⟨⟨b, rfl, hbB, hbl, hblk⟩, hb3⟩)))
 have hS := H_ (FmInv.start (B := B) [115, 110, 100] k2 y2 hb3 hbB hblk)
 clear hblk
 rw [← Hkv.out] at hS
 clear Hkv
 have hR := lt_of_block y2
 go_loopw [3, 56] (fun v1 i wr => ∃ (j : Nat) (ts : List Tr) (ys : List Value), j ≤ 1 ∧ i = .int .i64 j ∧ Hid (ts = .atom [115, 110, 100] :: (ks.take j).map Z0) ∧ 1 ≤ ts.length ∧ ts.length ≤ 1 + j ∧ Hid (FmInv B w b kvs ts ys v1 wr)) (fun _ i _ => 1 - (intOf i).toNat)
 case atStart => exact ⟨0, _, _, Nat.zero_le _, rfl, H_ (by simp), Nat.le_refl _, Nat.le_refl _, hS⟩
 case round =>
  obtain ⟨j, ts, ys, hj, rfl, hts, htl0, htl, hI⟩ := hrel
  have HO := H_ hI.out.own
  obtain ⟨p1, c1, rfl⟩ := Zn HO.out
  have hbel := hI.out.below.size
  have hresb := lt_of_block hI.out.res
  by_cases hlt : j < 1
  · have hjl : j < ks.length := by omega
    obtain ⟨T, u, s, o1, o2, o3, hkv, hnI, HC⟩ := HK.out j hjl
    have c0 : wr.cell? ⟨b, j, none⟩ = some (.iface T u) := by rw [Z4 hI.out.blk]; simpa using hkv
    have C := H_ (HC wr hI.out.below)
    have HS := H_ (show ts ++ [Z0 ks[j]] = .atom [115, 110, 100] :: (ks.take (j + 1)).map Z0 by rw [hts.out, List.take_succ_eq_append_getElem hjl, List.map_append]; rfl)
    generalize Z0 ks[j] = ft at *
    clear HC hkv HK hnI
    go_wp2_with (first | (go_at_call 69; go_must (refine (C.out).mono ?_; rintro e w5 ⟨⟨p5, m5, c5, rfl, hv5⟩, hb5⟩; have hs5 := hb5.size)) | (at_builtin; go_must (refine Zm _ rfl _ _ 63 rfl (w.heap.size + 1) 65 i0 (.agg #[.string ⟨#[]⟩, .slice none 0 0, .int .i64 0, .int .i64 0, .int .i64 0]) 5 64 underlying63 hi0 hz0 hz1 hz2 rfl (by decide) (.slice p1 ts.length c1) ts.length ys rfl ((Zx HO.out hb5).alloc _) ⟨w5.heap.size, 0, none⟩ [.string s, .slice p5 m5 c5, .int .i64 o1, .int .i64 o2, .int .i64 o3] rfl rfl (Xr (heap_alloc_new _ _)) (by intro u hu; simp at hu; rcases hu with rfl | rfl | rfl | rfl | rfl <;> rfl) (by unfold maxLen; omega) (by omega) (by simp; omega) ?_; intro g' c' w6 hown' hgrow hgg)))
    go_roundw
    case rel => exact ⟨j + 1, ts ++ [ft], _, by omega, by go_num, HS, by simp, by simp; omega, H_ (hI.out.step hB hb5 hv5 hgrow hown' hgg)⟩
    case measure => simp [intOf]; omega
  · have : j = 1 := by omega
    subst this
    have hts2 := hts.out
    rw [List.take_of_length_le (by omega)] at hts2
    have HT2 := H_ hts2
    obtain ⟨g, rfl⟩ : ∃ g, p1 = some ⟨g, 0, none⟩ := by
     rcases HO.out.2 with ⟨e1, e2⟩ | ⟨g, cap', cur, e1, _⟩
     · omega
     · simp only [Value.slice.injEq] at e1; exact ⟨g, e1.1⟩
    have hown := HO.out
    have hcap := Xx hown
    have hlt' := Yb hown (k := g) rfl
    have NL := H_ (J0 ts.length ts rfl ys _ g c1 wr hI.out.fv (X4 hown) (fun k hk => hk.2.1) hlt'.2 (by rw [hts2]; exact HW.out) (by rw [hts2]; have := HBy.out; omega) hcap.2 hcap.1)
    have hres := hI.out.res
    have hFin := H_ (fun w7 (h7 : Below wr.heap.size wr w7) => hI.out.fin hB h7)
    have HEq := H_ (show Tr.list (.atom [115, 110, 100] :: ks.map Z0) = Tr.list ts by rw [hts2])
    obtain ⟨q1, hq1⟩ : ∃ q : Int, q = (Tr.list ts).bytes := ⟨_, rfl⟩
    obtain ⟨q2, hq2⟩ : ∃ q : Int, q = (Tr.list ts).size := ⟨_, rfl⟩
    obtain ⟨q3, hq3⟩ : ∃ q : Int, q = (Tr.list ts).depth := ⟨_, rfl⟩
    rw [← hq1, ← hq2, ← hq3] at NL hFin
    clear hts2 hq1 hq2 hq3 HK hI HW HBy hown
    go_wp2_with (go_at_call 115; go_must (refine NL.out.mono ?_; rintro e w7 ⟨rfl, hb7⟩; have z := Z2 hb7 (lt_of_block hres) hres; obtain ⟨z0, z1, z2, z3, z4⟩ := Yo z; obtain ⟨f0, f1, f2, f3, f4⟩ := Q7 z))
    refine bodyPost_ret (v := .agg #[.string ⟨#[]⟩, .slice (some ⟨g, 0, none⟩) ts.length c1, .int .i64 q1, .int .i64 q2, .int .i64 q3]) (by simp [results, results69, go_sem, z0, z1, z2, z3, z4]) rfl ?_
    rw [HEq.out]
    exact hFin.out w7 hb7 _ _ _ _ _
theorem fm_cond (a b c : Ex) (iha : FmC a) (ihb : FmC b) (ihc : FmC c) : FmC (Ex.cond a b c) := by
 intro v B w hn hw hb hv hB hT
 simp only [EV] at hv
 obtain ⟨x, y, z, rfl, hx, hy, hz⟩ := hv
 obtain ⟨Tx, ux, rfl⟩ := hx.iface
 obtain ⟨Ty, uy, rfl⟩ := hy.iface
 obtain ⟨Tz, uz, rfl⟩ := hz.iface
 simp only [Qa] at hn
 have hfo : Z0 (Ex.cond a b c) = .list (.atom [105, 102] :: (Zb (Ex.cond a b c)).map Z0) := rfl
 have hwf := hw
 have hby := hb
 simp only [Z0, Tr.wf, wfs, Tr.bytes, Zi] at hw hb
 have HK : Hid (Z3u B w (Zb (Ex.cond a b c)) [Value.iface Tx ux, Value.iface Ty uy, Value.iface Tz uz]) := H_ (by
  intro j hj
  match j, hj with
  | 0, _ => obtain ⟨s, o1, o2, o3, q1, q2⟩ := Qg (x := a) iha (by simp_all) (by simp_all) (by omega) hx hB hT; exact ⟨_, _, s, o1, o2, o3, rfl, q1, q2⟩
  | 1, _ => obtain ⟨s, o1, o2, o3, q1, q2⟩ := Qg (x := b) ihb (by simp_all) (by simp_all) (by omega) hy hB hT; exact ⟨_, _, s, o1, o2, o3, rfl, q1, q2⟩
  | 2, _ => obtain ⟨s, o1, o2, o3, q1, q2⟩ := Qg (x := c) ihc (by simp_all) (by simp_all) (by omega) hz hB hT; exact ⟨_, _, s, o1, o2, o3, rfl, q1, q2⟩
  )
 have N1 := H_ (Xh [105, 102] (by decide))
 have HW : Hid (wfs (.atom [105, 102] :: (Zb (Ex.cond a b c)).map Z0)) := H_ (by rw [hfo] at hwf; simp only [Tr.wf] at hwf; exact hwf.2)
 have HBy : Hid (Zi (.atom [105, 102] :: (Zb (Ex.cond a b c)).map Z0) ≤ 1000000000) := H_ (by rw [hfo] at hby; simp only [Tr.bytes] at hby; omega)
 have hlen : (Zb (Ex.cond a b c)).length = 3 := rfl
 obtain ⟨i0, hi0, hz0, hz1, hz2⟩ := info_parts Tryz.infoI
 rw [hfo]
 generalize hX : Zb (Ex.cond a b c) = ks at *
 try simp only [Kv, Vg]
 obtain ⟨kvs, hkvs⟩ : ∃ kvs, kvs = [Value.iface Tx ux, Value.iface Ty uy, Value.iface Tz uz] := ⟨_, rfl⟩
 rw [← hkvs] at HK
 have Hkv := H_ hkvs
 clear hkvs hn hw hb hfo hwf hby hT hX hx hy hz iha ihb ihc
 go_enter func69, ntmps69
 go_wp2_with (first | (go_at_call 226; go_must (refine (head_if_c _ _).mono ?_; rintro e w1 ⟨rfl, hb1⟩; have y1 := Z2 hb1 (by simp) (heap_alloc_new _ _); have k1 : Below w.heap.size w w1 := (Z5 w _).trans (hb1.mono (by simp)))) | (go_at_call 113; refine (N1.out _).mono ?_; rintro e w2 ⟨rfl, hb2⟩; have y2 := Z2 hb2 (lt_of_block y1) y1; have k2 : Below w.heap.size w w2 := k1.trans (hb2.mono k1.size)) | (go_at_call 227; go_must (refine (Z3p Tx Ty Tz ux uy uz _).mono ?_; rintro e w3 ⟨⟨b, rfl, hbB, hbl, hblk⟩, hb3⟩)))
 have hS := H_ (FmInv.start (B := B) [105, 102] k2 y2 hb3 hbB hblk)
 clear hblk
 rw [← Hkv.out] at hS
 clear Hkv
 have hR := lt_of_block y2
 go_loopw [3, 56] (fun v1 i wr => ∃ (j : Nat) (ts : List Tr) (ys : List Value), j ≤ 3 ∧ i = .int .i64 j ∧ Hid (ts = .atom [105, 102] :: (ks.take j).map Z0) ∧ 1 ≤ ts.length ∧ ts.length ≤ 1 + j ∧ Hid (FmInv B w b kvs ts ys v1 wr)) (fun _ i _ => 3 - (intOf i).toNat)
 case atStart => exact ⟨0, _, _, Nat.zero_le _, rfl, H_ (by simp), Nat.le_refl _, Nat.le_refl _, hS⟩
 case round =>
  obtain ⟨j, ts, ys, hj, rfl, hts, htl0, htl, hI⟩ := hrel
  have HO := H_ hI.out.own
  obtain ⟨p1, c1, rfl⟩ := Zn HO.out
  have hbel := hI.out.below.size
  have hresb := lt_of_block hI.out.res
  by_cases hlt : j < 3
  · have hjl : j < ks.length := by omega
    obtain ⟨T, u, s, o1, o2, o3, hkv, hnI, HC⟩ := HK.out j hjl
    have c0 : wr.cell? ⟨b, j, none⟩ = some (.iface T u) := by rw [Z4 hI.out.blk]; simpa using hkv
    have C := H_ (HC wr hI.out.below)
    have HS := H_ (show ts ++ [Z0 ks[j]] = .atom [105, 102] :: (ks.take (j + 1)).map Z0 by rw [hts.out, List.take_succ_eq_append_getElem hjl, List.map_append]; rfl)
    generalize Z0 ks[j] = ft at *
    clear HC hkv HK hnI
    go_wp2_with (first | (go_at_call 69; go_must (refine (C.out).mono ?_; rintro e w5 ⟨⟨p5, m5, c5, rfl, hv5⟩, hb5⟩; have hs5 := hb5.size)) | (at_builtin; go_must (refine Zm _ rfl _ _ 63 rfl (w.heap.size + 1) 65 i0 (.agg #[.string ⟨#[]⟩, .slice none 0 0, .int .i64 0, .int .i64 0, .int .i64 0]) 5 64 underlying63 hi0 hz0 hz1 hz2 rfl (by decide) (.slice p1 ts.length c1) ts.length ys rfl ((Zx HO.out hb5).alloc _) ⟨w5.heap.size, 0, none⟩ [.string s, .slice p5 m5 c5, .int .i64 o1, .int .i64 o2, .int .i64 o3] rfl rfl (Xr (heap_alloc_new _ _)) (by intro u hu; simp at hu; rcases hu with rfl | rfl | rfl | rfl | rfl <;> rfl) (by unfold maxLen; omega) (by omega) (by simp; omega) ?_; intro g' c' w6 hown' hgrow hgg)))
    go_roundw
    case rel => exact ⟨j + 1, ts ++ [ft], _, by omega, by go_num, HS, by simp, by simp; omega, H_ (hI.out.step hB hb5 hv5 hgrow hown' hgg)⟩
    case measure => simp [intOf]; omega
  · have : j = 3 := by omega
    subst this
    have hts2 := hts.out
    rw [List.take_of_length_le (by omega)] at hts2
    have HT2 := H_ hts2
    obtain ⟨g, rfl⟩ : ∃ g, p1 = some ⟨g, 0, none⟩ := by
     rcases HO.out.2 with ⟨e1, e2⟩ | ⟨g, cap', cur, e1, _⟩
     · omega
     · simp only [Value.slice.injEq] at e1; exact ⟨g, e1.1⟩
    have hown := HO.out
    have hcap := Xx hown
    have hlt' := Yb hown (k := g) rfl
    have NL := H_ (J0 ts.length ts rfl ys _ g c1 wr hI.out.fv (X4 hown) (fun k hk => hk.2.1) hlt'.2 (by rw [hts2]; exact HW.out) (by rw [hts2]; have := HBy.out; omega) hcap.2 hcap.1)
    have hres := hI.out.res
    have hFin := H_ (fun w7 (h7 : Below wr.heap.size wr w7) => hI.out.fin hB h7)
    have HEq := H_ (show Tr.list (.atom [105, 102] :: ks.map Z0) = Tr.list ts by rw [hts2])
    obtain ⟨q1, hq1⟩ : ∃ q : Int, q = (Tr.list ts).bytes := ⟨_, rfl⟩
    obtain ⟨q2, hq2⟩ : ∃ q : Int, q = (Tr.list ts).size := ⟨_, rfl⟩
    obtain ⟨q3, hq3⟩ : ∃ q : Int, q = (Tr.list ts).depth := ⟨_, rfl⟩
    rw [← hq1, ← hq2, ← hq3] at NL hFin
    clear hts2 hq1 hq2 hq3 HK hI HW HBy hown
    go_wp2_with (go_at_call 115; go_must (refine NL.out.mono ?_; rintro e w7 ⟨rfl, hb7⟩; have z := Z2 hb7 (lt_of_block hres) hres; obtain ⟨z0, z1, z2, z3, z4⟩ := Yo z; obtain ⟨f0, f1, f2, f3, f4⟩ := Q7 z))
    refine bodyPost_ret (v := .agg #[.string ⟨#[]⟩, .slice (some ⟨g, 0, none⟩) ts.length c1, .int .i64 q1, .int .i64 q2, .int .i64 q3]) (by simp [results, results69, go_sem, z0, z1, z2, z3, z4]) rfl ?_
    rw [HEq.out]
    exact hFin.out w7 hb7 _ _ _ _ _
structure FmI0 (B : Nat) (w : World) (ts : List Tr) (ys : List Value) (v1 : Value) (wr : World) : Prop where
 own : wr.ownsRow (w.heap.size + 1) 65 5 v1 ts.length ys
 fv : FVs nI wr (fun q => (q < B ∨ w.heap.size + 1 ≤ q) ∧ q < wr.heap.size ∧ v1.ownBlock ≠ some q) ts ys
 below : Below w.heap.size w wr
 res : wr.heap[w.heap.size]? = some (.cells #[.string ⟨#[]⟩, .slice none 0 0, .int .i64 0, .int .i64 0, .int .i64 0] 65 (0, 0))
theorem FVs.append2 {nd : Tr → Value → List Value} {w : World} {ok : Nat → Prop} : ∀ {ts us : List Tr} {xs ys : List Value}, FVs nd w ok ts xs → FVs nd w ok us ys → FVs nd w ok (ts ++ us) (xs ++ ys)
 | [], us, xs, ys, h, h2 => by simp only [FVs] at h; subst h; simpa using h2
 | t :: ts, us, xs, ys, h, h2 => by
   simp only [FVs, List.cons_append] at h ⊢
   obtain ⟨a, b, rfl, q1, q2⟩ := h
   exact ⟨a, b ++ ys, by simp, q1, FVs.append2 q2 h2⟩
theorem FmI0.step {B : Nat} {w wr w2 w3 : World} {ts us : List Tr} {ys : List Value} {v1 : Value} {cs : List Value} {o : Obj} {g' c' n : Nat} (h : FmI0 B w ts ys v1 wr) (hB : B ≤ w.heap.size) (h2 : Below wr.heap.size wr w2)
 (hf : FVs nI w2 (fun k => k < B ∨ (wr.heap.size ≤ k ∧ k < w2.heap.size)) us cs) (hg : (w2.alloc o).grownBy w3 v1.ownBlock) (hn : n = ts.length + us.length)
 (ho : w3.ownsRow (w.heap.size + 1) 65 5 (.slice (some ⟨g', 0, none⟩) n c') n (ys ++ cs)) (hv : v1.ownBlock = some g' ∨ g' = (w2.alloc o).heap.size) : FmI0 B w (ts ++ us) (ys ++ cs) (.slice (some ⟨g', 0, none⟩) n c') w3 := by
 have hs2 := h2.size
 have hsg := hg.size
 have hbs := h.below.size
 simp only [Jg] at hsg hv
 have hres := lt_of_block h.res
 have hold : ∀ q, v1.ownBlock = some q → w.heap.size + 1 ≤ q ∧ q < wr.heap.size := fun q hq => Yb h.own hq
 have hmv : ∀ q, q < wr.heap.size → v1.ownBlock ≠ some q → w3.heap[q]? = wr.heap[q]? := fun q hq hne => by
  rw [hg.block q (by simp; omega) (fun e => hne e.symm), heap_alloc_old _ _ (by omega), h2.block q hq]
 have hnew : ∀ q, (q < wr.heap.size ∧ v1.ownBlock ≠ some q) → (Value.slice (some ⟨g', 0, none⟩) n c').ownBlock ≠ some q := fun q hq e => by
  simp only [Value.ownBlock, Option.some.injEq] at e
  subst e
  rcases hv with hv | hv
  · exact hq.2 hv
  · omega
 refine ⟨by rw [List.length_append, ← hn]; exact ho, ?_, ?_, ?_⟩
 · refine FVs.append2 (FVs.move ?_ ?_ _ _ h.fv) (FVs.move ?_ ?_ _ _ hf)
   · rintro q ⟨q1, q2, q3⟩
     exact ⟨q1, by omega, hnew q ⟨q2, q3⟩⟩
   · rintro q ⟨q1, q2, q3⟩
     exact hmv q q2 q3
   · intro q hq
     refine ⟨by omega, by omega, ?_⟩
     intro e
     simp only [Value.ownBlock, Option.some.injEq] at e
     subst e
     rcases hv with hv | hv
     · have := hold _ hv; omega
     · omega
   · intro q hq
     rw [hg.block q (by simp; omega) (fun e => by have := hold q e.symm; omega), heap_alloc_old _ _ (by omega)]
 · exact Ya h.below (h2.alloc hs2 o) hg (fun k hk => by have := hold k hk; omega)
 · rw [hmv _ hres (fun e => by have := hold _ e; omega)]; exact h.res
theorem FmI0.on {B : Nat} {w wr w' : World} {ts : List Tr} {ys : List Value} {v1 : Value} (h : FmI0 B w ts ys v1 wr) (hb : Below wr.heap.size wr w') : FmI0 B w ts ys v1 w' :=
 ⟨Zx h.own hb, FVs.move (fun q hq => ⟨hq.1, Nat.lt_of_lt_of_le hq.2.1 hb.size, hq.2.2⟩) (fun q hq => hb.block q hq.2.1) _ _ h.fv, h.below.trans (hb.mono h.below.size), Z2 hb (lt_of_block h.res) h.res⟩
theorem FmI0.kids {B : Nat} {w wr : World} {kb : Nat} {kvs : List Value} {ts : List Tr} {ys : List Value} {v1 : Value} (h : FmI0 B w ts ys v1 wr) (blk : wr.heap[kb]? = some (.cells kvs.toArray 53 (0, 0))) (ne : v1.ownBlock ≠ some kb) : FmInv B w kb kvs ts ys v1 wr :=
 ⟨h.own, h.fv, h.below, h.res, blk, ne⟩
theorem FmI0.start {B : Nat} {w w2 : World} (h : List UInt8) (k2 : Below w.heap.size w w2) (y2 : w2.heap[w.heap.size]? = some (.cells #[.string ⟨#[]⟩, .slice none 0 0, .int .i64 0, .int .i64 0, .int .i64 0] 65 (0, 0))) :
 FmI0 B w [.atom h] [.string (bs h), .slice none 0 0, .int .i64 (bs h).size, .int .i64 1, .int .i64 0] (.slice (some ⟨w2.heap.size, 0, none⟩) 1 1) (w2.alloc (.cells #[.string (bs h), .slice none 0 0, .int .i64 (bs h).size, .int .i64 1, .int .i64 0] 65)) := by
 have hs := k2.size
 have hr := lt_of_block y2
 refine ⟨⟨rfl, .inr ⟨w2.heap.size, 1, _, rfl, by omega, heap_alloc_new _ _, Nat.le_refl _, by decide, rfl, rfl⟩⟩, ?_, k2.alloc hs _, Z8 y2⟩
 simp only [FVs]
 exact ⟨[.string (bs h), .slice none 0 0, .int .i64 (bs h).size, .int .i64 1, .int .i64 0], [], rfl, by simp only [FV]; rw [Z1w], rfl⟩
theorem atomFV (a : List UInt8) (ok : Nat → Prop) (w : World) : FVs nI w ok [.atom a] [.string (bs a), .slice none 0 0, .int .i64 (bs a).size, .int .i64 1, .int .i64 0] := by
 simp only [FVs]
 exact ⟨[.string (bs a), .slice none 0 0, .int .i64 (bs a).size, .int .i64 1, .int .i64 0], [], rfl, by simp only [FV]; rw [Z1w], rfl⟩
theorem fm_let (xn : Nm) (a c : Ex) (iha : FmC a) (ihc : FmC c) : FmC (.lete xn a c) := by
 intro v B w hn hw hb hv hB hT
 simp only [EV] at hv
 obtain ⟨x, y, rfl, hx, hy⟩ := hv
 obtain ⟨Tx, ux, rfl⟩ := hx.iface
 obtain ⟨Ty, uy, rfl⟩ := hy.iface
 simp only [Qa] at hn
 have hfo : Z0 (.lete xn a c) = .list (.atom Yy :: .atom xn :: (Zb (.lete xn a c)).map Z0) := rfl
 have hwf := hw
 have hby := hb
 simp only [Z0, Tr.wf, wfs, Tr.bytes, Zi] at hw hb
 have HK : Hid (Z3u B w (Zb (.lete xn a c)) [Value.iface Tx ux, Value.iface Ty uy]) := H_ (by
  intro j hj
  match j, hj with
  | 0, _ => obtain ⟨s, o1, o2, o3, q1, q2⟩ := Qg (x := a) iha hn.2.1 (by simp_all) (by omega) hx hB hT; exact ⟨_, _, s, o1, o2, o3, rfl, q1, q2⟩
  | 1, _ => obtain ⟨s, o1, o2, o3, q1, q2⟩ := Qg (x := c) ihc hn.2.2 (by simp_all) (by omega) hy hB hT; exact ⟨_, _, s, o1, o2, o3, rfl, q1, q2⟩
  )
 have N1 := H_ (Xh [108, 101, 116] (by decide))
 have N2 := H_ (Xh xn (by omega))
 have hfx := H_ (fun (ok : Nat → Prop) w' => atomFV xn ok w')
 have HW : Hid (wfs (.atom Yy :: .atom xn :: (Zb (.lete xn a c)).map Z0)) := H_ (by rw [hfo] at hwf; simp only [Tr.wf] at hwf; exact hwf.2)
 have HBy : Hid (Zi (.atom Yy :: .atom xn :: (Zb (.lete xn a c)).map Z0) ≤ 1000000000) := H_ (by rw [hfo] at hby; simp only [Tr.bytes] at hby; omega)
 have hlen : (Zb (.lete xn a c)).length = 2 := rfl
 obtain ⟨i0, hi0, hz0, hz1, hz2⟩ := info_parts Tryz.infoI
 rw [hfo]
 generalize hX : Zb (.lete xn a c) = ks at *
 obtain ⟨kvs, hkvs⟩ : ∃ kvs, kvs = [Value.iface Tx ux, Value.iface Ty uy] := ⟨_, rfl⟩
 rw [← hkvs] at HK
 have Hkv := H_ hkvs
 clear hkvs hn hw hb hfo hwf hby hT hX hx hy iha ihc
 go_enter func69, ntmps69
 go_wp2_with (first | (go_at_call 205; go_must (refine (head_let_c _ _).mono ?_; rintro e w1 ⟨rfl, hb1⟩; have y1 := Z2 hb1 (by simp) (heap_alloc_new _ _); have k1 : Below w.heap.size w w1 := (Z5 w _).trans (hb1.mono (by simp)))) | (go_at_call_of 113 (bs xn); refine (N2.out _).mono ?_; rintro e w4 ⟨rfl, hb4⟩; have I4 := H_ (FmI0.on (FmI0.start (B := B) [108, 101, 116] k2 y2) (((Below.refl _ _).alloc (Nat.le_refl _) _).trans (hb4.mono (by simp)))); have l4 := Z2 hb4 (by simp) (heap_alloc_new _ _); have hs4 := I4.out.below.size) | (go_at_call 113; refine (N1.out _).mono ?_; rintro e w2 ⟨rfl, hb2⟩; have y2 := Z2 hb2 (lt_of_block y1) y1; have k2 : Below w.heap.size w w2 := k1.trans (hb2.mono k1.size)) | (go_at_call 206; go_must (refine (Z7m Tx Ty _ ux uy _).mono ?_; rintro e w3 ⟨⟨b, rfl, hbB, hbl, hblk⟩, hb3⟩)) | (at_builtin; go_must (refine Zm _ rfl _ _ 63 rfl (w.heap.size + 1) 65 i0 (.agg #[.string ⟨#[]⟩, .slice none 0 0, .int .i64 0, .int .i64 0, .int .i64 0]) 5 64 underlying63 hi0 hz0 hz1 hz2 rfl (by decide) (.slice (some ⟨w2.heap.size, 0, none⟩) 1 1) 1 _ rfl (I4.out.own.alloc _) ⟨w4.heap.size, 0, none⟩ [.string (bs xn), .slice none 0 0, .int .i64 (bs xn).size, .int .i64 1, .int .i64 0] rfl rfl (Xr (heap_alloc_new _ _)) (by intro u hu; simp at hu; rcases hu with rfl | rfl | rfl | rfl | rfl <;> rfl) (by decide) (by decide) (by simp; omega) ?_; intro g' c' w6 hown' hgrow hgg; have I6 := H_ (I4.out.step (us := [.atom xn]) hB (Below.refl _ _) (hfx.out _ _) hgrow rfl hown' hgg); have hs6 := I6.out.below.size)))
 have hS := H_ (FmI0.kids (I6.out.on hb3) hblk (fun e => by have := Yb I6.out.own e; omega))
 clear hblk
 rw [← Hkv.out] at hS
 clear Hkv
 have hR := lt_of_block y2
 go_loopw [3, 56] (fun v1 i wr => ∃ (j : Nat) (ts : List Tr) (ys : List Value), j ≤ 2 ∧ i = .int .i64 j ∧ Hid (ts = .atom Yy :: .atom xn :: (ks.take j).map Z0) ∧ 1 ≤ ts.length ∧ ts.length ≤ 2 + j ∧ Hid (FmInv B w b kvs ts ys v1 wr)) (fun _ i _ => 2 - (intOf i).toNat)
 case atStart => exact ⟨0, _, _, Nat.zero_le _, rfl, H_ (by simp [Yy, Yt]), by simp, by simp, hS⟩
 case round =>
  obtain ⟨j, ts, ys, hj, rfl, hts, htl0, htl, hI⟩ := hrel
  have HO := H_ hI.out.own
  obtain ⟨p1, c1, rfl⟩ := Zn HO.out
  have hbel := hI.out.below.size
  have hresb := lt_of_block hI.out.res
  by_cases hlt : j < 2
  · have hjl : j < ks.length := by omega
    obtain ⟨T, u, s, o1, o2, o3, hkv, hnI, HC⟩ := HK.out j hjl
    have c0 : wr.cell? ⟨b, j, none⟩ = some (.iface T u) := by rw [Z4 hI.out.blk]; simpa using hkv
    have C := H_ (HC wr hI.out.below)
    have HS := H_ (show ts ++ [Z0 ks[j]] = .atom Yy :: .atom xn :: (ks.take (j + 1)).map Z0 by rw [hts.out, List.take_succ_eq_append_getElem hjl, List.map_append]; rfl)
    generalize Z0 ks[j] = ft at *
    clear HC hkv HK hnI
    go_wp2_with (first | (go_at_call 69; go_must (refine (C.out).mono ?_; rintro e w5 ⟨⟨p5, m5, c5, rfl, hv5⟩, hb5⟩; have hs5 := hb5.size)) | (at_builtin; go_must (refine Zm _ rfl _ _ 63 rfl (w.heap.size + 1) 65 i0 (.agg #[.string ⟨#[]⟩, .slice none 0 0, .int .i64 0, .int .i64 0, .int .i64 0]) 5 64 underlying63 hi0 hz0 hz1 hz2 rfl (by decide) (.slice p1 ts.length c1) ts.length ys rfl ((Zx HO.out hb5).alloc _) ⟨w5.heap.size, 0, none⟩ [.string s, .slice p5 m5 c5, .int .i64 o1, .int .i64 o2, .int .i64 o3] rfl rfl (Xr (heap_alloc_new _ _)) (by intro u hu; simp at hu; rcases hu with rfl | rfl | rfl | rfl | rfl <;> rfl) (by unfold maxLen; omega) (by omega) (by simp; omega) ?_; intro g' c' w6 hown' hgrow hgg)))
    go_roundw
    case rel => exact ⟨j + 1, ts ++ [ft], _, by omega, by go_num, HS, by simp, by simp; omega, H_ (hI.out.step hB hb5 hv5 hgrow hown' hgg)⟩
    case measure => simp [intOf]; omega
  · have : j = 2 := by omega
    subst this
    have hts2 := hts.out
    rw [List.take_of_length_le (by omega)] at hts2
    obtain ⟨g, rfl⟩ : ∃ g, p1 = some ⟨g, 0, none⟩ := by
     rcases HO.out.2 with ⟨e1, e2⟩ | ⟨g, cap', cur, e1, _⟩
     · omega
     · simp only [Value.slice.injEq] at e1; exact ⟨g, e1.1⟩
    have hown := HO.out
    have hcap := Xx hown
    have hlt' := Yb hown (k := g) rfl
    have NL := H_ (J0 ts.length ts rfl ys _ g c1 wr hI.out.fv (X4 hown) (fun k hk => hk.2.1) hlt'.2 (by rw [hts2]; exact HW.out) (by rw [hts2]; have := HBy.out; omega) hcap.2 hcap.1)
    have hres := hI.out.res
    have hFin := H_ (fun w7 (h7 : Below wr.heap.size wr w7) => hI.out.fin hB h7)
    have HEq := H_ (show Tr.list (.atom Yy :: .atom xn :: ks.map Z0) = Tr.list ts by rw [hts2])
    obtain ⟨q1, hq1⟩ : ∃ q : Int, q = (Tr.list ts).bytes := ⟨_, rfl⟩
    obtain ⟨q2, hq2⟩ : ∃ q : Int, q = (Tr.list ts).size := ⟨_, rfl⟩
    obtain ⟨q3, hq3⟩ : ∃ q : Int, q = (Tr.list ts).depth := ⟨_, rfl⟩
    rw [← hq1, ← hq2, ← hq3] at NL hFin
    clear hts2 hq1 hq2 hq3 HK hI HW HBy hown
    go_wp2_with (go_at_call 115; go_must (refine NL.out.mono ?_; rintro e w7 ⟨rfl, hb7⟩; have z := Z2 hb7 (lt_of_block hres) hres; obtain ⟨z0, z1, z2, z3, z4⟩ := Yo z; obtain ⟨f0, f1, f2, f3, f4⟩ := Q7 z))
    refine bodyPost_ret (v := .agg #[.string ⟨#[]⟩, .slice (some ⟨g, 0, none⟩) ts.length c1, .int .i64 q1, .int .i64 q2, .int .i64 q3]) (by simp [results, results69, go_sem, z0, z1, z2, z3, z4]) rfl ?_
    rw [HEq.out]
    exact hFin.out w7 hb7 _ _ _ _ _
end Go.Proofs.YtjaaalojcdbcpaaGreatDoor
