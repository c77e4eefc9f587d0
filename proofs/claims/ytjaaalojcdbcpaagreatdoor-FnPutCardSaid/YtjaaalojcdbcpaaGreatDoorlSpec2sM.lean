/- An expression with a closed one put for a name is an expression again, and its text is read as it if it keeps the limits. The plain mathematics of ExprOf: the plainest expression of a type. The reference makes expressions plain: atoms. The reference makes expressions plain: heads that bind nothing. -/
import Derived.Test.YtjaaalojcdbcpaaGreatDoorlSpec2lM
import Derived.Test.YtjaaalojcdbcpaaGreatDoorlPureT
import Derived.Test.YtjaaalojcdbcpaaGreatDoorlImpl2y
import Derived.Test.YtjaaalojcdbcpaaGreatDoorlS2dM
import Derived.Test.YtjaaalojcdbcpaaGreatDoorlSpec2m
import Derived.Deep.RegionHeldLaw
set_option maxHeartbeats 20000000
set_option linter.unusedVariables false
set_option linter.unusedSimpArgs false
namespace Go.Proofs.YtjaaalojcdbcpaaGreatDoor
open Go.RowKit Go.Proofs.Tryz
set_option maxRecDepth 8000
theorem Qm {name : Nm} {b : Ex} (hb : Zy (Z0 b) = some b) : ∀ x : Ex, Zy (Z0 x) = some x → Zy (Z0 (Zs name b x)) = some (Zs name b x)
 | .name s, h => by simp only [Zs]; split; exact hb; exact h
 | .num n, h => h
 | .two o x y, h => by
   have h := (Z0m o x y).1 h
   exact (Z0m o _ _).2 ⟨Qm hb x h.1, Qm hb y h.2⟩
 | .one o x, h => (Z1b o _).2 (Qm hb x ((Z1b o x).1 h))
 | .cond x y z, h => by
   have h := (Z0f x y z).1 h
   exact (Z0f _ _ _).2 ⟨Qm hb x h.1, Qm hb y h.2.1, Qm hb z h.2.2⟩
 | .lete s x y, h => by
   have h := (Z0e s x y).1 h
   refine (Z0e s _ _).2 ⟨h.1, Qm hb x h.2.1, ?_⟩
   split; exact h.2.2; exact Qm hb y h.2.2
 | .func f a A B x, h => by
   have h := (Vj f a A B x).1 h
   refine (Vj f a A B _).2 ⟨h.1, ?_⟩
   split; exact h.2; exact Qm hb x h.2
theorem Z7h {X : Ex} (hw : (Z0 X).wf) (hg : Zy (Z0 X) = some X) : Z10 (Z0 X) = if (Xv (Z0 X).text).isSome then some (Z0 X).text else none := by
 have hi : Jx (Z0 X) = true := by simp [Jx, hg]
 unfold Z10
 by_cases h1 : (Z0 X).bytes ≤ 12000 ∧ (Z0 X).depth ≤ 60
 · have hp := Z1j hw h1.1 h1.2
   by_cases h2 : (Z0 X).size ≤ 120
   · rw [Z0s hp hi h2]; simp [h1, h2]
   · rw [Z2g hp h2]; simp [h2]
 · have hp := Z1z hw h1
   rw [Z2f hp]
   rw [if_neg (fun h => h1 h.2)]; simp
def Qn : Tr → Ex
 | .list [x, a, b] => if Z1 x = [42] then .two .pair (Qn a) (Qn b) else .func [102] [120] a b (Qn b)
 | _ => .num 0
theorem Z1d (a : List UInt8) : Qn (.atom a) = .num 0 := by simp [Qn]
theorem Z1r (x a b : Tr) : Qn (.list [x, a, b]) = if Z1 x = [42] then .two .pair (Qn a) (Qn b) else .func [102] [120] a b (Qn b) := by rw [Qn]
theorem Z2x : Z0 (.num 0) = .atom [48] := by simp [Z0, Lib.itoa, dd1]
structure OfOK (t : Tr) : Prop where
 wf : (Z0 (Qn t)).wf
 bytes : (Z0 (Qn t)).bytes ≤ 100 * t.size
 ok : Qa (Qn t)
 good : Zy (Z0 (Qn t)) = some (Qn t)
theorem Z1s : ∀ (n : Nat) (t : Tr), t.depth ≤ n → X5 t = true → OfOK t
 | _, .atom a, _, h => by
   refine ⟨?_, ?_, ?_, ?_⟩
   · rw [Z1d, Z2x]; exact ⟨by simp, by decide⟩
   · rw [Z1d, Z2x]; simp [Tr.bytes, Tr.size]
   · rw [Z1d]; simp [Qa]
   · rw [Z1d, Z2x]; simp [Zy, Q8, Q3]
 | 0, .list ts, hd, h => by
   obtain ⟨x, a, b, rfl, -⟩ := Z0d (Kt h).1
   have := Z1t x a b
   omega
 | n + 1, .list ts, hd, h => by
   obtain ⟨x, a, b, rfl, hx, -⟩ := Z0d (Kt h).1
   have hdd := Z1t x a b
   have hsz := (Kt h).2
   have hxc : Z1 x = [42] ∨ (¬ Z1 x = [42] ∧ Z1 x = [62]) := by
    rcases hx with hx | hx
    · exact .inr ⟨by rw [hx]; decide, hx⟩
    · exact .inl hx
   have hab : X5 a = true ∧ X5 b = true := by
    rcases hxc with e | ⟨_, e⟩
    · exact Z1h (c := 42) h (by simp [Vm, e])
    · exact Z1h (c := 62) h (by simp [Vm, e])
   have hsz2 : (Tr.list [x, a, b]).size = x.size + (a.size + (b.size + 0)) := by simp only [Tr.size, Yd]
   have hx1 : 1 ≤ x.size := by
    cases x with
    | atom y => simp [Tr.size]
    | list l => rcases hx with hx | hx <;> cases hx
   have kb := Z1s n b (by omega) hab.2
   have sa := Jp hab.1
   have sb := Jp hab.2
   rw [hsz2] at hsz
   rcases hxc with e | ⟨e, e2⟩
   · have ka := Z1s n a (by omega) hab.1
     have he : Qn (.list [x, a, b]) = .two .pair (Qn a) (Qn b) := by rw [Z1r, if_pos e]
     refine ⟨?_, ?_, ?_, ?_⟩
     · rw [he]; simp only [Z0, Tr.wf, wfs]; exact ⟨by simp, ⟨by decide, by decide⟩, ka.wf, kb.wf, trivial⟩
     · rw [he, hsz2]
       have h1 := ka.bytes
       have h2 := kb.bytes
       have h3 : (Z2h .pair).length = 4 := rfl
       simp only [Z0, Tr.bytes, Zi]; omega
     · rw [he]; exact ⟨ka.ok, kb.ok⟩
     · rw [he]; exact (Z0m _ _ _).2 ⟨ka.good, kb.good⟩
   · have he : Qn (.list [x, a, b]) = .func [102] [120] a b (Qn b) := by rw [Z1r, if_neg e]
     refine ⟨?_, ?_, ?_, ?_⟩
     · rw [he]; simp only [Z0, Tr.wf, wfs]; exact ⟨by simp, ⟨by decide, by decide⟩, ⟨by decide, by decide⟩, ⟨by decide, by decide⟩, sa.1, sb.1, kb.wf, trivial⟩
     · rw [he, hsz2]
       have h2 := kb.bytes
       have h3 : Yt.length = 3 := rfl
       have h4 := sa.2.1
       have h5 := sb.2.1
       have h6 := (Vi _ _ (Nat.le_refl _) sa.2.2.2.2).1
       have h7 := (Vi _ _ (Nat.le_refl _) sb.2.2.2.2).1
       simp only [Z0, Tr.bytes, Zi, List.length_cons, List.length_nil]; omega
     · rw [he]; exact ⟨by decide, by decide, kb.ok⟩
     · rw [he]; exact (Vj _ _ _ _ _).2 ⟨by rw [hab.1, hab.2]; decide, kb.good⟩
def ofTx (l : List UInt8) : Option (List UInt8) := (Qk l).bind (fun t => Z10 (Z0 (Qn t)))
theorem Z5c {l : List UInt8} (h : Qk l = none) : ofTx l = none := by simp [ofTx, h]
theorem ofTx_some {l : List UInt8} {t : Tr} (h : Qk l = some t) : ofTx l = Z10 (Z0 (Qn t)) := by simp [ofTx, h]
theorem readTy_L {l : List UInt8} {t : Tr} (h : Qk l = some t) : X5 t = true := by
 obtain ⟨_, _, _, _, h1, h2⟩ := Z74 h
 simp [X5, h1, h2]
def LsT (w : World) (b : Nat) (v : Value) (l : List Nm) : Prop := Zw w v l ∧ ∀ q, v.ownBlock = some q → q ≠ b ∧ q < w.heap.size
theorem LsT.only {w w' : World} {b : Nat} {v : Value} {l : List Nm} (h : LsT w b v l) (ho : Only b w w') : LsT w' b v l := ⟨h.1.only ho h.2, fun q hq => ⟨(h.2 q hq).1, Nat.lt_of_lt_of_le (h.2 q hq).2 ho.size⟩⟩
theorem RN.below {w w' : World} {b k : Nat} {vf : Value} (h : RN w b vf k) (hb : Below w.heap.size w w') : RN w' b vf k := Z2 hb (lt_of_block h) h
def PlR (b B : Nat) (vf : Value) (R : Ex × Nat) (w : World) (e : Ending) (w' : World) : Prop :=
 (∃ p m c, e = .returned (.agg #[.string (bs (Z1 (Z0 R.1))), .slice p m c]) ∧ FV nS w' (fun q => q < B ∨ (w.heap.size ≤ q ∧ q < w'.heap.size)) (Z0 R.1) (nS (Z0 R.1) (.slice p m c))) ∧ RN w' b vf R.2 ∧ Only b w w'
def PlS (free : List Nm) (n : Nat) : Prop := ∀ (t : Tr) (x : Ex) (cs : List Value) (m : List (Nm × Nm)) (k : Nat) (v1 v2 vf : Value) (b B : Nat) (w : World), t.depth < n → t.wf → t.bytes ≤ 12000 → Zy t = some x → FV nS w (fun q => q < B) t cs → B ≤ b → RN w b vf k → LsT w b vf free → LsT w b v1 (J1 m) → LsT w b v2 (V0 m) → m.length + 2 * t.depth ≤ 1000 → free.length ≤ 1000 → (plE free m k x).2 ≤ 1000 →
    Calls prog 68 #[.agg cs.toArray, v1, v2, .pointer (some ⟨b, 0, none⟩)] w fun e w' => PlR b B vf (plE free m k x) w e w'
theorem Z4u (s : ByteArray) (w : World) : Calls prog 110 #[.string s] w fun e w' => e = .returned (.agg #[.string s, .slice none 0 0]) ∧ Below w.heap.size w w' := by
 go_enter func110, ntmps110
 go_wp2_with fail
 refine bodyPost_ret (v := .agg #[.string s, .slice none 0 0]) (by simp [results, results110, go_sem]) rfl ?_
 exact ⟨rfl, (by (repeat (first | exact Below.refl _ _ | (refine Below.alloc ?_ (by first | (simp; done) | (simp; omega)) _) | (refine Below.setCell ?_ (by first | (simp; done) | (simp; omega)) _))))⟩
theorem atom_kind {a : List UInt8} {x : Ex} (h : Zy (.atom a) = some x) : (Yg a = true → x = .name a) ∧ (Yg a = false → ∃ n, x = .num n) := by
 simp only [Zy, Q8] at h
 cases hm : Q3 a with
 | some n =>
   simp only [hm, Option.some.injEq] at h
   subst h
   exact ⟨fun e => (by rw [Vy hm] at e; cases e), fun _ => ⟨n, rfl⟩⟩
 | none =>
   simp only [hm] at h
   split at h
   · rename_i q
     simp only [Option.some.injEq] at h
     subst h
     exact ⟨fun _ => rfl, fun e => (by rw [q] at e; cases e)⟩
   · cases h
theorem l2Plain_atom (free : List Nm) (a : List UInt8) (x : Ex) (m : List (Nm × Nm)) (k : Nat) (v1 v2 vf : Value) (b B : Nat) (w : World) (ha0 : a ≠ []) (hal : a.length ≤ 1048576) (hx : Zy (.atom a) = some x) (hr : RN w b vf k) (h1 : LsT w b v1 (J1 m)) (h2 : LsT w b v2 (V0 m)) (hm : m.length ≤ 1000) :
 Calls prog 68 #[.agg #[.string (bs a), .slice none 0 0], v1, v2, .pointer (some ⟨b, 0, none⟩)] w fun e w' => PlR b B vf (plE free m k x) w e w' := by
 obtain ⟨hk1, hk2⟩ := atom_kind hx
 have hf := X3 _ _ hx
 have ha := V7 ha0
 have CN : Hid (∀ W, Calls prog 53 #[.string (bs a)] W fun e w' => e = .returned (.bool (Yg a)) ∧ w' = W) := H_ (fun W => Z0b a hal W)
 have HR := H_ hr
 have HL : Hid (∀ W, Only b w W → Calls prog 111 #[v1, v2, .string (bs a)] W fun e w' => e = .returned (.string (bs (J2 m a))) ∧ w' = W) := H_ (fun W hW => by
  have h := l2Look_c v1 v2 (J1 m) (V0 m) a W (h1.only hW).1 (h2.only hW).1 (by rw [Z18, Z4s]) (by rw [Z18]; omega)
  rw [Z18, lookD_map] at h
  exact h)
 obtain ⟨p1, c1, e1, -, -⟩ := id h1.1
 obtain ⟨p2, c2, e2, -, -⟩ := id h2.1
 subst e1 e2
 clear h1 h2 hr hx
 cases hn : Yg a with
 | false =>
   obtain ⟨n, rfl⟩ := hk2 hn
   have HF := H_ hf
   unfold Hid at CN
   rw [hn] at CN
   have CN := H_ CN
   clear hk1 hk2 hf hn HL
   show Calls _ _ _ _ fun e w' => PlR b B vf (.num n, k) w e w'
   go_enter func68, ntmps68
   go_wp2_with (go_at_call 53; go_must (refine (CN.out _).mono ?_; rintro e w1 ⟨rfl, rfl⟩))
   refine bodyPost_ret (v := .agg #[.string (bs a), .slice none 0 0]) (by simp [results, results68, go_sem]) rfl ?_
   refine ⟨⟨none, 0, 0, by rw [HF.out]; rfl, by rw [HF.out]; rfl⟩, HR.out.below ?_, Only.of ?_⟩
   · exact (by (repeat (first | exact Below.refl _ _ | (refine Below.alloc ?_ (by first | (simp; done) | (simp; omega)) _) | (refine Below.setCell ?_ (by first | (simp; done) | (simp; omega)) _))))
   · exact (by (repeat (first | exact Below.refl _ _ | (refine Below.alloc ?_ (by first | (simp; done) | (simp; omega)) _) | (refine Below.setCell ?_ (by first | (simp; done) | (simp; omega)) _))))
 | true =>
   obtain rfl := hk1 hn
   unfold Hid at CN
   rw [hn] at CN
   have CN := H_ CN
   clear hk1 hk2 hf hn
   show Calls _ _ _ _ fun e w' => PlR b B vf (.name (J2 m a), k) w e w'
   generalize J2 m a = A at *
   go_enter func68, ntmps68
   go_wp2_with (first | (go_at_call 53; go_must (refine (CN.out _).mono ?_; rintro e w1 ⟨rfl, rfl⟩)) | (go_at_call 111; go_must (refine (HL.out _ (by (repeat (first | exact Only.refl _ _ | (refine Only.alloc ?_ _) | (refine Only.setNew ?_ (by first | (simp; done) | (simp; omega)) _))))).mono ?_; rintro e w1 ⟨rfl, rfl⟩)) | (go_at_call 110; go_must (refine (Z4u _ _).mono ?_; rintro e w2 ⟨rfl, hb2⟩; have x2 : w2.heap[w.heap.size + 1]? = some (.cells #[.string ⟨#[]⟩, .slice none 0 0] 47 (0, 0)) := Z2 hb2 (by simp) (Za _ _ _); obtain ⟨r0, r1⟩ := Zh x2; obtain ⟨f0, f1⟩ := Xb x2)))
   have kk := Yu (j := 1) (Yu (j := 0) x2 (.string (bs A))) (.slice none 0 0)
   obtain ⟨k0, k1⟩ := Zh kk
   refine bodyPost_ret (v := .agg #[.string (bs A), .slice none 0 0]) (by simp [results, results68, go_sem, k0, k1]) rfl ?_
   have hbw : Below w.heap.size w w2 := Below.trans (by (repeat (first | exact Below.refl _ _ | (refine Below.alloc ?_ (by first | (simp; done) | (simp; omega)) _) | (refine Below.setCell ?_ (by first | (simp; done) | (simp; omega)) _)))) (hb2.mono (by simp; omega))
   have hbx : Below w.heap.size w ((w2.setCell ⟨w.heap.size + 1, 0, none⟩ (.string (bs A))).setCell ⟨w.heap.size + 1, 1, none⟩ (.slice none 0 0)) := (hbw.setCell (by simp) _).setCell (by simp) _
   exact ⟨⟨none, 0, 0, rfl, rfl⟩, HR.out.below hbx, Only.of hbx⟩
theorem pl_done {b B g L c1 O rb base : Nat} {vf : Value} {R : Ex × Nat} {w wr w' : World} {ts : List Tr} {ys : List Value} (hR : Z0 R.1 = .list ts) (hL : ts.length = L) (hbs : w.heap.size ≤ base) (hO : w.heap.size ≤ O) (ho : wr.ownsRow base 47 2 (.slice (some ⟨g, 0, none⟩) L c1) L ys) (hrb : rb < base) (hrO : rb < O) (hB : B ≤ rb)
 (hfv : FVs nS wr (fun q => q < B ∨ (O < q ∧ q < wr.heap.size)) ts ys) (hs : w'.heap.size = wr.heap.size) (hk : ∀ q, q ≠ rb → w'.heap[q]? = wr.heap[q]?) (hn : RN w' b vf R.2) (ho2 : Only b w w') : PlR b B vf R w (.returned (.agg #[.string ⟨#[]⟩, .slice (some ⟨g, 0, none⟩) L c1])) w' := by
 obtain ⟨hg1, hg2⟩ := ho.lt g rfl
 have hrow := ho.cells (g := g) rfl
 unfold PlR
 rw [hR]
 rcases ho.2 with ⟨e, _⟩ | ⟨g2, cap, cur, e, _, _, h1, h2, _, _⟩
 · cases e
 · simp only [Value.slice.injEq, Option.some.injEq, Addr.mk.injEq, and_true, true_and] at e
   obtain ⟨rfl, rfl⟩ := e
   refine ⟨⟨some ⟨g, 0, none⟩, L, c1, rfl, ?_⟩, hn, ho2⟩
   simp only [FV]
   refine ⟨g, 0, c1, ys, by rw [hL], .inr ⟨by omega, by omega⟩, by omega, h2, fun j v hj => ?_, FVs.move (fun q hq => hq.imp id (fun h => ⟨by omega, by omega⟩)) (fun q hq => hk q (by omega)) _ _ hfv⟩
   have h3 := hrow j v hj
   rw [World.cell?_of_block (w := wr) (w' := w') (a := ⟨g, 0 + j, none⟩) (hk g (by omega))]
   rw [Nat.zero_add]
   have e : (⟨g, 0, none⟩ : Addr).add j = ⟨g, j, none⟩ := by unfold Addr.add; split <;> simp_all
   rw [← e]; exact h3
theorem Z41 {b : Nat} {w w' : World} {base : Nat} {e : TypeId} {size g n c : Nat} {xs : List Value} (h : w.ownsRow base e size (.slice (some ⟨g, 0, none⟩) n c) n xs) (ho : Only b w w') (hne : g ≠ b) : w'.ownsRow base e size (.slice (some ⟨g, 0, none⟩) n c) n xs := by
 refine ⟨h.1, ?_⟩
 rcases h.2 with ⟨e, _⟩ | ⟨g2, cap, cur, e, h0, h3, h1, h2, h4, h5⟩
 · cases e
 · simp only [Value.slice.injEq, Option.some.injEq, Addr.mk.injEq, and_true, true_and] at e
   obtain ⟨rfl, rfl⟩ := e
   exact .inr ⟨g, c, cur, rfl, h0, ho.blk h3 hne, h1, h2, h4, h5⟩
theorem l2Plain_kids (free : List Nm) (n : Nat) (ih : PlS free n) (h : Tr) (ps : List Tr) (x : Ex) (m : List (Nm × Nm)) (k : Nat) (v1 v2 vf : Value) (b B : Nat) (r off cap L : Nat) (xs : List Value) (w : World) (hd : (Tr.list (h :: ps)).depth < n + 1) (hwf : wfs (h :: ps)) (hby : Zi (h :: ps) ≤ 12000) (hx : Zy (.list (h :: ps)) = some x) (hnl : Z1 h ≠ Yy) (hnf : Z1 h ≠ Yt)
 (h2 : r < B) (h4 : cap ≤ maxLen) (hL : L = (h :: ps).length) (h3 : L ≤ cap) (h5 : Yv w r off xs) (h6 : FVs nS w (fun k => k < B) (h :: ps) xs) (hBb : B ≤ b) (hr : RN w b vf k) (hf : LsT w b vf free) (hv1 : LsT w b v1 (J1 m)) (hv2 : LsT w b v2 (V0 m)) (hm : m.length + 2 * (Tr.list (h :: ps)).depth ≤ 1000) (hfl : free.length ≤ 1000) (hk2 : (plE free m k x).2 ≤ 1000) :
 Calls prog 68 #[.agg #[.string (bs []), .slice (some ⟨r, off, none⟩) L cap], v1, v2, .pointer (some ⟨b, 0, none⟩)] w fun e w' => PlR b B vf (plE free m k x) w e w' := by
 obtain ⟨a, V⟩ := Z07 hx
 obtain ⟨hpl1, hpl2⟩ := pl_kids free m k V hx hnl hnf
 have hbw : b < w.heap.size := lt_of_block hr
 have hrlt : r < w.heap.size := by omega
 have hemp := Jl
 have e0 : w.cell? ⟨r, off, none⟩ = some (.string (bs (Z1 h))) := by
  obtain ⟨p, m, c, _, q, _⟩ := Kb h6 h5 0 (by simp)
  simpa using q
 have s1 : ((bs (Z1 h)).toList == [108, 101, 116]) = false := by rw [Z9]; simpa [Yy] using hnl
 have s2 : ((bs (Z1 h)).toList == [102, 117, 110]) = false := by rw [Z9]; simpa [Yt] using hnf
 obtain ⟨K, hK⟩ : ∃ K, K = (Zb x).length := ⟨_, rfl⟩
 have hLm : L ≤ 9223372036854775807 := by have := Yl h4; omega
 have haK : a + K = L := by rw [hK, hL, V.len]; rfl
 have hKlt : K < L := by have := V.pos; omega
 have hL2 : L ≤ 12000 := by have := Xi (h :: ps); omega
 have hxl : xs.length = L * 2 := by rw [FVs.length Jn h6, hL]
 have CK : Hid (∀ W, Calls prog 98 #[.string (bs (Z1 h))] W fun e w' => e = .returned (.tuple #[.int .i64 (a : Int), .int .i64 (L : Int)]) ∧ w' = W) := H_ (fun W => Jw _ _ _ (by rw [V.at_, hL]; rfl) W)
 obtain ⟨i0, hi0, hz0, hz1, hz2⟩ := info_parts Tryz.infoT1
 have H1 : Hid (∀ u ∈ xs, u.oneCell' = true) := H_ (FVs.one h6)
 have HP1 := H_ hpl1
 have HP2 := H_ hpl2
 have HV := H_ V
 have HI := H_ ih
 have HKe := H_ hK
 have HaK := H_ haK
 have haL : a ≤ L := by omega
 have hL0 : 0 < L := by omega
 have ROW : Hid (∀ W, Below w.heap.size w W → ∀ j u, xs[j]? = some u → W.cell? ((⟨r, off, none⟩ : Addr).add j) = some u) := H_ (fun W hW j u hj => by
  have e : (⟨r, off, none⟩ : Addr).add j = ⟨r, off + j, none⟩ := by unfold Addr.add; split <;> simp_all
  rw [e]
  exact (hW.cell (p := ⟨r, off + j, none⟩) hrlt).trans (h5 j u hj))
 have HW := H_ hwf
 have HD := H_ hd
 have HBy := H_ hby
 have H6 := H_ h6
 have HLe := H_ hL
 have HRN := H_ hr
 have HF := H_ hf
 have HV1 := H_ hv1
 have HV2 := H_ hv2
 have HM := H_ hm
 have HK2 := H_ hk2
 obtain ⟨p1, c1', ee1, -, -⟩ := id hv1.1
 obtain ⟨p2, c2', ee2, -, -⟩ := id hv2.1
 obtain ⟨l1, hl1⟩ : ∃ l1, l1 = (J1 m).length := ⟨_, rfl⟩
 obtain ⟨l2, hl2⟩ : ∃ l2, l2 = (V0 m).length := ⟨_, rfl⟩
 rw [← hl1] at ee1
 rw [← hl2] at ee2
 subst ee1 ee2
 clear V hK ih hwf hx haK hL h6 hd hby hnl hnf hpl1 hpl2 hr hf hv1 hv2 hm hk2 hl1 hl2
 go_enter func68, ntmps68
 go_wp2_with (first | (go_at_call 98; go_must (refine (CK.out _).mono ?_; rintro e w5 ⟨rfl, rfl⟩)) | (at_builtin; go_must (refine Jb _ rfl _ _ 45 rfl (w.heap.size + 2) 47 i0 (.agg #[.string ⟨#[]⟩, .slice none 0 0]) 2 40 underlying45 hi0 hz0 hz1 hz2 rfl (by decide) (.slice (some ⟨w.heap.size + 2, 0, none⟩) 0 0) 0 L L (by omega) hL0 [] rfl (Z0u (Z39 _ _ _ _) (Nat.le_refl _)) ⟨r, off, none⟩ cap xs rfl hxl (ROW.out _ (by (repeat (first | exact Below.refl _ _ | (refine Below.alloc ?_ (by first | (simp; done) | (simp; omega)) _) | (refine Below.setCell ?_ (by first | (simp; done) | (simp; omega)) _))))) H1.out (Nat.le_trans hL2 (by decide)) (by omega) (by simp) ?_; intro g c1 w1 ho1 hg1 hgg; have x0 : w1.heap[w.heap.size]? = some (.cells #[.string (bs []), .slice (some ⟨r, off, none⟩) L cap] 47 (0, 0)) := Yc hg1 (Z8 (Z8 (heap_alloc_new _ _))) (by simp [Value.ownBlock]); have x2 : w1.heap[w.heap.size + 1]? = some (.cells #[.string ⟨#[]⟩, .slice none 0 0] 47 (0, 0)) := Yc hg1 (Z8 (Za _ _ _)) (by simp [Value.ownBlock]); have B1 : Below w.heap.size w w1 := Below.grown (by (repeat (first | exact Below.refl _ _ | (refine Below.alloc ?_ (by first | (simp; done) | (simp; omega)) _) | (refine Below.setCell ?_ (by first | (simp; done) | (simp; omega)) _)))) hg1 (by simp; omega) (fun k hk => by simp [Value.ownBlock] at hk; omega); have x3 := heap_alloc_new w1 (.cells #[.string ⟨#[]⟩, .slice (some ⟨g, 0, none⟩) L c1] 47); have y0 := Z4 (j := 1) (Z8 (o' := (.cells #[.string ⟨#[]⟩, .slice (some ⟨g, 0, none⟩) L c1] 47)) x0); have y1 : (w1.alloc (.cells #[.string ⟨#[]⟩, .slice (some ⟨g, 0, none⟩) L c1] 47)).cell? ⟨r, off, none⟩ = some (.string (bs (Z1 h))) := ((B1.alloc B1.size (.cells #[.string ⟨#[]⟩, .slice (some ⟨g, 0, none⟩) L c1] 47)).cell (p := ⟨r, off, none⟩) hrlt).trans e0; have hw1 : w.heap.size + 1 < w1.heap.size := lt_of_block x2)))
 go_loopg [15] K (fun q i wr => ∃ (k0 j : Nat) (ys : List Value), q + j = K ∧ Hid (k0 = a + j) ∧ j ≤ K ∧ i = .int .i64 k0 ∧ wr.heap[w.heap.size]? = some (.cells #[.string (bs []), .slice (some ⟨r, off, none⟩) L cap] 47 (0, 0)) ∧ wr.heap[w.heap.size + 1]? = some (.cells #[.string ⟨#[]⟩, .slice none 0 0] 47 (0, 0)) ∧ wr.heap[w1.heap.size]? = some (.cells #[.string ⟨#[]⟩, .slice (some ⟨g, 0, none⟩) L c1] 47 (0, 0)) ∧
  Hid (RN wr b vf (plI free m k (Zb x) j)) ∧ Hid (wr.ownsRow (w.heap.size + 2) 47 2 (.slice (some ⟨g, 0, none⟩) L c1) L ys) ∧ Hid (FVs nS wr (fun q => q < B ∨ (w1.heap.size < q ∧ q < wr.heap.size)) (Xg (fun j => Z0 (plQ free m k (Zb x) j)) (h :: ps) a j) ys) ∧ Hid (Only b w wr))
 case atStart =>
  have hb2 := B1.alloc B1.size (.cells #[.string ⟨#[]⟩, .slice (some ⟨g, 0, none⟩) L c1] 47)
  refine ⟨a, 0, xs, by omega, H_ rfl, Nat.zero_le _, rfl, Z8 x0, Z8 x2, x3, H_ (HRN.out.below hb2), H_ (ho1.alloc _), H_ ?_, H_ (Only.of hb2)⟩
  exact FVs.move (fun k hk => .inl hk) (fun _ _ => rfl) _ _ (FVs.below H6.out hb2 (fun k hk => by omega))
 case round =>
  obtain ⟨k0, j, ys, hq, hkj, hjK, rfl, hb0, hb2, hb3, hrn, ho, hfv, hon⟩ := hrel
  have hN := lt_of_block hb3
  have hN2 := lt_of_block hb2
  have hN0 := lt_of_block hb0
  obtain ⟨v0, v1'⟩ := Zh hb0
  obtain ⟨u0, u1⟩ := Zh hb3
  have hgl0 := (ho.out.lt g rfl)
  have n0 : w.heap.size ≠ b := by omega
  have n1 : w.heap.size + 1 ≠ b := by omega
  have n2 : w1.heap.size ≠ b := by omega
  have n3 : g ≠ b := by omega
  have n4 : r ≠ b := by omega
  by_cases hlt : k0 < L
  · have hjlt : j < K := by have := hkj.out; have := HaK.out; omega
    have hjE : j < (Zb x).length := by rw [← HKe.out]; exact hjlt
    obtain ⟨tk, p, pn, pc, q1, q2, q3, q4, q5, q6, q7, hbk, q8⟩ := Z6q HV.out hkj.out hjE HD.out HW.out HBy.out h5 H6.out
    have hpk := plQ_at free m k (Zb x) j hjE
    have hpn := plI_succ free m k (Zb x) j hjE
    obtain ⟨kx, hkx⟩ : ∃ kx, kx = (Zb x)[j] := ⟨_, rfl⟩
    rw [← hkx] at hpk hpn q7
    obtain ⟨at0, hat0⟩ : ∃ at0, at0 = bs (Z1 tk) := ⟨_, rfl⟩
    rw [← hat0] at q2
    obtain ⟨kn, hkn⟩ : ∃ kn, kn = plI free m k (Zb x) j := ⟨_, rfl⟩
    rw [← hkn] at hpk hpn
    have hrn' := hrn.out
    rw [← hkn] at hrn'
    have HRj := H_ hrn'
    have hk3 : (plE free m kn kx).2 ≤ 1000 := by rw [← hpn]; exact Nat.le_trans (plI_le free m k (Zb x) hjE) (by rw [← HP1.out]; exact HK2.out)
    have hkL : k0 < ((h :: ps)).length := by rw [← HLe.out]; exact hlt
    have hmd : (m).length + 2 * tk.depth ≤ 1000 := by
     have h1 := HM.out
     have h2 := Xk hbk
     rw [← q8] at h2
     first | omega | (simp only [List.length_cons]; omega)
    have CP : Hid (∀ (W : World), Only b wr W → RN W b vf kn → Calls prog 68 #[.agg #[.string at0, .slice p pn pc], .slice p1 l1 c1', .slice p2 l2 c2', .pointer (some ⟨b, 0, none⟩)] W fun e w' => PlR b B vf (plE free m kn kx) W e w') := H_ (fun W hW hk => by
     have hW2 := hon.out.trans hW
     have h := HI.out tk kx (nS tk (.slice p pn pc)) (m) kn (.slice p1 l1 c1') (.slice p2 l2 c2') vf b B W q4 q6 q5 q7 (q1.only hW2 (fun k hk => ⟨by omega, by omega⟩)) hBb hk (HF.out.only hW2) (HV1.out.only hW2) (HV2.out.only hW2) hmd hfl hk3
     rw [hat0]
     exact h)
    have S4 : Hid (wr.cell? ⟨r, off + k0 * 2, none⟩ = some (.string at0) ∧ wr.cell? ⟨r, off + k0 * 2 + 1, none⟩ = some (.slice p pn pc)) := H_ ⟨(hon.out.cell (p := ⟨r, off + k0 * 2, none⟩) hrlt n4).trans q2, (hon.out.cell (p := ⟨r, off + k0 * 2 + 1, none⟩) hrlt n4).trans q3⟩
    have HST : Hid (Xg (fun j => Z0 (plQ free m k (Zb x) j)) (h :: ps) a (j + 1) = (Xg (fun j => Z0 (plQ free m k (Zb x) j)) (h :: ps) a j).set k0 (Z0 (plE free m kn kx).1)) := H_ (by simp only [Xg, hpk]; rw [hkj.out])
    have HPN := H_ hpn
    have HLS : Hid (k0 < (Xg (fun j => Z0 (plQ free m k (Zb x) j)) (h :: ps) a j).length) := H_ (by rw [Vc]; exact hkL)
    have hk0 : (0 : Int) ≤ (k0 : Int) := Int.natCast_nonneg _
    clear hpk hpn q7 q1 q2 q3 q4 q5 q6 q8 hbk hkx hat0 hkn hrn' hmd hk3
    have hk1 : (k0 : Int) < (L : Int) := by omega
    have hL63 : (L : Int) < 9223372036854775808 := by omega
    obtain ⟨cur, hcur, hc0, hc1, hc2⟩ := Z4o ho.out
    obtain ⟨d0, hd0⟩ : ∃ d0, cur[k0 * 2]? = some d0 := ⟨_, Array.getElem?_eq_getElem (by omega)⟩
    obtain ⟨d1, hd1⟩ : ∃ d1, cur[k0 * 2 + 1]? = some d1 := ⟨_, Array.getElem?_eq_getElem (by omega)⟩
    have hgl := lt_of_block hcur
    have hrwr : r < wr.heap.size := Nat.lt_trans hrlt hN0
    have KS : Hid (∀ W, Only b wr W → (fun W => W.cell? ⟨w1.heap.size, 1, none⟩ = some (.slice (some ⟨g, 0, none⟩) L c1) ∧ W.cell? ⟨w.heap.size, 1, none⟩ = some (.slice (some ⟨r, off, none⟩) L cap) ∧ W.cell? ⟨r, off + k0 * 2, none⟩ = some (.string at0) ∧ W.cell? ⟨r, off + k0 * 2 + 1, none⟩ = some (.slice p pn pc) ∧ W.cell? ⟨g, k0 * 2, none⟩ = some d0 ∧ W.cell? ⟨g, k0 * 2 + 1, none⟩ = some d1 ∧ W.frozen? ⟨g, k0 * 2, none⟩ = false ∧ W.frozen? ⟨g, k0 * 2 + 1, none⟩ = false) W) := H_ (fun W hW => ⟨(hW.cell hN n2).trans u1, (hW.cell hN0 n0).trans v1', (hW.cell (p := ⟨r, off + k0 * 2, none⟩) hrwr n4).trans S4.out.1, (hW.cell (p := ⟨r, off + k0 * 2 + 1, none⟩) hrwr n4).trans S4.out.2, (Z4 (hW.blk hcur n3)).trans hd0, (Z4 (hW.blk hcur n3)).trans hd1, Yf (hW.blk hcur n3), Yf (hW.blk hcur n3)⟩)
    have hD : Only b wr wr.drew := (Only.refl b wr).drew
    have hRD : RN wr.drew b vf kn := HRj.out
    have S0 := H_ (KS.out _ hD)
    clear hrn v0 u0
    go_wp2_with fail
    obtain ⟨s1, s2, s3, s4, s7, s8, s9, s10⟩ := S0.out
    first | (go_region_with (first | (go_at_call 68; (with_reducible refine (CP.out _ hD hRD).mono ?_); rintro e w6 ⟨⟨p5, m5, c5, rfl, hv5⟩, hn6, ho6⟩; have h6 := Only.trans hD ho6; obtain ⟨m1, m2, m3, m4, m7, m8, m9, m10⟩ := KS.out _ h6))) | fail
    all_goals
     go_wp2_with fail
     go_roundg (gk - 1)
     case measure => omega
     case rel =>
      have hs6 := h6.size
      have hs7 := ho6.size
      have hgw1 := (ho1.lt g rfl).2
      have hz0 := hon.out.size
      refine ⟨k0 + 1, j + 1, (ys.set (k0 * 2) (.string (bs (Z1 (Z0 (plE free m kn kx).1))))).set (k0 * 2 + 1) (.slice p5 m5 c5), by omega, H_ (by rw [hkj.out]; omega), by omega, by go_num, ?_, ?_, ?_, H_ ?_, H_ ?_, H_ ?_, H_ ?_⟩
      · rw [Z3 _ (by show w.heap.size ≠ g; omega), Z3 _ (by show w.heap.size ≠ g; omega)]; exact h6.blk hb0 n0
      · rw [Z3 _ (by show w.heap.size + 1 ≠ g; omega), Z3 _ (by show w.heap.size + 1 ≠ g; omega)]; exact h6.blk hb2 n1
      · rw [Z3 _ (by show w1.heap.size ≠ g; omega), Z3 _ (by show w1.heap.size ≠ g; omega)]; exact h6.blk hb3 n2
      · rw [HPN.out]
        unfold RN
        rw [Z3 _ (by show b ≠ g; omega), Z3 _ (by show b ≠ g; omega)]; exact hn6
      · exact Z6l (Z41 ho.out h6 n3) _ _ _
      · rw [HST.out]
        refine FVs.setS (FVs.move (fun q hq => hq.imp id (fun h => ⟨h.1, by simp; omega⟩)) (fun q hq => ?_) _ _ hfv.out) k0 HLS.out (FV.move (fun q hq => hq.imp id (fun h => ⟨by have := h.1; simp at this; omega, by simp; omega⟩)) (fun q hq => ?_) _ _ hv5)
        · rw [Z3 _ (by show q ≠ g; omega), Z3 _ (by show q ≠ g; omega)]; exact h6.block q (by omega) (by omega)
        · have hq' : q ≠ g := by
           rcases hq with h | ⟨h, -⟩
           · omega
           · simp at h; omega
          rw [Z3 _ (by show q ≠ g; exact hq'), Z3 _ (by show q ≠ g; exact hq')]
      · exact ((hon.out.trans h6).setNew (by show w.heap.size ≤ g; omega) _).setNew (by show w.heap.size ≤ g; omega) _
  · have hjK2 : j = K := by have := hkj.out; have := HaK.out; omega
    subst hjK2
    have hF : Hid (∀ w', w'.heap.size = wr.heap.size → (∀ q, q ≠ w.heap.size + 1 → w'.heap[q]? = wr.heap[q]?) → Only b w w' → PlR b B vf (plE free m k x) w (.returned (.agg #[.string ⟨#[]⟩, .slice (some ⟨g, 0, none⟩) L c1])) w') := H_ (fun w' h1 h2 h3 => pl_done (O := w1.heap.size) (base := w.heap.size + 2) (rb := w.heap.size + 1) HP2.out (by rw [Vc]; exact HLe.out.symm) (by omega) (by omega) ho.out (by omega) (by omega) (by omega) (by rw [← HKe.out]; exact hfv.out) h1 h2 (by rw [HP1.out, ← HKe.out]; unfold RN; rw [h2 b (by omega)]; exact hrn.out) h3)
    obtain ⟨f0, f1⟩ := Xb hb2
    obtain ⟨r0, r1⟩ := Zh hb2
    clear hfv ho hrn
    go_wp2_with fail
    have kk := Yu (j := 1) (Yu (j := 0) hb2 (.string ⟨#[]⟩)) (.slice (some ⟨g, 0, none⟩) L c1)
    obtain ⟨k0, k1⟩ := Zh kk
    refine bodyPost_ret (v := .agg #[.string ⟨#[]⟩, .slice (some ⟨g, 0, none⟩) L c1]) (by simp [results, results68, go_sem, k0, k1]) rfl ?_
    refine hF.out _ (by simp) (fun q hq => ?_) ?_
    · rw [Z3 _ (by simpa using hq), Z3 _ (by simpa using hq)]
    · exact (hon.out.setNew (by simp) _).setNew (by simp) _
end Go.Proofs.YtjaaalojcdbcpaaGreatDoor
