/- The program: expressions as texts; the kids of a text. The reference model: the kids of a text. The program: new names. -/
import Derived.Test.YtjaaalojcdbcpaaGreatDoorlImpl2u
import Derived.Test.YtjaaalojcdbcpaaGreatDoorlImpl1rM
import Derived.Test.YtjaaalojcdbcpaaGreatDoorlSpec2hM
import Derived.Test.YtjaaalojcdbcpaaGreatDoorlPureXM
import Derived.Test.YtjaaalojcdbcpaaGreatDoorlImpl2r
import Derived.Test.YtjaaalojcdbcpaaGreatDoorlAssertsM
import Derived.Test.YtjaaalojcdbcpaaGreatDoorlNumIM
import Derived.Deep.RegionHeld3
set_option maxHeartbeats 20000000
set_option linter.unusedVariables false
set_option linter.unusedSimpArgs false
namespace Go.Proofs.YtjaaalojcdbcpaaGreatDoor
open Go.RowKit Go.Proofs.Tryz
set_option maxRecDepth 8000
theorem nm_len {a : List UInt8} (h : Yg a = true) : a.length ≤ 4 := by
 cases a with
 | nil => simp
 | cons c r => simp only [Yg, Bool.and_eq_true, decide_eq_true_eq] at h; simp only [List.length_cons]; omega
def oksE : List Ex → Prop
 | [] => True
 | e :: es => Qa e ∧ oksE es
mutual
theorem Z52 : ∀ (t : Tr) (x : Ex), Zy t = some x → Qa x
 | .atom a, x, h => by
   simp only [Zy, Q8] at h
   cases hn : Q3 a with
   | some n => simp only [hn, Option.some.injEq] at h; subst h; exact numOf_range hn
   | none =>
     simp only [hn] at h
     split at h
     · rename_i hm; simp only [Option.some.injEq] at h; subst h; exact nm_len hm
     · cases h
 | .list [], x, h => by simp [Zy, J6] at h
 | .list (h0 :: ps), x, h => by
   simp only [Zy, J6] at h
   split at h
   · match ps, h with
     | [x0, e0, b0], h =>
       simp only [Qb] at h
       split at h
       · rename_i hx
         split at h
         · cases h
         · rename_i e' he
           split at h
           · cases h
           · rename_i b' hb
             simp only [Option.some.injEq] at h
             subst h
             exact ⟨nm_len hx, Z52 e0 e' he, Z52 b0 b' hb⟩
       · cases h
     | [], h => cases h
     | [_], h => cases h
     | [_, _], h => cases h
     | _ :: _ :: _ :: _ :: _, h => cases h
   · split at h
     · match ps, h with
       | [f0, x0, A0, B0, e0], h =>
         simp only [Xc] at h
         split at h
         · rename_i hx
           simp only [Bool.and_eq_true] at hx
           split at h
           · cases h
           · rename_i e' he
             simp only [Option.some.injEq] at h
             subst h
             exact ⟨nm_len hx.1.1.1.1, nm_len hx.1.1.1.2, Z52 e0 e' he⟩
         · cases h
       | [], h => cases h
       | [_], h => cases h
       | [_, _], h => cases h
       | [_, _, _], h => cases h
       | [_, _, _, _], h => cases h
       | _ :: _ :: _ :: _ :: _ :: _ :: _, h => cases h
     · cases hk : Yn ps with
       | none => simp [hk] at h
       | some es =>
         simp only [hk, Option.bind_some] at h
         have hp := kidsEx_ok ps es hk
         match es, h, hp with
         | [], h, hp => cases h
         | [a], h, hp =>
           simp only [Yr, Option.map_eq_some_iff] at h
           obtain ⟨o, ho, rfl⟩ := h
           exact hp.1
         | [a, b], h, hp =>
           simp only [Yr, Option.map_eq_some_iff] at h
           obtain ⟨o, ho, rfl⟩ := h
           exact ⟨hp.1, hp.2.1⟩
         | [a, b, c], h, hp =>
           simp only [Yr] at h
           split at h
           · simp only [Option.some.injEq] at h; subst h; exact ⟨hp.1, hp.2.1, hp.2.2.1⟩
           · cases h
         | _ :: _ :: _ :: _ :: _, h, hp => cases h
theorem kidsEx_ok : ∀ (ts : List Tr) (es : List Ex), Yn ts = some es → oksE es
 | [], es, h => by simp only [Yn, Option.some.injEq] at h; subst h; trivial
 | t :: ts, es, h => by
   simp only [Yn] at h
   split at h
   · cases h
   · rename_i e he
     split at h
     · cases h
     · rename_i es' hs
       simp only [Option.some.injEq] at h
       subst h
       exact ⟨Z52 t e he, kidsEx_ok ts es' hs⟩
end
theorem Z81 (x : Ex) (v : Value) (B : Nat) (w : World) (hn : Qa x) (hw : (Z0 x).wf) (hb : (Z0 x).bytes ≤ 500000000) (hv : EV w (fun k => k < B) x v) (hB : B ≤ w.heap.size) (hT : Tab w) :
 Calls prog 33 #[v] w fun e w' => e = .returned (.string (bs (Z0 x).text)) ∧ Below w.heap.size w w' := by
 obtain ⟨s, o1, o2, o3, -, -, -, -, hq⟩ := Jo (Z0 x)
 have C : Hid (Calls prog 69 #[v] w fun e w' => (∃ p m c, e = .returned (.agg #[.string s, .slice p m c, .int .i64 o1, .int .i64 o2, .int .i64 o3]) ∧ FV nI w' (fun k => k < B ∨ (w.heap.size ≤ k ∧ k < w'.heap.size)) (Z0 x) (nI (Z0 x) (.slice p m c))) ∧ Below w.heap.size w w') := H_ ((J4 x v B w hn hw hb hv hB hT).mono fun e w' ⟨⟨p, m, c, h1, h2⟩, h3⟩ => ⟨⟨p, m, c, by rw [h1, hq], h2⟩, h3⟩)
 have CT : Hid (∀ (w1 : World) p m c, FV nI w1 (fun k => k < B ∨ (w.heap.size ≤ k ∧ k < w1.heap.size)) (Z0 x) (nI (Z0 x) (.slice p m c)) → w.heap.size ≤ w1.heap.size → Calls prog 45 #[.agg #[.string s, .slice p m c, .int .i64 o1, .int .i64 o2, .int .i64 o3]] w1 fun e w' => e = .returned (.string (bs (Z0 x).text)) ∧ Below w1.heap.size w1 w') := H_ (fun w1 p m c hf hs => by
  have h := text_c (Z0 x) p m c _ w1 hw (by omega) hf (fun k hk => by omega)
  have e : (nI (Z0 x) (.slice p m c)).toArray = #[.string s, .slice p m c, .int .i64 o1, .int .i64 o2, .int .i64 o3] := by rw [hq]
  have e2 : (nI (Z0 x) (.slice p m c)).toArray = #[.string (bs (Z1 (Z0 x))), .slice p m c, .int .i64 (Z0 x).bytes, .int .i64 (Z0 x).size, .int .i64 (Z0 x).depth] := rfl
  rw [← e2, e] at h
  exact h)
 obtain ⟨T, u, rfl⟩ := hv.iface
 generalize bs (Z0 x).text = tx at *
 clear hn hw hb hv hT hq
 go_enter func33, ntmps33
 go_wp2_with (first | (go_at_call 69; go_must (refine (C.out).mono ?_; rintro e w1 ⟨⟨p, m, c, rfl, hf⟩, hb1⟩)) | (go_at_call 45; go_must (refine (CT.out _ _ _ _ hf hb1.size).mono ?_; rintro e w2 ⟨rfl, hb2⟩)))
 go_ret
 exact ⟨rfl, hb1.trans (hb2.mono hb1.size)⟩
def kidsTx (l : List UInt8) : Option (List Nm) := (Zp l).map (fun x => (Zb x).map (fun k => (Z0 k).text))
theorem Z0r {l : List UInt8} {x : Ex} (h : Zp l = some x) : (Z0 x).wf ∧ (Z0 x).bytes ≤ 12000 ∧ Qa x := by
 cases hp : Zt l with
 | none => rw [Kr hp] at h; cases h
 | some t =>
   rw [J8 hp] at h
   split at h
   · have hg := Yk hp
     rw [X3 t x h]
     exact ⟨hg.1, hg.2.1, Z52 t x h⟩
   · cases h
def KidCT (w : World) (ks : List Ex) (kvs : List Value) : Prop := ∀ j (hj : j < ks.length), ∃ T u, kvs[j]? = some (.iface T u) ∧ ∀ W, Below w.heap.size w W → Calls prog 33 #[.iface T u] W fun e w' => e = .returned (.string (bs (Z0 ks[j]).text)) ∧ Below W.heap.size W w'
def NMr (w : World) (b : Nat) (vf : Value) (k g : Nat) : Prop := w.heap[b]? = some (.cells #[.string ⟨#[120]⟩, vf, .int .i64 k, .int .i64 g] 95 (0, 0))
theorem Zw.onlyI {w w' : World} {b : Nat} {v : Value} {l : List Nm} (h : Zw w v l) (ho : Only b w w') (hne : ∀ q, v.ownBlock = some q → q ≠ b ∧ q < w.heap.size) : Zw w' v l := Zw.move h (fun q hq => ho.block q (hne q hq).2 (hne q hq).1)
def TabB (b : Nat) (w : World) : Prop := ∃ w0, Tab w0 ∧ Below w0.heap.size w0 w ∧ w0.heap.size ≤ b
theorem TabB.only {b : Nat} {w w' : World} (h : TabB b w) (ho : Only b w w') : TabB b w' := by
 obtain ⟨w0, h1, h2, h3⟩ := h
 exact ⟨w0, h1, Only.fresh h2 ho h3 h2.size, h3⟩
theorem TabB.tab {b : Nat} {w : World} (h : TabB b w) : Tab w := by
 obtain ⟨w0, h1, h2, h3⟩ := h
 exact h1.below h2
theorem give_c (b : Nat) (vf : Value) (free : List Nm) (k g : Nat) (w : World) (hr : NMr w b vf k g) (hf : Zw w vf free) (hne : ∀ q, vf.ownBlock = some q → q ≠ b ∧ q < w.heap.size) (hl : free.length ≤ 300) (hk : k ≤ 300) (hg : g ≤ 1000000) (hT : TabB b w) :
 Calls prog 122 #[.pointer (some ⟨b, 0, none⟩)] w fun e w' => e = .returned (.string (bs (Zd (Zk free k)))) ∧ NMr w' b vf (Zk free k + 1) (g + 1) ∧ Only b w w' := by
 have hfl := Qe free k
 obtain ⟨K, hK⟩ : ∃ K, K = Zk free k := ⟨_, rfl⟩
 rw [← hK] at hfl ⊢
 have HK := H_ hK
 obtain ⟨pf, cf, hvf, hlf, hrowf⟩ := id hf
 have HR := H_ hr
 have HF := H_ hf
 have HNE := H_ hne
 have HT := H_ hT
 clear hK hr hf hrowf hne hT
 subst hvf
 go_enter func122, ntmps122
 go_wp2_with fail
 go_loopg [3] (K + 1 - k) (fun q s wr => ∃ j : Nat, q + j = K + 1 ∧ k ≤ j ∧ j ≤ K ∧ Hid (Zk free j = K) ∧ Hid (NMr wr b (.slice pf free.length cf) j g) ∧ Hid (Only b w wr))
 case atStart => exact ⟨k, by omega, Nat.le_refl _, by omega, H_ HK.out.symm, HR, H_ (Only.refl b w)⟩
 case round =>
  obtain ⟨j, hq, hj1, hj2, hfr, hrn, hon⟩ := hrel
  have hblk : wr.heap[b]? = some (.cells #[.string ⟨#[120]⟩, .slice pf free.length cf, .int .i64 j, .int .i64 g] 95 (0, 0)) := hrn.out
  have CD := H_ (fun W (hW : Below wr.heap.size wr W) => itoa_b (j : Int) (by omega) W ((HT.out.only (hon.out.next hW)).tab))
  have hlen : (bs (Lib.itoa (j : Int))).size ≤ 100 := by
   rw [Y0]
   unfold Lib.itoa
   rw [if_neg (by omega)]
   exact Z50 _ (by omega)
  have hxn : Hid (bs (Zd j) = ⟨#[120]⟩ ++ bs (Lib.itoa (j : Int))) := H_ (by
   have e : Zd j = [120] ++ Lib.itoa (j : Int) := rfl
   rw [e, ← Xl]; rfl)
  have hwrap : IntKind.i64.wrap ((j : Int) + 1) = (j : Int) + 1 := by rw [IntKind.wrap_i64]; omega
  have hwrg : IntKind.i64.wrap ((g : Int) + 1) = (g : Int) + 1 := by rw [IntKind.wrap_i64]; omega
  have CH : Hid (∀ W : World, Zw W (.slice pf free.length cf) free → Calls prog 74 #[.slice pf free.length cf, .string (⟨#[120]⟩ ++ bs (Lib.itoa (j : Int)))] W fun e w' => e = .returned (.bool (decide (Zd j ∈ free))) ∧ w' = W) := H_ (fun W hv => by rw [← hxn.out]; exact Z4a _ free (Zd j) W hv)
  have HOA : Hid (∀ W, Below wr.heap.size wr W → (W.setCell ⟨b, 2, none⟩ (.int .i64 ((j : Int) + 1))).cell? ⟨b, 1, none⟩ = some (.slice pf free.length cf) ∧ (W.setCell ⟨b, 2, none⟩ (.int .i64 ((j : Int) + 1))).cell? ⟨b, 3, none⟩ = some (.int .i64 g) ∧ (W.setCell ⟨b, 2, none⟩ (.int .i64 ((j : Int) + 1))).frozen? ⟨b, 3, none⟩ = false ∧ NMr (W.setCell ⟨b, 2, none⟩ (.int .i64 ((j : Int) + 1))) b (.slice pf free.length cf) (j + 1) g ∧ NMr ((W.setCell ⟨b, 2, none⟩ (.int .i64 ((j : Int) + 1))).setCell ⟨b, 3, none⟩ (.int .i64 ((g : Int) + 1))) b (.slice pf free.length cf) (j + 1) (g + 1) ∧ Only b w (W.setCell ⟨b, 2, none⟩ (.int .i64 ((j : Int) + 1))) ∧ Only b w ((W.setCell ⟨b, 2, none⟩ (.int .i64 ((j : Int) + 1))).setCell ⟨b, 3, none⟩ (.int .i64 ((g : Int) + 1))) ∧ Zw (W.setCell ⟨b, 2, none⟩ (.int .i64 ((j : Int) + 1))) (.slice pf free.length cf) free) := H_ (fun W hW => by
   have h1 := Z2 hW (lt_of_block hblk) hblk
   have h2 := Yu (j := 2) h1 (.int .i64 ((j : Int) + 1))
   have h3 := Yu (j := 3) h2 (.int .i64 ((g : Int) + 1))
   have o2 := (hon.out.next hW).set (p := ⟨b, 2, none⟩) rfl (.int .i64 ((j : Int) + 1))
   have o3 := o2.set (p := ⟨b, 3, none⟩) rfl (.int .i64 ((g : Int) + 1))
   exact ⟨Z4 h2, Z4 h2, Yf h2, h2, h3, o2, o3, HF.out.onlyI o2 HNE.out⟩)
  have KC : Hid (∀ W, Below wr.heap.size wr W → W.cell? ⟨b, 0, none⟩ = some (.string ⟨#[120]⟩) ∧ W.cell? ⟨b, 2, none⟩ = some (.int .i64 j) ∧ W.frozen? ⟨b, 2, none⟩ = false) := H_ (fun W hW => by
   have h1 := Z2 hW (lt_of_block hblk) hblk
   exact ⟨Z4 h1, Z4 h1, Yf h1⟩)
  have hx2 : Hid (Zd j ∈ free → Zk free (j + 1) = K ∧ j < K) := H_ (fun hm => by
   have h1 := Z7w hm
   rw [hfr.out] at h1
   have := (Qe free (j + 1)).1
   exact ⟨h1.symm, by omega⟩)
  have hx3 : Hid (¬ Zd j ∈ free → j = K) := H_ (fun hm => by have h1 := Z7x hm; rw [hfr.out] at h1; exact h1.symm)
  have S0 := H_ (KC.out _ (Below.refl _ _).drew)
  clear hblk hrn
  by_cases hmem : Zd j ∈ free
  · have hdm : decide (Zd j ∈ free) = true := by simpa using hmem
    rw [hdm] at CH
    obtain ⟨y1, y2⟩ := hx2.out hmem
    have Y1 := H_ y1
    clear hx2 hx3 hmem hdm y1
    clear hxn
    generalize bs (Lib.itoa (j : Int)) = IT at *
    have hov : ¬ (9223372036854775807 : Nat) < 1 + IT.size := by omega
    go_wp2_with fail
    first | (go_region_held3 (fun W => W.cell? ⟨b, 0, none⟩ = some (.string ⟨#[120]⟩) ∧ W.cell? ⟨b, 2, none⟩ = some (.int .i64 j) ∧ W.frozen? ⟨b, 2, none⟩ = false) (first | exact S0.out | assumption | fail) (first | (go_at_call 114; (with_reducible refine (CD.out _ (Below.refl _ _).drew).mono ?_); rintro e w1 ⟨rfl, hb1⟩; have hB1 : Below wr.heap.size wr w1 := ((Below.refl wr.heap.size wr).drew).trans (hb1.mono (Nat.le_refl _)); have hS1 := KC.out _ hB1))) | fail
    all_goals
     obtain ⟨c1, c3, f3, n2, n3, o2, o3, s2⟩ := HOA.out _ hB1
     obtain ⟨e0, e2, ef⟩ := hS1
     go_wp2_with (go_at_call 74; go_must (refine (CH.out _ s2).mono ?_; rintro e w3 ⟨rfl, rfl⟩))
     go_roundg (gk - 1)
     case measure => omega
     case rel => exact ⟨j + 1, by omega, by omega, by omega, Y1, H_ n2, H_ o2⟩
  · have hdm : decide (Zd j ∈ free) = false := by simpa using hmem
    rw [hdm] at CH
    obtain rfl := hx3.out hmem
    have HXN := H_ hxn.out
    clear hx2 hx3 hmem hdm hxn
    generalize bs (Lib.itoa (j : Int)) = IT at *
    have hov : ¬ (9223372036854775807 : Nat) < 1 + IT.size := by omega
    go_wp2_with fail
    first | (go_region_held3 (fun W => W.cell? ⟨b, 0, none⟩ = some (.string ⟨#[120]⟩) ∧ W.cell? ⟨b, 2, none⟩ = some (.int .i64 j) ∧ W.frozen? ⟨b, 2, none⟩ = false) (first | exact S0.out | assumption | fail) (first | (go_at_call 114; (with_reducible refine (CD.out _ (Below.refl _ _).drew).mono ?_); rintro e w1 ⟨rfl, hb1⟩; have hB1 : Below wr.heap.size wr w1 := ((Below.refl wr.heap.size wr).drew).trans (hb1.mono (Nat.le_refl _)); have hS1 := KC.out _ hB1))) | fail
    all_goals
     obtain ⟨c1, c3, f3, n2, n3, o2, o3, s2⟩ := HOA.out _ hB1
     obtain ⟨e0, e2, ef⟩ := hS1
     go_wp2_with (go_at_call 74; go_must (refine (CH.out _ s2).mono ?_; rintro e w3 ⟨rfl, rfl⟩))
     go_ret
     exact ⟨by rw [HXN.out]; rfl, n3, o3⟩
def RnL (w : World) (ok : Nat → Prop) : List (Nm × Nm) → Value → Prop
 | [], v => v = .pointer none
 | (x, y) :: m, v => ∃ r u, v = .pointer (some ⟨r, 0, none⟩) ∧ ok r ∧ w.heap[r]? = some (.cells #[.string (bs x), .string (bs y), u] 149 (0, 0)) ∧ RnL w ok m u
theorem RnL.move {w w' : World} {ok ok' : Nat → Prop} (hk : ∀ k, ok k → ok' k) (hb : ∀ k, ok k → w'.heap[k]? = w.heap[k]?) : ∀ {m : List (Nm × Nm)} {v : Value}, RnL w ok m v → RnL w' ok' m v
 | [], v, h => h
 | (x, y) :: m, v, h => by
   obtain ⟨r, u, rfl, h1, h2, h3⟩ := h
   exact ⟨r, u, rfl, hk r h1, (hb r h1).trans h2, RnL.move hk hb h3⟩
theorem of_c (m : List (Nm × Nm)) (v : Value) (s : Nm) (ok : Nat → Prop) (w : World) (h : RnL w ok m v) :
 Calls prog 121 #[v, .string (bs s)] w fun e w' => e = .returned (.string (bs (J2 m s))) ∧ w' = w := by
 obtain ⟨P, hP⟩ : ∃ P, P = J2 m s := ⟨_, rfl⟩
 rw [← hP]
 have hv0 : ∃ p, v = .pointer p := by cases m with
  | nil => exact ⟨none, h⟩
  | cons q m => obtain ⟨x, y⟩ := q; obtain ⟨r, u, rfl, -⟩ := h; exact ⟨_, rfl⟩
 obtain ⟨p, rfl⟩ := hv0
 have HI := H_ (And.intro h hP.symm)
 generalize hM : m.length = M at *
 have hML : Hid (m.length = M) := H_ hM
 clear h hP hM
 go_enter func121, ntmps121
 go_wp2_with fail
 go_loopg [0] (M + 1) (fun q v wr => wr = w ∧ ∃ m' p, v = .pointer p ∧ Hid (q = m'.length + 1) ∧ Hid (RnL w ok m' (.pointer p) ∧ J2 m' s = P))
 case atStart => exact ⟨rfl, m, p, rfl, H_ (by rw [hML.out]), HI⟩
 case round =>
  obtain ⟨rfl, m', p', rfl, hq, hI⟩ := hrel
  clear HI hML
  cases m' with
  | nil =>
    have hp : p' = none := by have h := hI.out.1; simpa [RnL] using h
    subst hp
    have hz : s = P := hI.out.2
    subst hz
    go_wp2_with fail
    go_ret
    exact ⟨rfl, rfl⟩
  | cons xy m' =>
    obtain ⟨x, y⟩ := xy
    obtain ⟨r, u, hp, h1, h2, h3⟩ := hI.out.1
    simp only [Value.pointer.injEq] at hp
    subst hp
    have hu : ∃ pu, u = .pointer pu := by cases m' with
     | nil => exact ⟨none, h3⟩
     | cons q m2 => obtain ⟨x2, y2⟩ := q; obtain ⟨r2, u2, rfl, -⟩ := h3; exact ⟨_, rfl⟩
    obtain ⟨pu, rfl⟩ := hu
    obtain ⟨c0, c1, c2⟩ := cells3 h2
    have hlk := hI.out.2
    have H3 := H_ h3
    have hqq := hq.out
    simp only [List.length_cons] at hqq
    by_cases hx : x = s
    · have hP2 : y = P := by simpa [J2, hx] using hlk
      subst hP2
      have hs1 : ((bs x).toList == (bs s).toList) = true := by rw [hx]; simp
      have hs2 : (bs x).toList = (bs s).toList := by rw [hx]
      clear hlk h3 hI
      generalize bs x = X at *
      generalize bs s = S at *
      go_wp2_with fail
      go_ret
      exact ⟨rfl, rfl⟩
    · have hP2 : Hid (J2 m' s = P) := H_ (by simpa [J2, hx] using hlk)
      have hs2 : ¬ (bs x).toList = (bs s).toList := by rw [Z9, Z9]; exact hx
      have hs1 : ((bs x).toList == (bs s).toList) = false := by simpa using hs2
      clear hlk h3 hI hx
      generalize bs x = X at *
      generalize bs y = Y at *
      generalize bs s = S at *
      go_wp2_with fail
      go_roundg (gk - 1)
      case measure => omega
      case rel => exact ⟨rfl, m', pu, rfl, H_ (by omega), H_ ⟨H3.out, hP2.out⟩⟩
end Go.Proofs.YtjaaalojcdbcpaaGreatDoor
