/- The program's lists of names: whether a name is in one; a list without some names. Which dynamic type an expression's value has. The kids of the program's expressions, by the methods of their types. Type switches on expressions: what each asks of each. -/
import Derived.Test.YtjaaalojcdbcpaaGreatDoorlS1z
import Derived.Test.YtjaaalojcdbcpaaGreatDoorlAsrAM
import Derived.Test.YtjaaalojcdbcpaaGreatDoorlB3
import Derived.Test.YtjaaalojcdbcpaaGreatDoorlShelf
import Derived.Shelf.SlicesE.DeleteFunc
import Derived.Sort.OwnSorted
import Derived.Test.YtjaaalojcdbcpaaGreatDoorProg
import Derived.WalkKit
import Derived.Test.YtjaaalojcdbcpaaGreatDoorlS2dM
set_option maxHeartbeats 20000000
set_option linter.unusedVariables false
set_option linter.unusedSimpArgs false
namespace Go.Proofs.YtjaaalojcdbcpaaGreatDoor
open Go.RowKit Go.Proofs.Tryz
set_option maxRecDepth 8000
theorem index_c (v : Value) (l : List (List UInt8)) (a : List UInt8) (w : World) (h : Zw w v l) :
 Calls prog 125 #[v, .string (bs a)] w fun e w' => (∃ n : Int, e = .returned (.int .i64 n) ∧ ((0 ≤ n) ↔ a ∈ l) ∧ -1 ≤ n ∧ n ≤ 9223372036854775807) ∧ w' = w := by
 obtain ⟨p, c, rfl, h1, h2⟩ := h
 by_cases hz : l = []
 · subst hz
   clear h2
   go_enter func125, ntmps125
   go_wp2_with fail
   refine wp_loop_rounds 1 ?_
   rw [rounds_succ]
   go_wp2_with fail
   go_ret
   exact ⟨⟨-1, rfl, by simp, by omega, by omega⟩, rfl⟩
 · obtain ⟨r, off, rfl, h3⟩ := h2 hz
   clear h2
   go_enter func125, ntmps125
   go_wp2_with fail
   go_loop [8] (fun i => ∃ k : Nat, k ≤ l.length ∧ i = .int .i64 k ∧ Hid (a ∉ l.take k)) (fun i => l.length - (intOf i).toNat)
   case atStart => exact ⟨0, Nat.zero_le _, rfl, H_ (by simp)⟩
   case round =>
    obtain ⟨k, hk, rfl, hno⟩ := hrel
    by_cases hlt : k < l.length
    · have c1 : w.cell? ⟨r, off + k, none⟩ = some (.string (bs l[k])) := Zw.cell h3 hlt
      have hk0 : (0 : Int) ≤ (k : Int) := by omega
      by_cases hx : l[k] = a
      · have hx2 : ((bs a).toList == (bs l[k]).toList) = true := by rw [Z9, Z9]; simpa using hx.symm
        have hx3 : (bs a).toList = (bs l[k]).toList := by rw [Z9, Z9]; exact hx.symm
        have HX := H_ hx
        obtain ⟨s, hs⟩ : ∃ s, s = bs l[k] := ⟨_, rfl⟩
        rw [← hs] at c1 hx2 hx3
        clear hx hs
        go_wp2_with fail
        go_ret
        exact ⟨⟨(k : Int), rfl, ⟨fun _ => by rw [← HX.out]; exact List.getElem_mem hlt, fun _ => by omega⟩, by omega, by omega⟩, rfl⟩
      · have hx2 : ((bs a).toList == (bs l[k]).toList) = false := by rw [Z9, Z9]; simpa using fun e => hx e.symm
        have hx3 : ¬ (bs a).toList = (bs l[k]).toList := by rw [Z9, Z9]; exact fun e => hx e.symm
        have HX := H_ hx
        obtain ⟨s, hs⟩ : ∃ s, s = bs l[k] := ⟨_, rfl⟩
        rw [← hs] at c1 hx2 hx3
        clear hx hs
        go_wp2_with fail
        exact ⟨⟨k + 1, by omega, by go_num, H_ (by rw [List.take_succ_eq_append_getElem hlt]; simp only [List.mem_append, List.mem_singleton, not_or]; exact ⟨hno.out, fun e => HX.out e.symm⟩)⟩, by simp [intOf]; omega⟩
    · have : k = l.length := by omega
      subst this
      have hn := hno.out
      rw [List.take_length] at hn
      have HN := H_ hn
      clear hn
      go_wp2_with fail
      go_ret
      exact ⟨⟨-1, rfl, ⟨fun h => by omega, fun h => absurd h HN.out⟩, by omega, by omega⟩, rfl⟩
theorem Z4a (v : Value) (l : List (List UInt8)) (a : List UInt8) (w : World) (h : Zw w v l) :
 Calls prog 74 #[v, .string (bs a)] w fun e w' => e = .returned (.bool (decide (a ∈ l))) ∧ w' = w := by
 have C := H_ (index_c v l a w h)
 clear h
 by_cases hm : a ∈ l
 · have hd : decide (a ∈ l) = true := by simpa using hm
   rw [hd]
   have C2 : Hid (Calls prog 125 #[v, .string (bs a)] w fun e w' => (∃ n : Int, e = .returned (.int .i64 n) ∧ 0 ≤ n ∧ n ≤ 9223372036854775807) ∧ w' = w) := H_ (C.out.mono fun e w' ⟨⟨n, h1, h2, h3, h4⟩, h5⟩ => ⟨⟨n, h1, h2.2 hm, h4⟩, h5⟩)
   clear C hm hd
   go_enter func74, ntmps74
   go_wp2_with (go_at_call 125; go_must (refine (C2.out).mono ?_; rintro e w' ⟨⟨n, rfl, hn, hn2⟩, rfl⟩))
   go_ret
   exact ⟨Zf (by simp), rfl⟩
 · have hd : decide (a ∈ l) = false := by simpa using hm
   rw [hd]
   have C2 : Hid (Calls prog 125 #[v, .string (bs a)] w fun e w' => (∃ n : Int, e = .returned (.int .i64 n) ∧ ¬ 0 ≤ n) ∧ w' = w) := H_ (C.out.mono fun e w' ⟨⟨n, h1, h2, h3, h4⟩, h5⟩ => ⟨⟨n, h1, fun q => hm (h2.1 q)⟩, h5⟩)
   clear C hm hd
   go_enter func74, ntmps74
   go_wp2_with (go_at_call 125; go_must (refine (C2.out).mono ?_; rintro e w' ⟨⟨n, rfl, hn⟩, rfl⟩))
   go_ret
   exact ⟨Zf (by simpa using hn), rfl⟩
open Go.Sort in
theorem Z3s (bl : List Nm) (b : Nat) (u : Value) (W : World) (x : Nm) (hc : W.cell? ⟨b, 0, none⟩ = some u) (hu : Zw W u bl) :
 FnGives prog 145 #[.pointer (some ⟨b, 0, none⟩)] #[encStr x] (.bool (decide (x ∈ bl))) W := by
 show Calls prog 145 #[.string (bs x), .pointer (some ⟨b, 0, none⟩)] W _
 have C := H_ (Z4a u bl x W hu)
 clear hu
 go_enter func145, ntmps145
 go_wp2_with (go_at_call 74; go_must (refine (C.out).mono ?_; rintro e w' ⟨rfl, rfl⟩))
 go_ret
 exact ⟨rfl, 0, rfl⟩
theorem Z83 (fv : Value) (w : World) : Calls prog 144 #[.slice none 0 0, fv] w fun e w' => e = .returned (.slice none 0 0) ∧ w' = w := by
 have C := H_ (Tryz.slices_IndexFunc_empty (α := Nm) none 0 fv w)
 go_enter func144, ntmps144
 go_wp2_with (go_at_call 162; go_must (refine (C.out).mono ?_; rintro e w' ⟨rfl, rfl⟩))
 go_ret
 exact ⟨rfl, rfl⟩
theorem owns_cut {w : World} {base g n m cap : Nat} {e : TypeId} {xs : List Value} (h : w.ownsRow base e 1 (.slice (some ⟨g, 0, none⟩) n cap) n xs) (hm : m ≤ n) : w.ownsRow base e 1 (.slice (some ⟨g, 0, none⟩) m cap) m (xs.take m) := by
 refine ⟨by rw [List.length_take, h.1]; omega, ?_⟩
 rcases h.2 with ⟨h0, _⟩ | ⟨g', cap', cur, hv, hb, hg, h1, h2, h3, h4⟩
 · cases h0
 · simp only [Value.slice.injEq, Option.some.injEq, Addr.mk.injEq] at hv
   obtain ⟨⟨rfl, _⟩, _, rfl⟩ := hv
   refine .inr ⟨g, cap, cur, rfl, hb, hg, by omega, h2, h3, ?_⟩
   rw [← h4, List.take_take]
   congr 1; omega
theorem filter_rm (bl l : List Nm) : (l.filter fun x => !decide (x ∈ bl)) = rm bl l := by
 unfold rm
 congr 1
 funext x
 simp
open Go.Sort in
theorem without_c (v u : Value) (l bl : List Nm) (base : Nat) (w : World) (hl : l.length ≤ 1000000) (ho : w.ownsRow base 9 1 v l.length (l.map Y3)) (hu : Zw w u bl) (hne : ∀ k, u.ownBlock = some k → v.ownBlock ≠ some k ∧ k < w.heap.size) :
 Calls prog 101 #[v, u] w fun e w' => (∃ v', e = .returned v' ∧ w'.ownsRow base 9 1 v' (rm bl l).length ((rm bl l).map Y3) ∧ v'.ownBlock = v.ownBlock) ∧ w.grownBy w' v.ownBlock := by
 obtain ⟨up, uc, rfl, hu1, hu2⟩ := id hu
 clear hu2
 rcases ho.2 with ⟨rfl, h0⟩ | ⟨g, cap, cur, rfl, hbg, hg, h1, h2, h3, h4⟩
 · have hl0 : l = [] := List.eq_nil_of_length_eq_zero h0
   subst hl0
   clear hu hne
   go_enter func101, ntmps101
   go_wp2_with (go_at_call 144; go_must (refine (Z83 _ _).mono ?_; rintro e w' ⟨rfl, rfl⟩))
   go_ret
   exact ⟨⟨_, rfl, ho.alloc _, rfl⟩, World.grownBy_alloc w _ _⟩
 · have eg : ∀ args w, (callFunc 145 args).run prog w = .ok (.enter 145 args) w := enters_of func145 (by kernel_rfl) rfl
   have hglt : g < w.heap.size := (Array.getElem?_eq_some_iff.1 hg).1
   have hg1 : (w.alloc (.cells #[.slice up bl.length uc] 28)).heap[g]? = some (.cells cur 9 (0, 0)) := Z8 hg
   have hbk : ∀ W : World, (∀ k, k ≠ g → k < w.heap.size + 1 → W.heap[k]? = (w.alloc (.cells #[.slice up bl.length uc] 28)).heap[k]?) → W.cell? ⟨w.heap.size, 0, none⟩ = some (.slice up bl.length uc) ∧ Zw W (.slice up bl.length uc) bl := fun W hW => by
    refine ⟨?_, ?_⟩
    · rw [World.cell?_of_block (w := w.alloc (.cells #[.slice up bl.length uc] 28)) (hW w.heap.size (by omega) (by omega))]; simp
    · refine Zw.move hu (fun k hk => ?_)
      have hk2 := hne k hk
      rw [hW k (fun e => hk2.1 (by rw [e]; rfl)) (by omega)]
      exact heap_alloc_old _ _ hk2.2
   have hpred : PredAt prog 145 #[.pointer (some ⟨w.heap.size, 0, none⟩)] encStr (fun x => decide (x ∈ bl)) (w.alloc (.cells #[.slice up bl.length uc] 28)) := fun W x hb => by
    have := hbk W (fun k _ hk => hb.block k (by simpa using hk))
    exact Z3s bl _ _ W x this.1 this.2
   have hover : PredOver prog 145 #[.pointer (some ⟨w.heap.size, 0, none⟩)] encStr (fun x => decide (x ∈ bl)) g 0 l.toArray.size (w.alloc (.cells #[.slice up bl.length uc] 28)) := fun n os dk x _ => by
    have := hbk (sortWorld encStr (w.alloc (.cells #[.slice up bl.length uc] 28)) g 0 n dk os) (fun k hk1 hk2 => by
     have := (grownBy_sorted (w := w.alloc (.cells #[.slice up bl.length uc] 28)) (g := g) (n := n) (os := os) dk).block k (by simpa using hk2) (fun e => hk1 (by simp at e; omega))
     exact this)
    exact Z3s bl _ _ _ x this.1 this.2
   have C := H_ (Tryz.slices_DeleteFunc encStr (fun _ => rfl) (fun x => decide (x ∈ bl)) 145 #[.pointer (some ⟨w.heap.size, 0, none⟩)] eg [] Tryz.zeroValue9 g 0 cap l.toArray (w.alloc (.cells #[.slice up bl.length uc] 28)) hpred hover (holds_of_block hg1 (by rw [← Nat.mul_one l.length]; exact h4)) (by simp; omega) (by simpa using h1))
   rw [show l.toArray.toList = l from rfl, filter_rm, show l.toArray.size = l.length from by simp] at C
   have HF : Hid (∀ q (F : List Nm), F.length ≤ l.length → F = rm bl l → (putRow encStr (Sort.ahead (w.alloc (.cells #[.slice up bl.length uc] 28)) q) g 0 (F ++ List.replicate (l.length - F.length) []).toArray).ownsRow base 9 1 (.slice (some ⟨g, 0, none⟩) F.length cap) F.length (F.map Y3) ∧ w.grownBy (putRow encStr (Sort.ahead (w.alloc (.cells #[.slice up bl.length uc] 28)) q) g 0 (F ++ List.replicate (l.length - F.length) []).toArray) (some g)) := H_ (fun q F hFl _ => by
    have k1 := ownsRow_sorted (w := w.alloc (.cells #[.slice up bl.length uc] 28)) (n := q) (os := #[]) (ss := l) (ts := F ++ List.replicate (l.length - F.length) []) (by simp; omega) hbg hg1 h1 h2 h3
    rw [grow_empty] at k1
    have k2 := owns_cut k1 hFl
    rw [List.map_append, List.take_left' (by simp)] at k2
    have k3 := grownBy_sorted (w := w.alloc (.cells #[.slice up bl.length uc] 28)) (g := g) (n := q) (os := #[]) (F ++ List.replicate (l.length - F.length) []).toArray
    rw [grow_empty] at k3
    exact ⟨k2, Z1c (World.grownBy_alloc w _ _) k3⟩)
   have hrl := Z1i bl l
   have HE := H_ (show rm bl l = rm bl l from rfl)
   generalize hF : rm bl l = F at *
   clear hbk hpred hover hu hne hg1 hg h4 ho
   go_enter func101, ntmps101
   go_wp2_with (go_at_call 144; go_must (refine (C.out).mono ?_; rintro e w' ⟨rfl, q, rfl⟩))
   go_ret
   have h9 := HF.out q F hrl (by first | exact hF.symm | rfl)
   exact ⟨⟨_, rfl, h9.1, rfl⟩, h9.2⟩
@[go_sem] theorem as_name_name (v : Value) (w : World) : (Instr.typeAssert (.iface 110 v) 53 110 true).run prog w = .ok (.tuple #[v, .bool true]) w := by kernel_rfl
@[go_sem] theorem as_name_number (v : Value) (w : World) : (Instr.typeAssert (.iface 110 v) 53 141 true).run prog w = .ok (.tuple #[.agg #[.int .i64 0], .bool false]) w := by kernel_rfl
@[go_sem] theorem as_name_let (v : Value) (w : World) : (Instr.typeAssert (.iface 110 v) 53 105 true).run prog w = .ok (.tuple #[.agg #[.string ⟨#[]⟩, .nilIface, .nilIface], .bool false]) w := by kernel_rfl
@[go_sem] theorem as_name_fun (v : Value) (w : World) : (Instr.typeAssert (.iface 110 v) 53 107 true).run prog w = .ok (.tuple #[.agg #[.string ⟨#[]⟩, .string ⟨#[]⟩, .string ⟨#[]⟩, .slice none 0 0, .int .i64 0, .int .i64 0, .int .i64 0, .string ⟨#[]⟩, .slice none 0 0, .int .i64 0, .int .i64 0, .int .i64 0, .nilIface], .bool false]) w := by kernel_rfl
@[go_sem] theorem as_number_name (v : Value) (w : World) : (Instr.typeAssert (.iface 141 v) 53 110 true).run prog w = .ok (.tuple #[.agg #[.string ⟨#[]⟩], .bool false]) w := by kernel_rfl
@[go_sem] theorem as_number_number (v : Value) (w : World) : (Instr.typeAssert (.iface 141 v) 53 141 true).run prog w = .ok (.tuple #[v, .bool true]) w := by kernel_rfl
@[go_sem] theorem as_number_let (v : Value) (w : World) : (Instr.typeAssert (.iface 141 v) 53 105 true).run prog w = .ok (.tuple #[.agg #[.string ⟨#[]⟩, .nilIface, .nilIface], .bool false]) w := by kernel_rfl
@[go_sem] theorem as_number_fun (v : Value) (w : World) : (Instr.typeAssert (.iface 141 v) 53 107 true).run prog w = .ok (.tuple #[.agg #[.string ⟨#[]⟩, .string ⟨#[]⟩, .string ⟨#[]⟩, .slice none 0 0, .int .i64 0, .int .i64 0, .int .i64 0, .string ⟨#[]⟩, .slice none 0 0, .int .i64 0, .int .i64 0, .int .i64 0, .nilIface], .bool false]) w := by kernel_rfl
@[go_sem] theorem as_add_name (v : Value) (w : World) : (Instr.typeAssert (.iface 163 v) 53 110 true).run prog w = .ok (.tuple #[.agg #[.string ⟨#[]⟩], .bool false]) w := by kernel_rfl
@[go_sem] theorem as_add_number (v : Value) (w : World) : (Instr.typeAssert (.iface 163 v) 53 141 true).run prog w = .ok (.tuple #[.agg #[.int .i64 0], .bool false]) w := by kernel_rfl
@[go_sem] theorem as_add_let (v : Value) (w : World) : (Instr.typeAssert (.iface 163 v) 53 105 true).run prog w = .ok (.tuple #[.agg #[.string ⟨#[]⟩, .nilIface, .nilIface], .bool false]) w := by kernel_rfl
@[go_sem] theorem as_add_fun (v : Value) (w : World) : (Instr.typeAssert (.iface 163 v) 53 107 true).run prog w = .ok (.tuple #[.agg #[.string ⟨#[]⟩, .string ⟨#[]⟩, .string ⟨#[]⟩, .slice none 0 0, .int .i64 0, .int .i64 0, .int .i64 0, .string ⟨#[]⟩, .slice none 0 0, .int .i64 0, .int .i64 0, .int .i64 0, .nilIface], .bool false]) w := by kernel_rfl
@[go_sem] theorem as_sub_name (v : Value) (w : World) : (Instr.typeAssert (.iface 164 v) 53 110 true).run prog w = .ok (.tuple #[.agg #[.string ⟨#[]⟩], .bool false]) w := by kernel_rfl
@[go_sem] theorem as_sub_number (v : Value) (w : World) : (Instr.typeAssert (.iface 164 v) 53 141 true).run prog w = .ok (.tuple #[.agg #[.int .i64 0], .bool false]) w := by kernel_rfl
@[go_sem] theorem as_sub_let (v : Value) (w : World) : (Instr.typeAssert (.iface 164 v) 53 105 true).run prog w = .ok (.tuple #[.agg #[.string ⟨#[]⟩, .nilIface, .nilIface], .bool false]) w := by kernel_rfl
@[go_sem] theorem as_sub_fun (v : Value) (w : World) : (Instr.typeAssert (.iface 164 v) 53 107 true).run prog w = .ok (.tuple #[.agg #[.string ⟨#[]⟩, .string ⟨#[]⟩, .string ⟨#[]⟩, .slice none 0 0, .int .i64 0, .int .i64 0, .int .i64 0, .string ⟨#[]⟩, .slice none 0 0, .int .i64 0, .int .i64 0, .int .i64 0, .nilIface], .bool false]) w := by kernel_rfl
@[go_sem] theorem as_mul_name (v : Value) (w : World) : (Instr.typeAssert (.iface 165 v) 53 110 true).run prog w = .ok (.tuple #[.agg #[.string ⟨#[]⟩], .bool false]) w := by kernel_rfl
@[go_sem] theorem as_mul_number (v : Value) (w : World) : (Instr.typeAssert (.iface 165 v) 53 141 true).run prog w = .ok (.tuple #[.agg #[.int .i64 0], .bool false]) w := by kernel_rfl
@[go_sem] theorem as_mul_let (v : Value) (w : World) : (Instr.typeAssert (.iface 165 v) 53 105 true).run prog w = .ok (.tuple #[.agg #[.string ⟨#[]⟩, .nilIface, .nilIface], .bool false]) w := by kernel_rfl
@[go_sem] theorem as_mul_fun (v : Value) (w : World) : (Instr.typeAssert (.iface 165 v) 53 107 true).run prog w = .ok (.tuple #[.agg #[.string ⟨#[]⟩, .string ⟨#[]⟩, .string ⟨#[]⟩, .slice none 0 0, .int .i64 0, .int .i64 0, .int .i64 0, .string ⟨#[]⟩, .slice none 0 0, .int .i64 0, .int .i64 0, .int .i64 0, .nilIface], .bool false]) w := by kernel_rfl
@[go_sem] theorem as_if_name (v : Value) (w : World) : (Instr.typeAssert (.iface 167 v) 53 110 true).run prog w = .ok (.tuple #[.agg #[.string ⟨#[]⟩], .bool false]) w := by kernel_rfl
@[go_sem] theorem as_if_number (v : Value) (w : World) : (Instr.typeAssert (.iface 167 v) 53 141 true).run prog w = .ok (.tuple #[.agg #[.int .i64 0], .bool false]) w := by kernel_rfl
@[go_sem] theorem as_if_let (v : Value) (w : World) : (Instr.typeAssert (.iface 167 v) 53 105 true).run prog w = .ok (.tuple #[.agg #[.string ⟨#[]⟩, .nilIface, .nilIface], .bool false]) w := by kernel_rfl
@[go_sem] theorem as_if_fun (v : Value) (w : World) : (Instr.typeAssert (.iface 167 v) 53 107 true).run prog w = .ok (.tuple #[.agg #[.string ⟨#[]⟩, .string ⟨#[]⟩, .string ⟨#[]⟩, .slice none 0 0, .int .i64 0, .int .i64 0, .int .i64 0, .string ⟨#[]⟩, .slice none 0 0, .int .i64 0, .int .i64 0, .int .i64 0, .nilIface], .bool false]) w := by kernel_rfl
@[go_sem] theorem as_let_name (v : Value) (w : World) : (Instr.typeAssert (.iface 105 v) 53 110 true).run prog w = .ok (.tuple #[.agg #[.string ⟨#[]⟩], .bool false]) w := by kernel_rfl
@[go_sem] theorem as_let_number (v : Value) (w : World) : (Instr.typeAssert (.iface 105 v) 53 141 true).run prog w = .ok (.tuple #[.agg #[.int .i64 0], .bool false]) w := by kernel_rfl
@[go_sem] theorem as_let_let (v : Value) (w : World) : (Instr.typeAssert (.iface 105 v) 53 105 true).run prog w = .ok (.tuple #[v, .bool true]) w := by kernel_rfl
@[go_sem] theorem as_let_fun (v : Value) (w : World) : (Instr.typeAssert (.iface 105 v) 53 107 true).run prog w = .ok (.tuple #[.agg #[.string ⟨#[]⟩, .string ⟨#[]⟩, .string ⟨#[]⟩, .slice none 0 0, .int .i64 0, .int .i64 0, .int .i64 0, .string ⟨#[]⟩, .slice none 0 0, .int .i64 0, .int .i64 0, .int .i64 0, .nilIface], .bool false]) w := by kernel_rfl
@[go_sem] theorem as_fun_name (v : Value) (w : World) : (Instr.typeAssert (.iface 107 v) 53 110 true).run prog w = .ok (.tuple #[.agg #[.string ⟨#[]⟩], .bool false]) w := by kernel_rfl
@[go_sem] theorem as_fun_number (v : Value) (w : World) : (Instr.typeAssert (.iface 107 v) 53 141 true).run prog w = .ok (.tuple #[.agg #[.int .i64 0], .bool false]) w := by kernel_rfl
@[go_sem] theorem as_fun_let (v : Value) (w : World) : (Instr.typeAssert (.iface 107 v) 53 105 true).run prog w = .ok (.tuple #[.agg #[.string ⟨#[]⟩, .nilIface, .nilIface], .bool false]) w := by kernel_rfl
@[go_sem] theorem as_fun_fun (v : Value) (w : World) : (Instr.typeAssert (.iface 107 v) 53 107 true).run prog w = .ok (.tuple #[v, .bool true]) w := by kernel_rfl
@[go_sem] theorem as_call_name (v : Value) (w : World) : (Instr.typeAssert (.iface 168 v) 53 110 true).run prog w = .ok (.tuple #[.agg #[.string ⟨#[]⟩], .bool false]) w := by kernel_rfl
@[go_sem] theorem as_call_number (v : Value) (w : World) : (Instr.typeAssert (.iface 168 v) 53 141 true).run prog w = .ok (.tuple #[.agg #[.int .i64 0], .bool false]) w := by kernel_rfl
@[go_sem] theorem as_call_let (v : Value) (w : World) : (Instr.typeAssert (.iface 168 v) 53 105 true).run prog w = .ok (.tuple #[.agg #[.string ⟨#[]⟩, .nilIface, .nilIface], .bool false]) w := by kernel_rfl
@[go_sem] theorem as_call_fun (v : Value) (w : World) : (Instr.typeAssert (.iface 168 v) 53 107 true).run prog w = .ok (.tuple #[.agg #[.string ⟨#[]⟩, .string ⟨#[]⟩, .string ⟨#[]⟩, .slice none 0 0, .int .i64 0, .int .i64 0, .int .i64 0, .string ⟨#[]⟩, .slice none 0 0, .int .i64 0, .int .i64 0, .int .i64 0, .nilIface], .bool false]) w := by kernel_rfl
@[go_sem] theorem as_pair_name (v : Value) (w : World) : (Instr.typeAssert (.iface 171 v) 53 110 true).run prog w = .ok (.tuple #[.agg #[.string ⟨#[]⟩], .bool false]) w := by kernel_rfl
@[go_sem] theorem as_pair_number (v : Value) (w : World) : (Instr.typeAssert (.iface 171 v) 53 141 true).run prog w = .ok (.tuple #[.agg #[.int .i64 0], .bool false]) w := by kernel_rfl
@[go_sem] theorem as_pair_let (v : Value) (w : World) : (Instr.typeAssert (.iface 171 v) 53 105 true).run prog w = .ok (.tuple #[.agg #[.string ⟨#[]⟩, .nilIface, .nilIface], .bool false]) w := by kernel_rfl
@[go_sem] theorem as_pair_fun (v : Value) (w : World) : (Instr.typeAssert (.iface 171 v) 53 107 true).run prog w = .ok (.tuple #[.agg #[.string ⟨#[]⟩, .string ⟨#[]⟩, .string ⟨#[]⟩, .slice none 0 0, .int .i64 0, .int .i64 0, .int .i64 0, .string ⟨#[]⟩, .slice none 0 0, .int .i64 0, .int .i64 0, .int .i64 0, .nilIface], .bool false]) w := by kernel_rfl
@[go_sem] theorem as_fst_name (v : Value) (w : World) : (Instr.typeAssert (.iface 175 v) 53 110 true).run prog w = .ok (.tuple #[.agg #[.string ⟨#[]⟩], .bool false]) w := by kernel_rfl
@[go_sem] theorem as_fst_number (v : Value) (w : World) : (Instr.typeAssert (.iface 175 v) 53 141 true).run prog w = .ok (.tuple #[.agg #[.int .i64 0], .bool false]) w := by kernel_rfl
@[go_sem] theorem as_fst_let (v : Value) (w : World) : (Instr.typeAssert (.iface 175 v) 53 105 true).run prog w = .ok (.tuple #[.agg #[.string ⟨#[]⟩, .nilIface, .nilIface], .bool false]) w := by kernel_rfl
@[go_sem] theorem as_fst_fun (v : Value) (w : World) : (Instr.typeAssert (.iface 175 v) 53 107 true).run prog w = .ok (.tuple #[.agg #[.string ⟨#[]⟩, .string ⟨#[]⟩, .string ⟨#[]⟩, .slice none 0 0, .int .i64 0, .int .i64 0, .int .i64 0, .string ⟨#[]⟩, .slice none 0 0, .int .i64 0, .int .i64 0, .int .i64 0, .nilIface], .bool false]) w := by kernel_rfl
@[go_sem] theorem as_snd_name (v : Value) (w : World) : (Instr.typeAssert (.iface 176 v) 53 110 true).run prog w = .ok (.tuple #[.agg #[.string ⟨#[]⟩], .bool false]) w := by kernel_rfl
@[go_sem] theorem as_snd_number (v : Value) (w : World) : (Instr.typeAssert (.iface 176 v) 53 141 true).run prog w = .ok (.tuple #[.agg #[.int .i64 0], .bool false]) w := by kernel_rfl
@[go_sem] theorem as_snd_let (v : Value) (w : World) : (Instr.typeAssert (.iface 176 v) 53 105 true).run prog w = .ok (.tuple #[.agg #[.string ⟨#[]⟩, .nilIface, .nilIface], .bool false]) w := by kernel_rfl
@[go_sem] theorem as_snd_fun (v : Value) (w : World) : (Instr.typeAssert (.iface 176 v) 53 107 true).run prog w = .ok (.tuple #[.agg #[.string ⟨#[]⟩, .string ⟨#[]⟩, .string ⟨#[]⟩, .slice none 0 0, .int .i64 0, .int .i64 0, .int .i64 0, .string ⟨#[]⟩, .slice none 0 0, .int .i64 0, .int .i64 0, .int .i64 0, .nilIface], .bool false]) w := by kernel_rfl
def KidsP (B : Nat) (vs : List Value) (e : Ending) (w' : World) : Prop :=
 ∃ b, e = .returned (.slice (some ⟨b, 0, none⟩) vs.length vs.length) ∧ B ≤ b ∧ b < w'.heap.size ∧ w'.heap[b]? = some (.cells vs.toArray 53 (0, 0))
theorem Z1a (w : World) (o : Obj) (vs : List Value) : KidsP w.heap.size vs (.returned (.slice (some ⟨w.heap.size + 1, 0, none⟩) vs.length vs.length)) ((w.alloc o).alloc (.cells vs.toArray 53)) :=
 ⟨_, rfl, by omega, by simp, Za _ _ _⟩
theorem Z4v (vs : Array Value) (w : World) : Calls prog 216 #[.agg vs] w fun e w' => e = .returned (.slice none 0 0) ∧ Below w.heap.size w w' := by
 go_enter func216, ntmps216
 go_wp2_with fail
 go_ret
 exact ⟨rfl, Z5 _ _⟩
theorem Vr (T : TypeId) (x : Value) (w : World) : Calls prog 233 #[.agg #[.iface T x]] w fun e w' => KidsP w.heap.size [.iface T x] e w' ∧ Below w.heap.size w w' := by
 go_enter func233, ntmps233
 go_wp2_with fail
 go_ret
 exact ⟨Z1a _ _ [.iface T x], Zl _ _ _⟩
theorem Xa (T U : TypeId) (x y : Value) (w : World) : Calls prog 218 #[.agg #[.iface T x, .iface U y]] w fun e w' => KidsP w.heap.size [.iface T x, .iface U y] e w' ∧ Below w.heap.size w w' := by
 go_enter func218, ntmps218
 go_wp2_with fail
 go_ret
 exact ⟨Z1a _ _ [.iface T x, .iface U y], Zl _ _ _⟩
theorem Z3p (T U V : TypeId) (x y z : Value) (w : World) : Calls prog 227 #[.agg #[.iface T x, .iface U y, .iface V z]] w fun e w' => KidsP w.heap.size [.iface T x, .iface U y, .iface V z] e w' ∧ Below w.heap.size w w' := by
 go_enter func227, ntmps227
 go_wp2_with fail
 go_ret
 exact ⟨Z1a _ _ [.iface T x, .iface U y, .iface V z], Zl _ _ _⟩
theorem Z7m (T U : TypeId) (s x y : Value) (w : World) : Calls prog 206 #[.agg #[s, .iface T x, .iface U y]] w fun e w' => KidsP w.heap.size [.iface T x, .iface U y] e w' ∧ Below w.heap.size w w' := by
 go_enter func206, ntmps206
 go_wp2_with fail
 go_ret
 exact ⟨Z1a _ _ [.iface T x, .iface U y], Zl _ _ _⟩
theorem Z7n (T : TypeId) (f x fa fp fx fy fz ga gp gx gy gz y : Value) (w : World) : Calls prog 209 #[.agg #[f, x, fa, fp, fx, fy, fz, ga, gp, gx, gy, gz, .iface T y]] w fun e w' => KidsP w.heap.size [.iface T y] e w' ∧ Below w.heap.size w w' := by
 go_enter func209, ntmps209
 go_wp2_with fail
 go_ret
 exact ⟨Z1a _ _ [.iface T y], Zl _ _ _⟩
@[go_sem] theorem as_name_add (v : Value) (w : World) : (Instr.typeAssert (.iface 110 v) 53 163 true).run prog w = .ok (.tuple #[.agg #[.nilIface, .nilIface], .bool false]) w := by kernel_rfl
@[go_sem] theorem as_name_sub (v : Value) (w : World) : (Instr.typeAssert (.iface 110 v) 53 164 true).run prog w = .ok (.tuple #[.agg #[.nilIface, .nilIface], .bool false]) w := by kernel_rfl
@[go_sem] theorem as_name_mul (v : Value) (w : World) : (Instr.typeAssert (.iface 110 v) 53 165 true).run prog w = .ok (.tuple #[.agg #[.nilIface, .nilIface], .bool false]) w := by kernel_rfl
@[go_sem] theorem as_name_if (v : Value) (w : World) : (Instr.typeAssert (.iface 110 v) 53 167 true).run prog w = .ok (.tuple #[.agg #[.nilIface, .nilIface, .nilIface], .bool false]) w := by kernel_rfl
@[go_sem] theorem as_name_call (v : Value) (w : World) : (Instr.typeAssert (.iface 110 v) 53 168 true).run prog w = .ok (.tuple #[.agg #[.nilIface, .nilIface], .bool false]) w := by kernel_rfl
@[go_sem] theorem as_name_pair (v : Value) (w : World) : (Instr.typeAssert (.iface 110 v) 53 171 true).run prog w = .ok (.tuple #[.agg #[.nilIface, .nilIface], .bool false]) w := by kernel_rfl
@[go_sem] theorem as_name_fst (v : Value) (w : World) : (Instr.typeAssert (.iface 110 v) 53 175 true).run prog w = .ok (.tuple #[.agg #[.nilIface], .bool false]) w := by kernel_rfl
@[go_sem] theorem as_name_snd (v : Value) (w : World) : (Instr.typeAssert (.iface 110 v) 53 176 true).run prog w = .ok (.tuple #[.agg #[.nilIface], .bool false]) w := by kernel_rfl
@[go_sem] theorem as_let_add (v : Value) (w : World) : (Instr.typeAssert (.iface 105 v) 53 163 true).run prog w = .ok (.tuple #[.agg #[.nilIface, .nilIface], .bool false]) w := by kernel_rfl
@[go_sem] theorem as_let_sub (v : Value) (w : World) : (Instr.typeAssert (.iface 105 v) 53 164 true).run prog w = .ok (.tuple #[.agg #[.nilIface, .nilIface], .bool false]) w := by kernel_rfl
@[go_sem] theorem as_let_mul (v : Value) (w : World) : (Instr.typeAssert (.iface 105 v) 53 165 true).run prog w = .ok (.tuple #[.agg #[.nilIface, .nilIface], .bool false]) w := by kernel_rfl
@[go_sem] theorem as_let_if (v : Value) (w : World) : (Instr.typeAssert (.iface 105 v) 53 167 true).run prog w = .ok (.tuple #[.agg #[.nilIface, .nilIface, .nilIface], .bool false]) w := by kernel_rfl
@[go_sem] theorem as_let_call (v : Value) (w : World) : (Instr.typeAssert (.iface 105 v) 53 168 true).run prog w = .ok (.tuple #[.agg #[.nilIface, .nilIface], .bool false]) w := by kernel_rfl
@[go_sem] theorem as_let_pair (v : Value) (w : World) : (Instr.typeAssert (.iface 105 v) 53 171 true).run prog w = .ok (.tuple #[.agg #[.nilIface, .nilIface], .bool false]) w := by kernel_rfl
@[go_sem] theorem as_let_fst (v : Value) (w : World) : (Instr.typeAssert (.iface 105 v) 53 175 true).run prog w = .ok (.tuple #[.agg #[.nilIface], .bool false]) w := by kernel_rfl
@[go_sem] theorem as_let_snd (v : Value) (w : World) : (Instr.typeAssert (.iface 105 v) 53 176 true).run prog w = .ok (.tuple #[.agg #[.nilIface], .bool false]) w := by kernel_rfl
@[go_sem] theorem as_fun_add (v : Value) (w : World) : (Instr.typeAssert (.iface 107 v) 53 163 true).run prog w = .ok (.tuple #[.agg #[.nilIface, .nilIface], .bool false]) w := by kernel_rfl
@[go_sem] theorem as_fun_sub (v : Value) (w : World) : (Instr.typeAssert (.iface 107 v) 53 164 true).run prog w = .ok (.tuple #[.agg #[.nilIface, .nilIface], .bool false]) w := by kernel_rfl
@[go_sem] theorem as_fun_mul (v : Value) (w : World) : (Instr.typeAssert (.iface 107 v) 53 165 true).run prog w = .ok (.tuple #[.agg #[.nilIface, .nilIface], .bool false]) w := by kernel_rfl
@[go_sem] theorem as_fun_if (v : Value) (w : World) : (Instr.typeAssert (.iface 107 v) 53 167 true).run prog w = .ok (.tuple #[.agg #[.nilIface, .nilIface, .nilIface], .bool false]) w := by kernel_rfl
@[go_sem] theorem as_fun_call (v : Value) (w : World) : (Instr.typeAssert (.iface 107 v) 53 168 true).run prog w = .ok (.tuple #[.agg #[.nilIface, .nilIface], .bool false]) w := by kernel_rfl
@[go_sem] theorem as_fun_pair (v : Value) (w : World) : (Instr.typeAssert (.iface 107 v) 53 171 true).run prog w = .ok (.tuple #[.agg #[.nilIface, .nilIface], .bool false]) w := by kernel_rfl
@[go_sem] theorem as_fun_fst (v : Value) (w : World) : (Instr.typeAssert (.iface 107 v) 53 175 true).run prog w = .ok (.tuple #[.agg #[.nilIface], .bool false]) w := by kernel_rfl
@[go_sem] theorem as_fun_snd (v : Value) (w : World) : (Instr.typeAssert (.iface 107 v) 53 176 true).run prog w = .ok (.tuple #[.agg #[.nilIface], .bool false]) w := by kernel_rfl
end Go.Proofs.YtjaaalojcdbcpaaGreatDoor
