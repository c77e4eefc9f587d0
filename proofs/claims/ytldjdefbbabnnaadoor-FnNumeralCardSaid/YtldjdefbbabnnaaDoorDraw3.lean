/- The reference's draws: texts of a list, atoms, types, forms. -/
import Derived.Test.YtldjdefbbabnnaaDoorDraw1
import Derived.Test.YtldjdefbbabnnaaDoorB2
namespace Go.Proofs.YtldjdefbbabnnaaDoor
open Go.RowKit
set_option maxRecDepth 8000
set_option linter.unusedSimpArgs false
set_option linter.unusedVariables false
/-- What a draw of a text leaves: at most N bytes, at most M picks. -/
def DrPost (q : Nat) (a : Option Addr) (L c p : Nat) (zs : List Int) (N M : Nat) (w : World) (e : Ending) (w' : World) : Prop :=
  ∃ (s : ByteArray) (p' : Nat), e = .returned (.string s) ∧ s.size ≤ N ∧ p' ≤ p + M ∧ Rd w' q a L c p' zs ∧ Only q w w'
theorem pick_d {q : Nat} {a : Option Addr} {L c p : Nat} {zs : List Int} {n : Int} {w : World} (h : Rd w q a L c p zs) (hp : p ≤ 1000000) (hn : n ≤ 1000000) :
    Calls Tryd.prog 10 #[.pointer (some ⟨q, 0, none⟩), .int .i64 n] w fun e w' => (∃ r : Int, e = .returned (.int .i64 r) ∧ 0 ≤ r ∧ (r < n ∨ r = 0)) ∧ Rd w' q a L c (p + 1) zs ∧ Only q w w' :=
  (pick_c q a L c p zs n w h hp hn).mono fun e w' ⟨h1, h2, h3⟩ => ⟨h1, ⟨h2, h.row.only h3 h.ne, h.ne, h.len⟩, h3⟩
set_option maxHeartbeats 1000000 in
theorem of_d {q : Nat} {a : Option Addr} {L c p : Nat} {zs : List Int} {v : Value} {l : List (List UInt8)} {N : Nat} {w : World} (h : Rd w q a L c p zs) (hp : p ≤ 1000000) (hv : StrS w v l) (hl : l ≠ []) (hln : l.length ≤ 1000) (hN : ∀ x ∈ l, x.length ≤ N) (hne : ∀ k, v.ownBlock = some k → k ≠ q) :
    Calls Tryd.prog 11 #[.pointer (some ⟨q, 0, none⟩), v] w fun e w' => DrPost q a L c p zs N 1 w e w' := by
  obtain ⟨p1, c1, rfl, l1, hrow⟩ := hv
  obtain ⟨r, off, rfl, h3⟩ := hrow hl
  have hrq : r ≠ q := hne r rfl
  have hpos : 0 < l.length := List.length_pos_iff.2 hl
  have CP := Lib.hid (pick_d (n := (l.length : Int)) h hp (by omega))
  have HX : Hid (∀ j (hj : j < l.length), w.cell? ⟨r, off + j, none⟩ = some (.string (bs l[j]))) := Lib.hid (fun j hj => StrS.cell h3 hj)
  have HN := Lib.hid hN
  clear h hrow h3 hN
  go_enter Tryd.func11, Tryd.ntmps11
  go_wp2_with fail
  refine (CP.out).mono ?_
  rintro e w2 ⟨⟨k, rfl, hk0, hk1⟩, hR2, ho2⟩
  obtain ⟨j, rfl⟩ : ∃ j : Nat, k = (j : Int) := ⟨k.toNat, by omega⟩
  have hj : j < l.length := by omega
  have hrl : r < w.heap.size := World.block_lt_of_cell? _ _ (HX.out 0 hpos)
  have x0 : w2.cell? ⟨r, off + j, none⟩ = some (.string (bs l[j])) := by rw [ho2.cell (p := ⟨r, off + j, none⟩) hrl hrq]; exact HX.out j hj
  have hjI : (j : Int) < (l.length : Int) := by omega
  have hs : (bs l[j]).size ≤ N := by rw [bs_size]; exact HN.out _ (List.getElem_mem hj)
  generalize bs l[j] = S at *
  clear HX HN
  go_wp2_with fail
  go_ret
  exact ⟨S, p + 1, rfl, hs, Nat.le_refl _, hR2, ho2⟩
theorem str_new {w : World} {l : List (List UInt8)} (hl : l.length ≤ 1000) : StrS (w.alloc (.cells (l.map strV).toArray 9)) (.slice (some ⟨w.heap.size, 0, none⟩) l.length l.length) l :=
  ⟨_, _, rfl, by omega, fun _ => ⟨w.heap.size, 0, rfl, fun j v hj => by rw [Nat.zero_add, cell_of (heap_alloc_new w _)]; simpa using hj⟩⟩
/-- One of a list that was just made. -/
theorem of_new {q : Nat} {a : Option Addr} {L c p : Nat} {zs : List Int} {l : List (List UInt8)} {N : Nat} {w : World} (h : Rd w q a L c p zs) (hp : p ≤ 1000000) (hl : l ≠ []) (hln : l.length ≤ 1000) (hN : ∀ x ∈ l, x.length ≤ N) :
    Calls Tryd.prog 11 #[.pointer (some ⟨q, 0, none⟩), .slice (some ⟨w.heap.size, 0, none⟩) l.length l.length] (w.alloc (.cells (l.map strV).toArray 9)) fun e w' => DrPost q a L c p zs N 1 w e w' :=
  (of_d (h.below (below1 w _)) hp (str_new hln) hl hln hN (fun k hk => by simp [Value.ownBlock] at hk; have := lt_of_block h.blk; omega)).mono fun e w' ⟨s, p', h1, h2, h3, h4, h5⟩ => ⟨s, p', h1, h2, h3, h4, (Only.of (below1 w _)).trans h5⟩
def atomsL : List (List UInt8) := [[97], [98], [120, 48], [102, 49], [105], [108, 101, 116], [49, 50], [45, 51], [43], [48], [62], [118]]
theorem DrPost.more {q : Nat} {a : Option Addr} {L c p : Nat} {zs : List Int} {N M N' M' : Nat} {w w' : World} {e : Ending} (h : DrPost q a L c p zs N M w e w') (hN : N ≤ N') (hM : M ≤ M') : DrPost q a L c p zs N' M' w e w' := by
  obtain ⟨s, p', h1, h2, h3, h4, h5⟩ := h
  exact ⟨s, p', h1, by omega, by omega, h4, h5⟩
theorem pow_pos4 (d : Nat) : 1 ≤ 4 ^ d := Nat.pos_of_ne_zero (by simp)
theorem sz40 : (⟨#[40]⟩ : ByteArray).size = 1 := rfl
theorem sz41 : (⟨#[41]⟩ : ByteArray).size = 1 := rfl
theorem sz32 : (⟨#[32]⟩ : ByteArray).size = 1 := rfl
end Go.Proofs.YtldjdefbbabnnaaDoor
