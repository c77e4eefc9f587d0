/- The reference model: the head of an expression; l2Parse by cases. The reference model: the names bound in a part; counting. -/
import Derived.Test.YtibiennbjegomaaDoorSpec2c
import Derived.Test.YtibiennbjegomaaDoorB3
import Derived.Test.YtibiennbjegomaaDoorS1z
namespace Go.Proofs.YtibiennbjegomaaDoor
open Go.RowKit
set_option maxRecDepth 8000
set_option linter.unusedSimpArgs false
set_option linter.unusedVariables false
theorem l2Parse_none {s : ByteArray} (hs : s.size ≤ 1048576) (hp : parseE s.data.toList = none) (W : World) : Calls Tryd.prog 16 #[.string s] W fun e w' => (∃ a p n c, e = .returned (.tuple #[.agg #[.string a, .slice p n c], .bool false]) ∧ n ≤ maxLen) ∧ Below W.heap.size W w' :=
  (l2Parse_c s hs W).mono fun e w' ⟨h1, h2⟩ => ⟨by rw [hp] at h1; exact h1, h2⟩
theorem l2Parse_some {s : ByteArray} (hs : s.size ≤ 1048576) {t : Tr} (hp : parseE s.data.toList = some t) (W : World) : Calls Tryd.prog 16 #[.string s] W fun e w' => (∃ p n c, e = .returned (.tuple #[.agg #[.string (bs (atomOf t)), .slice p n c], .bool true]) ∧ FV nS w' (fun k => W.heap.size ≤ k ∧ k < w'.heap.size) t (nS t (.slice p n c))) ∧ Below W.heap.size W w' :=
  (l2Parse_c s hs W).mono fun e w' ⟨h1, h2⟩ => ⟨by rw [hp] at h1; exact h1, h2⟩
/-- The head of the expression that is a text. -/
def headE (l : List UInt8) : List UInt8 := match parseE l with | none => [] | some t => headT t
theorem headE_none {l : List UInt8} (h : parseE l = none) : headE l = [] := by simp [headE, h]
theorem headE_some {l : List UInt8} {t : Tr} (h : parseE l = some t) : headE l = headT t := by simp [headE, h]
theorem asEx_wfl {ts : List Tr} (h : (Tr.list ts).wf) : ∃ a b, ts = a :: b := by
  cases ts with
  | nil => simp [Tr.wf] at h
  | cons a b => exact ⟨a, b, rfl⟩
end Go.Proofs.YtibiennbjegomaaDoor
namespace Go.Proofs.YtibiennbjegomaaDoor
open Go.RowKit
set_option linter.unusedSimpArgs false
set_option linter.unusedVariables false
theorem strS_made {w : World} {b : Nat} {l : List (List UInt8)} {t : TypeId} (h : w.heap[b]? = some (.cells (l.map strV).toArray t (0, 0))) (c : Nat) (hl : l.length ≤ 1000000) : StrS w (.slice (some ⟨b, 0, none⟩) l.length c) l :=
  ⟨_, c, rfl, by omega, fun _ => ⟨b, 0, rfl, fun j v hj => by rw [Nat.zero_add, cell_of h]; simpa using hj⟩⟩
theorem made_fresh (w : World) {n c : Nat} : ∀ k, (Value.slice (some ⟨w.heap.size + 1, 0, none⟩) n c).ownBlock = some k → w.heap.size < k := fun k hk => by simp [Value.ownBlock] at hk; omega
theorem kids_bound {h : Tr} {ps : List Tr} {x : Ex} {a : Nat} (V : KidView h ps x a) {j : Nat} (hj : j < (kidsE x).length) : a + j < (h :: ps).length := by
  have := V.len
  simp only [List.length_cons]; omega
end Go.Proofs.YtibiennbjegomaaDoor
