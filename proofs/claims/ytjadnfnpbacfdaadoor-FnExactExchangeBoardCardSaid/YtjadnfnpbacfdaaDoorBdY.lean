/- Contracts: the library's chunks of bytes, gathered: the program's rows of a board. -/
import Derived.Test.YtjadnfnpbacfdaaDoorBdP
import Derived.RangeFuncNested
import Derived.RangeFuncBox
import Derived.RangeFuncLeaves
import Derived.Shelf.Abstract
import Derived.WalkKit
import Derived.OwnWalkIn
import Derived.TacticsInMore
import Derived.LoopNIn
import Derived.LoopIn
import Derived.Maps.AppendAt
namespace Go.Proofs.YtjadnfnpbacfdaaDoor
open Go.RowKit Go.Shelf

attribute [local go_sem] Oper.semAt_some

theorem Tryd.infoBS : (Tryd.prog.info? 117).map (fun i => (i.zero, i.size, i.bytes)) = some (some (.slice none 0 0), 1, 24) := by kernel_rfl
/-- The k-th row of a block of bytes. -/
def chV (g wd : Nat) (k : Nat) : Value := .slice (some ⟨g, k * wd, none⟩) wd wd
abbrev encCh (g wd : Nat) (k : Nat) : Array Value := #[.slice (some ⟨g, k * wd, none⟩) wd wd]

end Go.Proofs.YtjadnfnpbacfdaaDoor
namespace Go.Proofs.YtjadnfnpbacfdaaDoor
open Go.RowKit Go.Shelf

attribute [local go_sem] Oper.semAt_some

/-- The answer: rows that lie in one block. -/
def ChPost (g wd hi : Nat) (w : World) (e : Ending) (w' : World) : Prop :=
  ∃ v, e = .returned v ∧ w'.ownsRow w.heap.size 117 1 v hi ((List.range hi).map (chV g wd)) ∧ Below w.heap.size w w'

theorem own_lo {w : World} {b b' : Nat} {e : TypeId} {size n : Nat} {v : Value} {xs : List Value} (h : w.ownsRow b e size v n xs) (hle : b' ≤ b) : w.ownsRow b' e size v n xs := by
  refine ⟨h.1, ?_⟩
  rcases h.2 with h2 | ⟨g, cap, cur, e1, hb, r⟩
  · exact .inl h2
  · exact .inr ⟨g, cap, cur, e1, Nat.le_trans hle hb, r⟩

end Go.Proofs.YtjadnfnpbacfdaaDoor
