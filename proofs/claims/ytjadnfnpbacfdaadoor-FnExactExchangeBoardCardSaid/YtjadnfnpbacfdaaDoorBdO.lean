/- Contract: the program's board of a text. -/
import Derived.Test.YtjadnfnpbacfdaaDoorBdR
import Derived.Test.YtjadnfnpbacfdaaDoorShelfS
import Derived.Test.YtjadnfnpbacfdaaDoorBack
import Derived.Test.YtjadnfnpbacfdaaDoorBdC
import Derived.Deep.RegionWith
import Derived.BigRegion
namespace Go.Proofs.YtjadnfnpbacfdaaDoor
open Go.RowKit

theorem index_one47 : ∀ l : List UInt8, Lib.index l [47] = Lib.indexByte l 47
  | [] => by simp [Lib.index, Lib.indexByte]
  | c :: l => by
    rw [Lib.index, Lib.indexByte, index_one47 l]
    by_cases h : c = 47
    · subst h; simp [List.isPrefixOf]
    · have hp : ([47] : List UInt8).isPrefixOf (c :: l) = false := by simp [List.isPrefixOf, Ne.symm h]
      rw [hp]
      simp [h]

/-- The program's board of some rows, with the signs in a block. -/
def bdV (R : List (List UInt8)) (g cap : Nat) : Value := .agg #[.int .i64 (R.headD []).length, .slice (some ⟨g, 0, none⟩) R.flatten.length cap]
def BoP (gb : Bool) (R : List (List UInt8)) (w : World) (e : Ending) (w' : World) : Prop :=
  (gb = true ∧ ∃ g cap, e = .returned (.tuple #[bdV R g cap, .bool true]) ∧ w.heap.size ≤ g ∧ g < w'.heap.size ∧ R.flatten.length ≤ cap ∧ BsAt w' g R.flatten ∧ Below w.heap.size w w') ∨
  (gb = false ∧ e = .returned (.tuple #[.agg #[.int .i64 0, .slice none 0 0], .bool false]) ∧ Below w.heap.size w w')
theorem cells_tx (w : World) (R : List (List UInt8)) : StAt (w.alloc (.cells (txs R).toArray 9)) (some ⟨w.heap.size, 0, none⟩) R := fun k hk => by
  refine ⟨_, rfl, by simp, ?_⟩
  rw [World.cell?_alloc_new]
  simp [txs, hk]
theorem split_below {w w' : World} {R : List (List UInt8)} (h : w' = w.alloc (.cells (txs R).toArray 9)) : Below w.heap.size w w' := by
  rw [h]; exact (Below.refl _ _).alloc (Nat.le_refl _) _
theorem split_size {w w' : World} {R : List (List UInt8)} (h : w' = w.alloc (.cells (txs R).toArray 9)) : w'.heap.size = w.heap.size + 1 := by
  rw [h]; simp
end Go.Proofs.YtjadnfnpbacfdaaDoor
