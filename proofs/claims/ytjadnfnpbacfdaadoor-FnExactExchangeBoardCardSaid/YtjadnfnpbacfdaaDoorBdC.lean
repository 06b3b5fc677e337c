/- The program turns a text into bytes of its own; with their room. -/
import Derived.Test.YtjadnfnpbacfdaaDoorMove
namespace Go.Proofs.YtjadnfnpbacfdaaDoor
open Go.RowKit
theorem to_bytes_c (s : ByteArray) (W : World) : ∃ (cap : Nat) (W2 : World), (convert 9 117 (.string s)).run Tryd.prog W = .ok (.slice (some ⟨W.heap.size, 0, none⟩) s.size cap) W2 ∧ s.size ≤ cap ∧
    (∀ j (hj : j < s.size), W2.cell? ⟨W.heap.size, j, none⟩ = some (.int .u8 s[j].toNat)) ∧ Below W.heap.size W W2 ∧ W.heap.size < W2.heap.size := by
  refine ⟨_, _, run_bytes_of_string (P := Tryd.prog) W 9 117 5 s Tryd.underlying9 Tryd.underlying117 Tryd.underlying5, grownCap_ge _ _ _ _, fun j hj => ?_, (Below.drew (Below.refl _ _)).alloc (Nat.le_refl _) _, by simp⟩
  have h := World.cell?_alloc_mark W.drew (bytesRow s (grownCap W s.size 0 5)) 5 ((bytesRow s (grownCap W s.size 0 5)).size, (bytesRow s (grownCap W s.size 0 5)).size + 1) j
  refine Eq.trans h ?_
  unfold bytesRow
  rw [Array.getElem?_append_left (by simpa using hj)]
  simp [hj]
  rfl
/-- Bytes in a block. -/
def BsAt (w : World) (g : Nat) (l : List UInt8) : Prop := ∀ j (h : j < l.length), w.cell? ⟨g, j, none⟩ = some (.int .u8 l[j].toNat)
theorem BsAt.below {w w' : World} {g : Nat} {l : List UInt8} (h : BsAt w g l) (hg : g < w.heap.size) (hb : Below w.heap.size w w') : BsAt w' g l := fun j hj => (hb.cell (p := ⟨g, j, none⟩) hg).trans (h j hj)
theorem to_bytes_l (l : List UInt8) (W : World) : ∃ (cap : Nat) (W2 : World), (convert 9 117 (.string (str l))).run Tryd.prog W = .ok (.slice (some ⟨W.heap.size, 0, none⟩) l.length cap) W2 ∧ l.length ≤ cap ∧
    BsAt W2 W.heap.size l ∧ Below W.heap.size W W2 ∧ W.heap.size < W2.heap.size := by
  obtain ⟨cap, W2, h1, h2, h3, h4, h5⟩ := to_bytes_c (str l) W
  rw [str_size] at h1 h2
  exact ⟨cap, W2, h1, h2, fun j hj => h3 j (by rw [str_size]; exact hj), h4, h5⟩
end Go.Proofs.YtjadnfnpbacfdaaDoor
