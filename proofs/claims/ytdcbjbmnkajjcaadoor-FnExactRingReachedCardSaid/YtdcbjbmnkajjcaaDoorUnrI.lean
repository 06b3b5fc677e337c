/- Contracts: the line with a rank, the program's. -/
import Derived.Test.YtdcbjbmnkajjcaaDoorMany
import Derived.Test.YtdcbjbmnkajjcaaDoorMoves
namespace Go.Proofs.YtdcbjbmnkajjcaaDoor
open Go.RowKit

def rowB (l : List UInt8) (m : Nat) : List Value := u8s l ++ List.replicate m (.int .u8 0)
theorem rowB_at (l : List UInt8) (m k : Nat) (h : l.length = k) (hm : 0 < m) : (rowB l m)[k]? = some (.int .u8 0) := by
  unfold rowB
  rw [List.getElem?_append_right (by rw [u8s_len]; omega), u8s_len, h, Nat.sub_self]
  simp [hm]
theorem rowB_set (l : List UInt8) (m k : Nat) (c : UInt8) (h : l.length = k) (hm : 0 < m) : (rowB l m).set k (.int .u8 c.toNat) = rowB (l ++ [c]) (m - 1) := by
  unfold rowB
  obtain ⟨j, rfl⟩ : ∃ j, m = j + 1 := ⟨m - 1, by omega⟩
  rw [List.set_append_right _ _ (by rw [u8s_len]; omega), u8s_len, h, Nat.sub_self, List.replicate_succ]
  simp [u8s]

/-- The state of the reckoning: what is left, in one block; the signs so far, in another. -/
structure St (w wr : World) (bl bs n : Nat) (g f t : Int) (cells : List Value) : Prop where
  left : LeftAt wr bl g f t
  own : wr.ownsRow bs 5 1 (.slice (some ⟨bs, 0, none⟩) n n) n cells
  bel : Below w.heap.size w wr
  h1 : bl < bs
  h2 : w.heap.size ≤ bl
theorem St.below {w wr w' : World} {bl bs n : Nat} {g f t : Int} {cells : List Value} (h : St w wr bl bs n g f t cells) (hb : Below wr.heap.size wr w') : St w w' bl bs n g f t cells :=
  ⟨h.left.below hb, own_below h.own hb, h.bel.trans (hb.mono h.bel.size), h.h1, h.h2⟩
theorem St.sign {w wr : World} {bl bs n : Nat} {g f t : Int} {cells : List Value} (h : St w wr bl bs n g f t cells) (k : Nat) (v : Value) : St w (wr.setCell ⟨bs, k, none⟩ v) bl bs n g f t (cells.set k v) := by
  obtain ⟨hz, c0, c1, c2, f0, f1, f2⟩ := h.left
  have ne : ∀ j, (⟨bl, j, none⟩ : Addr) ≠ ⟨bs, k, none⟩ := fun j e => by injection e with e _; have := h.h1; omega
  have far : ∀ j, (wr.setCell ⟨bs, k, none⟩ v).cell? ⟨bl, j, none⟩ = wr.cell? ⟨bl, j, none⟩ := fun j => World.cell?_setCell_other _ _ _ _ (by first | exact ne j | exact (ne j).symm)
  exact ⟨⟨by simpa using hz, (far 0).trans c0, (far 1).trans c1, (far 2).trans c2, by simpa using f0, by simpa using f1, by simpa using f2⟩, (h.own.stored k v).1, h.bel.setCell (by have := h.h1; have := h.h2; show _ ≤ bs; omega) _, h.h1, h.h2⟩
theorem own_far {w : World} {base b j : Nat} {e : TypeId} {size n : Nat} {v u : Value} {xs : List Value} (h : w.ownsRow base e size v n xs) (hb : b < base) : (w.setCell ⟨b, j, none⟩ u).ownsRow base e size v n xs :=
  ownsRow_setCell_below h hb u
theorem St.lefts {w wr : World} {bl bs n : Nat} {g f t : Int} {cells : List Value} (h : St w wr bl bs n g f t cells) (g' f' t' : Int) :
    St w (((wr.setCell ⟨bl, 0, none⟩ (.int .i64 g')).setCell ⟨bl, 1, none⟩ (.int .i64 f')).setCell ⟨bl, 2, none⟩ (.int .i64 t')) bl bs n g' f' t' cells := by
  obtain ⟨hz, c0, c1, c2, f0, f1, f2⟩ := h.left
  exact ⟨left_set hz c0 c1 c2 f0 f1 f2 _ _ _, own_far (own_far (own_far h.own h.h1) h.h1) h.h1, ((h.bel.setCell h.h2 _).setCell h.h2 _).setCell h.h2 _, h.h1, h.h2⟩

end Go.Proofs.YtdcbjbmnkajjcaaDoor
