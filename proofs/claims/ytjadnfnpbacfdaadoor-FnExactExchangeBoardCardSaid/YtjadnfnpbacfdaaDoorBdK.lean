/- Contract: the program's columns of rows of bytes. -/
import Derived.Test.YtjadnfnpbacfdaaDoorBdZ
import Derived.Deep.AppendLies
namespace Go.Proofs.YtjadnfnpbacfdaaDoor
open Go.RowKit

theorem Tryd.infoU8 : (Tryd.prog.info? 5).map (fun i => (i.zero, i.size, i.bytes)) = some (some (.int .u8 0), 1, 1) := by kernel_rfl
theorem cell_one_a8 (w : World) (n : Nat) (hn : n = w.heap.size) (a : Value) (t : TypeId) : ∀ j u, [a][j]? = some u → (w.alloc (.cells #[a] t)).cell? ((⟨n, 0, none⟩ : Addr).add j) = some u := by
  subst hn
  exact cell_one_new w a t
/-- Bytes as values. -/
def bv (l : List UInt8) : List Value := l.map fun c => .int .u8 c.toNat
theorem bv_len (l : List UInt8) : (bv l).length = l.length := by simp [bv]
/-- A column, from above. -/
def colC (F : List UInt8) (wd hi x : Nat) : List UInt8 := (List.range hi).map fun y => F.getD (y * wd + x) 0
theorem colC_len (F : List UInt8) (wd hi x : Nat) : (colC F wd hi x).length = hi := by simp [colC]
theorem colC_at (F : List UInt8) (wd hi x y : Nat) (h : y < hi) : (colC F wd hi x).take (y + 1) = (colC F wd hi x).take y ++ [F.getD (y * wd + x) 0] := by
  rw [List.take_succ_eq_append_getElem (by rw [colC_len]; exact h)]
  simp [colC]
/-- Within a column: y bytes of it are there. -/
structure ColI (wo wr : World) (gC x wd H : Nat) (v : Value) (l : List UInt8) : Prop where
  cell : wr.cell? ⟨gC, x, none⟩ = some v
  row : wr.ownsRow H 5 1 v l.length (bv l)
  keep : ∀ g, g < H → g ≠ gC → wr.heap[g]? = wo.heap[g]?
  cols : ∀ j, j ≠ x → wr.cell? ⟨gC, j, none⟩ = wo.cell? ⟨gC, j, none⟩
  froz : ∀ j, j < wd → wr.frozen? ⟨gC, j, none⟩ = false
  size : H ≤ wr.heap.size
/-- Between two columns: x of them are there. -/
structure ColO (wr : World) (gC wd hi x : Nat) (C : Nat → List UInt8) : Prop where
  done : ∀ j, j < x → ∃ g c, wr.cell? ⟨gC, j, none⟩ = some (.slice (some ⟨g, 0, none⟩) hi c) ∧ hi ≤ c ∧ gC < g ∧ g < wr.heap.size ∧ BsAt wr g (C j)
  rest : ∀ j, x ≤ j → j < wd → wr.cell? ⟨gC, j, none⟩ = some (.slice none 0 0)
  froz : ∀ j, j < wd → wr.frozen? ⟨gC, j, none⟩ = false
  lt : gC < wr.heap.size
theorem cell_of_blk {w w' : World} {g o : Nat} (h : w'.heap[g]? = w.heap[g]?) : w'.cell? ⟨g, o, none⟩ = w.cell? ⟨g, o, none⟩ := World.cell?_of_block (a := ⟨g, o, none⟩) h
theorem frz_of_blk {w w' : World} {g o : Nat} (h : w'.heap[g]? = w.heap[g]?) : w'.frozen? ⟨g, o, none⟩ = w.frozen? ⟨g, o, none⟩ := by
  unfold World.frozen?
  rw [h]
/-- A row of one's own behind a store into another block. -/
theorem own_set {w : World} {base n : Nat} {e : TypeId} {v : Value} {xs : List Value} (ho : w.ownsRow base e 1 v n xs) (a : Addr) (u : Value) (hne : v.ownBlock ≠ some a.block) : (w.setCell a u).ownsRow base e 1 v n xs := by
  refine ⟨ho.1, ?_⟩
  rcases ho.2 with h0 | ⟨g, cap, cur, rfl, hg, hh, rest⟩
  · exact .inl h0
  · exact .inr ⟨g, cap, cur, rfl, hg, by rw [Below.heap_setCell _ _ _ g (fun e => hne (by show some g = _; rw [e]))]; exact hh, rest⟩
theorem ColO.start {wo : World} {gC wd hi x : Nat} {C : Nat → List UInt8} (h : ColO wo gC wd hi x C) (hx : x < wd) : ColI wo wo gC x wd wo.heap.size (.slice none 0 0) [] :=
  ⟨h.rest x (Nat.le_refl _) hx, World.ownsRow_nil _ _ _ _, fun _ _ _ => rfl, fun _ _ => rfl, h.froz, Nat.le_refl _⟩
theorem ColO.next {wo wr : World} {gC wd hi x : Nat} {C : Nat → List UInt8} (h : ColO wo gC wd hi x C) (hx : x < wd) (hh : 1 ≤ hi) {v : Value} (hl : (C x).length = hi) (hI : ColI wo wr gC x wd wo.heap.size v (C x)) : ColO wr gC wd hi (x + 1) C := by
  refine ⟨fun j hj => ?_, fun j h1 h2 => ?_, hI.froz, Nat.lt_of_lt_of_le h.lt hI.size⟩
  · by_cases e : j = x
    · subst e
      obtain ⟨g, c, e1, h1, h2, h3, _, h4⟩ := own_op hI.row (by omega)
      refine ⟨g, c, by rw [hI.cell, e1, hl], by omega, by have := h.lt; omega, h2, fun i hi => ?_⟩
      rw [h4 i (by rw [bv_len]; exact hi)]
      simp [bv]
    · obtain ⟨g, c, e1, h1, h2, h3, h4⟩ := h.done j (by omega)
      refine ⟨g, c, by rw [hI.cols j e]; exact e1, h1, h2, Nat.lt_of_lt_of_le h3 hI.size, fun i hi => ?_⟩
      rw [cell_of_blk (hI.keep g h3 (by omega))]
      exact h4 i hi
  · rw [hI.cols j (by omega)]
    exact h.rest j (by omega) h2
/-- One byte more. -/
theorem ColI.push {wo wr X : World} {gC x wd H : Nat} {v : Value} {l : List UInt8} (h : ColI wo wr gC x wd H v l) (hg : gC < H) (c : UInt8) {w' : World} {g' cap' : Nat} (hX : ∀ g, g < wr.heap.size → X.heap[g]? = wr.heap[g]?) (hXs : wr.heap.size ≤ X.heap.size)
    (hgr : X.grownBy w' v.ownBlock) (hrow : w'.ownsRow H 5 1 (.slice (some ⟨g', 0, none⟩) (l.length + 1) cap') (l.length + 1) (bv l ++ [.int .u8 c.toNat])) (hat : gC < g') :
    ColI wo (w'.setCell ⟨gC, x, none⟩ (.slice (some ⟨g', 0, none⟩) (l.length + 1) cap')) gC x wd H (.slice (some ⟨g', 0, none⟩) (l.length + 1) cap') (l ++ [c]) := by
  have hz := h.size
  have hne : ∀ g, g < H → some g ≠ v.ownBlock := fun g hg e => by have := (h.row.lt g e.symm).1; omega
  have hblk : ∀ g, g < H → w'.heap[g]? = wr.heap[g]? := fun g hg => (hgr.block g (by omega) (hne g hg)).trans (hX g (by omega))
  refine ⟨?_, ?_, fun g h1 h2 => ?_, fun j hj => ?_, fun j hj => ?_, ?_⟩
  · exact World.cell?_setCell_same _ _ _ ((cell_of_blk (hblk gC hg)).trans h.cell)
  · have e : bv (l ++ [c]) = bv l ++ [.int .u8 c.toNat] := by simp [bv]
    rw [e, List.length_append]
    exact own_set hrow _ _ (fun e => by injection e with e; simp at e; omega)
  · rw [Below.heap_setCell _ _ _ g (by exact h2), hblk g h1]
    exact h.keep g h1 h2
  · rw [World.cell?_setCell_other _ _ _ _ (by intro e; injection e with _ e; exact hj e.symm), cell_of_blk (hblk gC hg)]
    exact h.cols j hj
  · have e : (w'.setCell ⟨gC, x, none⟩ (.slice (some ⟨g', 0, none⟩) (l.length + 1) cap')).frozen? ⟨gC, j, none⟩ = w'.frozen? ⟨gC, j, none⟩ := by simp
    rw [e, frz_of_blk (hblk gC hg)]
    exact h.froz j hj
  · have := hgr.size
    simp
    omega

/-- The answer: columns in memory of the call's own. -/
def CoP (wd hi : Nat) (C : Nat → List UInt8) (w : World) (e : Ending) (w' : World) : Prop :=
  ∃ gC cC, e = .returned (.slice (some ⟨gC, 0, none⟩) wd cC) ∧ w.heap.size ≤ gC ∧ wd ≤ cC ∧ ColO w' gC wd hi wd C ∧ Below w.heap.size w w'

end Go.Proofs.YtjadnfnpbacfdaaDoor
