/- Contracts: a clue dropped: the model's and the program's. -/
import Derived.Test.YtjnidfleccbdbaaPzD
import Derived.Test.YtjnidfleccbdbaaPzCl
namespace Go.Proofs.Ytjnidfleccbdbaa
open Go.RowKit

/-- A puzzle or none. -/
def PzAns (w : World) (c : Bool) (n : Int) (l : List Cl) (e : Ending) (w' : World) : Prop :=
  ∃ v, e = .returned (.tuple #[.agg #[.int .i64 (if c then n else 0), v], .bool c]) ∧ w'.ownsRow w.heap.size 34 3 v (if c then l else []).length (flat3 (if c then l else [])) ∧ Below w.heap.size w w'
theorem results_pzc {fn : Func} {k j : Nat} (hr : fn.results = #[.cell k 30, .tmp j]) (tmps : Array Value) (w : World) (g : Nat) (x y : Value) (hp : tmps.getD k undef = .pointer (some ⟨g, 0, none⟩)) (c0 : w.cell? ⟨g, 0, none⟩ = some x) (c1 : w.cell? ⟨g, 1, none⟩ = some y) :
    (results fn tmps).run Try.prog w = .ok (.tuple #[.agg #[x, y], tmps.getD j undef]) w := by
  unfold results
  rw [hr]
  simp at hp
  simp [hp, asAddr, c0, c1, go_sem]
/-- A puzzle in its box, and a result's box. -/
structure BxP (w : World) (r : Nat) (n : Int) (v : Value) (wx : World) : Prop where
  bel : Below w.heap.size w wx
  old : w.heap.size ≤ r
  lt : r < wx.heap.size
  c0 : wx.cell? ⟨w.heap.size, 0, none⟩ = some (.int .i64 n)
  c1 : wx.cell? ⟨w.heap.size, 1, none⟩ = some v
  r0 : wx.cell? ⟨r, 0, none⟩ = some (.int .i64 0)
  r1 : wx.cell? ⟨r, 1, none⟩ = some (.slice none 0 0)
  fr : ∀ o, wx.frozen? ⟨r, o, none⟩ = false
theorem BxP.step {w wx wy : World} {r : Nat} {n : Int} {v : Value} (h : BxP w r n v wx) (hb : Below wx.heap.size wx wy) : BxP w r n v wy := by
  have z := lt_of_cell0 h.c0
  exact ⟨h.bel.trans (hb.mono h.bel.size), h.old, Nat.lt_of_lt_of_le h.lt hb.size, by rw [(bcell hb).1 _ _ z]; exact h.c0, by rw [(bcell hb).1 _ _ z]; exact h.c1, by rw [(bcell hb).1 _ _ h.lt]; exact h.r0, by rw [(bcell hb).1 _ _ h.lt]; exact h.r1, fun o => by rw [(bcell hb).2 _ _ h.lt]; exact h.fr o⟩
theorem BxP.drew {w wx : World} {r : Nat} {n : Int} {v : Value} (h : BxP w r n v wx) : BxP w r n v wx.drew := ⟨Below.drew h.bel, h.old, h.lt, h.c0, h.c1, h.r0, h.r1, h.fr⟩
theorem BxP.start (w : World) (n : Int) (v : Value) : BxP w (w.heap.size + 1) n v ((w.alloc (Obj.cells #[.int .i64 n, v] 30)).alloc (Obj.cells #[.int .i64 0, .slice none 0 0] 30)) := by
  refine ⟨((Below.refl _ _).alloc (Nat.le_refl _) _).alloc (by simp) _, by omega, by simp, ?_, ?_, ?_, ?_, ?_⟩
  · rw [World.cell?_alloc_past _ _ _ (by simp), cell_new' _ _ _ _ _ rfl]; rfl
  · rw [World.cell?_alloc_past _ _ _ (by simp), cell_new' _ _ _ _ _ rfl]; rfl
  · rw [cell_new' _ _ _ _ _ (by simp)]; rfl
  · rw [cell_new' _ _ _ _ _ (by simp)]; rfl
  · intro o; exact frozen_new' _ _ _ _ _ (by simp)
theorem BxP.ends {w wx : World} {r : Nat} {n : Int} {v u x : Value} {b m : Nat} {xs : List Value} (h : BxP w r n v wx) (ho : wx.ownsRow b 34 3 u m xs) (hb : w.heap.size ≤ b) (hne : u.ownBlock ≠ some r) :
    ((wx.setCell ⟨r, 0, none⟩ x).setCell ⟨r, 1, none⟩ u).cell? ⟨r, 0, none⟩ = some x ∧ ((wx.setCell ⟨r, 0, none⟩ x).setCell ⟨r, 1, none⟩ u).cell? ⟨r, 1, none⟩ = some u ∧ ((wx.setCell ⟨r, 0, none⟩ x).setCell ⟨r, 1, none⟩ u).ownsRow w.heap.size 34 3 u m xs ∧ Below w.heap.size w ((wx.setCell ⟨r, 0, none⟩ x).setCell ⟨r, 1, none⟩ u) := by
  refine ⟨?_, ?_, own_setC (own_setC (own_lowerC ho hb) _ _ _ hne) _ _ _ hne, (h.bel.setCell h.old _).setCell h.old _⟩
  · rw [World.cell?_setCell_other _ _ _ _ (by intro e; injection e with _ e; omega)]
    exact World.cell?_setCell_same _ _ _ h.r0
  · exact World.cell?_setCell_same _ _ _ (by rw [World.cell?_setCell_other _ _ _ _ (by intro e; injection e with _ e; omega)]; exact h.r1)
theorem own_newer {w : World} {b r : Nat} {e : TypeId} {size n : Nat} {v : Value} {xs : List Value} (h : w.ownsRow b e size v n xs) (hr : r < b) : v.ownBlock ≠ some r := fun e1 => by
  have := (h.lt r e1).1
  omega

end Go.Proofs.Ytjnidfleccbdbaa
