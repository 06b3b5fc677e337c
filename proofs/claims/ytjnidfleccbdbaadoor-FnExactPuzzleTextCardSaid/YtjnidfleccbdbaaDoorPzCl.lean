/- The law's walk: what a puzzle is. -/
import Derived.Test.YtjnidfleccbdbaaDoorPzC
namespace Go.Proofs.YtjnidfleccbdbaaDoor
open Go.RowKit

theorem own_in {w : World} {base g n c : Nat} {l : List Cl} (h : w.ownsRow base 61 3 (.slice (some ⟨g, 0, none⟩) n c) l.length (flat3 l)) : ClIn w (some ⟨g, 0, none⟩) l := by
  obtain ⟨A, cap, e, hin, _⟩ := cl_own h
  injection e with e
  rw [e]
  exact hin
/-- What a law knows of its puzzle. -/
structure LawP (w : World) (n : Int) (A : Option Addr) (c : Nat) (l : List Cl) (wx : World) : Prop where
  bel : Below w.heap.size w wx
  c0 : wx.cell? ⟨w.heap.size, 0, none⟩ = some (.int .i64 n)
  c1 : wx.cell? ⟨w.heap.size, 1, none⟩ = some (.slice A l.length c)
  inn : ClIn wx A l
  src : ClIn w A l
theorem LawP.start {w : World} {n : Int} {A : Option Addr} {c : Nat} {l : List Cl} (T : TypeId) (h : ClIn w A l) : LawP w n A c l (w.alloc (Obj.cells #[.int .i64 n, .slice A l.length c] T)) :=
  ⟨(Below.refl _ _).alloc (Nat.le_refl _) _, by rw [cell_new' _ _ _ _ _ rfl]; rfl, by rw [cell_new' _ _ _ _ _ rfl]; rfl, h.below ((Below.refl _ _).alloc (Nat.le_refl _) _), h⟩
theorem lt_of_cell0 {W : World} {b : Nat} {v : Value} (h : W.cell? ⟨b, 0, none⟩ = some v) : b < W.heap.size := by
  by_cases hlt : b < W.heap.size
  · exact hlt
  · exfalso
    unfold World.cell? at h
    simp [Array.getElem?_eq_none (Nat.le_of_not_lt hlt)] at h
theorem LawP.step {w wx wy : World} {n : Int} {A : Option Addr} {c : Nat} {l : List Cl} (h : LawP w n A c l wx) (hb : Below wx.heap.size wx wy) : LawP w n A c l wy :=
  ⟨h.bel.trans (hb.mono h.bel.size), by rw [(bcell hb).1 _ _ (lt_of_cell0 h.c0)]; exact h.c0, by rw [(bcell hb).1 _ _ (lt_of_cell0 h.c0)]; exact h.c1, h.inn.below hb, h.src⟩

end Go.Proofs.YtjnidfleccbdbaaDoor
