/- What the laws on puzzles keep of their boxes and lists. -/
import Derived.Test.YtjnidfleccbdbaaPzE
namespace Go.Proofs.Ytjnidfleccbdbaa
open Go.RowKit

/-- A puzzle in a box. -/
structure BoxAt (b : Nat) (n : Int) (v : Value) (wx : World) : Prop where
  lt : b < wx.heap.size
  c0 : wx.cell? ⟨b, 0, none⟩ = some (.int .i64 n)
  c1 : wx.cell? ⟨b, 1, none⟩ = some v
theorem BoxAt.start (w : World) (n : Int) (v : Value) : BoxAt w.heap.size n v (w.alloc (Obj.cells #[.int .i64 n, v] 30)) :=
  ⟨by simp, by rw [cell_new' _ _ _ _ _ rfl]; rfl, by rw [cell_new' _ _ _ _ _ rfl]; rfl⟩
theorem BoxAt.step {b : Nat} {n : Int} {v : Value} {wx wy : World} (h : BoxAt b n v wx) (hb : Below wx.heap.size wx wy) : BoxAt b n v wy :=
  ⟨Nat.lt_of_lt_of_le h.lt hb.size, by rw [(bcell hb).1 _ _ h.lt]; exact h.c0, by rw [(bcell hb).1 _ _ h.lt]; exact h.c1⟩
theorem far_cell {row : Option Nat} {wx wy : World} (hf : FarB row wx wy) {b o : Nat} (hb : b < wx.heap.size) (hne : some b ≠ row) : wy.cell? ⟨b, o, none⟩ = wx.cell? ⟨b, o, none⟩ := by
  have e := hf.2 b hne hb
  unfold World.cell?
  simp only [e]
theorem BoxAt.mark {b : Nat} {row : Option Nat} {n : Int} {v : Value} {wx wy : World} (h : BoxAt b n v wx) (hf : FarB row wx wy) (hne : some b ≠ row) : BoxAt b n v wy :=
  ⟨Nat.lt_of_lt_of_le h.lt hf.1, by rw [far_cell hf h.lt hne]; exact h.c0, by rw [far_cell hf h.lt hne]; exact h.c1⟩
theorem ClIn.far {row : Option Nat} {w wx wy : World} {A : Option Addr} {l : List Cl} (h : ClIn wx A l) (hs : ClIn w A l) (hf : FarB row wx wy) (hne : ∀ g, g < w.heap.size → some g ≠ row) : ClIn wy A l := by
  intro k hk
  obtain ⟨g, o, e, hg, c0, c1, c2⟩ := h k hk
  obtain ⟨g', o', e', hg', _⟩ := hs k hk
  rw [e] at e'
  injection e' with e'
  injection e' with e1 e2
  subst e1
  have h1 := hne g hg'
  exact ⟨g, o, e, Nat.lt_of_lt_of_le hg hf.1, by rw [far_cell hf hg h1]; exact c0, by rw [far_cell hf hg h1]; exact c1, by rw [far_cell hf hg h1]; exact c2⟩
theorem LawP.mark {w wx wy : World} {n : Int} {A : Option Addr} {c base : Nat} {l : List Cl} {row : Option Nat} (h : LawP w n A c l wx) (hb : Below base wx wy) (hbase : w.heap.size ≤ base) (hf : FarB row wx wy) (hne : ∀ g, g ≤ w.heap.size → some g ≠ row) : LawP w n A c l wy :=
  have z := lt_of_cell0 h.c0
  ⟨h.bel.trans (hb.mono hbase), by rw [far_cell hf z (hne _ (Nat.le_refl _))]; exact h.c0, by rw [far_cell hf z (hne _ (Nat.le_refl _))]; exact h.c1, h.inn.far h.src hf fun g hg => hne g (Nat.le_of_lt hg), h.src⟩
theorem goodP_few {n : Int} {l : List Cl} (h : goodP n l = true) : l.length ≤ 6 := by
  unfold goodP at h
  simp only [Bool.and_eq_true, decide_eq_true_eq] at h
  exact h.1.2
/-- The answer, its slice written out. -/
def PzAnsL (w : World) (b : Bool) (N : Int) (L : List Cl) (e : Ending) (w' : World) : Prop :=
  ∃ A c, e = .returned (.tuple #[.agg #[.int .i64 N, .slice A L.length c], .bool b]) ∧ w'.ownsRow w.heap.size 34 3 (.slice A L.length c) L.length (flat3 L) ∧ Below w.heap.size w w'
theorem PzAns.slice {w w' : World} {b : Bool} {n : Int} {L : List Cl} {e : Ending} (h : PzAns w b n L e w') : PzAnsL w b (if b then n else 0) (if b then L else []) e w' := by
  obtain ⟨v, e1, o1, hb⟩ := h
  obtain ⟨A, c, e2, _⟩ := cl_own o1
  subst e2
  exact ⟨A, c, e1, o1, hb⟩
theorem own_inA {w : World} {base n c : Nat} {A : Option Addr} {l : List Cl} (h : w.ownsRow base 34 3 (.slice A n c) l.length (flat3 l)) : ClIn w A l := by
  obtain ⟨A', cap, e, hin, _⟩ := cl_own h
  injection e with e
  rw [e]
  exact hin
end Go.Proofs.Ytjnidfleccbdbaa
