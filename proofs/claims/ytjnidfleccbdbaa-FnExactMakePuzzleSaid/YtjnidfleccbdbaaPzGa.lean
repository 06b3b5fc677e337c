/- What a law keeps of its clue's box, and of a box that an answer is put into. -/
import Derived.Test.YtjnidfleccbdbaaPzF
import Derived.Test.YtjnidfleccbdbaaPzG
namespace Go.Proofs.Ytjnidfleccbdbaa
open Go.RowKit
theorem CxP.start {x y z : Int} (w : World) : CxP w.heap.size x y z (w.alloc (Obj.cells #[.int .i64 x, .int .i64 y, .int .i64 z] 26)) :=
  ⟨by simp, by rw [cell_new' _ _ _ _ _ rfl]; rfl, by rw [cell_new' _ _ _ _ _ rfl]; rfl, by rw [cell_new' _ _ _ _ _ rfl]; rfl⟩
theorem CxP.mark {b : Nat} {row : Option Nat} {x y z : Int} {wx wy : World} (h : CxP b x y z wx) (hf : FarB row wx wy) (hne : some b ≠ row) : CxP b x y z wy :=
  ⟨Nat.lt_of_lt_of_le h.lt hf.1, by rw [far_cell hf h.lt hne]; exact h.d0, by rw [far_cell hf h.lt hne]; exact h.d1, by rw [far_cell hf h.lt hne]; exact h.d2⟩
/-- A box for a puzzle, still empty. -/
structure ZBox (b : Nat) (wx : World) : Prop where
  lt : b < wx.heap.size
  c0 : wx.cell? ⟨b, 0, none⟩ = some (.int .i64 0)
  c1 : wx.cell? ⟨b, 1, none⟩ = some (.slice none 0 0)
  f0 : wx.frozen? ⟨b, 0, none⟩ = false
  f1 : wx.frozen? ⟨b, 1, none⟩ = false
theorem ZBox.new (w : World) : ZBox w.heap.size (w.alloc (Obj.cells #[.int .i64 0, .slice none 0 0] 30)) :=
  ⟨by simp, by rw [cell_new' _ _ _ _ _ rfl]; rfl, by rw [cell_new' _ _ _ _ _ rfl]; rfl, frozen_new' _ _ _ _ _ rfl, frozen_new' _ _ _ _ _ rfl⟩
theorem ZBox.drew {b : Nat} {w : World} (h : ZBox b w) : ZBox b w.drew := ⟨h.lt, h.c0, h.c1, h.f0, h.f1⟩
theorem ZBox.step {b : Nat} {wx wy : World} (h : ZBox b wx) (hb : Below wx.heap.size wx wy) : ZBox b wy :=
  ⟨Nat.lt_of_lt_of_le h.lt hb.size, by rw [(bcell hb).1 _ _ h.lt]; exact h.c0, by rw [(bcell hb).1 _ _ h.lt]; exact h.c1, by rw [(bcell hb).2 _ _ h.lt]; exact h.f0, by rw [(bcell hb).2 _ _ h.lt]; exact h.f1⟩
theorem ZBox.fill {b : Nat} {wx : World} (h : ZBox b wx) (n : Int) (v : Value) : BoxAt b n v ((wx.setCell ⟨b, 0, none⟩ (.int .i64 n)).setCell ⟨b, 1, none⟩ v) := by
  refine ⟨by simpa using h.lt, ?_, ?_⟩
  · rw [World.cell?_setCell_other _ _ _ _ (by intro e; injection e with _ e; omega)]
    exact World.cell?_setCell_same _ _ _ h.c0
  · exact World.cell?_setCell_same _ _ _ (by rw [World.cell?_setCell_other _ _ _ _ (by intro e; injection e with _ e; omega)]; exact h.c1)
/-- A list of clues in blocks of its own, not the box's. -/
def RowN (wx : World) (base b : Nat) (A : Option Addr) (c : Nat) (L : List Cl) : Prop :=
  wx.ownsRow base 34 3 (.slice A L.length c) L.length (flat3 L) ∧ ∀ j, (Value.slice A L.length c).ownBlock = some j → j ≠ b ∧ base ≤ j ∧ j < wx.heap.size
theorem RowN.fill {wx : World} {base lo b c : Nat} {A : Option Addr} {L : List Cl} (h : wx.ownsRow base 34 3 (.slice A L.length c) L.length (flat3 L)) (hb : b < base) (hlo : lo ≤ base) (n : Int) (v : Value) :
    RowN ((wx.setCell ⟨b, 0, none⟩ (.int .i64 n)).setCell ⟨b, 1, none⟩ v) lo b A c L := by
  have hne : (Value.slice A L.length c).ownBlock ≠ some b := fun e => by have := (h.lt b e).1; omega
  exact ⟨own_setC (own_setC (own_lowerC h hlo) _ _ _ hne) _ _ _ hne, fun j hj => ⟨fun e => hne (by rw [← e]; exact hj), Nat.le_trans hlo (h.lt j hj).1, by simpa using (h.lt j hj).2⟩⟩
theorem RowN.last {wx : World} {base lo c : Nat} {A : Option Addr} {L : List Cl} (h : wx.ownsRow base 34 3 (.slice A L.length c) L.length (flat3 L)) (hlo : lo ≤ base) (o : Obj) :
    RowN (wx.alloc o) lo wx.heap.size A c L :=
  ⟨(own_lowerC h hlo).alloc _, fun j hj => ⟨fun e => by have := (h.lt j hj).2; omega, Nat.le_trans hlo (h.lt j hj).1, by have := (h.lt j hj).2; simp; omega⟩⟩
theorem RowN.step {wx wy : World} {base b c : Nat} {A : Option Addr} {L : List Cl} (h : RowN wx base b A c L) (hb : Below wx.heap.size wx wy) : RowN wy base b A c L :=
  ⟨own_below h.1 hb, fun j hj => ⟨(h.2 j hj).1, (h.2 j hj).2.1, Nat.lt_of_lt_of_le (h.2 j hj).2.2 hb.size⟩⟩
theorem RowN.mark {wx wy : World} {base b c : Nat} {row : Option Nat} {A : Option Addr} {L : List Cl} (h : RowN wx base b A c L) (hf : FarB row wx wy) (hne : ∀ j, (Value.slice A L.length c).ownBlock = some j → some j ≠ row) : RowN wy base b A c L :=
  ⟨own_farB h.1 hf hne, fun j hj => ⟨(h.2 j hj).1, (h.2 j hj).2.1, Nat.lt_of_lt_of_le (h.2 j hj).2.2 hf.1⟩⟩
end Go.Proofs.Ytjnidfleccbdbaa
