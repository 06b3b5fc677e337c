/- What the laws on puzzles keep of lists of texts and of ints. -/
import Derived.Test.YtjnidfleccbdbaaGreatPzG
import Derived.Test.YtjnidfleccbdbaaGreatPzQ
import Derived.Test.YtjnidfleccbdbaaGreatList
import Derived.Test.YtjnidfleccbdbaaGreatIntS
namespace Go.Proofs.YtjnidfleccbdbaaGreat
open Go.RowKit

theorem Below.blockB {b : Nat} {w w' : World} (h : Below b w w') {k o : Nat} (hk : k < b) : w'.cell? ⟨k, o, none⟩ = w.cell? ⟨k, o, none⟩ := by
  have e := h.block k hk
  unfold World.cell?
  simp only [e]
theorem LawP.stepB {w wx wy : World} {n : Int} {A : Option Addr} {c base : Nat} {l : List Cl} (h : LawP w n A c l wx) (hb : Below base wx wy) (hlt : w.heap.size < base) : LawP w n A c l wy := by
  refine ⟨h.bel.trans (hb.mono (Nat.le_of_lt hlt)), (Below.blockB hb hlt).trans h.c0, (Below.blockB hb hlt).trans h.c1, fun k hk => ?_, h.src⟩
  obtain ⟨g, o, e, hg, c0, c1, c2⟩ := h.inn k hk
  obtain ⟨g', o', e', hg', _⟩ := h.src k hk
  rw [e] at e'
  injection e' with e'
  injection e' with e1 e2
  subst e1
  have h1 : g < base := by omega
  exact ⟨g, o, e, Nat.lt_of_lt_of_le hg hb.size, (Below.blockB hb h1).trans c0, (Below.blockB hb h1).trans c1, (Below.blockB hb h1).trans c2⟩
theorem StAt.farP {row : Option Nat} {w w' : World} {A : Option Addr} {l : List (List UInt8)} (h : StAt w A l) (hf : FarB row w w') (hne : ∀ a, A = some a → some a.block ≠ row) : StAt w' A l := by
  intro k hk
  obtain ⟨g, a, b, c⟩ := h k hk
  exact ⟨g, a, Nat.lt_of_lt_of_le b hf.1, (far_cell hf b (hne _ a)).trans c⟩
theorem InAt.farP {row : Option Nat} {w w' : World} {A : Option Addr} {l : List Int} (h : InAt w A l) (hf : FarB row w w') (hne : ∀ a, A = some a → some a.block ≠ row) : InAt w' A l := by
  intro k hk
  obtain ⟨g, o, a, b, c⟩ := h k hk
  exact ⟨g, o, a, Nat.lt_of_lt_of_le b hf.1, (far_cell hf b (hne _ a)).trans c⟩
theorem StAt.belowB {b : Nat} {w w' : World} {A : Option Addr} {l : List (List UInt8)} (h : StAt w A l) (hb : Below b w w') (hlt : ∀ a, A = some a → a.block < b) : StAt w' A l := by
  intro k hk
  obtain ⟨g, a, z, c⟩ := h k hk
  exact ⟨g, a, Nat.lt_of_lt_of_le z hb.size, (Below.blockB hb (hlt _ a)).trans c⟩
theorem InAt.belowB {b : Nat} {w w' : World} {A : Option Addr} {l : List Int} (h : InAt w A l) (hb : Below b w w') (hlt : ∀ a, A = some a → a.block < b) : InAt w' A l := by
  intro k hk
  obtain ⟨g, o, a, z, c⟩ := h k hk
  exact ⟨g, o, a, Nat.lt_of_lt_of_le z hb.size, (Below.blockB hb (hlt _ a)).trans c⟩
theorem st_own_at {w : World} {base n c : Nat} {A : Option Addr} {l : List (List UInt8)} (h : w.ownsRow base 9 1 (.slice A n c) l.length (txs l)) : StAt w A l := by
  obtain ⟨A', cap, e, _, _, hin, _⟩ := st_own h
  injection e with e
  rw [e]
  exact hin
theorem in_own_at {w : World} {base n c : Nat} {A : Option Addr} {l : List Int} (h : w.ownsRow base 3 1 (.slice A n c) l.length (itx l)) : InAt w A l := by
  obtain ⟨A', cap, e, _, _, hin⟩ := in_own h
  injection e with e
  rw [e]
  exact hin
/-- A list of ints of one's own, and whether there is one. -/
def ItxB (w : World) (b : Bool) (L : List Int) (e : Ending) (w' : World) : Prop := ∃ v, e = .returned (.tuple #[v, .bool b]) ∧ w'.ownsRow w.heap.size 3 1 v L.length (itx L) ∧ Below w.heap.size w w'
end Go.Proofs.YtjnidfleccbdbaaGreat
