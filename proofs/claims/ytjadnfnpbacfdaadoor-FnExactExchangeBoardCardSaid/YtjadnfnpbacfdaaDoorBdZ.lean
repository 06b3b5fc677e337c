/- RowOfBoard: both sides' contracts. -/
import Derived.Test.YtjadnfnpbacfdaaDoorBdY
import Derived.Test.YtjadnfnpbacfdaaDoorBdX
namespace Go.Proofs.YtjadnfnpbacfdaaDoor
open Go.RowKit

/-- A row of a board, if it is there. -/
def rowAsk (l : List UInt8) (k : Int) : Bool := goodB l && decide (0 ≤ k) && decide (k < (spl l).length)
def rowAt (l : List UInt8) (k : Int) : List UInt8 := (spl l).getD k.toNat []
theorem rowAsk_iff (l : List UInt8) (k : Int) : rowAsk l k = true ↔ goodB l = true ∧ 0 ≤ k ∧ k < (spl l).length := by
  unfold rowAsk
  rw [Bool.and_eq_true, Bool.and_eq_true, decide_eq_true_iff, decide_eq_true_iff, and_assoc]

/-- The bytes of a row, out of a block. -/
theorem row_bytes {R : List (List UInt8)} {wd : Nat} (h : ∀ r ∈ R, r.length = wd) {w : World} {g : Nat} (hb : BsAt w g R.flatten) (q : Nat) (hq : q < R.length) :
    ∀ j (hj : j < R[q].length), w.cell? ⟨g, q * wd + j, none⟩ = some (.int .u8 R[q][j].toNat) := by
  intro j hj
  have hl := h _ (List.getElem_mem hq)
  have hfl := flat_eq R wd h
  have hlt : q * wd + j < R.flatten.length := by
    rw [hfl]
    have : (q + 1) * wd ≤ R.length * wd := Nat.mul_le_mul_right wd hq
    rw [Nat.add_mul] at this
    omega
  have e := hb (q * wd + j) hlt
  have h2 := flat_get R wd q j h hq (by omega)
  rw [List.getD_eq_getElem?_getD, List.getElem?_eq_getElem hlt, List.getD_eq_getElem?_getD, List.getD_eq_getElem?_getD, List.getElem?_eq_getElem hq] at h2
  simp only [Option.getD_some] at h2
  rw [List.getElem?_eq_getElem hj] at h2
  simp only [Option.getD_some] at h2
  rw [e, h2]

theorem own_op {w : World} {base n : Nat} {e : TypeId} {v : Value} {vs : List Value} (ho : w.ownsRow base e 1 v n vs) (hn : 0 < n) : ∃ g cap, v = .slice (some ⟨g, 0, none⟩) n cap ∧ base ≤ g ∧ g < w.heap.size ∧ n ≤ cap ∧ cap ≤ maxLen ∧ ∀ k (h : k < vs.length), w.cell? ⟨g, k, none⟩ = some vs[k] := by
  obtain ⟨hlen, h2 | ⟨g, cap, cur, rfl, hb, hg, hle, hm, hs, ht⟩⟩ := ho
  · omega
  · have ho : w.ownsRow base e 1 (.slice (some ⟨g, 0, none⟩) n cap) n vs := ⟨hlen, .inr ⟨g, cap, cur, rfl, hb, hg, hle, hm, hs, ht⟩⟩
    refine ⟨g, cap, rfl, hb, (Array.getElem?_eq_some_iff.1 hg).1, hle, hm, fun k hk => ?_⟩
    have := ho.cells (g := g) rfl k vs[k] (by simp)
    rw [addr_o, Nat.zero_add] at this
    exact this
/-- The rows of the program's board: slices of its bytes. -/
def RwP (g wd hi : Nat) (w : World) (e : Ending) (w' : World) : Prop :=
  ∃ g' c', e = .returned (.slice (some ⟨g', 0, none⟩) hi c') ∧ w.heap.size ≤ g' ∧ g' < w'.heap.size ∧ hi ≤ c' ∧ (∀ k, k < hi → w'.cell? ⟨g', k, none⟩ = some (.slice (some ⟨g, k * wd, none⟩) wd wd)) ∧ Below w.heap.size w w'
end Go.Proofs.YtjadnfnpbacfdaaDoor
