/- Lists of ints in memory: the laws' own functions on them, the model's test of all, and a slice of ints that came in. -/
import Derived.Test.YtjnidfleccbdbaaGreatMoves
import Derived.ProofKit
import Derived.OpenShut
namespace Go.Proofs.YtjnidfleccbdbaaGreat
open Go.ChangeShapes Go.WideShapes Go.ChangeAt Go.RowKit

theorem Tryz.infoN : (Tryz.prog.info? 3).map (fun i => (i.zero, i.size, i.bytes)) = some (some (.int .i64 0), 1, 8) := by kernel_rfl
/-- Ints as cells. -/
def itx (l : List Int) : List Value := l.map fun n => .int .i64 n
theorem itx_len (l : List Int) : (itx l).length = l.length := by simp [itx]
theorem itx_app (a b : List Int) : itx (a ++ b) = itx a ++ itx b := by simp [itx]
theorem itx_get (l : List Int) (k : Nat) (h : k < l.length) : (itx l)[k]? = some (.int .i64 l[k]) := by simp [itx, h]
theorem itx_set (l : List Int) (j : Nat) (x : Int) : (itx l).set j (.int .i64 x) = itx (l.set j x) := by simp [itx, List.map_set]
/-- A slice's address leads to a list of ints, wherever it begins. -/
def InAt (w : World) (A : Option Addr) (l : List Int) : Prop :=
  ∀ k (h : k < l.length), ∃ g o, A = some ⟨g, o, none⟩ ∧ g < w.heap.size ∧ w.cell? ⟨g, o + k, none⟩ = some (.int .i64 l[k])
theorem InAt.below {w w' : World} {A : Option Addr} {l : List Int} (h : InAt w A l) (hb : Below w.heap.size w w') : InAt w' A l := by
  intro k hk
  obtain ⟨g, o, a, b, c⟩ := h k hk
  exact ⟨g, o, a, Nat.lt_of_lt_of_le b hb.size, (hb.cell (p := ⟨g, o + k, none⟩) b).trans c⟩
theorem in_own {w : World} {base : Nat} {e : TypeId} {v : Value} {l : List Int} (h : w.ownsRow base e 1 v l.length (itx l)) : ∃ A cap, v = .slice A l.length cap ∧ l.length ≤ cap ∧ cap ≤ maxLen ∧ InAt w A l := by
  rcases h.2 with ⟨hv, h0⟩ | ⟨g, cap, cur, rfl, hg, hh, hn, hm, _⟩
  · have h2 : l.length = 0 := by have h3 := itx_len l; have h4 := h.1; omega
    exact ⟨none, 0, by rw [hv, h2], by omega, by simp [maxLen], fun k hk => by omega⟩
  · refine ⟨_, cap, rfl, hn, hm, fun k hk => ⟨g, 0, rfl, ?_, ?_⟩⟩
    · by_cases hlt : g < w.heap.size
      · exact hlt
      · rw [Array.getElem?_eq_none (by omega)] at hh; cases hh
    · rw [Nat.zero_add]
      exact (h.cellAt k (by omega)).trans (itx_get l k hk)
theorem iset_at (A B : List Int) (q p : Int) (j : Nat) (h : A.length = j) : (A ++ q :: B).set j p = (A ++ [p]) ++ B := by
  subst h
  simp
theorem irow_form {w : World} {base n : Nat} {e : TypeId} {v : Value} {vs : List Value} (ho : w.ownsRow base e 1 v n vs) (hn : 0 < n) : ∃ g cap, v = .slice (some ⟨g, 0, none⟩) n cap ∧ base ≤ g ∧ g < w.heap.size := by
  obtain ⟨hlen, h2 | ⟨g, cap, cur, rfl, hb, hg, hle, hm, hs, ht⟩⟩ := ho
  · omega
  · exact ⟨g, cap, rfl, hb, (Array.getElem?_eq_some_iff.1 hg).1⟩

theorem addr_at (g o j : Nat) : (⟨g, o, none⟩ : Addr).add j = ⟨g, o + j, none⟩ := by
  unfold Addr.add
  split
  · simp_all
  · rfl
/-- The marks: k, k + 1, .. -/
def imk (k n : Nat) : List Int := (List.range n).map fun (j : Nat) => ((k + j : Nat) : Int)
theorem imk_len (k n : Nat) : (imk k n).length = n := by simp [imk]
theorem imk_next (k n : Nat) : imk k (n + 1) = imk k n ++ [((k + n : Nat) : Int)] := by simp [imk, List.range_succ]
theorem imk_at (k n j : Nat) (h : j < (imk k n).length) : (imk k n)[j] = ((k + j : Nat) : Int) := by simp [imk]

end Go.Proofs.YtjnidfleccbdbaaGreat
