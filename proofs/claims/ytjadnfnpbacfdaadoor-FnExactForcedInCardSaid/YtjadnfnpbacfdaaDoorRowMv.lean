/- A slice of moves that came in, opened. -/
import Derived.Test.YtjadnfnpbacfdaaDoorPlay
import Derived.ProofKit
import Derived.OpenShut
namespace Go.Proofs.YtjadnfnpbacfdaaDoor
open Go.ChangeShapes Go.WideShapes Go.ChangeAt Go.RowKit Go.Deep

theorem addr_in (g o j : Nat) : (⟨g, o, none⟩ : Addr).add j = ⟨g, o + j, none⟩ := by
  unfold Addr.add
  split
  · simp_all
  · rfl

set_option maxRecDepth 100000 in
theorem row_moves_v {H : Type} (enc : TypeId × Value → H) (W : World) (base : Nat) (v : Value) (d : DataW H) (p : List MemPlace)
    (hv : Value.okWide Tryd.prog W .any base 42 v) (h : DataW.Trod enc Tryd.prog W 0 (fun _ => true) true 42 v d p) :
    ∃ (a : Option Addr) (len cap : Nat) (l : List (Int × Int)), v = .slice a len cap ∧ (len = l.length ∧ len ≤ maxLen ∧ MvIn W a l) := by
  obtain ⟨a0, len, cap, rfl⟩ := okWide_slice Tryd.underlying42 hv
  obtain ⟨fuel, hf⟩ := h
  rcases open_slice_pairs Tryd.underlying42 Tryd.underlying90 (by kernel_rfl) rfl rfl (by kernel_rfl) (by kernel_rfl) hf with ⟨hcs, _⟩ | ⟨a, len', cap', m, n, V0, V1, D0, D1, P0, P1, hcs, _, hl, hmax, hmm, _, hi⟩
  · simp [Value.cells] at hcs
    obtain ⟨rfl, rfl, rfl⟩ := hcs
    exact ⟨none, 0, 0, [], rfl, rfl, Nat.zero_le _, fun k hk => by simp at hk⟩
  · simp [Value.cells] at hcs
    obtain ⟨rfl, rfl, rfl⟩ := hcs
    have hm : len ≤ m := by rw [hmm]; simpa using hl
    have each : ∀ i, i < len → W.cell? (a.add (i * 2)) = some (.int .i64 (intOf (V0 i))) ∧ W.cell? (a.add (i * 2 + 1)) = some (.int .i64 (intOf (V1 i))) := by
      intro i hlt
      obtain ⟨c0, c1, t0, t1⟩ := hi i (by omega)
      obtain ⟨x, ex, _, _⟩ := DataW.trod_int Tryd.underlying3 t0
      obtain ⟨y, ey, _, _⟩ := DataW.trod_int Tryd.underlying3 t1
      simp at ex ey
      rw [c0, c1, ex, ey]
      exact ⟨rfl, rfl⟩
    refine ⟨some a, len, cap, (List.range len).map fun i => (intOf (V0 i), intOf (V1 i)), rfl, by simp, Nat.le_trans hl hmax, fun k hk => ?_⟩
    have hk' : k < len := by simpa using hk
    obtain ⟨g, o, spot⟩ := a
    have h0 := (each 0 (by omega)).1
    have hspot : spot = none := by simpa [Addr.add] using World.cell?_spot h0
    subst hspot
    have hg : g < W.heap.size := by
      by_cases hlt : g < W.heap.size
      · exact hlt
      · exfalso
        have := (each k hk').1
        rw [addr_in] at this
        unfold World.cell? at this
        simp [Array.getElem?_eq_none (Nat.le_of_not_lt hlt)] at this
    have e := each k hk'
    rw [addr_in, addr_in, ← Nat.add_assoc] at e
    exact ⟨g, o, rfl, hg, by simpa using e.1, by simpa using e.2⟩
end Go.Proofs.YtjadnfnpbacfdaaDoor
