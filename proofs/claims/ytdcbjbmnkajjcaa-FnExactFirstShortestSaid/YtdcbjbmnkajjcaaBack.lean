/- A line told backwards: the library's reversal of bytes, and the program's 'backwards'. -/
import Derived.Test.YtdcbjbmnkajjcaaMove
namespace Go.Proofs.Ytdcbjbmnkajjcaa
open Go.RowKit

/-- What stands in cell j after i exchanges from both ends. -/
def revAt (l : List UInt8) (i j : Nat) : UInt8 := if j < i ∨ l.length < j + 1 + i then l.getD (l.length - 1 - j) 0 else l.getD j 0
theorem revAt_zero (l : List UInt8) (j : Nat) (h : j < l.length) : revAt l 0 j = l[j] := by
  unfold revAt
  rw [if_neg (by omega)]
  simp [List.getD_eq_getElem?_getD, h]
theorem revAt_end (l : List UInt8) (i j : Nat) (h : j < l.length) (hi : l.length ≤ i + i + 1) : revAt l i j = l.reverse.getD j 0 := by
  have e : l.reverse.getD j 0 = l.getD (l.length - 1 - j) 0 := by
    rw [List.getD_eq_getElem?_getD, List.getD_eq_getElem?_getD, List.getElem?_reverse h]
  rw [e]
  unfold revAt
  split
  · rfl
  · have : l.length - 1 - j = j := by omega
    rw [this]
theorem revAt_next (l : List UInt8) (i k j : Nat) (hik : i + k + 1 = l.length) (hlt : i < k) (h : j < l.length) :
    revAt l (i + 1) j = if j = k then revAt l i i else if j = i then revAt l i k else revAt l i j := by
  unfold revAt
  by_cases e1 : j = k
  · subst e1
    rw [if_pos rfl, if_pos (by omega), if_neg (by omega)]
    congr 1; omega
  · rw [if_neg e1]
    by_cases e2 : j = i
    · subst e2
      rw [if_pos rfl, if_pos (by omega), if_neg (by omega)]
      congr 1; omega
    · rw [if_neg e2]
      by_cases e3 : j < i ∨ l.length < j + 1 + i
      · rw [if_pos e3, if_pos (by omega)]
      · rw [if_neg e3, if_neg (by omega)]
/-- The cells of a block, after i exchanges. -/
def RvAt (w : World) (g : Nat) (l : List UInt8) (i : Nat) : Prop := ∀ j, j < l.length → w.cell? ⟨g, j, none⟩ = some (.int .u8 (revAt l i j).toNat) ∧ w.frozen? ⟨g, j, none⟩ = false

set_option maxRecDepth 100000 in
set_option maxHeartbeats 1000000 in
theorem reverse_any (l : List UInt8) (g n cap : Nat) (w : World) (h1 : 1 ≤ l.length) (h2 : l.length ≤ 1000) (hn : n ≤ g) (hc : RvAt w g l 0) :
    Calls Try.prog 41 #[.slice (some ⟨g, 0, none⟩) l.length cap] w fun e w' => e = .returned (.tuple #[]) ∧ (∀ j, j < l.length → w'.cell? ⟨g, j, none⟩ = some (.int .u8 (l.reverse.getD j 0).toNat)) ∧ Below n w w' := by
  have HC := Lib.hid hc
  clear hc
  go_enter Try.func41, Try.ntmps41
  go_wp2
  go_loopw [2, 3] (fun a b wr => ∃ i k : Nat, i + k + 1 = l.length ∧ i ≤ k + 1 ∧ a = .int .i64 i ∧ b = .int .i64 k ∧ Hid (RvAt wr g l i) ∧ Below n w wr) (fun _ b _ => (intOf b).toNat)
  case atStart =>
    refine ⟨0, l.length - 1, by omega, by omega, rfl, by go_num, HC, Below.refl _ _⟩
  case round =>
    obtain ⟨i, k, hik, hle, rfl, rfl, HR, hB⟩ := hrel
    by_cases hlt : i < k
    · obtain ⟨ci, fi⟩ := HR.out i (by omega)
      obtain ⟨ck, fk⟩ := HR.out k (by omega)
      have HN := Lib.hid (fun j (hj : j < l.length) => revAt_next l i k j hik hlt hj)
      generalize hx : revAt l i i = x at ci
      generalize hy : revAt l i k = y at ck
      have HX := Lib.hid hx
      have HY := Lib.hid hy
      have HB := Lib.hid hB
      clear hB hx hy
      go_wp2
      go_region
      go_wp2
      go_roundw
      case rel =>
        refine ⟨i + 1, k - 1, by omega, by omega, by go_num, by go_num, Lib.hid fun j hj => ?_, ((HB.out.setCell hn _).setCell hn _).drew⟩
        obtain ⟨cj, fj⟩ := HR.out j hj
        refine ⟨?_, ?_⟩
        · show ((wr.setCell ⟨g, i, none⟩ (.int .u8 y.toNat)).setCell ⟨g, k, none⟩ (.int .u8 x.toNat)).cell? ⟨g, j, none⟩ = _
          rw [HN.out j hj]
          by_cases e1 : j = k
          · subst e1
            rw [if_pos rfl, HX.out]
            exact World.cell?_setCell_same _ _ _ (by rw [World.cell?_setCell_other _ _ _ _ (by intro e; injection e with _ e; omega)]; exact ck)
          · rw [if_neg e1, World.cell?_setCell_other _ _ _ _ (by intro e; injection e with _ e; omega)]
            by_cases e2 : j = i
            · subst e2
              rw [if_pos rfl, HY.out]
              exact World.cell?_setCell_same _ _ _ ci
            · rw [if_neg e2, World.cell?_setCell_other _ _ _ _ (by intro e; injection e with _ e; omega)]
              exact cj
        · simpa using fj
      case measure => simp [intOf]; omega
    · have HB := Lib.hid hB
      clear hB
      go_wp2
      go_end0
      exact ⟨rfl, fun j hj => by rw [(HR.out j hj).1, revAt_end l i j hj (by omega)], HB.out⟩

set_option maxRecDepth 100000 in
set_option maxHeartbeats 1000000 in
theorem backwards_any (l : List UInt8) (w : World) (h1 : 1 ≤ l.length) (h2 : l.length ≤ 1000) :
    Calls Try.prog 21 #[.string (str l)] w fun e w' => e = .returned (.string (str l.reverse)) ∧ Below w.heap.size w w' := by
  obtain ⟨cap, W2, hconv, hcs, hB2, hz2⟩ := to_bytes (str l) w
  have hr0 : RvAt W2 w.heap.size l 0 := fun j hj => by
    rw [revAt_zero l j hj]
    exact hcs j (by rw [str_size]; exact hj)
  have HREV := Lib.hid (reverse_any l w.heap.size w.heap.size cap W2 h1 h2 (Nat.le_refl _) hr0)
  have HB2 := Lib.hid hB2
  rw [str_size] at hconv
  clear hcs hr0 hB2
  go_enter Try.func21, Try.ntmps21
  go_wp2_with fail
  refine HREV.out.mono ?_
  rintro e w3 ⟨rfl, hc3, hb3⟩
  have hback := run_convert_bytes_back (P := Try.prog) w3 69 9 5 ⟨w.heap.size, 0, none⟩ cap l.reverse Try.underlying69 Try.underlying5 Try.underlying9 (by
    intro j hj
    rw [List.length_reverse] at hj
    rw [addr_add]
    have := hc3 j hj
    rw [List.getD_eq_getElem?_getD, List.getElem?_eq_getElem (by rw [List.length_reverse]; exact hj)] at this
    exact this)
  rw [List.length_reverse] at hback
  have HB := Lib.hid (HB2.out.trans hb3)
  clear hc3 hb3
  go_wp2
  go_ret
  exact ⟨rfl, HB.out⟩
end Go.Proofs.Ytdcbjbmnkajjcaa
