/- Contracts: plays, and the laws' copies of lists of moves. -/
import Derived.Test.YtjadnfnpbacfdaaDoorMarks
import Derived.Deep.SlicePairs
namespace Go.Proofs.YtjadnfnpbacfdaaDoor
open Go.RowKit

/-- A slice's address leads to a list of moves, wherever it begins. -/
def MvIn (w : World) (A : Option Addr) (l : List (Int × Int)) : Prop :=
  ∀ k (h : k < l.length), ∃ g o, A = some ⟨g, o, none⟩ ∧ g < w.heap.size ∧ w.cell? ⟨g, o + k * 2, none⟩ = some (.int .i64 l[k].1) ∧ w.cell? ⟨g, o + k * 2 + 1, none⟩ = some (.int .i64 l[k].2)
theorem MvIn.below {w w' : World} {A : Option Addr} {l : List (Int × Int)} (h : MvIn w A l) (hb : Below w.heap.size w w') : MvIn w' A l := by
  intro k hk
  obtain ⟨g, o, a, b, c, d⟩ := h k hk
  exact ⟨g, o, a, Nat.lt_of_lt_of_le b hb.size, (hb.cell (p := ⟨g, o + k * 2, none⟩) b).trans c, (hb.cell (p := ⟨g, o + k * 2 + 1, none⟩) b).trans d⟩

theorem made_two (n : Nat) : (madeCells (Value.agg #[.int .i64 0, .int .i64 0]).cells (n * 2)).toList = flat (List.replicate n ((0 : Int), (0 : Int))) := by
  have hz : (Value.agg #[.int .i64 0, .int .i64 0]).cells = #[.int .i64 0, .int .i64 0] := rfl
  rw [hz]
  apply List.ext_getElem?
  intro i
  by_cases hi : i < n * 2
  · have f : (flat (List.replicate n ((0 : Int), (0 : Int))))[i]? = some (.int .i64 0) := by
      have h := flat_at (List.replicate n ((0 : Int), (0 : Int))) (i / 2) (by simp; omega)
      rw [List.getElem_replicate] at h
      rcases Nat.mod_two_eq_zero_or_one i with h0 | h0
      · rw [show i = i / 2 * 2 by omega]; exact h.1
      · rw [show i = i / 2 * 2 + 1 by omega]; exact h.2
    rw [f]
    simp [madeCells, hi]
    rcases Nat.mod_two_eq_zero_or_one i with h0 | h0 <;> simp [h0]
  · have l1 : (madeCells #[Value.int .i64 0, .int .i64 0] (n * 2)).toList.length ≤ i := by simp [madeCells]; omega
    have l2 : (flat (List.replicate n ((0 : Int), (0 : Int)))).length ≤ i := by rw [flat_len]; simp; omega
    rw [List.getElem?_eq_none l1, List.getElem?_eq_none l2]

set_option maxRecDepth 100000 in
set_option maxHeartbeats 2000000 in
theorem toMoveS_any (l : List (Int × Int)) (A : Option Addr) (c : Nat) (w : World) (hin : MvIn w A l) (hl : l.length ≤ 2000000) :
    Calls Tryd.prog 38 #[.slice A l.length c] w fun e w' => e = .returned (.slice (some ⟨w.heap.size, 0, none⟩) l.length l.length) ∧ (w'.ownsRow w.heap.size 64 2 (.slice (some ⟨w.heap.size, 0, none⟩) l.length l.length) l.length (flat l) ∧ Below w.heap.size w w') := by
  obtain ⟨i0, hi, hz0, hz1, hz2⟩ := info_parts Tryd.infoM
  have hbytes : i0.bytes * l.length ≤ 281474976710656 := by rw [hz2]; omega
  have hmx : l.length ≤ maxLen := by unfold maxLen; omega
  have HI := Lib.hid hi
  have HZ0 := Lib.hid hz0
  have HZ1 := Lib.hid hz1
  have HN := Lib.hid hin
  clear hi hz0 hz1 hz2 hin
  go_enter Tryd.func38, Tryd.ntmps38
  go_wp2_with (at_make; refine wpList_make_full _ rfl (.tmp 6) (.tmp 6) 22 rfl w.heap.size 64 i0 (.agg #[.int .i64 0, .int .i64 0]) 2 Tryd.underlying22 HI.out HZ0.out HZ1.out .i64 .i64 l.length l.length l.length rfl rfl rfl rfl hbytes hmx (Nat.le_refl _) ?_; intro w1 hown hgrow)
  have hB0 : Below w.heap.size w w1 := (Below.refl _ _).grown hgrow (Nat.le_refl _) (by simp)
  rw [made_two] at hown
  have hz : w.heap.size < w1.heap.size := (hown.lt w.heap.size rfl).2
  have HO := Lib.hid hown
  clear hown hgrow HI HZ0 HZ1 hbytes
  go_loopw [4] (fun i wr => ∃ j : Nat, j ≤ l.length ∧ i = .int .i64 j ∧ wr.ownsRow w.heap.size 64 2 (.slice (some ⟨w.heap.size, 0, none⟩) l.length l.length) l.length (flat (l.take j ++ List.replicate (l.length - j) ((0 : Int), (0 : Int)))) ∧ Below w.heap.size w wr) (fun i _ => l.length - (intOf i).toNat)
  case atStart => exact ⟨0, Nat.zero_le _, rfl, by simpa using HO.out, hB0⟩
  case round =>
    obtain ⟨j, hj, rfl, hown, hB⟩ := hrel
    clear hB0 HO
    by_cases hlt : j < l.length
    · obtain ⟨g, o, rfl, hg, c0, c1⟩ := (HN.out.below hB) j hlt
      have hT : Hid (l.take (j + 1) ++ List.replicate (l.length - (j + 1)) ((0 : Int), (0 : Int)) = (l.take j ++ List.replicate (l.length - j) ((0 : Int), (0 : Int))).set j (l[j].1, l[j].2)) := by
        show _ = _
        obtain ⟨m, hm⟩ : ∃ m, l.length - j = m + 1 := ⟨l.length - j - 1, by omega⟩
        rw [hm, show l.length - (j + 1) = m by omega, List.replicate_succ, set_mid _ _ _ _ j (by rw [List.length_take]; omega), List.take_succ_eq_append_getElem hlt]
      generalize l[j].1 = a at c0 hT
      generalize l[j].2 = b at c1 hT
      have hlen : (l.take j ++ List.replicate (l.length - j) ((0 : Int), (0 : Int))).length = l.length := by simp; omega
      have i1 : (0 : Int) ≤ (j : Int) := by omega
      have i2 : (j : Int) < (l.length : Int) := by omega
      go_wp2_with fail
      refine (toMove_any a b _).mono ?_
      rintro e w2 ⟨rfl, hb2⟩
      have hown2 := own_below hown hb2
      have hB2 := hB.trans (hb2.mono hB.size)
      clear hown hB hb2 c0 c1
      have f0 := hown2.frozenAt (j * 2)
      have f1 := hown2.frozenAt (j * 2 + 1)
      have e0 := (hown2.cellAt (j * 2) (by omega)).trans (flat_at _ j (by omega)).1
      have e1 := (hown2.cellAt (j * 2 + 1) (by omega)).trans (flat_at _ j (by omega)).2
      generalize (l.take j ++ List.replicate (l.length - j) ((0 : Int), (0 : Int)))[j].1 = x0 at e0
      generalize (l.take j ++ List.replicate (l.length - j) ((0 : Int), (0 : Int)))[j].2 = x1 at e1
      have hs1 := (hown2.stored (j * 2) (.int .i64 a)).1
      have hs2 := (hs1.stored (j * 2 + 1) (.int .i64 b)).1
      rw [flat_set _ j (by omega), ← hT.out] at hs2
      have HS := Lib.hid hs2
      clear hown2 hs1 hs2
      go_wp2
      go_roundw
      case rel => exact ⟨j + 1, by omega, by go_num, HS.out, (hB2.setCell (Nat.le_refl _) _).setCell (Nat.le_refl _) _⟩
      case measure => simp [intOf]; omega
    · obtain rfl : j = l.length := by omega
      rw [List.take_length, Nat.sub_self, List.replicate_zero, List.append_nil] at hown
      have HS := Lib.hid hown
      clear hown
      go_wp2
      go_ret
      exact ⟨rfl, HS.out, hB⟩

set_option maxHeartbeats 400000 in
theorem szMoveS_any (A : Option Addr) (n c : Nat) (w : World) (hn : n ≤ maxLen) :
    Calls Tryd.prog 36 #[.slice A n c, .int .i64 1048576] w fun e w' => e = .returned (.int .i64 (if 1048576 < n then -1 else 1048576 - (n : Int))) ∧ w = w' := by
  unfold maxLen at hn
  by_cases h : 1048576 < n
  · rw [if_pos h]
    have : (1048576 : Int) - n < 0 := by omega
    go_enter Tryd.func36, Tryd.ntmps36
    go_wp2
    go_ret
    exact ⟨rfl, rfl⟩
  · rw [if_neg h]
    have : ¬ (1048576 : Int) - n < 0 := by omega
    go_enter Tryd.func36, Tryd.ntmps36
    go_wp2
    go_ret
    exact ⟨rfl, rfl⟩
end Go.Proofs.YtjadnfnpbacfdaaDoor
