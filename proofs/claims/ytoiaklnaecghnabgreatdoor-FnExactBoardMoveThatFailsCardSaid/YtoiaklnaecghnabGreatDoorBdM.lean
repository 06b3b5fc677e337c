/- Contract: the numbers of a board's cells, in rows. -/
import Derived.Test.YtoiaklnaecghnabGreatDoorBdYi
namespace Go.Proofs.YtoiaklnaecghnabGreatDoor
open Go.RowKit

/-- The numbers below n. -/
def numL (n : Nat) : List Int := (List.range n).map fun i => ((i : Nat) : Int)
theorem numL_len (n : Nat) : (numL n).length = n := by simp [numL]
theorem numL_at (n j : Nat) (h : j < (numL n).length) : (numL n)[j] = (j : Int) := by simp [numL]
/-- The cells of a block, after k of them were numbered. -/
def IgAt (w : World) (g N k : Nat) : Prop := ∀ j, j < N → w.cell? ⟨g, j, none⟩ = some (.int .i64 (if j < k then (j : Int) else 0)) ∧ w.frozen? ⟨g, j, none⟩ = false
/-- Numbers of cells in rows. -/
def CiP (wd hi : Nat) (w : World) (e : Ending) (w' : World) : Prop :=
  ∃ g g' c', e = .returned (.slice (some ⟨g', 0, none⟩) hi c') ∧ w.heap.size ≤ g ∧ g < w'.heap.size ∧ w.heap.size ≤ g' ∧ g' < w'.heap.size ∧ hi ≤ c' ∧ (∀ k, k < hi → w'.cell? ⟨g', k, none⟩ = some (.slice (some ⟨g, k * wd, none⟩) wd wd)) ∧ BsAtI w' g (numL (hi * wd)) ∧ Below w.heap.size w w'

set_option maxRecDepth 100000 in
set_option maxHeartbeats 1000000 in
theorem cellsInRows_any (wd hi : Nat) (w : World) (hw1 : 1 ≤ wd) (hw5 : wd ≤ 5) (hh1 : 1 ≤ hi) (hh5 : hi ≤ 5) :
    Calls Tryz.prog 42 #[.int .i64 wd, .int .i64 hi] w (CiP wd hi w) := by
  obtain ⟨i0, hi0, hz0, hz1, hz2⟩ := info_parts Tryz.infoU8I
  have HI := Lib.hid hi0
  have HZ0 := Lib.hid hz0
  have HZ1 := Lib.hid hz1
  have HR := Lib.hid (fun g cap (hcap : hi * wd ≤ cap) wx => rowsOf_anyI g wd hi cap hw1 (by omega) (by omega) hcap wx)
  obtain ⟨N, hN⟩ : ∃ N, N = hi * wd := ⟨_, rfl⟩
  have hN25 : N ≤ 25 := by rw [hN]; have := Nat.mul_le_mul hh5 hw5; omega
  have hp : (wd : Int) * (hi : Int) = (N : Int) := by rw [hN, Nat.mul_comm]; push_cast; rfl
  have HNN := Lib.hid hN
  rw [← hN] at HR
  have hbytes : i0.bytes * N ≤ 281474976710656 := by rw [hz2]; omega
  have hmx : N ≤ maxLen := by unfold maxLen; omega
  clear hi0 hz0 hz1 hz2 hN
  go_enter Tryz.func42, Tryz.ntmps42
  go_wp2_with (at_make; refine wpList_make_full _ rfl (.tmp 9) (.tmp 9) 100 rfl w.heap.size 3 i0 (.int .i64 0) 1 Tryz.underlying100 HI.out HZ0.out HZ1.out .i64 .i64 (N : Int) (N : Int) N rfl rfl rfl rfl hbytes hmx (Nat.le_refl _) ?_; intro w1 hown hgrow)
  have hB1 : Below w.heap.size w w1 := (Below.refl _ _).grown hgrow (Nat.le_refl _) (fun k e => by cases e)
  have hO : Hid (IgAt w1 w.heap.size N 0) := Lib.hid (by
    rw [Nat.mul_one, made_one _ rfl] at hown
    by_cases h0 : 0 < N
    · obtain ⟨q, c, e1, b1, b2, b3, _, b4⟩ := own_op hown h0
      injection e1 with e1 _ _
      injection e1 with e1
      injection e1 with e1
      subst e1
      intro j hj
      rw [if_neg (by omega)]
      refine ⟨?_, hown.frozenAt j⟩
      rw [b4 j (by simpa using hj)]
      simp
    · intro j hj; omega)
  have hz1' : w.heap.size < w1.heap.size := by
    obtain ⟨q, c, e1, b1, b2, _⟩ := own_op hown (by have := HNN.out; have := Nat.mul_le_mul hh1 hw1; omega)
    injection e1 with e1 _ _
    injection e1 with e1
    injection e1 with e1
    omega
  clear hown hgrow
  go_loopw [13] (fun i wr => ∃ k : Nat, k ≤ N ∧ i = .int .i64 k ∧ Hid (IgAt wr w.heap.size N k) ∧ Below w.heap.size w wr ∧ w.heap.size < wr.heap.size) (fun i _ => N - (intOf i).toNat)
  case atStart => exact ⟨0, Nat.zero_le _, rfl, hO, hB1, hz1'⟩
  case round =>
    obtain ⟨k, hk, rfl, HK, hB, hzr⟩ := hrel
    by_cases hlt : k < N
    · obtain ⟨ck, fk⟩ := HK.out k hlt
      rw [if_neg (Nat.lt_irrefl _)] at ck
      have HB := Lib.hid hB
      have HS : Hid (∀ j, j < N → (if j < k + 1 then (j : Int) else 0) = if j = k then (k : Int) else if j < k then (j : Int) else 0) := Lib.hid fun j h => by
        by_cases e : j = k
        · subst e; rw [if_pos (Nat.lt_succ_self _), if_pos rfl]
        · rw [if_neg e]
          by_cases e2 : j < k
          · rw [if_pos (by omega), if_pos e2]
          · rw [if_neg (by omega), if_neg e2]
      clear hB
      go_wp2
      go_roundw
      case rel =>
        refine ⟨k + 1, by omega, by go_num, Lib.hid fun j hj => ?_, HB.out.setCell (Nat.le_refl _) _, by simpa using hzr⟩
        obtain ⟨cj, fj⟩ := HK.out j hj
        refine ⟨?_, by simpa using fj⟩
        rw [HS.out j hj]
        by_cases e1 : j = k
        · subst e1
          rw [if_pos rfl]
          exact World.cell?_setCell_same _ _ _ ck
        · rw [if_neg e1, World.cell?_setCell_other _ _ _ _ (by intro e; injection e with _ e; omega)]
          exact cj
      case measure => simp [intOf]; omega
    · obtain rfl : k = N := by omega
      have HB := Lib.hid hB
      have HBS : Hid (BsAtI wr w.heap.size (numL k)) := Lib.hid fun j hj => by
        have hj2 : j < k := by rw [numL_len] at hj; exact hj
        rw [(HK.out j hj2).1, if_pos hj2, numL_at k j hj]
      have HR2 := Lib.hid (HR.out w.heap.size k (Nat.le_refl _) wr)
      clear hB HR
      go_wp2_with fail
      refine HR2.out.mono ?_
      rintro e w4 ⟨v, rfl, ho, hb4⟩
      obtain ⟨g', c', rfl, r1, r2, r3, _, r4⟩ := own_op ho hh1
      go_wp2
      go_ret
      refine ⟨w.heap.size, g', c', rfl, Nat.le_refl _, Nat.lt_of_lt_of_le hzr hb4.size, by have := HB.out.size; omega, r2, r3, fun q hq => ?_, ?_, HB.out.trans (hb4.mono HB.out.size)⟩
      · rw [r4 q (by simpa using hq)]
        simp [chV]
      · rw [← HNN.out]
        exact HBS.out.below hzr hb4
end Go.Proofs.YtoiaklnaecghnabGreatDoor
