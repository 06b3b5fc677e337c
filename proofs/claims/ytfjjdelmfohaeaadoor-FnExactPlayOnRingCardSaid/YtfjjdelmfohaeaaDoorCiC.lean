/- Contracts: the least ring. -/
import Derived.Test.YtfjjdelmfohaeaaDoorCiB
import Derived.Test.YtfjjdelmfohaeaaDoorSl
import Derived.Lib.MinMaxS
namespace Go.Proofs.YtfjjdelmfohaeaaDoor
open Go.RowKit

theorem iter_pos {w : World} {q p : Nat} {s : ByteArray} (h : w.heap[q]? = some (.stringIter s p)) : w.iterPos q = p := by
  unfold World.iterPos; rw [h]
theorem blk_lt {w : World} {q : Nat} {o : Obj} (h : w.heap[q]? = some o) : q < w.heap.size := (Array.getElem?_eq_some_iff.1 h).1
theorem good_as {s : ByteArray} (hg : goodL s = true) (k : Nat) (hk : k < s.size) : s[k].toNat < 128 := by
  rcases sign_cases s[k] with h | h | h | h
  · rw [h]; decide
  · rw [h]; decide
  · rw [h]; decide
  · rw [good_sign hg k hk] at h; cases h
theorem turnV_at {s : ByteArray} (hr : ringB s = true) (k : Nat) (hk : k < s.size) : turnV s k = .tuple #[.string (str (turnL (byt s) k)), .bool true] := by
  unfold turnV
  rw [hr, show inR (k : Int) 0 (s.size - 1) = true by simp [inR]; omega]
  rfl
theorem minS_str (a b : List UInt8) : Lib.minS (str a) (str b) = str (if b < a then b else a) := by
  unfold Lib.minS
  have ha : (str a).data.toList = a := rfl
  have hb : (str b).data.toList = b := rfl
  rw [ha, hb]
  by_cases h : b < a
  · rw [if_pos h, if_neg]
    rintro (h2 | h2)
    · exact absurd h2 (List.lt_asymm h)
    · rw [h2] at h; exact absurd h (List.lt_irrefl b)
  · rw [if_neg h, if_pos]
    rcases Decidable.em (a < b) with h2 | h2
    · exact .inl h2
    · exact .inr (List.le_antisymm h h2)
  
set_option maxHeartbeats 1000000 in
theorem ciLeast_any (s : ByteArray) (w : World) (hg : goodL s = true) :
    Calls Tryd.prog 84 #[.string s] w fun e w' => e = .returned (.string (str (leastL (byt s)))) ∧ Below w.heap.size w w' := by
  have HASC := Lib.hid (good_as hg)
  obtain ⟨_, _, _⟩ := (goodL_iff s).1 hg
  have HL : Hid ((byt s).length = s.size) := Lib.hid (byt_len s)
  have HE : Hid (s = str (byt s)) := Lib.hid (str_byt s).symm
  clear hg
  go_enter Tryd.func84, Tryd.ntmps84
  go_wp2
  go_loopw [3, 4, 5] (fun v _ _ wr => ∃ k : Nat, k ≤ s.size ∧ wr.heap[w.heap.size]? = some (.stringIter s k) ∧ v = .string (str (leastTo (byt s) k)) ∧ Below w.heap.size w wr) (fun _ _ _ wr => s.size - wr.iterPos w.heap.size)
  case atStart => exact ⟨0, Nat.zero_le _, World.iter_heap w s 0, by rw [HE.out.symm.symm]; exact congrArg _ HE.out, (Below.refl _ _).alloc (Nat.le_refl _) _⟩
  case round =>
    obtain ⟨k, hk, hit, rfl, hB⟩ := hrel
    have hpos0 := iter_pos hit
    by_cases hlt : k < s.size
    · have hasc := HASC.out k hlt
      have hnx : ∀ ty, (Instr.next (.pointer (some ⟨w.heap.size, 0, none⟩)) true ty).run Tryd.prog wr = _ := fun ty => Lib.run_next_ascii_at wr w.heap.size s k ty hit hlt hasc
      have hit2 := Lib.iterAt_heap wr w.heap.size s k (k + 1) hit
      have hB2 := Lib.below_iterAt hB (k := w.heap.size) (by omega) s (k + 1)
      obtain ⟨W1, hW1⟩ : ∃ W1, W1 = wr.iterAt w.heap.size s (k + 1) := ⟨_, rfl⟩
      rw [← hW1] at hnx hit2 hB2
      clear hW1 hit hB hasc
      have HIT := Lib.hid hit2
      have hl1 := blk_lt hit2
      clear hit2
      have HS : Hid (leastTo (byt s) (k + 1) = if turnL (byt s) k < leastTo (byt s) k then turnL (byt s) k else leastTo (byt s) k) := Lib.hid rfl
      have HLS := Lib.hid (less_str (turnL (byt s) k) (leastTo (byt s) k))
      go_wp2_with fail
      refine (ciTurn_any s k _ (by omega) (by omega)).mono ?_
      rintro e w2 ⟨rfl, hb2⟩
      rw [turnB_str]
      have hit3 : w2.heap[w.heap.size]? = some (.stringIter s (k + 1)) := (hb2.block w.heap.size hl1).trans HIT.out
      have hB3 := hB2.trans (hb2.mono hB2.size)
      have HIT3 := Lib.hid hit3
      clear hB2 hb2 hit3 hnx
      generalize turnL (byt s) k = x at HS HLS
      generalize leastTo (byt s) k = y at HS HLS
      by_cases hxy : x < y
      · have hbb : Op.bytesLess (str x).toList (str y).toList = true := by rw [HLS.out]; simpa using hxy
        have HX := Lib.hid hxy
        clear hxy
        go_wp2
        go_roundw
        case rel => exact ⟨k + 1, by omega, HIT3.out, by rw [HS.out, if_pos HX.out], hB3⟩
        case measure => rw [iter_pos HIT3.out, hpos0]; omega
      · have hbb : Op.bytesLess (str x).toList (str y).toList = false := by rw [HLS.out]; simpa using hxy
        have HX := Lib.hid hxy
        clear hxy
        go_wp2
        go_roundw
        case rel => exact ⟨k + 1, by omega, HIT3.out, by rw [HS.out, if_neg HX.out], hB3⟩
        case measure => rw [iter_pos HIT3.out, hpos0]; omega
    · have hnx : ∀ ty, (Instr.next (.pointer (some ⟨w.heap.size, 0, none⟩)) true ty).run Tryd.prog wr = _ := fun ty => Lib.run_next_end_at wr w.heap.size s k ty hit hlt
      go_wp2
      go_ret
      obtain rfl : k = s.size := by omega
      exact ⟨by unfold leastL; rw [HL.out]; rfl, hB⟩

set_option maxHeartbeats 1000000 in
theorem leastRing_any (s : ByteArray) (w : World) (hs : s.size ≤ maxLen) :
    Calls Tryd.prog 89 #[.string s] w fun e w' => e = .returned (strOr (ringB s) (leastL (byt s))) ∧ Below w.heap.size w w' := by
  cases hc : ringB s
  · have hC := Lib.hid hc
    clear hc
    go_enter Tryd.func89, Tryd.ntmps89
    go_wp2_with (go_at_call 47; refine (isRing_any _ _ hs).mono ?_; rintro e w' ⟨rfl, rfl⟩; rw [hC.out])
    go_ret2
    exact ⟨rfl, Below.refl _ _⟩
  · have hC := Lib.hid hc
    obtain ⟨_, _⟩ := ring_sz hc
    have HT := Lib.hid (fun k hk => turnV_at hc k hk)
    have HL : Hid ((byt s).length = s.size) := Lib.hid (byt_len s)
    have HE : Hid (s = str (byt s)) := Lib.hid (str_byt s).symm
    have hmin := @Lib.run_min_strs Tryd.prog
    clear hc
    go_enter Tryd.func89, Tryd.ntmps89
    go_wp2_with (go_at_call 47; refine (isRing_any _ _ hs).mono ?_; rintro e w' ⟨rfl, rfl⟩; rw [hC.out])
    go_loopw [4, 5, 6, 7, 14] (fun v _ _ _ i wr => ∃ k : Nat, k ≤ s.size ∧ i = .int .i64 k ∧ v = .string (str (leastTo (byt s) k)) ∧ Below w.heap.size w wr) (fun _ _ _ _ i _ => s.size - (intOf i).toNat)
    case atStart => exact ⟨0, Nat.zero_le _, rfl, congrArg _ HE.out, Below.refl _ _⟩
    case round =>
      obtain ⟨k, hk, rfl, rfl, hB⟩ := hrel
      by_cases hlt : k < s.size
      · have HS : Hid (leastTo (byt s) (k + 1) = if turnL (byt s) k < leastTo (byt s) k then turnL (byt s) k else leastTo (byt s) k) := Lib.hid rfl
        go_wp2_with fail
        refine (turn_any s k _ hs).mono ?_
        rintro e w2 ⟨rfl, hb2⟩
        rw [HT.out k hlt]
        have hB3 := hB.trans (hb2.mono hB.size)
        clear hB hb2
        have HM := Lib.hid (minS_str (leastTo (byt s) k) (turnL (byt s) k))
        generalize turnL (byt s) k = x at HS HM
        generalize leastTo (byt s) k = y at HS HM
        go_wp2
        go_roundw
        case rel => exact ⟨k + 1, by omega, by go_num, by rw [HM.out, HS.out], hB3⟩
        case measure => simp [intOf]; omega
      · go_wp2
        go_ret2
        obtain rfl : k = s.size := by omega
        exact ⟨by show Ending.returned (.tuple #[.string _, .bool true]) = .returned (.tuple #[.string (str (leastL (byt s))), .bool true]); unfold leastL; rw [HL.out], hB⟩

end Go.Proofs.YtfjjdelmfohaeaaDoor
