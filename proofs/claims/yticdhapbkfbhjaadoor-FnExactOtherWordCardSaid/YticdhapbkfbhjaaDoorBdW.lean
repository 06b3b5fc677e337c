/- Contract: the program's text with toads and frogs exchanged. -/
import Derived.Test.YticdhapbkfbhjaaDoorBdA
import Derived.Test.YticdhapbkfbhjaaDoorMoveB
namespace Go.Proofs.YticdhapbkfbhjaaDoor
open Go.RowKit

theorem oSg_any (c : UInt8) (w : World) :
    Calls Tryd.prog 25 #[.int .u8 c.toNat] w fun e w' => e = .returned (.int .u8 (oSg c).toNat) ∧ w = w' := by
  by_cases h1 : c = 84
  · subst h1
    go_enter Tryd.func25, Tryd.ntmps25
    go_wp2
    go_ret
    exact ⟨rfl, rfl⟩
  · by_cases h2 : c = 70
    · subst h2
      go_enter Tryd.func25, Tryd.ntmps25
      go_wp2
      go_ret
      exact ⟨rfl, rfl⟩
    · have e : oSg c = c := by simp [oSg, h1, h2]
      have d1 : ((c.toNat : Int) == 84) = false := bne_u8 (a := c) (b := 84) h1
      have d2 : ((c.toNat : Int) == 70) = false := bne_u8 (a := c) (b := 70) h2
      rw [e]
      clear h1 h2 e
      go_enter Tryd.func25, Tryd.ntmps25
      go_wp2
      go_ret
      exact ⟨rfl, rfl⟩
/-- The cells of a block, after k of them were turned. -/
def OgAt (w : World) (g : Nat) (s : ByteArray) (k : Nat) : Prop := ∀ j (h : j < s.size), w.cell? ⟨g, j, none⟩ = some (.int .u8 (if j < k then oSg s[j] else s[j]).toNat) ∧ w.frozen? ⟨g, j, none⟩ = false

set_option maxRecDepth 100000 in
set_option maxHeartbeats 1000000 in
theorem withOther_any (l : List UInt8) (w : World) (hl : l.length ≤ 1000) :
    Calls Tryd.prog 16 #[.string (str l)] w fun e w' => e = .returned (.string (str (l.map oSg))) ∧ Below w.heap.size w w' := by
  have hs : (str l).size ≤ 1000 := by rw [str_size]; exact hl
  have hM : Hid (∀ j (h : j < (str l).size), (l.map oSg)[j]? = some (oSg (str l)[j])) := Lib.hid fun j h => by
    have hj : j < l.length := by rw [str_size] at h; exact h
    rw [List.getElem?_map, List.getElem?_eq_getElem hj]
    rfl
  have hML : Hid ((l.map oSg).length = (str l).size) := Lib.hid (by rw [List.length_map, str_size])
  generalize l.map oSg = m at hM hML ⊢
  generalize str l = s at hs hM hML ⊢
  obtain ⟨cap, W2, hconv, hcs, hB2, hz2⟩ := to_bytes s w
  have HC0 : Hid (OgAt W2 w.heap.size s 0) := Lib.hid fun j hj => by
    rw [if_neg (Nat.not_lt_zero _)]
    exact hcs j hj
  have HB2 := Lib.hid hB2
  clear hcs hB2
  go_enter Tryd.func16, Tryd.ntmps16
  go_wp2
  go_loopw [4, 5, 10] (fun _ _ i wr => ∃ k : Nat, k ≤ s.size ∧ i = .int .i64 k ∧ Hid (OgAt wr w.heap.size s k) ∧ Below w.heap.size w wr) (fun _ _ i _ => s.size - (intOf i).toNat)
  case atStart => exact ⟨0, Nat.zero_le _, rfl, HC0, HB2.out⟩
  case round =>
    obtain ⟨k, hk, rfl, HK, hB⟩ := hrel
    by_cases hlt : k < s.size
    · obtain ⟨ck, fk⟩ := HK.out k hlt
      rw [if_neg (Nat.lt_irrefl _)] at ck
      have HB := Lib.hid hB
      have HS : Hid (∀ j (h : j < s.size), (if j < k + 1 then oSg s[j] else s[j]) = if j = k then oSg s[k] else if j < k then oSg s[j] else s[j]) := Lib.hid fun j h => by
        by_cases e : j = k
        · subst e; rw [if_pos (Nat.lt_succ_self _), if_pos rfl]
        · rw [if_neg e]
          by_cases e2 : j < k
          · rw [if_pos (by omega), if_pos e2]
          · rw [if_neg (by omega), if_neg e2]
      clear hB
      go_wp2_with (first | (go_at_call 25; refine (oSg_any _ _).mono ?_; rintro e w' ⟨rfl, rfl⟩))
      go_roundw
      case rel =>
        refine ⟨k + 1, by omega, by go_num, Lib.hid fun j hj => ?_, HB.out.setCell (Nat.le_refl _) _⟩
        obtain ⟨cj, fj⟩ := HK.out j hj
        refine ⟨?_, by simpa using fj⟩
        rw [HS.out j hj]
        by_cases e1 : j = k
        · subst e1
          rw [if_pos rfl]
          exact World.cell?_setCell_same _ _ _ ck
        · rw [if_neg e1, World.cell?_setCell_other _ _ _ _ (by intro e; injection e with _ e; omega)]
          exact cj
      case measure => simp [intOf]; omega
    · obtain rfl : k = s.size := by omega
      have hcv := run_convert_bytes_back (P := Tryd.prog) wr 39 9 5 ⟨w.heap.size, 0, none⟩ cap m Tryd.underlying39 Tryd.underlying5 Tryd.underlying9 (by
        intro j hj
        rw [hML.out] at hj
        rw [addr_add]
        have h := (HK.out j hj).1
        rw [if_pos hj] at h
        have h2 := hM.out j hj
        rw [List.getElem?_eq_getElem (by rw [hML.out]; exact hj)] at h2
        injection h2 with h2
        rw [h2]
        exact h)
      rw [hML.out] at hcv
      have HB := Lib.hid hB
      clear hB
      go_wp2
      go_ret
      exact ⟨rfl, HB.out⟩
end Go.Proofs.YticdhapbkfbhjaaDoor
