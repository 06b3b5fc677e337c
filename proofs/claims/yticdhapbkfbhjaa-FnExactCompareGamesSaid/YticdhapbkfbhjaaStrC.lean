/- Contracts: the model's functions on lines, on. -/
import Derived.Test.YticdhapbkfbhjaaStrB
namespace Go.Proofs.Yticdhapbkfbhjaa
open Go.RowKit

/-- What is known of a byte, in the walk's own form. -/
theorem byte_split (c : UInt8) :
    (c = 84 ∧ (c.toNat : Int) = 84) ∨ (c = 70 ∧ (c.toNat : Int) = 70) ∨
    ((c ≠ 84 ∧ c ≠ 70) ∧ ((c.toNat : Int) == 84) = false ∧ ((c.toNat : Int) == 70) = false) := by
  by_cases h1 : c = 84
  · subst h1; exact .inl ⟨rfl, rfl⟩
  · by_cases h2 : c = 70
    · subst h2; exact .inr (.inl ⟨rfl, rfl⟩)
    · exact .inr (.inr ⟨⟨h1, h2⟩, bne_u8 (b := 84) h1, bne_u8 (b := 70) h2⟩)

set_option maxHeartbeats 400000 in
theorem liOther_any (s : ByteArray) (w : World) (hs : s.size ≤ 100) :
    Calls Try.prog 48 #[.string s] w fun e w' => e = .returned (.string (str (otherL (byt s)))) ∧ w = w' := by
  go_enter Try.func48, Try.ntmps48
  go_wp2
  go_loop [3, 4] (fun o i => ∃ k : Nat, k ≤ s.size ∧ i = .int .i64 ((k : Int) - 1) ∧ o = .string (str (otherL ((byt s).drop k)))) (fun _ i => (intOf i + 1).toNat)
  case atStart => exact ⟨s.size, Nat.le_refl _, rfl, by rw [drop_all]; rfl⟩
  case round =>
    obtain ⟨k, hk, rfl, rfl⟩ := hrel
    have hz : (str (otherL ((byt s).drop k))).size ≤ 100 := by rw [str_size, otherL_len, List.length_drop, byt_len]; omega
    by_cases hlt : 0 < k
    · obtain ⟨j, rfl⟩ : ∃ j, k = j + 1 := ⟨k - 1, by omega⟩
      have hj : j < s.size := by omega
      have HS : Hid (otherL ((byt s).drop j) = otherL ((byt s).drop (j + 1)) ++ [oSign s[j]]) := by
        show _ = _
        rw [drop_cons s j hj, otherL_cons]
      have e1 : Hid (((j + 1 : Nat) : Int) - 1 = (j : Int)) := by show _ = _; omega
      rw [e1.out]
      rcases byte_split s[j] with ⟨hc, hv⟩ | ⟨hc, hv⟩ | ⟨hc, hv, hv2⟩
      all_goals
        have hC := Lib.hid hc
        clear hc
        go_wp2
        go_round
        case rel =>
          refine ⟨j, by omega, rfl, ?_⟩
          rw [HS.out, ← str_app]
          simp only [hC.out, oSign]
          rfl
        case measure => simp [intOf]
    · go_wp2
      go_ret
      obtain rfl : k = 0 := by omega
      exact ⟨rfl, rfl⟩

/-- How far all have to go, as the model reckons it. -/
def wayL (l : List UInt8) : Int := ((sumSt 84 (lastL l)).1 : Int) - (sumSt 84 l).1 + (sumSt 70 l).1 - (sumSt 70 (lastL l)).1

theorem sumSt_small (c : UInt8) (l : List UInt8) (h : l.length ≤ 100) : (sumSt c l).1 ≤ 10000 := by
  have hb := (sumSt_le c l).2
  have hq : l.length * l.length ≤ 100 * 100 := Nat.mul_le_mul h h
  omega

end Go.Proofs.Yticdhapbkfbhjaa
