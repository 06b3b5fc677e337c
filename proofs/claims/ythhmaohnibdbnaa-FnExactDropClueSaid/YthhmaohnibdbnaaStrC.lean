/- Contracts: the model's functions on lines, on. -/
import Derived.Test.YthhmaohnibdbnaaStrB
namespace Go.Proofs.Ythhmaohnibdbnaa
open Go.RowKit

/-- What is known of a byte, in the walk's own form. -/
theorem byte_split (c : UInt8) :
    (c = 84 ∧ (c.toNat : Int) = 84) ∨ (c = 70 ∧ (c.toNat : Int) = 70) ∨
    ((c ≠ 84 ∧ c ≠ 70) ∧ ((c.toNat : Int) == 84) = false ∧ ((c.toNat : Int) == 70) = false) := by
  by_cases h1 : c = 84
  · subst h1; exact .inl ⟨rfl, rfl⟩
  · by_cases h2 : c = 70
    · subst h2; exact .inr (.inl ⟨rfl, rfl⟩)
    · exact .inr (.inr ⟨⟨h1, h2⟩, bne_u8 (b := 84) h1, bne_u8 (b := 70) h2⟩)

set_option maxHeartbeats 400000 in
theorem liPairs_any (s : ByteArray) (w : World) (hs : s.size ≤ 100) :
    Calls Try.prog 69 #[.string s] w fun e w' => e = .returned (.int .i64 (pairSt (byt s)).1) ∧ w = w' := by
  go_enter Try.func69, Try.ntmps69
  go_wp2
  go_loop [3, 4, 5] (fun n t i => ∃ k : Nat, k ≤ s.size ∧ i = .int .i64 k ∧ n = .int .i64 (pairSt ((byt s).take k)).1 ∧ t = .int .i64 (pairSt ((byt s).take k)).2) (fun _ _ i => s.size - (intOf i).toNat)
  case atStart => exact ⟨0, Nat.zero_le _, rfl, rfl, rfl⟩
  case round =>
    obtain ⟨k, hk, rfl, rfl, rfl⟩ := hrel
    by_cases hlt : k < s.size
    · have HS : Hid (pairSt ((byt s).take (k + 1)) = pairStep (pairSt ((byt s).take k)) s[k]) := by
        show _ = _
        rw [take_snoc s k hlt, pairSt_snoc]
      have hb := pairSt_le ((byt s).take k)
      have hl : ((byt s).take k).length ≤ 100 := by rw [List.length_take, byt_len]; omega
      have hq : ((byt s).take k).length * ((byt s).take k).length ≤ 100 * 100 := Nat.mul_le_mul hl hl
      have b1 : (pairSt ((byt s).take k)).1 ≤ 10000 := by omega
      have b2 : (pairSt ((byt s).take k)).2 ≤ 100 := by omega
      clear hb hl hq
      generalize pairSt ((byt s).take k) = p at HS b1 b2
      obtain ⟨p1, p2⟩ := p
      rcases byte_split s[k] with ⟨hc, hv⟩ | ⟨hc, hv⟩ | ⟨hc, hv, hv2⟩
      all_goals
        have hC := Lib.hid hc
        clear hc
        go_wp2
        go_round
        case rel =>
          refine ⟨k + 1, by omega, by go_num, ?_, ?_⟩ <;> (rw [HS.out]; simp only [hC.out, pairStep]; first | go_num | rfl)
        case measure => simp [intOf]; omega
    · go_wp2
      go_ret
      obtain rfl : k = s.size := by omega
      exact ⟨by rw [take_all]; rfl, rfl⟩

/-- How far all have to go, as the model reckons it. -/
def wayL (l : List UInt8) : Int := ((sumSt 84 (lastL l)).1 : Int) - (sumSt 84 l).1 + (sumSt 70 l).1 - (sumSt 70 (lastL l)).1

theorem sumSt_small (c : UInt8) (l : List UInt8) (h : l.length ≤ 100) : (sumSt c l).1 ≤ 10000 := by
  have hb := (sumSt_le c l).2
  have hq : l.length * l.length ≤ 100 * 100 := Nat.mul_le_mul h h
  omega

end Go.Proofs.Ythhmaohnibdbnaa
