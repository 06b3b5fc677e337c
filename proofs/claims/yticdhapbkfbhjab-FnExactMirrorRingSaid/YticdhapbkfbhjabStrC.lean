/- Contracts: the model's functions on lines, on. -/
import Derived.Test.YticdhapbkfbhjabStrB
namespace Go.Proofs.Yticdhapbkfbhjab
open Go.RowKit

/-- What is known of a byte, in the walk's own form. -/
theorem byte_split (c : UInt8) :
    (c = 84 ∧ (c.toNat : Int) = 84) ∨ (c = 70 ∧ (c.toNat : Int) = 70) ∨
    ((c ≠ 84 ∧ c ≠ 70) ∧ ((c.toNat : Int) == 84) = false ∧ ((c.toNat : Int) == 70) = false) := by
  by_cases h1 : c = 84
  · subst h1; exact .inl ⟨rfl, rfl⟩
  · by_cases h2 : c = 70
    · subst h2; exact .inr (.inl ⟨rfl, rfl⟩)
    · exact .inr (.inr ⟨⟨h1, h2⟩, bne_u8 (b := 84) h1, bne_u8 (b := 70) h2⟩)

set_option maxHeartbeats 400000 in
theorem liOther_any (s : ByteArray) (w : World) (hs : s.size ≤ 100) :
    Calls Try.prog 59 #[.string s] w fun e w' => e = .returned (.string (str (otherL (byt s)))) ∧ w = w' := by
  go_enter Try.func59, Try.ntmps59
  go_wp2
  go_loop [3, 4] (fun o i => ∃ k : Nat, k ≤ s.size ∧ i = .int .i64 ((k : Int) - 1) ∧ o = .string (str (otherL ((byt s).drop k)))) (fun _ i => (intOf i + 1).toNat)
  case atStart => exact ⟨s.size, Nat.le_refl _, rfl, by rw [drop_all]; rfl⟩
  case round =>
    obtain ⟨k, hk, rfl, rfl⟩ := hrel
    have hz : (str (otherL ((byt s).drop k))).size ≤ 100 := by rw [str_size, otherL_len, List.length_drop, byt_len]; omega
    by_cases hlt : 0 < k
    · obtain ⟨j, rfl⟩ : ∃ j, k = j + 1 := ⟨k - 1, by omega⟩
      have hj : j < s.size := by omega
      have HS : Hid (otherL ((byt s).drop j) = otherL ((byt s).drop (j + 1)) ++ [oSign s[j]]) := by
        show _ = _
        rw [drop_cons s j hj, otherL_cons]
      have e1 : Hid (((j + 1 : Nat) : Int) - 1 = (j : Int)) := by show _ = _; omega
      rw [e1.out]
      rcases byte_split s[j] with ⟨hc, hv⟩ | ⟨hc, hv⟩ | ⟨hc, hv, hv2⟩
      all_goals
        have hC := Lib.hid hc
        clear hc
        go_wp2
        go_round
        case rel =>
          refine ⟨j, by omega, rfl, ?_⟩
          rw [HS.out, ← str_app]
          simp only [hC.out, oSign]
          rfl
        case measure => simp [intOf]
    · go_wp2
      go_ret
      obtain rfl : k = 0 := by omega
      exact ⟨rfl, rfl⟩

set_option maxHeartbeats 400000 in
theorem liPairs_any (s : ByteArray) (w : World) (hs : s.size ≤ 100) :
    Calls Try.prog 69 #[.string s] w fun e w' => e = .returned (.int .i64 (pairSt (byt s)).1) ∧ w = w' := by
  go_enter Try.func69, Try.ntmps69
  go_wp2
  go_loop [3, 4, 5] (fun n t i => ∃ k : Nat, k ≤ s.size ∧ i = .int .i64 k ∧ n = .int .i64 (pairSt ((byt s).take k)).1 ∧ t = .int .i64 (pairSt ((byt s).take k)).2) (fun _ _ i => s.size - (intOf i).toNat)
  case atStart => exact ⟨0, Nat.zero_le _, rfl, rfl, rfl⟩
  case round =>
    obtain ⟨k, hk, rfl, rfl, rfl⟩ := hrel
    by_cases hlt : k < s.size
    · have HS : Hid (pairSt ((byt s).take (k + 1)) = pairStep (pairSt ((byt s).take k)) s[k]) := by
        show _ = _
        rw [take_snoc s k hlt, pairSt_snoc]
      have hb := pairSt_le ((byt s).take k)
      have hl : ((byt s).take k).length ≤ 100 := by rw [List.length_take, byt_len]; omega
      have hq : ((byt s).take k).length * ((byt s).take k).length ≤ 100 * 100 := Nat.mul_le_mul hl hl
      have b1 : (pairSt ((byt s).take k)).1 ≤ 10000 := by omega
      have b2 : (pairSt ((byt s).take k)).2 ≤ 100 := by omega
      clear hb hl hq
      generalize pairSt ((byt s).take k) = p at HS b1 b2
      obtain ⟨p1, p2⟩ := p
      rcases byte_split s[k] with ⟨hc, hv⟩ | ⟨hc, hv⟩ | ⟨hc, hv, hv2⟩
      all_goals
        have hC := Lib.hid hc
        clear hc
        go_wp2
        go_round
        case rel =>
          refine ⟨k + 1, by omega, by go_num, ?_, ?_⟩ <;> (rw [HS.out]; simp only [hC.out, pairStep]; first | go_num | rfl)
        case measure => simp [intOf]; omega
    · go_wp2
      go_ret
      obtain rfl : k = s.size := by omega
      exact ⟨by rw [take_all]; rfl, rfl⟩

set_option maxHeartbeats 400000 in
theorem liSum_any (s : ByteArray) (c : UInt8) (w : World) (hs : s.size ≤ 100) :
    Calls Try.prog 96 #[.string s, .int .u8 c.toNat] w fun e w' => e = .returned (.int .i64 (sumSt c (byt s)).1) ∧ w = w' := by
  go_enter Try.func96, Try.ntmps96
  go_wp2
  go_loop [5, 6] (fun n i => ∃ k : Nat, k ≤ s.size ∧ i = .int .i64 k ∧ n = .int .i64 (sumSt c ((byt s).take k)).1) (fun _ i => s.size - (intOf i).toNat)
  case atStart => exact ⟨0, Nat.zero_le _, rfl, rfl⟩
  case round =>
    obtain ⟨k, hk, rfl, rfl⟩ := hrel
    by_cases hlt : k < s.size
    · have HS : Hid ((sumSt c ((byt s).take (k + 1))).1 = (sumSt c ((byt s).take k)).1 + if s[k] = c then k else 0) := by
        show _ = _
        have h2 := (sumSt_le c ((byt s).take k)).1
        rw [List.length_take, byt_len, Nat.min_eq_left hk] at h2
        rw [take_snoc s k hlt, sumSt_snoc]
        unfold sumStep
        split <;> simp [h2]
      have hb := (sumSt_le c ((byt s).take k)).2
      have hl : ((byt s).take k).length ≤ 100 := by rw [List.length_take, byt_len]; omega
      have hq : ((byt s).take k).length * ((byt s).take k).length ≤ 100 * 100 := Nat.mul_le_mul hl hl
      have b1 : (sumSt c ((byt s).take k)).1 ≤ 10000 := by omega
      clear hb hl hq
      by_cases hc : s[k] = c
      · have hv := beq_u8 hc
        have hC := Lib.hid hc
        clear hc
        go_wp2
        go_round
        case rel => exact ⟨k + 1, by omega, by go_num, by rw [HS.out, if_pos hC.out]; go_num⟩
        case measure => simp [intOf]; omega
      · have hv := bne_u8 hc
        have hC := Lib.hid hc
        clear hc
        go_wp2
        go_round
        case rel => exact ⟨k + 1, by omega, by go_num, by rw [HS.out, if_neg hC.out]; go_num⟩
        case measure => simp [intOf]; omega
    · go_wp2
      go_ret
      obtain rfl : k = s.size := by omega
      exact ⟨by rw [take_all]; rfl, rfl⟩

/-- How far all have to go, as the model reckons it. -/
def wayL (l : List UInt8) : Int := ((sumSt 84 (lastL l)).1 : Int) - (sumSt 84 l).1 + (sumSt 70 l).1 - (sumSt 70 (lastL l)).1

theorem sumSt_small (c : UInt8) (l : List UInt8) (h : l.length ≤ 100) : (sumSt c l).1 ≤ 10000 := by
  have hb := (sumSt_le c l).2
  have hq : l.length * l.length ≤ 100 * 100 := Nat.mul_le_mul h h
  omega

set_option maxHeartbeats 400000 in
theorem liWay_any (s : ByteArray) (w : World) (hs : s.size ≤ 30) :
    Calls Try.prog 68 #[.string s] w fun e w' => e = .returned (.int .i64 (wayL (byt s))) ∧ w = w' := by
  have hl := lastL_len (byt s)
  have hb := byt_len s
  have hz : (str (lastL (byt s))).size ≤ 100 := by rw [str_size]; omega
  have a1 := sumSt_small 84 (byt s) (by omega)
  have a2 := sumSt_small 70 (byt s) (by omega)
  have a3 := sumSt_small 84 (byt (str (lastL (byt s)))) (by rw [byt_str]; omega)
  have a4 := sumSt_small 70 (byt (str (lastL (byt s)))) (by rw [byt_str]; omega)
  clear hl hb
  go_enter Try.func68, Try.ntmps68
  go_wp2_with fail
  refine (liLast_any s _ (by omega)).mono ?_; rintro e w' ⟨rfl, rfl⟩
  go_wp2_with fail
  refine (liSum_any _ 84 _ hz).mono ?_; rintro e w' ⟨rfl, rfl⟩
  go_wp2_with fail
  refine (liSum_any s 84 _ (by omega)).mono ?_; rintro e w' ⟨rfl, rfl⟩
  go_wp2_with fail
  refine (liSum_any s 70 _ (by omega)).mono ?_; rintro e w' ⟨rfl, rfl⟩
  go_wp2_with fail
  refine (liSum_any _ 70 _ hz).mono ?_; rintro e w' ⟨rfl, rfl⟩
  go_wp2
  go_ret
  refine ⟨congrArg (fun b => Ending.returned (.int .i64 b)) ?_, rfl⟩
  show _ = wayL (byt s)
  unfold wayL
  rw [byt_str]
end Go.Proofs.Yticdhapbkfbhjab
