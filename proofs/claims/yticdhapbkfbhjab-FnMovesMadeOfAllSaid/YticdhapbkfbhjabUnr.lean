/- Contracts: the line with a rank. -/
import Derived.Test.YticdhapbkfbhjabRankI
namespace Go.Proofs.Yticdhapbkfbhjab
open Go.RowKit

theorem many_sum (t g f : Int) (ht : 0 ≤ t) (hg : 0 ≤ g) (hf : 0 ≤ f) (h1 : 1 ≤ t + g + f) (h12 : t + g + f ≤ 12) :
    manyI t g f = manyI t (g - 1) f + manyI t g (f - 1) + manyI (t - 1) g f := by
  have h : ((List.range 13).all fun t => (List.range 13).all fun g => (List.range 13).all fun f => decide (t + g + f < 1) || decide (12 < t + g + f) ||
      manyI (t : Int) (g : Int) (f : Int) == manyI (t : Int) ((g : Int) - 1) (f : Int) + manyI (t : Int) (g : Int) ((f : Int) - 1) + manyI ((t : Int) - 1) (g : Int) (f : Int)) = true := by decide +kernel
  obtain ⟨x, rfl⟩ := Int.eq_ofNat_of_zero_le ht
  obtain ⟨y, rfl⟩ := Int.eq_ofNat_of_zero_le hg
  obtain ⟨z, rfl⟩ := Int.eq_ofNat_of_zero_le hf
  rw [List.all_eq_true] at h
  have a := h x (List.mem_range.2 (by omega))
  rw [List.all_eq_true] at a
  have b := a y (List.mem_range.2 (by omega))
  rw [List.all_eq_true] at b
  have c := b z (List.mem_range.2 (by omega))
  have e1 : decide (x + y + z < 1) = false := by rw [decide_eq_false_iff_not]; omega
  have e2 : decide (12 < x + y + z) = false := by rw [decide_eq_false_iff_not]; omega
  rw [e1, e2, Bool.false_or, Bool.false_or, beq_iff_eq] at c
  exact c
theorem many_pos {t g f : Int} (h : 0 < manyI t g f) : 0 ≤ t ∧ 0 ≤ g ∧ 0 ≤ f := by
  unfold manyI at h
  split at h <;> omega

/-- The line of n signs with a rank. -/
def unr : Nat → Int → Int → Int → Int → List UInt8
  | 0, _, _, _, _ => []
  | n + 1, t, g, f, r =>
    if r < manyI t (g - 1) f then 46 :: unr n t (g - 1) f r
    else if r < manyI t (g - 1) f + manyI t g (f - 1) then 70 :: unr n t g (f - 1) (r - manyI t (g - 1) f)
    else 84 :: unr n (t - 1) g f (r - (manyI t (g - 1) f + manyI t g (f - 1)))
theorem unr_len : ∀ (n : Nat) (t g f r : Int), (unr n t g f r).length = n
  | 0, _, _, _, _ => rfl
  | n + 1, t, g, f, r => by
    unfold unr
    split
    · simp [unr_len n]
    · split <;> simp [unr_len n]

set_option maxRecDepth 100000 in
set_option maxHeartbeats 2000000 in
theorem sUnr_any (t g f r : Int) (w : World) :
    Calls Try.prog 50 #[.int .i64 t, .int .i64 g, .int .i64 f, .int .i64 r] w fun e w' => e = .returned (strOr (three t g f && inR r 0 (manyI t g f - 1)) (unr (t + g + f).toNat t g f r)) ∧ Below w.heap.size w w' := by
  cases hc : three t g f
  · have hC := Lib.hid hc
    clear hc
    go_enter Try.func50, Try.ntmps50
    go_wp2_with fail
    refine (liThree_any _ _ _ _).mono ?_
    rintro e w1 ⟨rfl, hb1⟩
    rw [hC.out]
    go_wp2
    go_ret2
    exact ⟨rfl, hb1⟩
  · have hC := Lib.hid hc
    obtain ⟨⟨ht0, _⟩, ⟨hg0, _⟩, ⟨hf0, _⟩, h1, h12⟩ := (three_iff t g f).1 hc
    have hm := manyI_le t g f (by omega)
    clear hc
    cases hr : inR r 0 (manyI t g f - 1)
    · have hI := Lib.hid hr
      clear hr
      go_enter Try.func50, Try.ntmps50
      go_wp2_with fail
      refine (liThree_any _ _ _ _).mono ?_
      rintro e w1 ⟨rfl, hb1⟩
      rw [hC.out]
      go_wp2_with fail
      refine (liMany_any _ _ _ _ (by omega) (by omega) (by omega) (by omega)).mono ?_
      rintro e w' ⟨rfl, rfl⟩
      obtain ⟨_, _⟩ := hm
      go_wp2_with fail
      refine (l1In_any _ _ _ _).mono ?_
      rintro e w' ⟨rfl, rfl⟩
      rw [hI.out]
      go_wp2
      go_ret2
      exact ⟨rfl, hb1⟩
    · have hI := Lib.hid hr
      have hr0 : 0 ≤ r ∧ r < manyI t g f := by simp [inR] at hr; omega
      clear hr
      go_enter Try.func50, Try.ntmps50
      go_wp2_with fail
      refine (liThree_any _ _ _ _).mono ?_
      rintro e w1 ⟨rfl, hb1⟩
      rw [hC.out]
      go_wp2_with fail
      refine (liMany_any _ _ _ _ (by omega) (by omega) (by omega) (by omega)).mono ?_
      rintro e w' ⟨rfl, rfl⟩
      obtain ⟨_, _⟩ := hm
      go_wp2_with fail
      refine (l1In_any _ _ _ _).mono ?_
      rintro e w' ⟨rfl, rfl⟩
      rw [hI.out]
      go_wp2_with fail
      go_loop [0, 1, 2, 3, 10, 11, 12] (fun a b c d o _ _ => ∃ (t' g' f' r' : Int) (l : List UInt8), a = .int .i64 t' ∧ b = .int .i64 g' ∧ c = .int .i64 f' ∧ d = .int .i64 r' ∧ o = .string (str l) ∧ 0 ≤ t' ∧ 0 ≤ g' ∧ 0 ≤ f' ∧ t' + g' + f' ≤ 12 ∧ 0 ≤ r' ∧ r' < manyI t' g' f' ∧ l.length ≤ 100 - (t' + g' + f').toNat ∧ Hid (unr (t + g + f).toNat t g f r = l ++ unr (t' + g' + f').toNat t' g' f' r')) (fun a b c _ _ _ _ => (intOf a + intOf b + intOf c).toNat)
      case atStart => exact ⟨t, g, f, r, [], rfl, rfl, rfl, rfl, rfl, ht0, hg0, hf0, h12, hr0.1, hr0.2, by simp, rfl⟩
      case round =>
        obtain ⟨t', g', f', r', l, rfl, rfl, rfl, rfl, rfl, q1, q2, q3, q4, q5, q6, q7, hU⟩ := hrel
        by_cases hpos : 0 < t' + g' + f'
        · obtain ⟨n, hn⟩ : ∃ n, (t' + g' + f').toNat = n + 1 := ⟨(t' + g' + f').toNat - 1, by omega⟩
          have hsum := many_sum t' g' f' q1 q2 q3 (by omega) q4
          have hstep : Hid (unr (n + 1) t' g' f' r' = if r' < manyI t' (g' - 1) f' then 46 :: unr n t' (g' - 1) f' r' else if r' < manyI t' (g' - 1) f' + manyI t' g' (f' - 1) then 70 :: unr n t' g' (f' - 1) (r' - manyI t' (g' - 1) f') else 84 :: unr n (t' - 1) g' f' (r' - (manyI t' (g' - 1) f' + manyI t' g' (f' - 1)))) := rfl
          have m1 := manyI_le t' (g' - 1) f' (by omega)
          have m2 := manyI_le t' g' (f' - 1) (by omega)
          have p1 : 0 < manyI t' (g' - 1) f' → 0 ≤ t' ∧ 0 ≤ g' - 1 ∧ 0 ≤ f' := many_pos
          have p2 : 0 < manyI t' g' (f' - 1) → 0 ≤ t' ∧ 0 ≤ g' ∧ 0 ≤ f' - 1 := many_pos
          have p3 : 0 < manyI (t' - 1) g' f' → 0 ≤ t' - 1 ∧ 0 ≤ g' ∧ 0 ≤ f' := many_pos
          have hz : (str l).size ≤ 100 := by rw [str_size]; omega
          have HS := Lib.hid hsum
          have P1 := Lib.hid p1
          have P2 := Lib.hid p2
          have P3 := Lib.hid p3
          have HN := Lib.hid hn
          have q6' := Lib.hid q6
          clear hsum p1 p2 p3 hn q6
          go_wp2_with fail
          refine (liMany_any _ _ _ _ (by omega) (by omega) (by omega) (by omega)).mono ?_
          rintro e w' ⟨rfl, rfl⟩
          go_wp2_with fail
          refine (liMany_any _ _ _ _ (by omega) (by omega) (by omega) (by omega)).mono ?_
          rintro e w' ⟨rfl, rfl⟩
          obtain ⟨_, _⟩ := m1
          obtain ⟨_, _⟩ := m2
          by_cases c1 : r' < manyI t' (g' - 1) f'
          · have hp := P1.out (by omega)
            have hU2 : Hid (unr (t + g + f).toNat t g f r = (l ++ [46]) ++ unr (t' + (g' - 1) + f').toNat t' (g' - 1) f' r') := by
              show _ = _
              rw [hU.out, HN.out, hstep.out, if_pos c1, show (t' + (g' - 1) + f').toNat = n by have := HN.out; omega]; simp
            go_wp2
            go_round
            case rel => exact ⟨t', g' - 1, f', r', l ++ [46], rfl, rfl, rfl, rfl, by rw [← str_app]; rfl, q1, by omega, q3, by omega, q5, c1, by rw [List.length_append]; simp; omega, hU2⟩
            case measure => simp [intOf]; omega
          · by_cases c2 : r' < manyI t' (g' - 1) f' + manyI t' g' (f' - 1)
            · have hp := P2.out (by omega)
              have hU2 : Hid (unr (t + g + f).toNat t g f r = (l ++ [70]) ++ unr (t' + g' + (f' - 1)).toNat t' g' (f' - 1) (r' - manyI t' (g' - 1) f')) := by
                show _ = _
                rw [hU.out, HN.out, hstep.out, if_neg c1, if_pos c2, show (t' + g' + (f' - 1)).toNat = n by have := HN.out; omega]; simp
              go_wp2
              go_round
              case rel => exact ⟨t', g', f' - 1, r' - manyI t' (g' - 1) f', l ++ [70], rfl, rfl, rfl, rfl, by rw [← str_app]; rfl, q1, q2, by omega, by omega, by omega, by omega, by rw [List.length_append]; simp; omega, hU2⟩
              case measure => simp [intOf]; omega
            · have hp := P3.out (by have := HS.out; have := q6'.out; omega)
              have hlt : r' - (manyI t' (g' - 1) f' + manyI t' g' (f' - 1)) < manyI (t' - 1) g' f' := by have := HS.out; have := q6'.out; omega
              have hr3 := manyI_le t' g' f' (by omega)
              have hr4 : r' ≤ 8916100448256 := by have := q6'.out; omega
              have hU2 : Hid (unr (t + g + f).toNat t g f r = (l ++ [84]) ++ unr (t' - 1 + g' + f').toNat (t' - 1) g' f' (r' - (manyI t' (g' - 1) f' + manyI t' g' (f' - 1)))) := by
                show _ = _
                rw [hU.out, HN.out, hstep.out, if_neg c1, if_neg c2, show (t' - 1 + g' + f').toNat = n by have := HN.out; omega]; simp
              clear hr3
              go_wp2
              go_round
              case rel => exact ⟨t' - 1, g', f', r' - (manyI t' (g' - 1) f' + manyI t' g' (f' - 1)), l ++ [84], rfl, rfl, rfl, rfl, by rw [← str_app]; rfl, by omega, q2, q3, by omega, by omega, hlt, by rw [List.length_append]; simp; omega, hU2⟩
              case measure => simp [intOf]; omega
        · have hz : (t' + g' + f').toNat = 0 := by omega
          have hE : Hid (unr (t + g + f).toNat t g f r = l) := by show _ = _; rw [hU.out, hz]; simp [unr]
          clear hz
          go_wp2
          go_ret2
          exact ⟨by show _ = Ending.returned (.tuple #[.string (str (unr (t + g + f).toNat t g f r)), .bool true]); rw [hE.out]; rfl, hb1⟩
end Go.Proofs.Yticdhapbkfbhjab
