/- How many lines there are: the model's reckoning and the program's. -/
import Derived.Test.YticdhapbkfbhjabSpecA
namespace Go.Proofs.Yticdhapbkfbhjab
open Go.RowKit

/-- Behind k rounds: each multiplies by one more and divides by how many there have been. -/
def rnd (c l : Nat) : Nat → Nat
  | 0 => l
  | k + 1 => rnd c l k * (c + (k + 1)) / (k + 1)
theorem rnd_le (c l k : Nat) (h : c + k ≤ 12) : rnd c l k ≤ l * 12 ^ k := by
  induction k with
  | zero => simp [rnd]
  | succ k ih =>
    have ih := ih (by omega)
    simp only [rnd]
    refine Nat.le_trans (Nat.div_le_self _ _) ?_
    calc rnd c l k * (c + (k + 1)) ≤ (l * 12 ^ k) * 12 := Nat.mul_le_mul ih (by omega)
      _ = l * 12 ^ (k + 1) := by rw [Nat.pow_succ, Nat.mul_assoc]
def manyN (t g f : Nat) : Nat := rnd g (rnd (g + f) 1 t) f
def linesN (g f t : Nat) : Nat := rnd (g + f) (rnd g (rnd 0 1 g) f) t
/-- The model's number, with numbers that may be less than 0. -/
def manyI (t g f : Int) : Int := if t < 0 ∨ g < 0 ∨ f < 0 then 0 else manyN t.toNat g.toNat f.toNat
theorem lines_many : ∀ g f t : Nat, g + f + t ≤ 12 → linesN g f t = manyN t g f := by
  have h : ((List.range 13).all fun g => (List.range 13).all fun f => (List.range 13).all fun t => decide (12 < g + f + t) || linesN g f t == manyN t g f) = true := by decide +kernel
  intro g f t hs
  rw [List.all_eq_true] at h
  have h1 := h g (List.mem_range.2 (by omega))
  rw [List.all_eq_true] at h1
  have h2 := h1 f (List.mem_range.2 (by omega))
  rw [List.all_eq_true] at h2
  have h3 := h2 t (List.mem_range.2 (by omega))
  simpa [Nat.not_lt.2 hs] using h3
theorem pow12 (k : Nat) (h : k ≤ 12) : 12 ^ k ≤ 8916100448256 := Nat.le_trans (Nat.pow_le_pow_right (by omega) h) (by decide)
theorem rnd_one (c k : Nat) (h : c + k ≤ 12) : rnd c 1 k ≤ 8916100448256 := by
  have := rnd_le c 1 k h
  have := pow12 k (by omega)
  omega
theorem manyN_part (t g f k : Nat) (h : t + g + f ≤ 12) (hk : k ≤ f) : rnd g (rnd (g + f) 1 t) k ≤ 8916100448256 := by
  have h1 := rnd_le (g + f) 1 t (by omega)
  have h2 := rnd_le g (rnd (g + f) 1 t) k (by omega)
  have h3 := pow12 (t + k) (by omega)
  rw [Nat.pow_add] at h3
  have h4 : rnd (g + f) 1 t * 12 ^ k ≤ 12 ^ t * 12 ^ k := Nat.mul_le_mul_right _ (by omega)
  omega

set_option maxHeartbeats 800000 in
theorem liMany_any (t g f : Int) (w : World) (h1 : t ≤ 12) (h2 : g ≤ 12) (h3 : f ≤ 12) (hs : 0 ≤ t → 0 ≤ g → 0 ≤ f → t + g + f ≤ 12) :
    Calls Try.prog 81 #[.int .i64 t, .int .i64 g, .int .i64 f] w fun e w' => e = .returned (.int .i64 (manyI t g f)) ∧ w = w' := by
  by_cases ht : t < 0
  · have hR : Hid (manyI t g f = 0) := by show _ = _; unfold manyI; rw [if_pos (by omega)]
    go_enter Try.func81, Try.ntmps81
    go_wp2
    go_ret
    exact ⟨congrArg (fun n => Ending.returned (.int .i64 n)) hR.out.symm, rfl⟩
  · by_cases hg : g < 0
    · have hR : Hid (manyI t g f = 0) := by show _ = _; unfold manyI; rw [if_pos (by omega)]
      go_enter Try.func81, Try.ntmps81
      go_wp2
      go_ret
      exact ⟨congrArg (fun n => Ending.returned (.int .i64 n)) hR.out.symm, rfl⟩
    · by_cases hf : f < 0
      · have hR : Hid (manyI t g f = 0) := by show _ = _; unfold manyI; rw [if_pos (by omega)]
        go_enter Try.func81, Try.ntmps81
        go_wp2
        go_ret
        exact ⟨congrArg (fun n => Ending.returned (.int .i64 n)) hR.out.symm, rfl⟩
      · obtain ⟨T, rfl⟩ := Int.eq_ofNat_of_zero_le (Int.not_lt.1 ht)
        obtain ⟨G, rfl⟩ := Int.eq_ofNat_of_zero_le (Int.not_lt.1 hg)
        obtain ⟨F, rfl⟩ := Int.eq_ofNat_of_zero_le (Int.not_lt.1 hf)
        have hsum : T + G + F ≤ 12 := by omega
        have hR : Hid (manyI T G F = (manyN T G F : Nat)) := by show _ = _; unfold manyI; rw [if_neg (by omega)]; rfl
        clear hs
        go_enter Try.func81, Try.ntmps81
        go_wp2
        go_loop [7, 8] (fun o i => ∃ k : Nat, k ≤ T ∧ i = .int .i64 ((k : Int) + 1) ∧ o = .int .i64 (rnd (G + F) 1 k)) (fun _ i => (T + 1) - (intOf i).toNat)
        case atStart => exact ⟨0, Nat.zero_le _, rfl, rfl⟩
        case round =>
          obtain ⟨k, hk, rfl, rfl⟩ := hrel
          have hb := rnd_one (G + F) k (by omega)
          by_cases hlt : k < T
          · have hS : Hid (rnd (G + F) 1 (k + 1) = rnd (G + F) 1 k * (G + F + (k + 1)) / (k + 1)) := rfl
            obtain ⟨P, hP⟩ : ∃ P, P = rnd (G + F) 1 k * (G + F + (k + 1)) := ⟨_, rfl⟩
            have hPb : P ≤ 8916100448256 * 12 := by rw [hP]; exact Nat.mul_le_mul hb (by omega)
            generalize rnd (G + F) 1 k = y at hP hS hb
            have hP2 : (y : Int) * ((G : Int) + (F : Int) + ((k : Int) + 1)) = (P : Int) := by rw [hP]; push_cast; rfl
            have HP := Lib.hid hP
            clear hP
            obtain ⟨Q, hQ⟩ : ∃ Q, Q = P / (k + 1) := ⟨_, rfl⟩
            have hQb : Q ≤ P := by rw [hQ]; exact Nat.div_le_self _ _
            have hQ2 : (P : Int) / ((k : Int) + 1) = (Q : Int) := by rw [hQ]; push_cast; rfl
            have HQ := Lib.hid hQ
            clear hQ
            go_wp2
            go_round
            case rel => exact ⟨k + 1, by omega, by go_num, by rw [hS.out, ← HP.out, ← HQ.out]⟩
            case measure => simp [intOf]; omega
          · obtain rfl : k = T := by omega
            go_wp2
            go_loop [7, 9] (fun o i => ∃ j : Nat, j ≤ F ∧ i = .int .i64 ((j : Int) + 1) ∧ o = .int .i64 (rnd G (rnd (G + F) 1 k) j)) (fun _ i => (F + 1) - (intOf i).toNat)
            case atStart => exact ⟨0, Nat.zero_le _, rfl, rfl⟩
            case round =>
              obtain ⟨j, hj, rfl, rfl⟩ := hrel
              have hb := manyN_part k G F j (by omega) hj
              by_cases hlt : j < F
              · have hS : Hid (rnd G (rnd (G + F) 1 k) (j + 1) = rnd G (rnd (G + F) 1 k) j * (G + (j + 1)) / (j + 1)) := rfl
                obtain ⟨P, hP⟩ : ∃ P, P = rnd G (rnd (G + F) 1 k) j * (G + (j + 1)) := ⟨_, rfl⟩
                have hPb : P ≤ 8916100448256 * 12 := by rw [hP]; exact Nat.mul_le_mul hb (by omega)
                generalize rnd G (rnd (G + F) 1 k) j = y at hP hS hb
                have hP2 : (y : Int) * ((G : Int) + ((j : Int) + 1)) = (P : Int) := by rw [hP]; push_cast; rfl
                have HP := Lib.hid hP
                clear hP
                obtain ⟨Q, hQ⟩ : ∃ Q, Q = P / (j + 1) := ⟨_, rfl⟩
                have hQb : Q ≤ P := by rw [hQ]; exact Nat.div_le_self _ _
                have hQ2 : (P : Int) / ((j : Int) + 1) = (Q : Int) := by rw [hQ]; push_cast; rfl
                have HQ := Lib.hid hQ
                clear hQ
                go_wp2
                go_round
                case rel => exact ⟨j + 1, by omega, by go_num, by rw [hS.out, ← HP.out, ← HQ.out]⟩
                case measure => simp [intOf]; omega
              · obtain rfl : j = F := by omega
                go_wp2
                go_ret
                exact ⟨congrArg (fun n => Ending.returned (.int .i64 n)) hR.out.symm, rfl⟩

theorem Try.cellsC : Try.prog.cellsOf 71 = 3 := by kernel_rfl

theorem lines_part (g f t k : Nat) (h : g + f + t ≤ 12) (hk : k ≤ t) : rnd (g + f) (rnd g (rnd 0 1 g) f) k ≤ 8916100448256 ∧ rnd g (rnd 0 1 g) f ≤ 8916100448256 ∧ rnd 0 1 g ≤ 8916100448256 := by
  have a1 := rnd_le 0 1 g (by omega)
  have a2 := rnd_le g (rnd 0 1 g) f (by omega)
  have a3 := rnd_le (g + f) (rnd g (rnd 0 1 g) f) k (by omega)
  have p := pow12 (g + f + k) (by omega)
  have q := pow12 (g + f) (by omega)
  have r := pow12 g (by omega)
  rw [Nat.pow_add, Nat.pow_add] at p
  rw [Nat.pow_add] at q
  have b1 : rnd 0 1 g * 12 ^ f ≤ 12 ^ g * 12 ^ f := Nat.mul_le_mul_right _ (by omega)
  have b2 : rnd g (rnd 0 1 g) f * 12 ^ k ≤ (12 ^ g * 12 ^ f) * 12 ^ k := Nat.mul_le_mul_right _ (by omega)
  omega

/-- The part of the reckoning that lies behind j of the three numbers: how many cells, how many lines. -/
def linesTo (g f t : Nat) (j : Int) : Nat × Nat := if j = 0 then (0, 1) else if j = 1 then (g, rnd 0 1 g) else if j = 2 then (g + f, rnd g (rnd 0 1 g) f) else (g + f + t, linesN g f t)
def numAt (g f t : Nat) (j : Int) : Nat := if j = 0 then g else if j = 1 then f else t

theorem linesTo_next (g f t : Nat) (j : Int) (h : j = 0 ∨ j = 1 ∨ j = 2) : linesTo g f t (j + 1) = ((linesTo g f t j).1 + numAt g f t j, rnd (linesTo g f t j).1 (linesTo g f t j).2 (numAt g f t j)) := by
  rcases h with rfl | rfl | rfl
  · simp [linesTo, numAt]
  · simp [linesTo, numAt]
  · simp [linesTo, numAt, linesN]
theorem linesTo_le (g f t : Nat) (hs : g + f + t ≤ 12) (j : Int) (h : j = 0 ∨ j = 1 ∨ j = 2) : (linesTo g f t j).1 + numAt g f t j ≤ 12 ∧ ∀ k, k ≤ numAt g f t j → rnd (linesTo g f t j).1 (linesTo g f t j).2 k ≤ 8916100448256 := by
  rcases h with rfl | rfl | rfl
  · refine ⟨by simp [linesTo, numAt]; omega, fun k hk => ?_⟩
    simp [linesTo, numAt] at hk ⊢
    exact rnd_one 0 k (by omega)
  · refine ⟨by simp [linesTo, numAt]; omega, fun k hk => ?_⟩
    simp [linesTo, numAt] at hk ⊢
    exact (lines_part g k 0 0 (by omega) (by omega)).2.1
  · refine ⟨by simp [linesTo, numAt]; omega, fun k hk => ?_⟩
    simp [linesTo, numAt] at hk ⊢
    exact (lines_part g f t k (by omega) hk).1

set_option maxHeartbeats 1000000 in
theorem lines_any (g f t : Nat) (w : World) (hs : g + f + t ≤ 12) :
    Calls Try.prog 86 #[.agg #[.int .i64 g, .int .i64 f, .int .i64 t]] w fun e w' => e = .returned (.int .i64 (linesN g f t : Nat)) ∧ Below w.heap.size w w' := by
  have i0 : ∀ (j : Int) (w : World), (j = 0 ∨ j = 1 ∨ j = 2) → (Instr.index 71 (.agg #[.int .i64 g, .int .i64 f, .int .i64 t]) (.int .i64 j)).run Try.prog w = .ok (.int .i64 (numAt g f t j)) w := by
    intro j w h
    rcases h with rfl | rfl | rfl
    · kernel_rfl
    · kernel_rfl
    · kernel_rfl
  have I0 := Lib.hid i0
  clear i0
  go_enter Try.func86, Try.ntmps86
  go_wp2
  go_loop [3, 4, 6, 7, 9, 13] (fun c l _ _ i _ => ∃ j : Int, (j = 0 ∨ j = 1 ∨ j = 2 ∨ j = 3) ∧ i = .int .i64 j ∧ c = .int .i64 (linesTo g f t j).1 ∧ l = .int .i64 (linesTo g f t j).2) (fun _ _ _ _ i _ => 3 - (intOf i).toNat)
  case atStart => exact ⟨0, .inl rfl, rfl, rfl, rfl⟩
  case round =>
    obtain ⟨j, hj, rfl, rfl, rfl⟩ := hrel
    by_cases hlt : j < 3
    · have hj3 : j = 0 ∨ j = 1 ∨ j = 2 := by omega
      have hix := fun w => I0.out j w hj3
      have HN := Lib.hid (linesTo_next g f t j hj3)
      obtain ⟨hle, hbd⟩ := linesTo_le g f t hs j hj3
      have HB := Lib.hid hbd
      have HJ := Lib.hid hj3
      have hj0 : 0 ≤ j := by omega
      clear hj hbd hj3
      generalize linesTo g f t j = p at HN hle HB
      obtain ⟨c0, l0⟩ := p
      generalize numAt g f t j = m at HN hle HB hix
      go_wp2
      go_loop [3, 4, 7, 13] (fun c l _ i => ∃ k : Nat, k ≤ m ∧ i = .int .i64 k ∧ c = .int .i64 ((c0 : Int) + k) ∧ l = .int .i64 (rnd c0 l0 k)) (fun _ _ _ i => m - (intOf i).toNat)
      case atStart => exact ⟨0, Nat.zero_le _, rfl, by simp, rfl⟩
      case round =>
        obtain ⟨k, hk, rfl, rfl, rfl⟩ := hrel
        try simp only at hle HB
        by_cases hlt2 : k < m
        · have hb := HB.out k hk
          have hS : Hid (rnd c0 l0 (k + 1) = rnd c0 l0 k * (c0 + (k + 1)) / (k + 1)) := rfl
          obtain ⟨P, hP⟩ : ∃ P, P = rnd c0 l0 k * (c0 + (k + 1)) := ⟨_, rfl⟩
          try simp only at hb
          have hPb : P ≤ 8916100448256 * 12 := by rw [hP]; exact Nat.mul_le_mul hb (by omega)
          generalize rnd c0 l0 k = y at hP hS hb
          have hP2 : (y : Int) * ((c0 : Int) + (k : Int) + 1) = (P : Int) := by rw [hP]; push_cast; rw [Int.add_assoc]
          have HP := Lib.hid hP
          clear hP
          obtain ⟨Q, hQ⟩ : ∃ Q, Q = P / (k + 1) := ⟨_, rfl⟩
          have hQb : Q ≤ P := by rw [hQ]; exact Nat.div_le_self _ _
          have hQ2 : (P : Int) / ((k : Int) + 1) = (Q : Int) := by rw [hQ]; push_cast; rfl
          have HQ := Lib.hid hQ
          clear hQ
          go_wp2
          go_round
          case rel => exact ⟨k + 1, by omega, by go_num, by rw [show ((k + 1 : Nat) : Int) = (k : Int) + 1 from rfl, Int.add_assoc], by rw [hS.out, ← HP.out, ← HQ.out]⟩
          case measure => simp [intOf]; omega
        · obtain rfl : k = m := by omega
          go_wp2
          go_round
          case rel =>
            refine ⟨j + 1, by have := HJ.out; omega, rfl, ?_, ?_⟩
            · rw [HN.out]; rfl
            · rw [HN.out]
          case measure => simp [intOf]; omega
    · obtain rfl : j = 3 := by omega
      go_wp2
      go_ret
      exact ⟨rfl, (Below.refl _ _).alloc (Nat.le_refl _) _⟩

set_option maxHeartbeats 400000 in
theorem countLines_any (t g f : Int) (w : World) :
    Calls Try.prog 48 #[.int .i64 t, .int .i64 g, .int .i64 f] w fun e w' => e = .returned (intOr (three t g f) (manyI t g f)) ∧ Below w.heap.size w w' := by
  cases hc : three t g f
  · have hC := Lib.hid hc
    clear hc
    go_enter Try.func48, Try.ntmps48
    go_wp2_with (go_at_call 85; refine (areCounts_any _ _ _ _).mono ?_; rintro e w' ⟨rfl, rfl⟩; rw [hC.out])
    go_ret2
    exact ⟨rfl, Below.refl _ _⟩
  · have hC := Lib.hid hc
    obtain ⟨⟨h1, _⟩, ⟨h2, _⟩, ⟨h3, _⟩, _, _⟩ := (three_iff t g f).1 hc
    clear hc
    obtain ⟨T, rfl⟩ := Int.eq_ofNat_of_zero_le h1
    obtain ⟨G, rfl⟩ := Int.eq_ofNat_of_zero_le h2
    obtain ⟨F, rfl⟩ := Int.eq_ofNat_of_zero_le h3
    have hR : Hid (manyI T G F = (linesN G F T : Nat)) := by
      show _ = _
      rw [lines_many G F T (by omega)]
      unfold manyI
      rw [if_neg (by omega)]
      rfl
    go_enter Try.func48, Try.ntmps48
    go_wp2_with (go_at_call 85; refine (areCounts_any _ _ _ _).mono ?_; rintro e w' ⟨rfl, rfl⟩; rw [hC.out])
    refine (lines_any G F T _ (by omega)).mono ?_
    rintro e w1 ⟨rfl, hb1⟩
    go_wp2
    go_ret2
    exact ⟨by rw [hR.out]; rfl, hb1⟩

set_option maxHeartbeats 400000 in
theorem sCountLines_any (t g f : Int) (w : World) :
    Calls Try.prog 53 #[.int .i64 t, .int .i64 g, .int .i64 f] w fun e w' => e = .returned (intOr (three t g f) (manyI t g f)) ∧ Below w.heap.size w w' := by
  cases hc : three t g f
  · have hC := Lib.hid hc
    clear hc
    go_enter Try.func53, Try.ntmps53
    go_wp2_with fail
    refine (liThree_any _ _ _ _).mono ?_
    rintro e w1 ⟨rfl, hb1⟩
    rw [hC.out]
    go_wp2
    go_ret2
    exact ⟨rfl, hb1⟩
  · have hC := Lib.hid hc
    obtain ⟨⟨_, _⟩, ⟨_, _⟩, ⟨_, _⟩, _, _⟩ := (three_iff t g f).1 hc
    clear hc
    go_enter Try.func53, Try.ntmps53
    go_wp2_with fail
    refine (liThree_any _ _ _ _).mono ?_
    rintro e w1 ⟨rfl, hb1⟩
    rw [hC.out]
    go_wp2_with fail
    refine (liMany_any _ _ _ _ (by omega) (by omega) (by omega) (by omega)).mono ?_
    rintro e w' ⟨rfl, rfl⟩
    go_wp2
    go_ret2
    exact ⟨rfl, hb1⟩

end Go.Proofs.Yticdhapbkfbhjab
