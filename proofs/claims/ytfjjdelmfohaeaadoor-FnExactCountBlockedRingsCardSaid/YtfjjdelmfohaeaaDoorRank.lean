/- Contracts: ranks of lines: the counts. -/
import Derived.Test.YtfjjdelmfohaeaaDoorMany
import Derived.Test.YtfjjdelmfohaeaaDoorWay
import Derived.Test.YtfjjdelmfohaeaaDoorMoveE
namespace Go.Proofs.YtfjjdelmfohaeaaDoor
open Go.RowKit

abbrev ctB (a b c : Int) : Obj := Obj.cells #[Value.int IntKind.i64 a, Value.int IntKind.i64 b, Value.int IntKind.i64 c] 137
def ctV (a b c : Int) : Value := .agg #[.int .i64 a, .int .i64 b, .int .i64 c]

theorem lines_int (a b c : Int) (w : World) (ha : 0 ≤ a) (hb : 0 ≤ b) (hc : 0 ≤ c) (hs : a + b + c ≤ 12) :
    Calls Tryd.prog 127 #[.agg #[.int .i64 a, .int .i64 b, .int .i64 c]] w fun e w' => e = .returned (.int .i64 (linesN a.toNat b.toNat c.toNat : Nat)) ∧ Below w.heap.size w w' := by
  obtain ⟨x, rfl⟩ := Int.eq_ofNat_of_zero_le ha
  obtain ⟨y, rfl⟩ := Int.eq_ofNat_of_zero_le hb
  obtain ⟨z, rfl⟩ := Int.eq_ofNat_of_zero_le hc
  exact lines_any x y z w (by omega)

set_option maxHeartbeats 400000 in
theorem without_0 (a b c : Int) (w : World) (h : 0 ≤ a ∧ a ≤ 1000) :
    Calls Tryd.prog 135 #[.agg #[.int .i64 a, .int .i64 b, .int .i64 c], .int .i64 0] w fun e w' => e = .returned (.agg #[.int .i64 (a - 1), .int .i64 b, .int .i64 c]) ∧ Below w.heap.size w w' := by
  obtain ⟨_, _⟩ := h
  go_enter Tryd.func135, Tryd.ntmps135
  go_wp2
  exact bodyPost_ret (v := .agg #[.int .i64 (a - 1), .int .i64 b, .int .i64 c]) (by simp [results, Tryd.results135, go_sem]) rfl ⟨rfl, ((Below.refl _ _).alloc (Nat.le_refl _) _).alloc (by simp) _⟩
set_option maxHeartbeats 400000 in
theorem without_1 (a b c : Int) (w : World) (h : 0 ≤ b ∧ b ≤ 1000) :
    Calls Tryd.prog 135 #[.agg #[.int .i64 a, .int .i64 b, .int .i64 c], .int .i64 1] w fun e w' => e = .returned (.agg #[.int .i64 a, .int .i64 (b - 1), .int .i64 c]) ∧ Below w.heap.size w w' := by
  obtain ⟨_, _⟩ := h
  go_enter Tryd.func135, Tryd.ntmps135
  go_wp2
  exact bodyPost_ret (v := .agg #[.int .i64 a, .int .i64 (b - 1), .int .i64 c]) (by simp [results, Tryd.results135, go_sem]) rfl ⟨rfl, ((Below.refl _ _).alloc (Nat.le_refl _) _).alloc (by simp) _⟩
set_option maxHeartbeats 400000 in
theorem without_2 (a b c : Int) (w : World) (h : 0 ≤ c ∧ c ≤ 1000) :
    Calls Tryd.prog 135 #[.agg #[.int .i64 a, .int .i64 b, .int .i64 c], .int .i64 2] w fun e w' => e = .returned (.agg #[.int .i64 a, .int .i64 b, .int .i64 (c - 1)]) ∧ Below w.heap.size w w' := by
  obtain ⟨_, _⟩ := h
  go_enter Tryd.func135, Tryd.ntmps135
  go_wp2
  exact bodyPost_ret (v := .agg #[.int .i64 a, .int .i64 b, .int .i64 (c - 1)]) (by simp [results, Tryd.results135, go_sem]) rfl ⟨rfl, ((Below.refl _ _).alloc (Nat.le_refl _) _).alloc (by simp) _⟩

set_option maxHeartbeats 400000 in
theorem linesFrom_0 (g f t : Int) (w : World) (h : 0 ≤ g ∧ 0 ≤ f ∧ 0 ≤ t ∧ g + f + t ≤ 12) :
    Calls Tryd.prog 134 #[.agg #[.int .i64 g, .int .i64 f, .int .i64 t], .int .i64 0] w fun e w' => e = .returned (.int .i64 (manyI t (g - 1) f)) ∧ Below w.heap.size w w' := by
  obtain ⟨_, _, _, _⟩ := h
  by_cases h0 : g = 0
  · have hR : Hid (manyI t (g - 1) f = 0) := by show _ = _; unfold manyI; rw [if_pos (by omega)]
    have hv : (g == 0) = true := by simpa using h0
    clear h0
    go_enter Tryd.func134, Tryd.ntmps134
    go_wp2
    go_ret
    exact ⟨by rw [hR.out]; rfl, (Below.refl _ _).alloc (Nat.le_refl _) _⟩
  · have hR : Hid (manyI t (g - 1) f = (linesN (g - 1).toNat f.toNat t.toNat : Nat)) := by
      show _ = _
      unfold manyI
      rw [if_neg (by omega), lines_many _ _ _ (by omega)]
    have hv : (g == 0) = false := by simpa using h0
    have h1 : 1 ≤ g := by omega
    clear h0
    go_enter Tryd.func134, Tryd.ntmps134
    go_wp2_with fail
    refine (without_0 _ _ _ _ (by omega)).mono ?_
    rintro e w1 ⟨rfl, hb1⟩
    go_wp2_with fail
    refine (lines_int _ _ _ _ (by omega) (by omega) (by omega) (by omega)).mono ?_
    rintro e w2 ⟨rfl, hb2⟩
    rw [← hR.out]
    go_wp2
    go_ret
    exact ⟨rfl, ((Below.refl _ _).alloc (Nat.le_refl _) _).trans ((hb1.trans (hb2.mono hb1.size)).mono (by simp))⟩

set_option maxHeartbeats 400000 in
theorem linesFrom_1 (g f t : Int) (w : World) (h : 0 ≤ g ∧ 0 ≤ f ∧ 0 ≤ t ∧ g + f + t ≤ 12) :
    Calls Tryd.prog 134 #[.agg #[.int .i64 g, .int .i64 f, .int .i64 t], .int .i64 1] w fun e w' => e = .returned (.int .i64 (manyI t g (f - 1))) ∧ Below w.heap.size w w' := by
  obtain ⟨_, _, _, _⟩ := h
  by_cases h0 : f = 0
  · have hR : Hid (manyI t g (f - 1) = 0) := by show _ = _; unfold manyI; rw [if_pos (by omega)]
    have hv : (f == 0) = true := by simpa using h0
    clear h0
    go_enter Tryd.func134, Tryd.ntmps134
    go_wp2
    go_ret
    exact ⟨by rw [hR.out]; rfl, (Below.refl _ _).alloc (Nat.le_refl _) _⟩
  · have hR : Hid (manyI t g (f - 1) = (linesN g.toNat (f - 1).toNat t.toNat : Nat)) := by
      show _ = _
      unfold manyI
      rw [if_neg (by omega), lines_many _ _ _ (by omega)]
    have hv : (f == 0) = false := by simpa using h0
    have h1 : 1 ≤ f := by omega
    clear h0
    go_enter Tryd.func134, Tryd.ntmps134
    go_wp2_with fail
    refine (without_1 _ _ _ _ (by omega)).mono ?_
    rintro e w1 ⟨rfl, hb1⟩
    go_wp2_with fail
    refine (lines_int _ _ _ _ (by omega) (by omega) (by omega) (by omega)).mono ?_
    rintro e w2 ⟨rfl, hb2⟩
    rw [← hR.out]
    go_wp2
    go_ret
    exact ⟨rfl, ((Below.refl _ _).alloc (Nat.le_refl _) _).trans ((hb1.trans (hb2.mono hb1.size)).mono (by simp))⟩

set_option maxHeartbeats 400000 in
theorem linesFrom_2 (g f t : Int) (w : World) (h : 0 ≤ g ∧ 0 ≤ f ∧ 0 ≤ t ∧ g + f + t ≤ 12) :
    Calls Tryd.prog 134 #[.agg #[.int .i64 g, .int .i64 f, .int .i64 t], .int .i64 2] w fun e w' => e = .returned (.int .i64 (manyI (t - 1) g f)) ∧ Below w.heap.size w w' := by
  obtain ⟨_, _, _, _⟩ := h
  by_cases h0 : t = 0
  · have hR : Hid (manyI (t - 1) g f = 0) := by show _ = _; unfold manyI; rw [if_pos (by omega)]
    have hv : (t == 0) = true := by simpa using h0
    clear h0
    go_enter Tryd.func134, Tryd.ntmps134
    go_wp2
    go_ret
    exact ⟨by rw [hR.out]; rfl, (Below.refl _ _).alloc (Nat.le_refl _) _⟩
  · have hR : Hid (manyI (t - 1) g f = (linesN g.toNat f.toNat (t - 1).toNat : Nat)) := by
      show _ = _
      unfold manyI
      rw [if_neg (by omega), lines_many _ _ _ (by omega)]
    have hv : (t == 0) = false := by simpa using h0
    have h1 : 1 ≤ t := by omega
    clear h0
    go_enter Tryd.func134, Tryd.ntmps134
    go_wp2_with fail
    refine (without_2 _ _ _ _ (by omega)).mono ?_
    rintro e w1 ⟨rfl, hb1⟩
    go_wp2_with fail
    refine (lines_int _ _ _ _ (by omega) (by omega) (by omega) (by omega)).mono ?_
    rintro e w2 ⟨rfl, hb2⟩
    rw [← hR.out]
    go_wp2
    go_ret
    exact ⟨rfl, ((Below.refl _ _).alloc (Nat.le_refl _) _).trans ((hb1.trans (hb2.mono hb1.size)).mono (by simp))⟩

/-- What a sign adds to the rank, of so many toads, gaps and frogs from it on. -/
def addR (c : UInt8) (t g f : Int) : Int := if c = 46 then 0 else if c = 70 then manyI t (g - 1) f else manyI t (g - 1) f + manyI t g (f - 1)
def rkAt (s : ByteArray) : Nat → Int
  | 0 => 0
  | k + 1 => rkAt s k + addR (sgAt s k) (cnt 84 ((byt s).drop k)) (cnt 46 ((byt s).drop k)) (cnt 70 ((byt s).drop k))
theorem manyI_le (t g f : Int) (h : 0 ≤ t → 0 ≤ g → 0 ≤ f → t + g + f ≤ 12) : 0 ≤ manyI t g f ∧ manyI t g f ≤ 8916100448256 := by
  unfold manyI
  split
  · omega
  · rename_i hn
    have := manyN_part t.toNat g.toNat f.toNat f.toNat (by omega) (Nat.le_refl _)
    unfold manyN
    omega
theorem addR_le (c : UInt8) (t g f : Int) (h : t + g + f ≤ 12) : 0 ≤ addR c t g f ∧ addR c t g f ≤ 17832200896512 := by
  have h1 := manyI_le t (g - 1) f (by omega)
  have h2 := manyI_le t g (f - 1) (by omega)
  unfold addR
  split
  · omega
  · split <;> omega
theorem cnts_drop {s : ByteArray} (hg : (byt s).all isSign = true) (k : Nat) : cnt 84 ((byt s).drop k) + cnt 46 ((byt s).drop k) + cnt 70 ((byt s).drop k) = s.size - k := by
  have h := cnt_sum ((byt s).drop k) (by rw [List.all_eq_true] at hg ⊢; exact fun x hx => hg x (List.mem_of_mem_drop hx))
  rw [List.length_drop, byt_len] at h
  exact h
theorem cnt_drop (s : ByteArray) (c : UInt8) (k : Nat) (h : k < s.size) : cnt c ((byt s).drop k) = (if s[k] = c then 1 else 0) + cnt c ((byt s).drop (k + 1)) := by
  rw [drop_cons s k h, cnt_cons]
theorem rkAt_le {s : ByteArray} (hg : (byt s).all isSign = true) (hs : s.size ≤ 12) (k : Nat) (hk : k ≤ 12) : 0 ≤ rkAt s k ∧ rkAt s k ≤ 17832200896512 * k := by
  induction k with
  | zero => simp [rkAt]
  | succ k ih =>
    have ih := ih (by omega)
    have hc := cnts_drop hg k
    have := addR_le (sgAt s k) (cnt 84 ((byt s).drop k)) (cnt 46 ((byt s).drop k)) (cnt 70 ((byt s).drop k)) (by omega)
    simp only [rkAt]
    omega
/-- What is known of a sign, for the walk. -/
theorem sign_split {c : UInt8} (h : isSign c = true) : (c = 46 ∧ (c.toNat : Int) = 46) ∨ (c = 70 ∧ (c.toNat : Int) = 70) ∨ (c = 84 ∧ (c.toNat : Int) = 84) := by
  rcases sign_cases c with rfl | rfl | rfl | h2
  · exact .inr (.inr ⟨rfl, rfl⟩)
  · exact .inr (.inl ⟨rfl, rfl⟩)
  · exact .inl ⟨rfl, rfl⟩
  · rw [h] at h2; cases h2

end Go.Proofs.YtfjjdelmfohaeaaDoor
