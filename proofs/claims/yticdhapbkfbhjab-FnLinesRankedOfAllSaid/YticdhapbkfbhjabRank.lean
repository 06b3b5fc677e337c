/- Contracts: ranks of lines: the counts. -/
import Derived.Test.YticdhapbkfbhjabMany
import Derived.Test.YticdhapbkfbhjabWay
import Derived.Test.YticdhapbkfbhjabMoveE
namespace Go.Proofs.Yticdhapbkfbhjab
open Go.RowKit

abbrev ctB (a b c : Int) : Obj := Obj.cells #[Value.int IntKind.i64 a, Value.int IntKind.i64 b, Value.int IntKind.i64 c] 71
def ctV (a b c : Int) : Value := .agg #[.int .i64 a, .int .i64 b, .int .i64 c]

theorem lines_int (a b c : Int) (w : World) (ha : 0 ≤ a) (hb : 0 ≤ b) (hc : 0 ≤ c) (hs : a + b + c ≤ 12) :
    Calls Try.prog 86 #[.agg #[.int .i64 a, .int .i64 b, .int .i64 c]] w fun e w' => e = .returned (.int .i64 (linesN a.toNat b.toNat c.toNat : Nat)) ∧ Below w.heap.size w w' := by
  obtain ⟨x, rfl⟩ := Int.eq_ofNat_of_zero_le ha
  obtain ⟨y, rfl⟩ := Int.eq_ofNat_of_zero_le hb
  obtain ⟨z, rfl⟩ := Int.eq_ofNat_of_zero_le hc
  exact lines_any x y z w (by omega)

set_option maxHeartbeats 400000 in
theorem without_0 (a b c : Int) (w : World) (h : 0 ≤ a ∧ a ≤ 1000) :
    Calls Try.prog 79 #[.agg #[.int .i64 a, .int .i64 b, .int .i64 c], .int .i64 0] w fun e w' => e = .returned (.agg #[.int .i64 (a - 1), .int .i64 b, .int .i64 c]) ∧ Below w.heap.size w w' := by
  obtain ⟨_, _⟩ := h
  go_enter Try.func79, Try.ntmps79
  go_wp2
  exact bodyPost_ret (v := .agg #[.int .i64 (a - 1), .int .i64 b, .int .i64 c]) (by simp [results, Try.results79, go_sem]) rfl ⟨rfl, ((Below.refl _ _).alloc (Nat.le_refl _) _).alloc (by simp) _⟩
set_option maxHeartbeats 400000 in
theorem without_1 (a b c : Int) (w : World) (h : 0 ≤ b ∧ b ≤ 1000) :
    Calls Try.prog 79 #[.agg #[.int .i64 a, .int .i64 b, .int .i64 c], .int .i64 1] w fun e w' => e = .returned (.agg #[.int .i64 a, .int .i64 (b - 1), .int .i64 c]) ∧ Below w.heap.size w w' := by
  obtain ⟨_, _⟩ := h
  go_enter Try.func79, Try.ntmps79
  go_wp2
  exact bodyPost_ret (v := .agg #[.int .i64 a, .int .i64 (b - 1), .int .i64 c]) (by simp [results, Try.results79, go_sem]) rfl ⟨rfl, ((Below.refl _ _).alloc (Nat.le_refl _) _).alloc (by simp) _⟩
set_option maxHeartbeats 400000 in
theorem without_2 (a b c : Int) (w : World) (h : 0 ≤ c ∧ c ≤ 1000) :
    Calls Try.prog 79 #[.agg #[.int .i64 a, .int .i64 b, .int .i64 c], .int .i64 2] w fun e w' => e = .returned (.agg #[.int .i64 a, .int .i64 b, .int .i64 (c - 1)]) ∧ Below w.heap.size w w' := by
  obtain ⟨_, _⟩ := h
  go_enter Try.func79, Try.ntmps79
  go_wp2
  exact bodyPost_ret (v := .agg #[.int .i64 a, .int .i64 b, .int .i64 (c - 1)]) (by simp [results, Try.results79, go_sem]) rfl ⟨rfl, ((Below.refl _ _).alloc (Nat.le_refl _) _).alloc (by simp) _⟩

set_option maxHeartbeats 400000 in
theorem linesFrom_0 (g f t : Int) (w : World) (h : 0 ≤ g ∧ 0 ≤ f ∧ 0 ≤ t ∧ g + f + t ≤ 12) :
    Calls Try.prog 78 #[.agg #[.int .i64 g, .int .i64 f, .int .i64 t], .int .i64 0] w fun e w' => e = .returned (.int .i64 (manyI t (g - 1) f)) ∧ Below w.heap.size w w' := by
  obtain ⟨_, _, _, _⟩ := h
  by_cases h0 : g = 0
  · have hR : Hid (manyI t (g - 1) f = 0) := by show _ = _; unfold manyI; rw [if_pos (by omega)]
    have hv : (g == 0) = true := by simpa using h0
    clear h0
    go_enter Try.func78, Try.ntmps78
    go_wp2
    go_ret
    exact ⟨by rw [hR.out]; rfl, (Below.refl _ _).alloc (Nat.le_refl _) _⟩
  · have hR : Hid (manyI t (g - 1) f = (linesN (g - 1).toNat f.toNat t.toNat : Nat)) := by
      show _ = _
      unfold manyI
      rw [if_neg (by omega), lines_many _ _ _ (by omega)]
    have hv : (g == 0) = false := by simpa using h0
    have h1 : 1 ≤ g := by omega
    clear h0
    go_enter Try.func78, Try.ntmps78
    go_wp2_with fail
    refine (without_0 _ _ _ _ (by omega)).mono ?_
    rintro e w1 ⟨rfl, hb1⟩
    go_wp2_with fail
    refine (lines_int _ _ _ _ (by omega) (by omega) (by omega) (by omega)).mono ?_
    rintro e w2 ⟨rfl, hb2⟩
    rw [← hR.out]
    go_wp2
    go_ret
    exact ⟨rfl, ((Below.refl _ _).alloc (Nat.le_refl _) _).trans ((hb1.trans (hb2.mono hb1.size)).mono (by simp))⟩

set_option maxHeartbeats 400000 in
theorem linesFrom_1 (g f t : Int) (w : World) (h : 0 ≤ g ∧ 0 ≤ f ∧ 0 ≤ t ∧ g + f + t ≤ 12) :
    Calls Try.prog 78 #[.agg #[.int .i64 g, .int .i64 f, .int .i64 t], .int .i64 1] w fun e w' => e = .returned (.int .i64 (manyI t g (f - 1))) ∧ Below w.heap.size w w' := by
  obtain ⟨_, _, _, _⟩ := h
  by_cases h0 : f = 0
  · have hR : Hid (manyI t g (f - 1) = 0) := by show _ = _; unfold manyI; rw [if_pos (by omega)]
    have hv : (f == 0) = true := by simpa using h0
    clear h0
    go_enter Try.func78, Try.ntmps78
    go_wp2
    go_ret
    exact ⟨by rw [hR.out]; rfl, (Below.refl _ _).alloc (Nat.le_refl _) _⟩
  · have hR : Hid (manyI t g (f - 1) = (linesN g.toNat (f - 1).toNat t.toNat : Nat)) := by
      show _ = _
      unfold manyI
      rw [if_neg (by omega), lines_many _ _ _ (by omega)]
    have hv : (f == 0) = false := by simpa using h0
    have h1 : 1 ≤ f := by omega
    clear h0
    go_enter Try.func78, Try.ntmps78
    go_wp2_with fail
    refine (without_1 _ _ _ _ (by omega)).mono ?_
    rintro e w1 ⟨rfl, hb1⟩
    go_wp2_with fail
    refine (lines_int _ _ _ _ (by omega) (by omega) (by omega) (by omega)).mono ?_
    rintro e w2 ⟨rfl, hb2⟩
    rw [← hR.out]
    go_wp2
    go_ret
    exact ⟨rfl, ((Below.refl _ _).alloc (Nat.le_refl _) _).trans ((hb1.trans (hb2.mono hb1.size)).mono (by simp))⟩

set_option maxHeartbeats 400000 in
theorem linesFrom_2 (g f t : Int) (w : World) (h : 0 ≤ g ∧ 0 ≤ f ∧ 0 ≤ t ∧ g + f + t ≤ 12) :
    Calls Try.prog 78 #[.agg #[.int .i64 g, .int .i64 f, .int .i64 t], .int .i64 2] w fun e w' => e = .returned (.int .i64 (manyI (t - 1) g f)) ∧ Below w.heap.size w w' := by
  obtain ⟨_, _, _, _⟩ := h
  by_cases h0 : t = 0
  · have hR : Hid (manyI (t - 1) g f = 0) := by show _ = _; unfold manyI; rw [if_pos (by omega)]
    have hv : (t == 0) = true := by simpa using h0
    clear h0
    go_enter Try.func78, Try.ntmps78
    go_wp2
    go_ret
    exact ⟨by rw [hR.out]; rfl, (Below.refl _ _).alloc (Nat.le_refl _) _⟩
  · have hR : Hid (manyI (t - 1) g f = (linesN g.toNat f.toNat (t - 1).toNat : Nat)) := by
      show _ = _
      unfold manyI
      rw [if_neg (by omega), lines_many _ _ _ (by omega)]
    have hv : (t == 0) = false := by simpa using h0
    have h1 : 1 ≤ t := by omega
    clear h0
    go_enter Try.func78, Try.ntmps78
    go_wp2_with fail
    refine (without_2 _ _ _ _ (by omega)).mono ?_
    rintro e w1 ⟨rfl, hb1⟩
    go_wp2_with fail
    refine (lines_int _ _ _ _ (by omega) (by omega) (by omega) (by omega)).mono ?_
    rintro e w2 ⟨rfl, hb2⟩
    rw [← hR.out]
    go_wp2
    go_ret
    exact ⟨rfl, ((Below.refl _ _).alloc (Nat.le_refl _) _).trans ((hb1.trans (hb2.mono hb1.size)).mono (by simp))⟩

/-- What a sign adds to the rank, of so many toads, gaps and frogs from it on. -/
def addR (c : UInt8) (t g f : Int) : Int := if c = 46 then 0 else if c = 70 then manyI t (g - 1) f else manyI t (g - 1) f + manyI t g (f - 1)
def rkAt (s : ByteArray) : Nat → Int
  | 0 => 0
  | k + 1 => rkAt s k + addR (sgAt s k) (cnt 84 ((byt s).drop k)) (cnt 46 ((byt s).drop k)) (cnt 70 ((byt s).drop k))
theorem manyI_le (t g f : Int) (h : 0 ≤ t → 0 ≤ g → 0 ≤ f → t + g + f ≤ 12) : 0 ≤ manyI t g f ∧ manyI t g f ≤ 8916100448256 := by
  unfold manyI
  split
  · omega
  · rename_i hn
    have := manyN_part t.toNat g.toNat f.toNat f.toNat (by omega) (Nat.le_refl _)
    unfold manyN
    omega
theorem addR_le (c : UInt8) (t g f : Int) (h : t + g + f ≤ 12) : 0 ≤ addR c t g f ∧ addR c t g f ≤ 17832200896512 := by
  have h1 := manyI_le t (g - 1) f (by omega)
  have h2 := manyI_le t g (f - 1) (by omega)
  unfold addR
  split
  · omega
  · split <;> omega
theorem cnts_drop {s : ByteArray} (hg : (byt s).all isSign = true) (k : Nat) : cnt 84 ((byt s).drop k) + cnt 46 ((byt s).drop k) + cnt 70 ((byt s).drop k) = s.size - k := by
  have h := cnt_sum ((byt s).drop k) (by rw [List.all_eq_true] at hg ⊢; exact fun x hx => hg x (List.mem_of_mem_drop hx))
  rw [List.length_drop, byt_len] at h
  exact h
theorem cnt_drop (s : ByteArray) (c : UInt8) (k : Nat) (h : k < s.size) : cnt c ((byt s).drop k) = (if s[k] = c then 1 else 0) + cnt c ((byt s).drop (k + 1)) := by
  rw [drop_cons s k h, cnt_cons]
theorem rkAt_le {s : ByteArray} (hg : (byt s).all isSign = true) (hs : s.size ≤ 12) (k : Nat) (hk : k ≤ 12) : 0 ≤ rkAt s k ∧ rkAt s k ≤ 17832200896512 * k := by
  induction k with
  | zero => simp [rkAt]
  | succ k ih =>
    have ih := ih (by omega)
    have hc := cnts_drop hg k
    have := addR_le (sgAt s k) (cnt 84 ((byt s).drop k)) (cnt 46 ((byt s).drop k)) (cnt 70 ((byt s).drop k)) (by omega)
    simp only [rkAt]
    omega
/-- What is known of a sign, for the walk. -/
theorem sign_split {c : UInt8} (h : isSign c = true) : (c = 46 ∧ (c.toNat : Int) = 46) ∨ (c = 70 ∧ (c.toNat : Int) = 70) ∨ (c = 84 ∧ (c.toNat : Int) = 84) := by
  rcases sign_cases c with rfl | rfl | rfl | h2
  · exact .inr (.inr ⟨rfl, rfl⟩)
  · exact .inr (.inl ⟨rfl, rfl⟩)
  · exact .inl ⟨rfl, rfl⟩
  · rw [h] at h2; cases h2

set_option maxRecDepth 100000 in
set_option maxHeartbeats 2000000 in
theorem sRank_any (s : ByteArray) (w : World) (hs : s.size ≤ maxLen) :
    Calls Try.prog 43 #[.string s] w fun e w' => e = .returned (intOr (goodL s) (rkAt s s.size)) ∧ w = w' := by
  cases hc : goodL s
  · have hC := Lib.hid hc
    clear hc
    go_enter Try.func43, Try.ntmps43
    go_wp2_with (go_at_call 64; refine (liGood_any _ _ hs).mono ?_; rintro e w' ⟨rfl, rfl⟩; rw [hC.out])
    go_ret2
    exact ⟨rfl, rfl⟩
  · have hC := Lib.hid hc
    have hsg := Lib.hid (good_sign hc)
    obtain ⟨_, h12, hall⟩ := (goodL_iff s).1 hc
    have HD := Lib.hid (cnts_drop hall)
    have HL := Lib.hid (fun k => rkAt_le hall h12 k)
    clear hc hall
    go_enter Try.func43, Try.ntmps43
    go_wp2_with fail
    refine (liGood_any _ _ hs).mono ?_; rintro e w' ⟨rfl, rfl⟩; rw [hC.out]
    go_wp2_with fail
    refine (liCount_any s 84 _ hs).mono ?_; rintro e w' ⟨rfl, rfl⟩
    go_wp2_with fail
    refine (liCount_any s 46 _ hs).mono ?_; rintro e w' ⟨rfl, rfl⟩
    go_wp2_with fail
    refine (liCount_any s 70 _ hs).mono ?_; rintro e w' ⟨rfl, rfl⟩
    go_wp2_with fail
    go_loop [4, 5, 6, 7, 8] (fun r t g f i => ∃ k : Nat, k ≤ s.size ∧ i = .int .i64 k ∧ r = .int .i64 (rkAt s k) ∧ t = .int .i64 (cnt 84 ((byt s).drop k)) ∧ g = .int .i64 (cnt 46 ((byt s).drop k)) ∧ f = .int .i64 (cnt 70 ((byt s).drop k))) (fun _ _ _ _ i => s.size - (intOf i).toNat)
    case atStart => exact ⟨0, Nat.zero_le _, rfl, rfl, rfl, rfl, rfl⟩
    case round =>
      obtain ⟨k, hk, rfl, rfl, rfl, rfl, rfl⟩ := hrel
      by_cases hlt : k < s.size
      · have hsum := HD.out k
        obtain ⟨hr0, hr1⟩ := HL.out k (by omega)
        have hr2 : rkAt s k ≤ 213986410758144 := by omega
        have hS : Hid (rkAt s (k + 1) = rkAt s k + addR (sgAt s k) (cnt 84 ((byt s).drop k)) (cnt 46 ((byt s).drop k)) (cnt 70 ((byt s).drop k))) := rfl
        have hsk := Lib.hid (sgAt_in s k hlt)
        have d1 := Lib.hid (cnt_drop s 84 k hlt)
        have d2 := Lib.hid (cnt_drop s 46 k hlt)
        have d3 := Lib.hid (cnt_drop s 70 k hlt)
        generalize rkAt s k = r at hS hr0 hr2
        generalize cnt 84 ((byt s).drop k) = t at hS hsum d1
        generalize cnt 46 ((byt s).drop k) = g at hS hsum d2
        generalize cnt 70 ((byt s).drop k) = f at hS hsum d3
        clear hr1
        have m1 := manyI_le t ((g : Int) - 1) f (by omega)
        have m2 := manyI_le t g ((f : Int) - 1) (by omega)
        obtain ⟨_, _⟩ := m1
        obtain ⟨_, _⟩ := m2
        rcases sign_split (hsg.out k hlt) with ⟨hc, hv⟩ | ⟨hc, hv⟩ | ⟨hc, hv⟩
        · have e1 := d1.out
          have e2 := d2.out
          have e3 := d3.out
          rw [hc] at e1 e2 e3
          simp at e1 e2 e3
          have hA : Hid (addR (sgAt s k) t g f = 0) := by show _ = _; rw [hsk.out, hc]; rfl
          have E1 := Lib.hid e1
          have E2 := Lib.hid e2
          have E3 := Lib.hid e3
          have hg1 : 1 ≤ g := by omega
          clear hc e1 e2 e3
          go_wp2
          go_round
          case rel =>
            refine ⟨k + 1, by omega, by go_num, ?_, ?_, ?_, ?_⟩
            · rw [hS.out, hA.out, Int.add_zero]
            · exact congrArg (fun n => Value.int .i64 n) (by have := E1.out; omega)
            · exact congrArg (fun n => Value.int .i64 n) (by have := E2.out; omega)
            · exact congrArg (fun n => Value.int .i64 n) (by have := E3.out; omega)
          case measure => simp [intOf]; omega
        · have e1 := d1.out
          have e2 := d2.out
          have e3 := d3.out
          rw [hc] at e1 e2 e3
          simp at e1 e2 e3
          have hA : Hid (addR (sgAt s k) t g f = manyI t ((g : Int) - 1) f) := by show _ = _; rw [hsk.out, hc]; rfl
          have E1 := Lib.hid e1
          have E2 := Lib.hid e2
          have E3 := Lib.hid e3
          have hg1 : 1 ≤ f := by omega
          clear hc e1 e2 e3
          go_wp2_with fail
          refine (liMany_any _ _ _ _ (by omega) (by omega) (by omega) (by omega)).mono ?_
          rintro e w' ⟨rfl, rfl⟩
          go_wp2
          go_round
          case rel =>
            refine ⟨k + 1, by omega, by go_num, ?_, ?_, ?_, ?_⟩
            · rw [hS.out, hA.out]
            · exact congrArg (fun n => Value.int .i64 n) (by have := E1.out; omega)
            · exact congrArg (fun n => Value.int .i64 n) (by have := E2.out; omega)
            · exact congrArg (fun n => Value.int .i64 n) (by have := E3.out; omega)
          case measure => simp [intOf]; omega
        · have e1 := d1.out
          have e2 := d2.out
          have e3 := d3.out
          rw [hc] at e1 e2 e3
          simp at e1 e2 e3
          have hA : Hid (addR (sgAt s k) t g f = manyI t ((g : Int) - 1) f + manyI t g ((f : Int) - 1)) := by show _ = _; rw [hsk.out, hc]; rfl
          have E1 := Lib.hid e1
          have E2 := Lib.hid e2
          have E3 := Lib.hid e3
          have hg1 : 1 ≤ t := by omega
          clear hc e1 e2 e3
          go_wp2_with fail
          refine (liMany_any _ _ _ _ (by omega) (by omega) (by omega) (by omega)).mono ?_
          rintro e w' ⟨rfl, rfl⟩
          go_wp2_with fail
          refine (liMany_any _ _ _ _ (by omega) (by omega) (by omega) (by omega)).mono ?_
          rintro e w' ⟨rfl, rfl⟩
          go_wp2
          go_round
          case rel =>
            refine ⟨k + 1, by omega, by go_num, ?_, ?_, ?_, ?_⟩
            · rw [hS.out, hA.out]
            · exact congrArg (fun n => Value.int .i64 n) (by have := E1.out; omega)
            · exact congrArg (fun n => Value.int .i64 n) (by have := E2.out; omega)
            · exact congrArg (fun n => Value.int .i64 n) (by have := E3.out; omega)
          case measure => simp [intOf]; omega
      · go_wp2
        go_ret2
        obtain rfl : k = s.size := by omega
        exact ⟨rfl, rfl⟩
end Go.Proofs.Yticdhapbkfbhjab
