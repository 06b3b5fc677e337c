/- Words: what a word is, numbers of an exchange; contracts of both sides. -/
import Derived.Test.YticdhapbkfbhjaaDoorImpB
import Derived.Test.YticdhapbkfbhjaaDoorSpecA
import Derived.Test.YticdhapbkfbhjaaDoorMoveB
import Derived.Test.YticdhapbkfbhjaaDoorMarks
namespace Go.Proofs.YticdhapbkfbhjaaDoor
open Go.RowKit
/-- A sign of a word. -/
def isTF (c : UInt8) : Bool := c == 84 || c == 70
/-- A word: at most forty signs, each T or F. -/
def wordB (s : ByteArray) : Bool := decide (s.size ≤ 40) && (byt s).all isTF
theorem tf_cases (c : UInt8) : c = 84 ∨ c = 70 ∨ isTF c = false := by
  unfold isTF
  by_cases h1 : c = 84
  · exact .inl h1
  · by_cases h2 : c = 70
    · exact .inr (.inl h2)
    · exact .inr (.inr (by simp [h1, h2]))
theorem no_tf {c : UInt8} (h : isTF c = false) : ((c.toNat : Int) == 84) = false ∧ ((c.toNat : Int) == 70) = false ∧ ((c.toNat : Int) != 84) = true ∧ ((c.toNat : Int) != 70) = true := by
  unfold isTF at h
  simp [← UInt8.toNat_inj] at h
  simp
  omega
theorem wordB_iff (s : ByteArray) : wordB s = true ↔ s.size ≤ 40 ∧ (byt s).all isTF = true := by
  unfold wordB
  rw [Bool.and_eq_true, decide_eq_true_iff]

set_option maxHeartbeats 400000 in
theorem woGood_any (s : ByteArray) (w : World) (hs : s.size ≤ maxLen) :
    Calls Tryd.prog 14 #[.string s] w fun e w' => e = .returned (.bool (wordB s)) ∧ w = w' := by
  unfold maxLen at hs
  by_cases hb : s.size ≤ 40
  · have hg : Hid (wordB s = (byt s).all isTF) := by
      show _ = _
      simp [wordB, hb]
    go_enter Tryd.func14, Tryd.ntmps14
    go_wp2
    go_loop [3] (fun i => ∃ k : Nat, k ≤ s.size ∧ i = .int .i64 k ∧ Hid (((byt s).take k).all isTF = true)) (fun i => s.size - (intOf i).toNat)
    case atStart => exact ⟨0, Nat.zero_le _, rfl, rfl⟩
    case round =>
      obtain ⟨k, hk, rfl, hA⟩ := hrel
      by_cases hlt : k < s.size
      · have hts := Lib.hid (take_snoc s k hlt)
        rcases tf_cases s[k] with e | e | e
        all_goals (have he := Lib.hid e)
        case inr.inr =>
          obtain ⟨_, _, n1, n2⟩ := no_tf e
          clear e
          go_wp2
          go_ret
          refine ⟨?_, rfl⟩
          refine congrArg (fun b => Ending.returned (.bool b)) ?_
          have e1 : ((byt s).take (k + 1)).all isTF = false := by
            rw [hts.out, List.all_append]
            simp [he.out]
          show false = wordB s
          rw [hg.out, ← List.take_append_drop (k + 1) (byt s), List.all_append, e1]
          rfl
        all_goals
          have hv := congrArg (fun c : UInt8 => (c.toNat : Int)) e
          simp only [UInt8.reduceToNat, Int.cast_ofNat_Int] at hv
          clear e
          go_wp2
          go_round
          case rel =>
            refine ⟨k + 1, by omega, by go_num, ?_⟩
            show _ = _
            rw [hts.out, List.all_append, hA.out, List.all_cons, he.out]
            rfl
          case measure => simp [intOf]; omega
      · go_wp2
        go_ret
        refine ⟨?_, rfl⟩
        refine congrArg (fun b => Ending.returned (.bool b)) ?_
        obtain rfl : k = s.size := by omega
        show true = wordB s
        rw [hg.out, ← hA.out, take_all]
  · have hg : wordB s = false := by simp [wordB, hb]
    rw [hg]
    go_enter Tryd.func14, Tryd.ntmps14
    go_wp2
    go_ret
    exact ⟨rfl, rfl⟩

/-- Toads and frogs that are exchanged. -/
def twoB (t f : Int) : Bool := decide (1 ≤ t) && decide (1 ≤ f) && decide (t + f ≤ 9)
theorem twoB_iff (t f : Int) : twoB t f = true ↔ 1 ≤ t ∧ 1 ≤ f ∧ t + f ≤ 9 := by simp [twoB, and_assoc]
/-- How many moves an exchange with one gap has. -/
def exMv (t f : Int) : Int := t * f + t + f
theorem ex_bounds {t f : Int} (h : twoB t f = true) : 0 ≤ t * f ∧ t * f ≤ 64 := by
  obtain ⟨h1, h2, h3⟩ := (twoB_iff t f).1 h
  have a1 : 0 ≤ t * f := Int.mul_nonneg (by omega) (by omega)
  have a2 : t * f ≤ 8 * 8 := Int.mul_le_mul (by omega) (by omega) (by omega) (by omega)
  omega

end Go.Proofs.YticdhapbkfbhjaaDoor
