/- Contract: the model's text of rows; rows with their joined text. -/
import Derived.Test.YtoiaklnaecghnabGreatDoorBdB
namespace Go.Proofs.YtoiaklnaecghnabGreatDoor
open Go.RowKit

theorem addr_o (g o j : Nat) : (⟨g, o, none⟩ : Addr).add j = ⟨g, o + j, none⟩ := by
  unfold Addr.add
  split
  · simp_all
  · rfl
/-- The text of the first k rows. -/
def jn (R : List (List UInt8)) (k : Nat) : List UInt8 := Lib.join (R.take k) [47]
theorem join_snoc (o : List (List UInt8)) (x : List UInt8) (h : o ≠ []) : Lib.join (o ++ [x]) [47] = Lib.join o [47] ++ [47] ++ x := by
  cases o with
  | nil => exact absurd rfl h
  | cons a o => simp [Lib.join_cons, Lib.joinTail]
theorem jn_one (R : List (List UInt8)) (h : 0 < R.length) : jn R 1 = jn R 0 ++ R[0] := by
  unfold jn
  rw [List.take_succ_eq_append_getElem h]
  show Lib.join ([] ++ [R[0]]) [47] = Lib.join (List.take 0 R) [47] ++ R[0]
  rw [List.nil_append, Lib.join_one]
  rfl
theorem jn_next (R : List (List UInt8)) (k : Nat) (h : k < R.length) (h0 : 0 < k) : jn R (k + 1) = jn R k ++ [47] ++ R[k] := by
  unfold jn
  rw [List.take_succ_eq_append_getElem h, join_snoc _ _ (by intro e; have := congrArg List.length e; rw [List.length_take, List.length_nil] at this; omega)]
theorem jn_all (R : List (List UInt8)) : jn R R.length = Lib.join R [47] := by unfold jn; rw [List.take_length]
theorem jn_len (R : List (List UInt8)) (n k : Nat) (h : ∀ r ∈ R, r.length ≤ n) : (jn R k).length ≤ k * (n + 1) := by
  have h1 := join_len (R.take k) n fun r hr => h r (List.mem_of_mem_take hr)
  have h2 : (R.take k).length ≤ k := by rw [List.length_take]; omega
  exact Nat.le_trans h1 (Nat.mul_le_mul_right _ h2)

set_option maxRecDepth 100000 in
set_option maxHeartbeats 2000000 in
theorem boText_any (R : List (List UInt8)) (A : Option Addr) (cap : Nat) (w : World) (hA : StAt w A R) (hl : R.length ≤ 10) (h5 : ∀ r ∈ R, r.length ≤ 12) :
    Calls Tryz.prog 14 #[.slice A R.length cap] w fun e w' => e = .returned (.string (str (Lib.join R [47]))) ∧ w = w' := by
  have HA := Lib.hid hA
  have H5 := Lib.hid h5
  have HJ := Lib.hid (jn_one R)
  have HN := Lib.hid (jn_next R)
  have HL := Lib.hid (fun k => jn_len R 12 k h5)
  have HE := Lib.hid (jn_all R)
  clear hA h5
  go_enter Tryz.func14, Tryz.ntmps14
  go_wp2
  go_loop [3, 8] (fun o i => ∃ k : Nat, k ≤ R.length ∧ i = .int .i64 k ∧ o = .string (str (jn R k))) (fun _ i => R.length - (intOf i).toNat)
  case atStart => exact ⟨0, Nat.zero_le _, rfl, rfl⟩
  case round =>
    obtain ⟨k, hk, rfl, rfl⟩ := hrel
    by_cases hlt : k < R.length
    · obtain ⟨g, rfl, hg, hcell⟩ := HA.out k hlt
      have hx := H5.out _ (List.getElem_mem hlt)
      have hz : (str (jn R k)).size ≤ 1000 := by rw [str_size]; have := HL.out k; have : k * (12 + 1) ≤ 10 * 13 := Nat.mul_le_mul_right 13 (by omega); omega
      have hz2 : (str R[k]).size ≤ 1000 := by rw [str_size]; omega
      have hz3 : (str (jn R k) ++ (⟨#[47]⟩ : ByteArray)).size ≤ 1001 := by rw [ByteArray.size_append]; show _ + 1 ≤ _; omega
      have i1 : (0 : Int) ≤ (k : Int) := by omega
      have i2 : (k : Int) < (R.length : Int) := by omega
      by_cases h0 : k = 0
      · subst h0
        have hS := Lib.hid (HJ.out hlt)
        have hd : ¬ ((0 : Int) < ((0 : Nat) : Int)) := by omega
        generalize R[0] = x at hcell hx hS hz2
        go_wp2
        go_round
        case rel => exact ⟨0 + 1, by omega, by go_num, by rw [hS.out, ← str_app]⟩
        case measure => simp [intOf]; omega
      · have hp : 0 < k := by omega
        have hd : (0 : Int) < (k : Int) := by omega
        have hS := Lib.hid (HN.out k hlt hp)
        generalize R[k] = x at hcell hx hS hz2
        go_wp2
        go_round
        case rel =>
          refine ⟨k + 1, by omega, by go_num, ?_⟩
          rw [hS.out, ← str_app, ← str_app]
          rfl
        case measure => simp [intOf]; omega
    · obtain rfl : k = R.length := by omega
      go_wp2
      go_ret
      exact ⟨congrArg (fun x => Ending.returned (.string (str x))) HE.out, rfl⟩
end Go.Proofs.YtoiaklnaecghnabGreatDoor
