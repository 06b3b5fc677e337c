/- Contracts: what the small functions on lines and numbers give, the model's and the program's. -/
import Derived.Test.YtmlffocbcfediaaPlain
import Derived.Test.YtmlffocbcfediaaProg
import Derived.WalkKit
import Derived.WalkSpells
import Derived.WalkLawsBesides
namespace Go.Proofs.Ytmlffocbcfediaa
open Go.RowKit
set_option maxHeartbeats 400000 in
theorem l1In_any (n lo hi : Int) (w : World) :
    Calls Try.prog 21 #[.int .i64 n, .int .i64 lo, .int .i64 hi] w fun e w' => e = .returned (.bool (inR n lo hi)) ∧ w = w' := by
  by_cases h1 : lo ≤ n
  · by_cases h2 : n ≤ hi
    · go_enter Try.func21, Try.ntmps21
      go_wp2
      go_ret
      exact ⟨by simp [inR]; omega, rfl⟩
    · go_enter Try.func21, Try.ntmps21
      go_wp2
      go_ret
      exact ⟨by simp [inR]; omega, rfl⟩
  · go_enter Try.func21, Try.ntmps21
    go_wp2
    go_ret
    exact ⟨by simp [inR]; omega, rfl⟩

set_option maxHeartbeats 400000 in
theorem liTimes_any (c : UInt8) (n : Int) (w : World) (hn : n ≤ 1000) :
    Calls Try.prog 22 #[.string ⟨#[c]⟩, .int .i64 n] w fun e w' => e = .returned (.string (str (List.replicate n.toNat c))) ∧ w = w' := by
  go_enter Try.func22, Try.ntmps22
  go_wp2
  go_loop [1, 5] (fun m o => ∃ k : Int, k ≤ n ∧ (0 ≤ k ∨ k = n) ∧ m = .int .i64 k ∧ o = .string (str (List.replicate (n.toNat - k.toNat) c))) (fun m _ => (intOf m).toNat)
  case atStart => exact ⟨n, by omega, .inr rfl, rfl, by simp; rfl⟩
  case round =>
    obtain ⟨k, hk, hk2, rfl, rfl⟩ := hrel
    by_cases hlt : 0 < k
    · have hz : (str (List.replicate (n.toNat - k.toNat) c)).size ≤ 1000 := by rw [str_size, List.length_replicate]; omega
      go_wp2
      go_round
      case rel =>
        refine ⟨k - 1, by omega, by omega, rfl, ?_⟩
        have e : n.toNat - (k - 1).toNat = n.toNat - k.toNat + 1 := by omega
        rw [e, List.replicate_succ', ← str_app]
        rfl
      case measure => simp [intOf]; omega
    · go_wp2
      go_ret
      have e : n.toNat - k.toNat = n.toNat := by omega
      exact ⟨congrArg (fun m => Ending.returned (.string (str (List.replicate m c)))) e, rfl⟩

end Go.Proofs.Ytmlffocbcfediaa
