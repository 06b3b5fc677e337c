/- Contracts: what the small functions on lines and numbers give, the model's and the program's. -/
import Derived.Test.YticdhapbkfbhjaaDoorPlain
import Derived.Test.YticdhapbkfbhjaaDoorProg
import Derived.WalkKit
import Derived.WalkSpells
import Derived.WalkLawsBesides
namespace Go.Proofs.YticdhapbkfbhjaaDoor
open Go.RowKit
set_option maxHeartbeats 400000 in
theorem l1In_any (n lo hi : Int) (w : World) :
    Calls Tryd.prog 17 #[.int .i64 n, .int .i64 lo, .int .i64 hi] w fun e w' => e = .returned (.bool (inR n lo hi)) ∧ w = w' := by
  by_cases h1 : lo ≤ n
  · by_cases h2 : n ≤ hi
    · go_enter Tryd.func17, Tryd.ntmps17
      go_wp2
      go_ret
      exact ⟨by simp [inR]; omega, rfl⟩
    · go_enter Tryd.func17, Tryd.ntmps17
      go_wp2
      go_ret
      exact ⟨by simp [inR]; omega, rfl⟩
  · go_enter Tryd.func17, Tryd.ntmps17
    go_wp2
    go_ret
    exact ⟨by simp [inR]; omega, rfl⟩

set_option maxHeartbeats 400000 in
theorem liTimes_any (c : UInt8) (n : Int) (w : World) (hn : n ≤ 1000) :
    Calls Tryd.prog 12 #[.string ⟨#[c]⟩, .int .i64 n] w fun e w' => e = .returned (.string (str (List.replicate n.toNat c))) ∧ w = w' := by
  go_enter Tryd.func12, Tryd.ntmps12
  go_wp2
  go_loop [1, 5] (fun m o => ∃ k : Int, k ≤ n ∧ (0 ≤ k ∨ k = n) ∧ m = .int .i64 k ∧ o = .string (str (List.replicate (n.toNat - k.toNat) c))) (fun m _ => (intOf m).toNat)
  case atStart => exact ⟨n, by omega, .inr rfl, rfl, by simp; rfl⟩
  case round =>
    obtain ⟨k, hk, hk2, rfl, rfl⟩ := hrel
    by_cases hlt : 0 < k
    · have hz : (str (List.replicate (n.toNat - k.toNat) c)).size ≤ 1000 := by rw [str_size, List.length_replicate]; omega
      go_wp2
      go_round
      case rel =>
        refine ⟨k - 1, by omega, by omega, rfl, ?_⟩
        have e : n.toNat - (k - 1).toNat = n.toNat - k.toNat + 1 := by omega
        rw [e, List.replicate_succ', ← str_app]
        rfl
      case measure => simp [intOf]; omega
    · go_wp2
      go_ret
      have e : n.toNat - k.toNat = n.toNat := by omega
      exact ⟨congrArg (fun m => Ending.returned (.string (str (List.replicate m c)))) e, rfl⟩

set_option maxHeartbeats 400000 in
theorem l1All_any (b c : Nat) (zs : List Int) (lo hi : Int) (w : World) (hm : zs.length ≤ 1000)
    (hc : ∀ j, j < zs.length → w.cell? ⟨b, j, none⟩ = some (.int .i64 (zs.getD j 0))) :
    Calls Tryd.prog 11 #[.slice (some ⟨b, 0, none⟩) zs.length c, .int .i64 lo, .int .i64 hi] w fun e w' => e = .returned (.bool (zs.all (inR · lo hi))) ∧ w = w' := by
  go_enter Tryd.func11, Tryd.ntmps11
  go_wp2
  go_loop [8, 11] (fun n i => ∃ k : Nat, k ≤ zs.length ∧ i = .int .i64 k ∧ Hid ((zs.take k).all (inR · lo hi) = true)) (fun _ i => zs.length - (intOf i).toNat)
  case atStart => exact ⟨0, Nat.zero_le _, rfl, rfl⟩
  case round =>
    obtain ⟨k, hk, rfl, hA⟩ := hrel
    by_cases hlt : k < zs.length
    · have hcell := hc k hlt
      have hts : Hid (zs.take (k + 1) = zs.take k ++ [zs.getD k 0]) := by
        show _ = _
        rw [List.take_succ_eq_append_getElem hlt]
        simp [List.getD_eq_getElem?_getD, hlt]
      clear hc
      generalize zs.getD k 0 = z at hcell hts
      cases hz : inR z lo hi
      · have hZ := Lib.hid hz
        clear hz
        go_wp2_with (go_at_call 17; refine (l1In_any _ _ _ _).mono ?_; rintro e w' ⟨rfl, rfl⟩; rw [hZ.out])
        go_ret
        refine ⟨congrArg (fun b => Ending.returned (.bool b)) ?_, rfl⟩
        have e1 : (zs.take (k + 1)).all (inR · lo hi) = false := by
          rw [hts.out, List.all_append]
          simp [hZ.out]
        show false = zs.all (inR · lo hi)
        rw [← List.take_append_drop (k + 1) zs, List.all_append, e1]
        rfl
      · have hZ := Lib.hid hz
        clear hz
        go_wp2_with (go_at_call 17; refine (l1In_any _ _ _ _).mono ?_; rintro e w' ⟨rfl, rfl⟩; rw [hZ.out])
        go_round
        case rel =>
          refine ⟨k + 1, by omega, by go_num, ?_⟩
          show _ = _
          rw [hts.out, List.all_append, hA.out]
          simp [hZ.out]
        case measure => simp [intOf]; omega
    · go_wp2
      go_ret
      refine ⟨congrArg (fun b => Ending.returned (.bool b)) ?_, rfl⟩
      obtain rfl : k = zs.length := by omega
      show true = zs.all (inR · lo hi)
      rw [← hA.out, List.take_length]
end Go.Proofs.YticdhapbkfbhjaaDoor
