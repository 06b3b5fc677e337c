/- Contracts: what the small functions on lines and numbers give, the model's and the program's. -/
import Derived.Test.YtjadnfnpbacfdaaDoorPlain
import Derived.Test.YtjadnfnpbacfdaaDoorProg
import Derived.WalkKit
import Derived.WalkSpells
import Derived.WalkLawsBesides
namespace Go.Proofs.YtjadnfnpbacfdaaDoor
open Go.RowKit
set_option maxHeartbeats 400000 in
theorem l1In_any (n lo hi : Int) (w : World) :
    Calls Tryd.prog 54 #[.int .i64 n, .int .i64 lo, .int .i64 hi] w fun e w' => e = .returned (.bool (inR n lo hi)) ∧ w = w' := by
  by_cases h1 : lo ≤ n
  · by_cases h2 : n ≤ hi
    · go_enter Tryd.func54, Tryd.ntmps54
      go_wp2
      go_ret
      exact ⟨by simp [inR]; omega, rfl⟩
    · go_enter Tryd.func54, Tryd.ntmps54
      go_wp2
      go_ret
      exact ⟨by simp [inR]; omega, rfl⟩
  · go_enter Tryd.func54, Tryd.ntmps54
    go_wp2
    go_ret
    exact ⟨by simp [inR]; omega, rfl⟩

set_option maxHeartbeats 400000 in
theorem liGood_any (s : ByteArray) (w : World) (hs : s.size ≤ maxLen) :
    Calls Tryd.prog 99 #[.string s] w fun e w' => e = .returned (.bool (goodL s)) ∧ w = w' := by
  unfold maxLen at hs
  cases hb : inR s.size 1 12
  · have hg : goodL s = false := by
      simp [inR, goodL] at hb ⊢
      intro a b; omega
    rw [hg]
    go_enter Tryd.func99, Tryd.ntmps99
    go_wp2_with (go_at_call 54; refine (l1In_any _ _ _ _).mono ?_; rintro e w' ⟨rfl, rfl⟩)
    go_ret
    exact ⟨rfl, rfl⟩
  · have hg : Hid (goodL s = (byt s).all isSign) := by
      show goodL s = (byt s).all isSign
      simp [inR] at hb
      simp [goodL, byt]
      omega
    have hlen : s.size ≤ 12 := by simp [inR] at hb; omega
    go_enter Tryd.func99, Tryd.ntmps99
    go_wp2_with (go_at_call 54; refine (l1In_any _ _ _ _).mono ?_; rintro e w' ⟨rfl, rfl⟩)
    clear hb
    go_loop [3] (fun i => ∃ k : Nat, k ≤ s.size ∧ i = .int .i64 k ∧ Hid (((byt s).take k).all isSign = true)) (fun i => s.size - (intOf i).toNat)
    case atStart => exact ⟨0, Nat.zero_le _, rfl, rfl⟩
    case round =>
      obtain ⟨k, hk, rfl, hA⟩ := hrel
      by_cases hlt : k < s.size
      · have hts := Lib.hid (take_snoc s k hlt)
        rcases sign_cases s[k] with e | e | e | e
        all_goals (have he := Lib.hid e)
        case inr.inr.inr =>
          obtain ⟨_, _, _, n1, n2, n3⟩ := no_sign e
          clear e
          go_wp2
          go_ret
          refine ⟨?_, rfl⟩
          refine congrArg (fun b => Ending.returned (.bool b)) ?_
          have e1 : ((byt s).take (k + 1)).all isSign = false := by
            rw [hts.out, List.all_append]
            simp [he.out]
          show false = goodL s
          rw [hg.out, ← List.take_append_drop (k + 1) (byt s), List.all_append, e1]
          rfl
        all_goals
          have hv := congrArg (fun c : UInt8 => (c.toNat : Int)) e
          simp only [UInt8.reduceToNat, Int.cast_ofNat_Int] at hv
          clear e
          go_wp2
          go_round
          case rel =>
            refine ⟨k + 1, by omega, by go_num, ?_⟩
            show _ = _
            rw [hts.out, List.all_append, hA.out, List.all_cons, he.out]
            rfl
          case measure => simp [intOf]; omega
      · go_wp2
        go_ret
        refine ⟨?_, rfl⟩
        refine congrArg (fun b => Ending.returned (.bool b)) ?_
        obtain rfl : k = s.size := by omega
        show true = goodL s
        rw [hg.out, ← hA.out, take_all]

set_option maxHeartbeats 400000 in
theorem liCount_any (s : ByteArray) (c : UInt8) (w : World) (hs : s.size ≤ maxLen) :
    Calls Tryd.prog 100 #[.string s, .int .u8 c.toNat] w fun e w' => e = .returned (.int .i64 (cnt c (byt s))) ∧ w = w' := by
  unfold maxLen at hs
  go_enter Tryd.func100, Tryd.ntmps100
  go_wp2
  go_loop [5, 6] (fun n i => ∃ k : Nat, k ≤ s.size ∧ i = .int .i64 k ∧ n = .int .i64 (cnt c ((byt s).take k))) (fun _ i => s.size - (intOf i).toNat)
  case atStart => exact ⟨0, Nat.zero_le _, rfl, rfl⟩
  case round =>
    obtain ⟨k, hk, rfl, rfl⟩ := hrel
    have hd := cnt_le c ((byt s).take k)
    have hl : ((byt s).take k).length ≤ k := List.length_take_le _ _
    by_cases hlt : k < s.size
    · have HS : Hid (cnt c ((byt s).take (k + 1)) = cnt c ((byt s).take k) + if s[k] = c then 1 else 0) := by
        show _ = _
        rw [take_snoc s k hlt, cnt_snoc]
      by_cases hc : s[k] = c
      · have hv := beq_u8 hc
        have hC := Lib.hid hc
        clear hc
        go_wp2
        go_round
        case rel => exact ⟨k + 1, by omega, by go_num, by rw [HS.out, if_pos hC.out]; go_num⟩
        case measure => simp [intOf]; omega
      · have hv := bne_u8 hc
        have hC := Lib.hid hc
        clear hc
        go_wp2
        go_round
        case rel => exact ⟨k + 1, by omega, by go_num, by rw [HS.out, if_neg hC.out]; go_num⟩
        case measure => simp [intOf]; omega
    · go_wp2
      go_ret
      obtain rfl : k = s.size := by omega
      refine ⟨?_, rfl⟩
      rw [take_all]
      rfl

set_option maxHeartbeats 400000 in
theorem liTimes_any (c : UInt8) (n : Int) (w : World) (hn : n ≤ 1000) :
    Calls Tryd.prog 92 #[.string ⟨#[c]⟩, .int .i64 n] w fun e w' => e = .returned (.string (str (List.replicate n.toNat c))) ∧ w = w' := by
  go_enter Tryd.func92, Tryd.ntmps92
  go_wp2
  go_loop [1, 5] (fun m o => ∃ k : Int, k ≤ n ∧ (0 ≤ k ∨ k = n) ∧ m = .int .i64 k ∧ o = .string (str (List.replicate (n.toNat - k.toNat) c))) (fun m _ => (intOf m).toNat)
  case atStart => exact ⟨n, by omega, .inr rfl, rfl, by simp; rfl⟩
  case round =>
    obtain ⟨k, hk, hk2, rfl, rfl⟩ := hrel
    by_cases hlt : 0 < k
    · have hz : (str (List.replicate (n.toNat - k.toNat) c)).size ≤ 1000 := by rw [str_size, List.length_replicate]; omega
      go_wp2
      go_round
      case rel =>
        refine ⟨k - 1, by omega, by omega, rfl, ?_⟩
        have e : n.toNat - (k - 1).toNat = n.toNat - k.toNat + 1 := by omega
        rw [e, List.replicate_succ', ← str_app]
        rfl
      case measure => simp [intOf]; omega
    · go_wp2
      go_ret
      have e : n.toNat - k.toNat = n.toNat := by omega
      exact ⟨congrArg (fun m => Ending.returned (.string (str (List.replicate m c)))) e, rfl⟩

set_option maxHeartbeats 400000 in
theorem l1All_any (b c : Nat) (zs : List Int) (lo hi : Int) (w : World) (hm : zs.length ≤ 1000)
    (hc : ∀ j, j < zs.length → w.cell? ⟨b, j, none⟩ = some (.int .i64 (zs.getD j 0))) :
    Calls Tryd.prog 83 #[.slice (some ⟨b, 0, none⟩) zs.length c, .int .i64 lo, .int .i64 hi] w fun e w' => e = .returned (.bool (zs.all (inR · lo hi))) ∧ w = w' := by
  go_enter Tryd.func83, Tryd.ntmps83
  go_wp2
  go_loop [8, 11] (fun n i => ∃ k : Nat, k ≤ zs.length ∧ i = .int .i64 k ∧ Hid ((zs.take k).all (inR · lo hi) = true)) (fun _ i => zs.length - (intOf i).toNat)
  case atStart => exact ⟨0, Nat.zero_le _, rfl, rfl⟩
  case round =>
    obtain ⟨k, hk, rfl, hA⟩ := hrel
    by_cases hlt : k < zs.length
    · have hcell := hc k hlt
      have hts : Hid (zs.take (k + 1) = zs.take k ++ [zs.getD k 0]) := by
        show _ = _
        rw [List.take_succ_eq_append_getElem hlt]
        simp [List.getD_eq_getElem?_getD, hlt]
      clear hc
      generalize zs.getD k 0 = z at hcell hts
      cases hz : inR z lo hi
      · have hZ := Lib.hid hz
        clear hz
        go_wp2_with (go_at_call 54; refine (l1In_any _ _ _ _).mono ?_; rintro e w' ⟨rfl, rfl⟩; rw [hZ.out])
        go_ret
        refine ⟨congrArg (fun b => Ending.returned (.bool b)) ?_, rfl⟩
        have e1 : (zs.take (k + 1)).all (inR · lo hi) = false := by
          rw [hts.out, List.all_append]
          simp [hZ.out]
        show false = zs.all (inR · lo hi)
        rw [← List.take_append_drop (k + 1) zs, List.all_append, e1]
        rfl
      · have hZ := Lib.hid hz
        clear hz
        go_wp2_with (go_at_call 54; refine (l1In_any _ _ _ _).mono ?_; rintro e w' ⟨rfl, rfl⟩; rw [hZ.out])
        go_round
        case rel =>
          refine ⟨k + 1, by omega, by go_num, ?_⟩
          show _ = _
          rw [hts.out, List.all_append, hA.out]
          simp [hZ.out]
        case measure => simp [intOf]; omega
    · go_wp2
      go_ret
      refine ⟨congrArg (fun b => Ending.returned (.bool b)) ?_, rfl⟩
      obtain rfl : k = zs.length := by omega
      show true = zs.all (inR · lo hi)
      rw [← hA.out, List.take_length]
end Go.Proofs.YtjadnfnpbacfdaaDoor
