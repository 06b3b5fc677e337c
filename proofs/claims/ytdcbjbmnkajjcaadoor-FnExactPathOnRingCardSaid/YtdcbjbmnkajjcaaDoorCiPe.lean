/- PathOnRing: the law's walk. -/
import Derived.Test.YtdcbjbmnkajjcaaDoorCiPd
import Derived.Test.YtdcbjbmnkajjcaaDoorMoves
namespace Go.Proofs.YtdcbjbmnkajjcaaDoor
open Go.RowKit

set_option maxRecDepth 100000 in
set_option maxHeartbeats 2000000 in
theorem heldMoveS_bigR (n k0 base : Nat) (v : Value) (w : World) (hown : w.ownsRow base 58 2 v n (flat (marks k0 n))) (hn : n ≤ 1000000) (hk0 : k0 ≤ 1000) :
    Calls Tryd.prog 21 #[v, .int .i64 k0] w fun e w' => e = .returned (.int .i64 ((k0 : Int) + 2 * n)) ∧ w = w' := by
  obtain ⟨A, cap, rfl, hat⟩ : ∃ A cap, v = .slice A n cap ∧ MvAt w A (marks k0 n) := by
    have h := at_of_own (l := marks k0 n) (by rw [marks_len]; exact hown)
    rwa [marks_len] at h
  have HA := Lib.hid hat
  clear hat hown
  go_enter Tryd.func21, Tryd.ntmps21
  go_wp2
  go_loop [1, 5] (fun x i => ∃ (j : Nat) (K : Int), j ≤ n ∧ i = .int .i64 j ∧ x = .int .i64 K ∧ Hid (K = (k0 : Int) + 2 * j) ∧ 0 ≤ K ∧ K ≤ 100000000) (fun _ i => n - (intOf i).toNat)
  case atStart => exact ⟨0, _, Nat.zero_le _, rfl, rfl, by show _ = _; simp, by omega, by omega⟩
  case round =>
    obtain ⟨j, K, hj, rfl, rfl, hK, _, _⟩ := hrel
    by_cases hlt : j < n
    · obtain ⟨g, rfl, z, c0, c1⟩ := HA.out j (by rw [marks_len]; exact hlt)
      rw [marks_at] at c0 c1
      have e0 : (((k0 + 2 * j : Nat) : Int)) = K := by rw [hK.out]; push_cast; rfl
      have e1 : (((k0 + 2 * j + 1 : Nat) : Int)) = K + 1 := by rw [hK.out]; push_cast; rfl
      simp only [e0, e1] at c0 c1
      clear e0 e1
      have i1 : (0 : Int) ≤ (j : Int) := by omega
      have i2 : (j : Int) < (n : Int) := by omega
      go_wp2
      go_round
      case rel => exact ⟨j + 1, K + 1 + 1, by omega, by go_num, rfl, by show _ = _; rw [hK.out]; push_cast; omega, by omega, by have := hK.out; omega⟩
      case measure => simp [intOf]; omega
    · obtain rfl : j = n := by omega
      go_wp2
      go_ret
      exact ⟨by show Ending.returned (.int .i64 K) = _; rw [hK.out], rfl⟩
/-- A list of moves of the call's own, and a flag. -/
def PlAns (L : List (Int × Int)) (b : Bool) (w : World) (e : Ending) (w' : World) : Prop :=
  ∃ v, e = .returned (.tuple #[v, .bool b]) ∧ w'.ownsRow w.heap.size 58 2 v L.length (flat L) ∧ Below w.heap.size w w'
set_option maxRecDepth 100000 in
set_option maxHeartbeats 4000000 in
theorem path_walk (s t : ByteArray) (L : List (Int × Int)) (b : Bool) (hb1 : ¬ (1048576 : Int) < (s.size : Int)) (hb2 : ¬ (1048576 : Int) < (t.size : Int)) (w : World)
    (hS : ∀ wx, Calls Tryd.prog 17 #[.string s, .string t] wx fun e w' => PlAns L b wx e w' ∧ L.length ≤ 100000) (hP : ∀ wx, Calls Tryd.prog 18 #[.string s, .string t] wx (PlAns L b wx)) :
    Calls Tryd.prog 6 #[.string s, .string t] w fun e w' => e = .returned (.bool true) ∧ Below w.heap.size w w' := by
  have HS := Lib.hid hS
  have HP := Lib.hid hP
  unfold PlAns at HS HP
  clear hS hP
  go_enter Tryd.func6, Tryd.ntmps6
  go_wp2_with fail
  refine (HS.out _).mono ?_
  rintro e w2 ⟨⟨v0, rfl, ho2, hb2⟩, hL⟩
  obtain ⟨A0, cap0, rfl, _⟩ := at_of_own ho2
  have L0 : Hid (∀ k, (Value.slice A0 L.length cap0).ownBlock = some k → k < w2.heap.size) := fun k e => (ho2.lt k e).2
  have O0 := Lib.hid ho2
  have hB2 := Lib.hid hb2
  have z2 := hb2.size
  clear ho2 hb2
  go_wp2_with fail
  refine (HP.out _).mono ?_
  rintro e w4 ⟨v4, rfl, ho4, hb4⟩
  obtain ⟨A4, cap4, rfl, _⟩ := at_of_own ho4
  have O4 := Lib.hid ho4
  have O0 := Lib.hid (own_below O0.out hb4)
  have hB4 := Lib.hid (hB2.out.trans (hb4.mono hB2.out.size))
  have z4 := hb4.size
  clear ho4 hb4 hB2
  go_wp2_with fail
  refine (eqMoveS_same L _ _ _ _ _ (at_ownG O4.out) (at_ownG O0.out) (by omega)).mono ?_
  rintro e w9 ⟨rfl, hb9⟩
  have O4 := Lib.hid (own_below O4.out hb9)
  have O0 := Lib.hid (own_below O0.out hb9)
  have hB9 := Lib.hid (hB4.out.trans (hb9.mono hB4.out.size))
  have z9 := hb9.size
  clear hb9 hB4
  have hz2 := hB9.out.size
  go_wp2_with fail
  refine (markMoveS_far L.length 1 w2.heap.size L _ _ rfl O4.out (by omega) (by omega)).mono ?_
  rintro e w10 ⟨rfl, ho10, hb10, _⟩
  have O4 := Lib.hid ho10
  have O0 : Hid (w10.ownsRow w.heap.size 58 2 (.slice A0 L.length cap0) L.length (flat L)) := by
    refine ⟨O0.out.1, ?_⟩
    rcases O0.out.2 with h2 | ⟨gg, cap, cur, e, hb, hg, r⟩
    · exact .inl h2
    · refine .inr ⟨gg, cap, cur, e, hb, (hb10.block gg ?_).trans hg, r⟩
      have := L0.out gg (by rw [e]; rfl)
      omega
  have hB10 := Lib.hid (hB9.out.trans (hb10.mono (by omega)))
  clear ho10 hb10 hB9
  go_wp2_with fail
  refine (heldMoveS_bigR L.length 1 w2.heap.size _ _ O4.out (by omega) (by omega)).mono ?_
  rintro e wz ⟨rfl, rfl⟩
  go_wp2_with fail
  refine (HP.out _).mono ?_
  rintro e w12 ⟨v12, rfl, ho12, hb12⟩
  obtain ⟨A12, cap12, rfl, _⟩ := at_of_own ho12
  have AT12 := Lib.hid (at_ownG ho12)
  have O4 := Lib.hid (own_below O4.out hb12)
  have O0 := Lib.hid (own_below O0.out hb12)
  have hB12 := Lib.hid (hB10.out.trans (hb12.mono hB10.out.size))
  clear ho12 hb12 hB10
  go_wp2_with fail
  refine (eqMoveS_same L _ _ _ _ _ AT12.out (at_ownG O0.out) (by omega)).mono ?_
  rintro e w13 ⟨rfl, hb13⟩
  have O4 := Lib.hid (own_below O4.out hb13)
  have hB13 := Lib.hid (hB12.out.trans (hb13.mono hB12.out.size))
  clear hb13 hB12 O0 AT12
  go_wp2_with fail
  refine (heldMoveS_bigR L.length 1 w2.heap.size _ _ O4.out (by omega) (by omega)).mono ?_
  rintro e wz ⟨rfl, rfl⟩
  go_wp2
  go_ret
  exact ⟨rfl, hB13.out⟩
def mvO (s : ByteArray) : Option (List Nat) → List (Int × Int)
  | none => []
  | some q => mvP s q
theorem ansPl {s : ByteArray} {o : Option (List Nat)} {w w' : World} {e : Ending} (h : AnsP s o w e w') (hb : Below w.heap.size w w') : PlAns (mvO s o) o.isSome w e w' := by
  rcases h with ⟨rfl, rfl⟩ | ⟨q, x, rfl, rfl, hr⟩
  · exact ⟨_, rfl, World.ownsRow_nil _ _ _ _, hb⟩
  · refine ⟨x, rfl, ?_, hb⟩
    show w'.ownsRow w.heap.size 58 2 x (mvP s q).length (flat (mvP s q))
    rw [mvP_len]
    exact hr
set_option maxRecDepth 100000 in
set_option maxHeartbeats 1000000 in
theorem sPath_no (s v : ByteArray) (w : World) (hs : s.size ≤ maxLen) (hv : v.size ≤ maxLen) (h : (ringB s && ringB v) = false) :
    Calls Tryd.prog 17 #[.string s, .string v] w fun e w' => e = .returned (.tuple #[.slice none 0 0, .bool false]) ∧ w = w' := by
  have HGS := Lib.hid (fun wx => ciGood_any s wx hs)
  have HGV := Lib.hid (fun wx => ciGood_any v wx hv)
  cases hs' : ringB s
  · rw [hs'] at HGS
    clear h hs'
    go_enter Tryd.func17, Tryd.ntmps17
    go_wp2_with fail
    refine (HGS.out _).mono ?_
    rintro e w' ⟨rfl, rfl⟩
    go_wp2
    go_ret2
    exact ⟨rfl, rfl⟩
  · rw [hs', Bool.true_and] at h
    rw [hs'] at HGS
    rw [h] at HGV
    clear h hs'
    go_enter Tryd.func17, Tryd.ntmps17
    go_wp2_with fail
    refine (HGS.out _).mono ?_
    rintro e w' ⟨rfl, rfl⟩
    go_wp2_with fail
    refine (HGV.out _).mono ?_
    rintro e w' ⟨rfl, rfl⟩
    go_wp2
    go_ret2
    exact ⟨rfl, rfl⟩
theorem walk_FnExactPathOnRing (s : ByteArray) (hs : s.size ≤ maxLen) (t : ByteArray) (ht : t.size ≤ maxLen) (w : World) :
    Calls Tryd.prog 6 #[.string s, .string t] w fun e w' => e = .returned (.bool true) ∧ Below w.heap.size w w' := by
  by_cases hb1 : (1048576 : Int) < (s.size : Int)
  · go_enter Tryd.func6, Tryd.ntmps6
    go_wp2
    go_ret
    exact ⟨rfl, Below.refl _ _⟩
  · by_cases hb2 : (1048576 : Int) < (t.size : Int)
    · go_enter Tryd.func6, Tryd.ntmps6
      go_wp2
      go_ret
      exact ⟨rfl, Below.refl _ _⟩
    · cases h : ringB s && ringB t
      · refine path_walk s t [] false hb1 hb2 w (fun wx => (sPath_no s t wx hs ht h).mono fun e w' hp => ⟨⟨_, hp.1, World.ownsRow_nil _ _ _ _, hp.2 ▸ Below.refl _ _⟩, by simp⟩) (fun wx => (pathI_no s t wx hs ht h).mono fun e w' hp => ⟨_, hp.1, World.ownsRow_nil _ _ _ _, hp.2 ▸ Below.refl _ _⟩)
      · obtain ⟨h1, h2⟩ := Bool.and_eq_true_iff.1 h
        refine path_walk s t (mvO s (pathO s t)) (pathO s t).isSome hb1 hb2 w (fun wx => (sPath_of s t wx h1 h2 (fun wy => ciReach_any s wy h1)).mono fun e w' hp => ?_) (fun wx => (pathI_any s t wx h1 h2).mono fun e w' hp => ?_)
        · obtain ⟨o, ho, ha, hb, hq⟩ := hp
          obtain rfl := pathO_is ho
          refine ⟨ansPl ha hb, ?_⟩
          cases hh : pathO s t with
          | none => simp [mvO]
          | some q =>
            show (mvP s q).length ≤ 100000
            rw [mvP_len]
            exact hq q hh
        · obtain ⟨o, ho, ha, hb⟩ := hp
          obtain rfl := pathO_is ho
          exact ansPl ha hb
end Go.Proofs.YtdcbjbmnkajjcaaDoor
