/- The laws' walks over rows of rows of moves: told alike, marked, held. -/
import Derived.Test.YtfiifjcjmnhbnaaDoorSwAb
import Derived.Test.YtfiifjcjmnhbnaaDoorMoves
namespace Go.Proofs.YtfiifjcjmnhbnaaDoor
open Go.RowKit

set_option maxRecDepth 100000 in
set_option maxHeartbeats 2000000 in
theorem markMoveS_wide (n k0 base : Nat) (l : List (Int × Int)) (v : Value) (w : World) (hln : l.length = n) (hown : w.ownsRow base 55 2 v n (flat l)) (hn : n ≤ 2000000) (hk0 : k0 ≤ 100000000) :
    Calls Tryd.prog 17 #[v, .int .i64 k0] w fun e w' => e = .returned (.int .i64 ((k0 : Int) + 2 * n)) ∧ (w'.ownsRow base 55 2 v n (flat (marks k0 n)) ∧ Below base w w' ∧ FarB v.ownBlock w w') := by
  rcases hown.2 with ⟨rfl, h0⟩ | ⟨g, cap, cur, rfl, hg, _, hcap, _⟩
  · have hz : n = 0 := by have h3 := flat_len l; have h4 := hown.1; omega
    subst hz
    have HO : Hid (w.ownsRow base 55 2 (.slice none 0 0) 0 (flat (marks k0 0))) := by
      have e : flat l = flat (marks k0 0) := by rw [List.eq_nil_of_length_eq_zero hln]; rfl
      rw [← e]; exact hown
    clear hown h0
    go_enter Tryd.func17, Tryd.ntmps17
    go_wp2
    go_loop [1, 5] (fun x i => i = .int .i64 0 ∧ x = .int .i64 k0) (fun _ _ => 0)
    case atStart => exact ⟨rfl, rfl⟩
    case round =>
      obtain ⟨rfl, rfl⟩ := hrel
      go_wp2
      go_ret
      exact ⟨by simp, HO.out, Below.refl _ _, FarB.refl _ _⟩
  · have HO := Lib.hid hown
    clear hown
    go_enter Tryd.func17, Tryd.ntmps17
    go_wp2
    go_loopw [1, 5] (fun x i wr => ∃ j : Nat, j ≤ n ∧ i = .int .i64 j ∧ x = .int .i64 ((k0 : Int) + 2 * j) ∧ wr.ownsRow base 55 2 (.slice (some ⟨g, 0, none⟩) n cap) n (flat (marks k0 j ++ l.drop j)) ∧ Below base w wr ∧ Hid (FarB (some g) w wr)) (fun _ i _ => n - (intOf i).toNat)
    case atStart => exact ⟨0, Nat.zero_le _, rfl, by simp, by simpa [marks] using HO.out, Below.refl _ _, Lib.hid (FarB.refl _ _)⟩
    case round =>
      obtain ⟨j, hj, rfl, rfl, hown, hB, hG⟩ := hrel
      by_cases hlt : j < n
      · obtain ⟨q, r, hd⟩ : ∃ q r, l.drop j = q :: r := by
          cases h : l.drop j with
          | nil => have := congrArg List.length h; simp at this; omega
          | cons q r => exact ⟨q, r, rfl⟩
        have hlen : (marks k0 j ++ l.drop j).length = n := by simp [marks_len]; omega
        have f0 := hown.frozenAt (j * 2)
        have f1 := hown.frozenAt (j * 2 + 1)
        have e0 := (hown.cellAt (j * 2) (by omega)).trans (flat_at (marks k0 j ++ l.drop j) j (by omega)).1
        have e1 := (hown.cellAt (j * 2 + 1) (by omega)).trans (flat_at (marks k0 j ++ l.drop j) j (by omega)).2
        generalize (marks k0 j ++ l.drop j)[j].1 = a0 at e0
        generalize (marks k0 j ++ l.drop j)[j].2 = a1 at e1
        have hs1 := (hown.stored (j * 2) (.int .i64 ((k0 : Int) + 2 * j))).1
        have hs2 := (hs1.stored (j * 2 + 1) (.int .i64 ((k0 : Int) + 2 * j + 1))).1
        rw [flat_set _ j (by omega), hd, set_mid _ _ _ _ j (marks_len k0 j)] at hs2
        have hr : l.drop (j + 1) = r := by
          have := congrArg List.tail hd
          simpa using this
        have hm : marks k0 (j + 1) ++ l.drop (j + 1) = marks k0 j ++ [((k0 : Int) + 2 * j, (k0 : Int) + 2 * j + 1)] ++ r := by
          rw [marks_next, hr]; push_cast; rfl
        rw [← hm] at hs2
        have HS := Lib.hid hs2
        have i1 : (0 : Int) ≤ (j : Int) := by omega
        have i2 : (j : Int) < (n : Int) := by omega
        clear hown hs1 hs2 hm hr hd hlen
        go_wp2
        go_roundw
        case rel =>
          refine ⟨j + 1, by omega, by go_num, congrArg (fun n => Value.int .i64 n) (by push_cast; omega), HS.out, (hB.setCell hg _).setCell hg _, Lib.hid ((hG.out.set _ _).set _ _)⟩
        case measure => simp [intOf]; omega
      · obtain rfl : j = n := by omega
        have hz : marks k0 j ++ l.drop j = marks k0 j := by rw [List.drop_of_length_le (by omega), List.append_nil]
        rw [hz] at hown
        have HS := Lib.hid hown
        clear hown hz
        go_wp2
        go_ret
        exact ⟨rfl, HS.out, hB, hG.out⟩
set_option maxRecDepth 100000 in
set_option maxHeartbeats 2000000 in
theorem heldMoveS_wide (n k0 base : Nat) (v : Value) (w : World) (hown : w.ownsRow base 55 2 v n (flat (marks k0 n))) (hn : n ≤ 1000000) (hk0 : k0 ≤ 100000000) :
    Calls Tryd.prog 18 #[v, .int .i64 k0] w fun e w' => e = .returned (.int .i64 ((k0 : Int) + 2 * n)) ∧ w = w' := by
  obtain ⟨A, cap, rfl, hat⟩ : ∃ A cap, v = .slice A n cap ∧ MvAt w A (marks k0 n) := by
    have h := at_of_own (l := marks k0 n) (by rw [marks_len]; exact hown)
    rwa [marks_len] at h
  have HA := Lib.hid hat
  clear hat hown
  go_enter Tryd.func18, Tryd.ntmps18
  go_wp2
  go_loop [1, 5] (fun x i => ∃ (j : Nat) (K : Int), j ≤ n ∧ i = .int .i64 j ∧ x = .int .i64 K ∧ Hid (K = (k0 : Int) + 2 * j) ∧ 0 ≤ K ∧ K ≤ 1000000000) (fun _ i => n - (intOf i).toNat)
  case atStart => exact ⟨0, _, Nat.zero_le _, rfl, rfl, by show _ = _; simp, by omega, by omega⟩
  case round =>
    obtain ⟨j, K, hj, rfl, rfl, hK, _, _⟩ := hrel
    by_cases hlt : j < n
    · obtain ⟨g, rfl, z, c0, c1⟩ := HA.out j (by rw [marks_len]; exact hlt)
      rw [marks_at] at c0 c1
      have e0 : (((k0 + 2 * j : Nat) : Int)) = K := by rw [hK.out]; push_cast; rfl
      have e1 : (((k0 + 2 * j + 1 : Nat) : Int)) = K + 1 := by rw [hK.out]; push_cast; rfl
      simp only [e0, e1] at c0 c1
      clear e0 e1
      have i1 : (0 : Int) ≤ (j : Int) := by omega
      have i2 : (j : Int) < (n : Int) := by omega
      go_wp2
      go_round
      case rel => exact ⟨j + 1, K + 1 + 1, by omega, by go_num, rfl, by show _ = _; rw [hK.out]; push_cast; omega, by omega, by have := hK.out; omega⟩
      case measure => simp [intOf]; omega
    · obtain rfl : j = n := by omega
      go_wp2
      go_ret
      exact ⟨by show Ending.returned (.int .i64 K) = _; rw [hK.out], rfl⟩
/-- Rows of rows of moves, wherever they lie. -/
def NsAt (w : World) (A : Option Addr) (PS : List (List (Int × Int))) : Prop :=
  ∀ k (h : k < PS.length), ∃ g B c, A = some ⟨g, 0, none⟩ ∧ g < w.heap.size ∧ w.cell? ⟨g, k, none⟩ = some (.slice B PS[k].length c) ∧ MvAt w B PS[k]
theorem NsAt.below {w w' : World} {A : Option Addr} {PS : List (List (Int × Int))} (h : NsAt w A PS) (hb : Below w.heap.size w w') : NsAt w' A PS := by
  intro k hk
  obtain ⟨g, B, c, a, b, d, e⟩ := h k hk
  exact ⟨g, B, c, a, Nat.lt_of_lt_of_le b hb.size, (hb.cell (p := ⟨g, k, none⟩) b).trans d, e.below hb⟩
theorem PlW.ns {W : World} {base : Nat} {vp : Value} {vs : List Value} {PS : List (List (Int × Int))} (h : PlW W base vp vs PS) : ∃ A cap, vp = .slice A PS.length cap ∧ NsAt W A PS := by
  have hl := h.len
  rcases h.out.2 with ⟨hv, h0⟩ | ⟨g, cap, cur, hv, hb, hg, _⟩
  · exact ⟨none, 0, by rw [hv, ← hl, h0], fun k hk => by omega⟩
  · refine ⟨_, cap, by rw [hv, hl], fun k hk => ?_⟩
    have hk2 : k < vs.length := by omega
    have hin := h.inn k vs[k] PS[k] (List.getElem?_eq_getElem hk2) (List.getElem?_eq_getElem hk)
    obtain ⟨B, c, e, hat⟩ := at_of_own hin
    subst hv
    have hc := (h.out.cellAt k (by omega)).trans (List.getElem?_eq_getElem hk2)
    rw [e] at hc
    exact ⟨g, B, c, rfl, (h.out.lt g rfl).2, hc, hat⟩
set_option maxRecDepth 100000 in
set_option maxHeartbeats 2000000 in
theorem eqMoveSS_same (PS : List (List (Int × Int))) (A1 A2 : Option Addr) (c1 c2 : Nat) (w : World) (h1 : NsAt w A1 PS) (h2 : NsAt w A2 PS) (hl : PS.length ≤ 2000000) (he : ∀ p ∈ PS, p.length ≤ 2000000) :
    Calls Tryd.prog 6 #[.slice A1 PS.length c1, .slice A2 PS.length c2] w fun e w' => e = .returned (.bool true) ∧ Below w.heap.size w w' := by
  have H1 := Lib.hid h1
  have H2 := Lib.hid h2
  have HE := Lib.hid he
  clear h1 h2 he
  go_enter Tryd.func6, Tryd.ntmps6
  go_wp2
  go_loopw [5] (fun i wr => ∃ k : Nat, k ≤ PS.length ∧ i = .int .i64 k ∧ Below w.heap.size w wr) (fun i _ => PS.length - (intOf i).toNat)
  case atStart => exact ⟨0, Nat.zero_le _, rfl, Below.refl _ _⟩
  case round =>
    obtain ⟨k, hk, rfl, hB⟩ := hrel
    by_cases hlt : k < PS.length
    · obtain ⟨g, B, d, rfl, z1, p1, m1⟩ := (H1.out.below hB) k hlt
      obtain ⟨g', B', d', rfl, z2, p2, m2⟩ := (H2.out.below hB) k hlt
      have hle := HE.out PS[k] (List.getElem_mem hlt)
      have HQ : Hid (∀ wx, Below wr.heap.size wr wx → Calls Tryd.prog 16 #[.slice B PS[k].length d, .slice B' PS[k].length d'] wx fun e w' => e = .returned (.bool true) ∧ Below wx.heap.size wx w') := Lib.hid fun wx hb => eqMoveS_same _ _ _ _ _ _ (m1.below hb) (m2.below hb) hle
      generalize PS[k].length = q at p1 p2 HQ
      have i1 : (0 : Int) ≤ (k : Int) := by omega
      have i2 : (k : Int) < (PS.length : Int) := by omega
      clear m1 m2 hle
      go_wp2
      go_region_held3 (fun w' => w'.cell? ⟨g, k, none⟩ = some (.slice B q d) ∧ w'.cell? ⟨g', k, none⟩ = some (.slice B' q d')) (first | exact ⟨p1, p2⟩ | exact ⟨(hb.cell z1).trans p1, (hb.cell z2).trans p2⟩) (first | (go_at_call 16; refine (HQ.out _ (by repeat first | with_reducible exact Below.refl _ _ | with_reducible refine Below.drew ?_)).mono ?_; rintro e w' ⟨rfl, hb⟩))
      go_wp2
      go_roundw
      case rel => exact ⟨k + 1, by omega, by go_num, (Below.drew hB).trans (hb.mono hB.size)⟩
      case measure => simp [intOf]; omega
    · go_wp2
      go_ret
      exact ⟨rfl, hB⟩
end Go.Proofs.YtfiifjcjmnhbnaaDoor
