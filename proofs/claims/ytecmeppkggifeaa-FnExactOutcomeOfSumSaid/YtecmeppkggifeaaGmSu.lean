/- The laws' walks: who wins a sum, and its outcome. -/
import Derived.Test.YtecmeppkggifeaaGmY
import Derived.Test.YtecmeppkggifeaaRowS
namespace Go.Proofs.Ytecmeppkggifeaa
open Go.RowKit Go.Maps Go.Shelf

theorem own_st {w : World} {base g n cap : Nat} {l : List (List UInt8)} (h : w.ownsRow base 9 1 (.slice (some ⟨g, 0, none⟩) n cap) l.length (txs l)) : StAt w (some ⟨g, 0, none⟩) l := by
  obtain ⟨A, c, e, _, _, hs, _, _⟩ := st_own h
  injection e with e _ _
  rw [e]
  exact hs

set_option maxRecDepth 100000 in
set_option maxHeartbeats 4000000 in
theorem walk_FnExactWinsSum (a : Option Addr) (len cap : Nat) (ls : List (List UInt8)) (tm : Bool) (w : World) (hh : len = ls.length ∧ len ≤ maxLen ∧ StO w a ls ∧ ∀ x ∈ ls, x.length ≤ maxLen) :
    Calls Try.prog 8 #[.slice a len cap, .bool tm] w fun e w' => e = .returned (.bool true) ∧ Below w.heap.size w w' := by
  obtain ⟨rfl, hm, hA, hsz⟩ := hh
  have HSZ := Lib.hid (szStringS_any ls a cap w hA hm hsz)
  have HA := Lib.hid hA
  clear hA hsz
  go_enter Try.func8, Try.ntmps8
  go_wp2_with fail
  refine HSZ.out.mono ?_
  rintro e w0 ⟨r, rfl, hr, rfl⟩
  by_cases h0 : r < 0
  · go_wp2
    go_ret
    exact ⟨rfl, Below.refl _ _⟩
  · obtain ⟨hn, hx⟩ : ls.length ≤ 1048576 ∧ ∀ x ∈ ls, x.length ≤ 1048576 := by
      rcases hr with h | h
      · exact absurd h h0
      · exact h
    have hsz : ∀ x ∈ ls, x.length ≤ maxLen := fun x h => by have := hx x h; unfold maxLen; omega
    have HTO := Lib.hid (fun wx h => toStringS_any ls a cap wx h (by omega))
    have HS := Lib.hid (fun (g : Nat) wx h1 h2 => sWinsSum_any ls (some ⟨g, 0, none⟩) ls.length tm wx h1 h2 (by omega) hsz)
    have HP := Lib.hid (fun (g : Nat) wx h1 => winsSum_any ls (some ⟨g, 0, none⟩) ls.length tm wx h1 (Nat.le_refl _) hsz)
    have HE := Lib.hid (fun (g1 g2 : Nat) wx h1 h2 => eqStringS_same ls (some ⟨g1, 0, none⟩) (some ⟨g2, 0, none⟩) ls.length ls.length wx h1 h2 (by omega))
    clear hr hx hsz
    generalize Wn tm (joinG ls) = b at HS HP
    unfold boolOr at HS HP
    generalize sumOk ls = q at HS HP
    cases q
    all_goals
      simp only [if_true, if_false, Bool.false_eq_true] at HS HP
      go_wp2_with fail
      refine (HTO.out _ HA.out).mono ?_
      rintro e w1 ⟨rfl, ho1, hb1⟩
      have hlt1 := (ho1.lt w.heap.size rfl).2
      have HS1 := Lib.hid (own_st ho1)
      have HB1 := Lib.hid hb1
      clear ho1 hb1
      go_wp2_with fail
      refine (HS.out _ _ HS1.out.toO (fun a e => by injection e with e; subst e; exact hlt1)).mono ?_
      rintro e w2 ⟨rfl, hb2⟩
      have HB2 := Lib.hid (HB1.out.trans (hb2.mono HB1.out.size))
      clear hb2
      go_wp2_with fail
      refine (HTO.out _ (HA.out.below HB2.out)).mono ?_
      rintro e w3 ⟨rfl, ho3, hb3⟩
      have HS3 := Lib.hid (own_st ho3)
      have HB3 := Lib.hid (HB2.out.trans (hb3.mono HB2.out.size))
      clear ho3 hb3
      go_wp2_with fail
      refine (HP.out _ _ HS3.out.toO).mono ?_
      rintro e w4 ⟨rfl, hb4⟩
      have HS4 := Lib.hid (HS3.out.below hb4)
      have HB4 := Lib.hid (HB3.out.trans (hb4.mono HB3.out.size))
      clear hb4
      go_wp2_with fail
      refine (HTO.out _ (HA.out.below HB4.out)).mono ?_
      rintro e w5 ⟨rfl, ho5, hb5⟩
      have HS5 := Lib.hid (own_st ho5)
      have HS45 := Lib.hid (HS4.out.below hb5)
      have HB5 := Lib.hid (HB4.out.trans (hb5.mono HB4.out.size))
      clear ho5 hb5
      go_wp2_with fail
      refine (HE.out _ _ _ HS45.out HS5.out).mono ?_
      rintro e w6 ⟨rfl, hb6⟩
      go_wp2
      go_ret
      exact ⟨rfl, HB5.out.trans (hb6.mono HB5.out.size)⟩

set_option maxRecDepth 100000 in
set_option maxHeartbeats 4000000 in
theorem walk_FnExactOutcomeOfSum (a : Option Addr) (len cap : Nat) (ls : List (List UInt8)) (w : World) (hh : len = ls.length ∧ len ≤ maxLen ∧ StO w a ls ∧ ∀ x ∈ ls, x.length ≤ maxLen) :
    Calls Try.prog 9 #[.slice a len cap] w fun e w' => e = .returned (.bool true) ∧ Below w.heap.size w w' := by
  obtain ⟨rfl, hm, hA, hsz⟩ := hh
  have HSZ := Lib.hid (szStringS_any ls a cap w hA hm hsz)
  have HA := Lib.hid hA
  clear hA hsz
  go_enter Try.func9, Try.ntmps9
  go_wp2_with fail
  refine HSZ.out.mono ?_
  rintro e w0 ⟨r, rfl, hr, rfl⟩
  by_cases h0 : r < 0
  · go_wp2
    go_ret
    exact ⟨rfl, Below.refl _ _⟩
  · obtain ⟨hn, hx⟩ : ls.length ≤ 1048576 ∧ ∀ x ∈ ls, x.length ≤ 1048576 := by
      rcases hr with h | h
      · exact absurd h h0
      · exact h
    have hsz : ∀ x ∈ ls, x.length ≤ maxLen := fun x h => by have := hx x h; unfold maxLen; omega
    have HTO := Lib.hid (fun wx h => toStringS_any ls a cap wx h (by omega))
    have HS := Lib.hid (fun (g : Nat) wx h1 h2 => sOutcomeOfSum_any ls (some ⟨g, 0, none⟩) ls.length wx h1 h2 (by omega) hsz)
    have HP := Lib.hid (fun (g : Nat) wx h1 => outcomeOfSum_any ls (some ⟨g, 0, none⟩) ls.length wx h1 (Nat.le_refl _) hsz)
    have HE := Lib.hid (fun (g1 g2 : Nat) wx h1 h2 => eqStringS_same ls (some ⟨g1, 0, none⟩) (some ⟨g2, 0, none⟩) ls.length ls.length wx h1 h2 (by omega))
    clear hr hx hsz
    generalize [outC (Wn true (joinG ls)) (Wn false (joinG ls))] = r2 at HS HP
    have hq := same_str r2 r2
    have hq0 := same_str [] []
    simp only [decide_true] at hq hq0
    unfold strOr at HS HP
    generalize sumOk ls = q at HS HP
    cases q
    all_goals
      simp only [if_true, if_false, Bool.false_eq_true] at HS HP
      go_wp2_with fail
      refine (HTO.out _ HA.out).mono ?_
      rintro e w1 ⟨rfl, ho1, hb1⟩
      have hlt1 := (ho1.lt w.heap.size rfl).2
      have HS1 := Lib.hid (own_st ho1)
      have HB1 := Lib.hid hb1
      clear ho1 hb1
      go_wp2_with fail
      refine (HS.out _ _ HS1.out.toO (fun a e => by injection e with e; subst e; exact hlt1)).mono ?_
      rintro e w2 ⟨rfl, hb2⟩
      have HB2 := Lib.hid (HB1.out.trans (hb2.mono HB1.out.size))
      clear hb2
      go_wp2_with fail
      refine (HTO.out _ (HA.out.below HB2.out)).mono ?_
      rintro e w3 ⟨rfl, ho3, hb3⟩
      have HS3 := Lib.hid (own_st ho3)
      have HB3 := Lib.hid (HB2.out.trans (hb3.mono HB2.out.size))
      clear ho3 hb3
      go_wp2_with fail
      refine (HP.out _ _ HS3.out.toO).mono ?_
      rintro e w4 ⟨rfl, hb4⟩
      have HS4 := Lib.hid (HS3.out.below hb4)
      have HB4 := Lib.hid (HB3.out.trans (hb4.mono HB3.out.size))
      clear hb4
      go_wp2_with fail
      refine (HTO.out _ (HA.out.below HB4.out)).mono ?_
      rintro e w5 ⟨rfl, ho5, hb5⟩
      have HS5 := Lib.hid (own_st ho5)
      have HS45 := Lib.hid (HS4.out.below hb5)
      have HB5 := Lib.hid (HB4.out.trans (hb5.mono HB4.out.size))
      clear ho5 hb5
      go_wp2_with fail
      refine (HE.out _ _ _ HS45.out HS5.out).mono ?_
      rintro e w6 ⟨rfl, hb6⟩
      go_wp2
      go_ret
      exact ⟨rfl, HB5.out.trans (hb6.mono HB5.out.size)⟩
end Go.Proofs.Ytecmeppkggifeaa
