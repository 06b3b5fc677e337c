/- The walk of the law on exchanges told from their ends. -/
import Derived.Test.YticdhapbkfbhjaaSwapD
namespace Go.Proofs.Yticdhapbkfbhjaa
open Go.RowKit

theorem at_own {w : World} {base : Nat} {A : Option Addr} {cap : Nat} {l : List (Int × Int)} (h : w.ownsRow base 53 2 (.slice A l.length cap) l.length (flat l)) : MvAt w A l := by
  obtain ⟨A', cap', e, h⟩ := at_of_own h
  injection e with e1 _ e2
  subst e1
  exact h
theorem back_short {t g f : Int} {l L : List (Int × Int)} (h : (if isEx t g f l then backL l else []) = L) : L.length ≤ 100 := by
  subst h
  split
  · rename_i hx
    have ha : askM t g f l.length = true := by unfold isEx at hx; rw [Bool.and_eq_true] at hx; exact hx.1
    rw [backL_len]
    exact (askM_in ha).2
  · simp

set_option maxRecDepth 100000 in
set_option maxHeartbeats 4000000 in
theorem walk_FnExactBackExchange (t : Int) (_ : (Lit.int .i64 t).wf = true) (g : Int) (_ : (Lit.int .i64 g).wf = true) (f : Int) (_ : (Lit.int .i64 f).wf = true) (A : Option Addr) (n c : Nat) (l : List (Int × Int)) (w : World) (hin : n = l.length ∧ n ≤ maxLen ∧ MvIn w A l) :
    Calls Try.prog 7 #[.int .i64 t, .int .i64 g, .int .i64 f, .slice A n c] w fun e w' => e = .returned (.bool true) ∧ Below w.heap.size w w' := by
  obtain ⟨rfl, hmax, hin⟩ := hin
  have HI := Lib.hid hin
  clear hin
  by_cases hl : 1048576 < l.length
  · go_enter Try.func7, Try.ntmps7
    go_wp2_with fail
    refine (szMoveS_any _ _ _ _ hmax).mono ?_
    rintro e w1 ⟨rfl, rfl⟩
    rw [if_pos hl]
    go_wp2
    go_ret
    exact ⟨rfl, Below.refl _ _⟩
  · have hln : l.length ≤ 2000000 := by omega
    have hnn : ¬ (1048576 : Int) - (l.length : Int) < 0 := by omega
    obtain ⟨L, hLe⟩ : ∃ L, (if isEx t g f l then backL l else []) = L := ⟨_, rfl⟩
    have hL := back_short hLe
    have HL := Lib.hid hLe
    obtain ⟨b, hb⟩ : ∃ b, isEx t g f l = b := ⟨_, rfl⟩
    have HB := Lib.hid hb
    clear hLe hb
    go_enter Try.func7, Try.ntmps7
    go_wp2_with fail
    refine (szMoveS_any _ _ _ _ hmax).mono ?_
    rintro e w1 ⟨rfl, rfl⟩
    rw [if_neg hl]
    go_wp2_with fail
    refine (toMoveS_any l A c _ HI.out hln).mono ?_
    rintro e w1 ⟨rfl, ho1, hb1⟩
    have AT1 := Lib.hid (at_own ho1)
    clear ho1
    go_wp2_with fail
    refine (sBackExchange_any t g f l _ _ _ hln AT1.out.into).mono ?_
    rintro e w2 ⟨v0, rfl, ho2, hb2⟩
    rw [HL.out] at ho2
    rw [HB.out]
    have hB2 := hb1.trans (hb2.mono hb1.size)
    have H2 := Lib.hid (HI.out.below hB2)
    obtain ⟨A0, cap0, rfl, _⟩ := at_of_own ho2
    have L0 : Hid (∀ k, (Value.slice A0 L.length cap0).ownBlock = some k → k < w2.heap.size) := fun k e => (ho2.lt k e).2
    have O0 := Lib.hid ho2
    have z1 := hb1.size
    have z2 := hb2.size
    have HI0 := HI
    clear hb1 hb2 AT1 HI ho2
    go_wp2_with fail
    refine (toMoveS_any l A c _ H2.out hln).mono ?_
    rintro e w3 ⟨rfl, ho3, hb3⟩
    have AT3 := Lib.hid (at_own ho3)
    have O3 := Lib.hid ho3
    have O0 := Lib.hid (own_below O0.out hb3)
    have hB3 := hB2.trans (hb3.mono hB2.size)
    have H3 := Lib.hid (H2.out.below hb3)
    have z3 : w2.heap.size < w3.heap.size := (ho3.lt w2.heap.size rfl).2
    clear ho3 hb3 hB2 H2
    go_wp2_with fail
    refine (backExchange_any t g f l _ _ _ hln AT3.out.into).mono ?_
    rintro e w4 ⟨v4, rfl, ho4, hb4⟩
    rw [HL.out] at ho4
    rw [HB.out]
    obtain ⟨A4, cap4, rfl, _⟩ := at_of_own ho4
    have L4 : Hid (∀ k, (Value.slice A4 L.length cap4).ownBlock = some k → w3.heap.size ≤ k) := fun k e => (ho4.lt k e).1
    have O4 := Lib.hid ho4
    have O3 := Lib.hid (own_below O3.out hb4)
    have O0 := Lib.hid (own_below O0.out hb4)
    have hB4 := hB3.trans (hb4.mono hB3.size)
    have H4 := Lib.hid (H3.out.below hb4)
    have z4 := hb4.size
    clear ho4 hb4 hB3 H3 AT3
    go_wp2_with fail
    refine (eqMoveS_same L _ _ _ _ _ (at_own O4.out) (at_own O0.out) (by omega)).mono ?_
    rintro e w5 ⟨rfl, hb5⟩
    have O4 := Lib.hid (own_below O4.out hb5)
    have O3 := Lib.hid (own_below O3.out hb5)
    have O0 := Lib.hid (own_below O0.out hb5)
    have hB5 := hB4.trans (hb5.mono hB4.size)
    have H5 := Lib.hid (H4.out.below hb5)
    have z5 := hb5.size
    clear hb5 hB4 H4
    go_wp2_with fail
    refine (toMoveS_any l A c _ H5.out hln).mono ?_
    rintro e w6 ⟨rfl, ho6, hb6⟩
    have AT6 := Lib.hid (at_own ho6)
    have O4 := Lib.hid (own_below O4.out hb6)
    have O3 := Lib.hid (own_below O3.out hb6)
    have O0 := Lib.hid (own_below O0.out hb6)
    have hB6 := hB5.trans (hb6.mono hB5.size)
    have H6 := Lib.hid (H5.out.below hb6)
    have z6 := hb6.size
    clear ho6 hb6 hB5 H5
    go_wp2_with fail
    refine (eqMoveS_same l _ _ _ _ _ (at_own O3.out) AT6.out hln).mono ?_
    rintro e w7 ⟨rfl, hb7⟩
    have O4 := Lib.hid (own_below O4.out hb7)
    have O3 := Lib.hid (own_below O3.out hb7)
    have O0 := Lib.hid (own_below O0.out hb7)
    have hB7 := hB6.trans (hb7.mono hB6.size)
    have H7 := Lib.hid (H6.out.below hb7)
    have z7 := hb7.size
    clear hb7 hB6 H6 AT6
    go_wp2_with fail
    refine (markMoveS_far l.length 1 w2.heap.size l _ _ rfl O3.out hln (by omega)).mono ?_
    rintro e w8 ⟨rfl, _, hb8, hf8⟩
    have O4 : Hid (w8.ownsRow w3.heap.size 53 2 (.slice A4 L.length cap4) L.length (flat L)) := own_farB O4.out hf8 (fun k e e2 => by
      have := L4.out k e
      simp [Value.ownBlock] at e2
      omega)
    have O0 : Hid (w8.ownsRow w1.heap.size 53 2 (.slice A0 L.length cap0) L.length (flat L)) := own_farB O0.out hf8 (fun k e e2 => by
      have := L0.out k e
      simp [Value.ownBlock] at e2
      omega)
    have hB8 := hB7.trans (hb8.mono (by omega))
    have H8 : Hid (MvIn w8 A l) := by
      intro k hk
      obtain ⟨gg, o, e, hg, _, _⟩ := HI0.out k hk
      obtain ⟨g7, o7, e7, hg7, x7, y7⟩ := H7.out k hk
      rw [e] at e7
      injection e7 with e7
      injection e7 with e1 e2
      subst e1
      subst e2
      have hg2 : gg < w2.heap.size := by omega
      exact ⟨gg, o, e, Nat.lt_of_lt_of_le hg7 hf8.1, (hb8.cell (p := ⟨gg, o + k * 2, none⟩) hg2).trans x7, (hb8.cell (p := ⟨gg, o + k * 2 + 1, none⟩) hg2).trans y7⟩
    have z8 := hf8.1
    clear hb8 hf8 hB7 H7 O3
    go_wp2_with fail
    refine (eqMoveS_same L _ _ _ _ _ (at_own O4.out) (at_own O0.out) (by omega)).mono ?_
    rintro e w9 ⟨rfl, hb9⟩
    have O4 := Lib.hid (own_below O4.out hb9)
    have O0 := Lib.hid (own_below O0.out hb9)
    have hB9 := hB8.trans (hb9.mono hB8.size)
    have H9 := Lib.hid (H8.out.below hb9)
    have z9 := hb9.size
    clear hb9 hB8 H8
    go_wp2_with fail
    refine (markMoveS_any L.length 1 w3.heap.size L _ _ rfl O4.out (by omega) (by omega)).mono ?_
    rintro e w10 ⟨rfl, ho10, hb10⟩
    have O4 := Lib.hid ho10
    have O0 : Hid (w10.ownsRow w1.heap.size 53 2 (.slice A0 L.length cap0) L.length (flat L)) := by
      refine ⟨O0.out.1, ?_⟩
      rcases O0.out.2 with h2 | ⟨gg, cap, cur, e, hb, hg, r⟩
      · exact .inl h2
      · refine .inr ⟨gg, cap, cur, e, hb, (hb10.block gg ?_).trans hg, r⟩
        have := L0.out gg (by rw [e]; rfl)
        omega
    have hB10 := hB9.trans (hb10.mono (by omega))
    have H10 : Hid (MvIn w10 A l) := by
      intro k hk
      obtain ⟨gg, o, e, hg, _, _⟩ := HI0.out k hk
      obtain ⟨g7, o7, e7, hg7, x7, y7⟩ := H9.out k hk
      rw [e] at e7
      injection e7 with e7
      injection e7 with e1 e2
      subst e1
      subst e2
      have hg2 : gg < w3.heap.size := by omega
      exact ⟨gg, o, e, Nat.lt_of_lt_of_le hg7 hb10.size, (hb10.cell (p := ⟨gg, o + k * 2, none⟩) hg2).trans x7, (hb10.cell (p := ⟨gg, o + k * 2 + 1, none⟩) hg2).trans y7⟩
    clear ho10 hb10 hB9 H9
    go_wp2_with fail
    refine (heldMoveS_any L.length 1 w3.heap.size _ _ O4.out (by omega) (by omega)).mono ?_
    rintro e wz ⟨rfl, rfl⟩
    go_wp2_with fail
    refine (toMoveS_any l A c _ H10.out hln).mono ?_
    rintro e w11 ⟨rfl, ho11, hb11⟩
    have AT11 := Lib.hid (at_own ho11)
    have O4 := Lib.hid (own_below O4.out hb11)
    have O0 := Lib.hid (own_below O0.out hb11)
    have hB11 := hB10.trans (hb11.mono hB10.size)
    clear ho11 hb11 hB10 H10
    go_wp2_with fail
    refine (backExchange_any t g f l _ _ _ hln AT11.out.into).mono ?_
    rintro e w12 ⟨v12, rfl, ho12, hb12⟩
    rw [HL.out] at ho12
    rw [HB.out]
    obtain ⟨A12, cap12, rfl, _⟩ := at_of_own ho12
    have AT12 := Lib.hid (at_own ho12)
    have O4 := Lib.hid (own_below O4.out hb12)
    have O0 := Lib.hid (own_below O0.out hb12)
    have hB12 := hB11.trans (hb12.mono hB11.size)
    clear ho12 hb12 hB11 AT11
    go_wp2_with fail
    refine (eqMoveS_same L _ _ _ _ _ AT12.out (at_own O0.out) (by omega)).mono ?_
    rintro e w13 ⟨rfl, hb13⟩
    have O4 := Lib.hid (own_below O4.out hb13)
    have hB13 := hB12.trans (hb13.mono hB12.size)
    clear hb13 hB12 O0 AT12
    go_wp2_with fail
    refine (heldMoveS_any L.length 1 w3.heap.size _ _ O4.out (by omega) (by omega)).mono ?_
    rintro e wz ⟨rfl, rfl⟩
    go_wp2
    go_ret
    exact ⟨rfl, hB13⟩
end Go.Proofs.Yticdhapbkfbhjaa
