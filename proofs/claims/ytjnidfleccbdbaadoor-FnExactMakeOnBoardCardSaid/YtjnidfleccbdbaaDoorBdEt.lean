/- Contracts: BoardMoves and IsBoardBlocked of the model; their laws' walks. -/
import Derived.Test.YtjnidfleccbdbaaDoorBdEs
import Derived.Test.YtjnidfleccbdbaaDoorBdMw
import Derived.Test.YtjnidfleccbdbaaDoorWalkV
namespace Go.Proofs.YtjnidfleccbdbaaDoor
open Go.RowKit

theorem good_R {l : List UInt8} (h : goodB l = true) : GoodR (spl l) ((spl l).headD []).length := by
  obtain ⟨g1, g2, g3, g4, _⟩ := good_size h
  obtain ⟨_, h2⟩ := (boOk_iff _).1 h
  exact ⟨fun r hr => (h2 r hr).2.2, ⟨g1, g2⟩, ⟨g3, g4⟩, fun r hr => (h2 r hr).1, cols_goodL h⟩
theorem bmT_is {l : List UInt8} (h : goodB l = true) : bmT l = bmS (spl l) ((spl l).headD []).length ((spl l).length * ((spl l).headD []).length) ((spl l).length * ((spl l).headD []).length) := bm_same (good_R h)
theorem bmT_le (l : List UInt8) (h : goodB l = true) : (bmT l).length ≤ 1000 := by
  rw [bmT_is h]
  have G := good_R h
  have a := bmS_len (spl l) ((spl l).headD []).length ((spl l).length * ((spl l).headD []).length) ((spl l).length * ((spl l).headD []).length)
  have b : (spl l).length * ((spl l).headD []).length ≤ 5 * 5 := Nat.mul_le_mul G.hh.2 G.hw.2
  have c : ((spl l).length * ((spl l).headD []).length) * ((spl l).length * ((spl l).headD []).length) ≤ 25 * 25 := Nat.mul_le_mul b b
  omega

set_option maxRecDepth 100000 in
set_option maxHeartbeats 2000000 in
theorem sBoardMoves_any (s : ByteArray) (w : World) (hs : s.size ≤ maxLen) :
    Calls Tryd.prog 18 #[.string s] w (BmAns w (goodB (byt s)) (bmT (byt s))) := by
  have HR := Lib.hid (fun wx => boRows_any s wx hs)
  cases hc : goodB (byt s)
  · rw [hc] at HR
    clear hc
    go_enter Tryd.func18, Tryd.ntmps18
    go_wp2_with fail
    refine (HR.out _).mono ?_
    rintro e w1 (⟨h, _⟩ | ⟨_, rfl, hb1⟩)
    · cases h
    go_wp2
    go_ret2
    exact ⟨_, rfl, ⟨rfl, .inl ⟨rfl, rfl⟩⟩, hb1⟩
  · have G := good_R hc
    rw [bmT_is hc]
    rw [hc] at HR
    have HM := Lib.hid (fun A cap wx (h : StAt wx A (spl (byt s))) => boMoves_any (spl (byt s)) ((spl (byt s)).headD []).length A cap wx h G.hh.1 G.hh.2 G.hw.1 G.hw.2 G.hl)
    clear hc G
    generalize ((spl (byt s)).headD []).length = wd at HM ⊢
    generalize bmS (spl (byt s)) wd ((spl (byt s)).length * wd) ((spl (byt s)).length * wd) = M at HM ⊢
    generalize spl (byt s) = R at HM HR
    go_enter Tryd.func18, Tryd.ntmps18
    go_wp2_with fail
    refine (HR.out _).mono ?_
    rintro e w1 (⟨_, A, cap, rfl, hcap, hA, hb1⟩ | ⟨h, _⟩)
    rotate_left
    · cases h
    have HA := Lib.hid hA
    have HB := Lib.hid hb1
    clear hA hb1
    go_wp2_with fail
    refine (HM.out _ _ _ HA.out).mono ?_
    rintro e w2 ⟨v, rfl, o2, hb2⟩
    have HO := Lib.hid (own_lowerB o2 HB.out.size)
    have HB2 := Lib.hid (HB.out.trans (hb2.mono HB.out.size))
    clear o2 hb2
    go_wp2_with fail
    go_ret2
    exact ⟨v, rfl, HO.out, HB2.out⟩
set_option maxRecDepth 100000 in
set_option maxHeartbeats 2000000 in
theorem sIsBoardBlocked_any (s : ByteArray) (w : World) (hs : s.size ≤ maxLen) :
    Calls Tryd.prog 28 #[.string s] w fun e w' => e = .returned (.tuple #[.bool (goodB (byt s) && (bmT (byt s)).length == 0), .bool (goodB (byt s))]) ∧ Below w.heap.size w w' := by
  have HR := Lib.hid (fun wx => boRows_any s wx hs)
  cases hc : goodB (byt s)
  · rw [hc] at HR
    clear hc
    go_enter Tryd.func28, Tryd.ntmps28
    go_wp2_with fail
    refine (HR.out _).mono ?_
    rintro e w1 (⟨h, _⟩ | ⟨_, rfl, hb1⟩)
    · cases h
    go_wp2
    go_ret2
    exact ⟨rfl, hb1⟩
  · have G := good_R hc
    rw [bmT_is hc]
    rw [hc] at HR
    have HM := Lib.hid (fun A cap wx (h : StAt wx A (spl (byt s))) => boMoves_any (spl (byt s)) ((spl (byt s)).headD []).length A cap wx h G.hh.1 G.hh.2 G.hw.1 G.hw.2 G.hl)
    clear hc G
    generalize ((spl (byt s)).headD []).length = wd at HM ⊢
    generalize bmS (spl (byt s)) wd ((spl (byt s)).length * wd) ((spl (byt s)).length * wd) = M at HM ⊢
    generalize spl (byt s) = R at HM HR
    have HQ : Hid (((M.length : Int) == 0) = (M.length == 0)) := Lib.hid (by cases M <;> simp <;> omega)
    go_enter Tryd.func28, Tryd.ntmps28
    go_wp2_with fail
    refine (HR.out _).mono ?_
    rintro e w1 (⟨_, A, cap, rfl, hcap, hA, hb1⟩ | ⟨h, _⟩)
    rotate_left
    · cases h
    have HA := Lib.hid hA
    have HB := Lib.hid hb1
    clear hA hb1
    go_wp2_with fail
    refine (HM.out _ _ _ HA.out).mono ?_
    rintro e w2 ⟨v, rfl, o2, hb2⟩
    obtain ⟨p, a, c, e2⟩ := own_slice o2
    have hl2 : ∃ p c, v = .slice p M.length c := by
      rcases o2.2 with ⟨hv, h0⟩ | ⟨g1, cap1, cur, rfl, hb, hh, hn, hm, hs, ht⟩
      · exact ⟨none, 0, by rw [hv]; simp at h0; simp [h0]⟩
      · exact ⟨_, _, rfl⟩
    clear e2
    obtain ⟨p, c, rfl⟩ := hl2
    have HB2 := Lib.hid (HB.out.trans (hb2.mono HB.out.size))
    clear o2 hb2
    go_wp2_with fail
    go_ret2
    refine ⟨?_, HB2.out⟩
    rw [Bool.true_and, ← HQ.out]
    rfl
/-- The moves that a text answers, or none. -/
def bmOr (l : List UInt8) : List (Int × Int) := if goodB l then bmT l else []
theorem bmOr_le (l : List UInt8) : (bmOr l).length ≤ 1000 := by
  unfold bmOr
  cases h : goodB l
  · simp
  · exact bmT_le l h
theorem sBM_any (s : ByteArray) (w : World) (hs : s.size ≤ maxLen) : Calls Tryd.prog 18 #[.string s] w (MvAns w (goodB (byt s)) (bmOr (byt s))) := sBoardMoves_any s w hs
theorem iBM_any (s : ByteArray) (w : World) (hs : s.size ≤ 2000000) : Calls Tryd.prog 19 #[.string s] w (MvAns w (goodB (byt s)) (bmOr (byt s))) := BoardMoves_any s w hs
set_option maxRecDepth 100000 in
set_option maxHeartbeats 4000000 in
theorem walk_FnExactBoardMoves (s : ByteArray) (hs : s.size ≤ maxLen) (w : World) :
    Calls Tryd.prog 5 #[.string s] w fun e w' => e = .returned (.bool true) ∧ Below w.heap.size w w' := by
  by_cases hbig0 : (1048576 : Int) < (s.size : Int)
  · go_enter Tryd.func5, Tryd.ntmps5
    go_wp2
    go_ret
    exact ⟨rfl, Below.refl _ _⟩
  · skip
    have hle : (bmOr (byt s)).length ≤ 1000 := bmOr_le _
    have HS0 := Lib.hid (fun wx => sBM_any s wx hs)
    have HM0 := Lib.hid (fun wx => iBM_any s wx (by omega))
    generalize bmOr (byt s) = l at HS0 HM0 hle
    generalize goodB (byt s) = c at HS0 HM0
    go_enter Tryd.func5, Tryd.ntmps5
    go_wp2_with fail
    refine (HS0.out _).mono ?_
    rintro e w1 ⟨v1, rfl, ho1, hb1⟩
    go_wp2_with fail
    refine (HM0.out _).mono ?_
    rintro e w2 ⟨v2, rfl, ho2, hb2⟩
    have HM := HM0
    obtain ⟨A1, cap1, rfl, at1⟩ := at_of_own ho1
    have at1b := at1.below hb2
    obtain ⟨A2, cap2, rfl, at2⟩ := at_of_own ho2
    have AT1 := Lib.hid at1b
    have AT2 := Lib.hid at2
    have HO2 := Lib.hid ho2
    have hB2 := hb1.trans (hb2.mono hb1.size)
    have hsz1 := hb1.size
    have lt1 : ∀ g, A1 = some ⟨g, 0, none⟩ → 0 < l.length → g < w1.heap.size := by
      intro g hg hl
      obtain ⟨g', e, z, _⟩ := at1 0 hl
      rw [hg] at e
      injection e with e
      injection e with e
      omega
    have LT1 := Lib.hid lt1
    clear at1 at1b at2 ho1 ho2 hb1 lt1
    go_wp2_with fail
    refine (eqMoveS_same l A2 A1 cap2 cap1 _ AT2.out AT1.out (by omega)).mono ?_
    rintro e w3 ⟨rfl, hb3⟩
    have ho3 := own_below HO2.out hb3
    have at3 := Lib.hid (AT1.out.below hb3)
    have hB3 := hB2.trans (hb3.mono hB2.size)
    have hB13 := hb2.trans (hb3.mono hb2.size)
    clear HO2 AT1 AT2 hb3 hb2 hB2
    go_wp2_with fail
    refine (markMoveS_any l.length 1 w1.heap.size l _ _ rfl ho3 (by omega) (by omega)).mono ?_
    rintro e w4 ⟨rfl, ho4, hb4⟩
    have hB4 := hB3.trans (hb4.mono hsz1)
    have HO4 := Lib.hid ho4
    have at4 : Hid (MvAt w4 A1 l) := by
      intro k hk
      obtain ⟨g, a, b, c, d⟩ := at3.out k hk
      have hg := LT1.out g a (by omega)
      exact ⟨g, a, Nat.lt_of_lt_of_le b hb4.size, (hb4.cell (p := ⟨g, k * 2, none⟩) hg).trans c, (hb4.cell (p := ⟨g, k * 2 + 1, none⟩) hg).trans d⟩
    clear ho3 at3 hB3 hB13 ho4 hb4
    go_wp2_with fail
    refine (heldMoveS_any l.length 1 w1.heap.size _ _ HO4.out (by omega) (by omega)).mono ?_
    rintro e w4' ⟨rfl, rfl⟩
    go_wp2_with fail
    refine (HM.out _).mono ?_
    rintro e w5 ⟨v5, rfl, ho5, hb5⟩
    obtain ⟨A5, cap5, rfl, at5⟩ := at_of_own ho5
    have AT5 := Lib.hid at5
    have AT1 := Lib.hid (at4.out.below hb5)
    have HO5 := Lib.hid (own_below HO4.out hb5)
    have hB5 := hB4.trans (hb5.mono hB4.size)
    clear ho5 at5 hb5 at4 HO4 hB4
    go_wp2_with fail
    refine (eqMoveS_same l A5 A1 cap5 cap1 _ AT5.out AT1.out (by omega)).mono ?_
    rintro e w6 ⟨rfl, hb6⟩
    have ho6 := Lib.hid (own_below HO5.out hb6)
    have hB6 := hB5.trans (hb6.mono hB5.size)
    clear AT5 AT1 HO5 hb6 hB5
    go_wp2_with fail
    refine (heldMoveS_any l.length 1 w1.heap.size _ _ ho6.out (by omega) (by omega)).mono ?_
    rintro e w6' ⟨rfl, rfl⟩
    go_wp2
    go_ret
    exact ⟨rfl, hB6⟩

set_option maxRecDepth 100000 in
set_option maxHeartbeats 2000000 in
theorem walk_FnExactIsBoardBlocked (s : ByteArray) (hs : s.size ≤ maxLen) (w : World) :
    Calls Tryd.prog 8 #[.string s] w fun e w' => e = .returned (.bool true) ∧ Below w.heap.size w w' := by
  by_cases hbig0 : (1048576 : Int) < (s.size : Int)
  · go_enter Tryd.func8, Tryd.ntmps8
    go_wp2
    go_ret
    exact ⟨rfl, Below.refl _ _⟩
  · skip
    have HS := Lib.hid (fun wx => sIsBoardBlocked_any s wx hs)
    have HM := Lib.hid (fun wx => IsBoardBlocked_any s wx (by omega))
    obtain ⟨x, y, hxy⟩ : ∃ x y, Value.tuple #[.bool (goodB (byt s) && (bmT (byt s)).length == 0), .bool (goodB (byt s))] = .tuple #[.bool x, .bool y] := ⟨_, _, rfl⟩
    rw [hxy] at HS HM
    clear hxy
    go_enter Tryd.func8, Tryd.ntmps8
    go_wp2_with fail
    refine (HS.out _).mono ?_
    rintro e w1 ⟨rfl, hb1⟩
    go_wp2_with fail
    refine (HM.out _).mono ?_
    rintro e w2 ⟨rfl, hb2⟩
    go_wp2
    go_ret
    exact ⟨rfl, hb1.trans (hb2.mono hb1.size)⟩
end Go.Proofs.YtjnidfleccbdbaaDoor
