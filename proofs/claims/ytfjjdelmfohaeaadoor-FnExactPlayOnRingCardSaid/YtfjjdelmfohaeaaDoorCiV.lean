/- A move on a ring asked and made, both sides; the walks of four laws. -/
import Derived.Test.YtfjjdelmfohaeaaDoorCiU
import Derived.Test.YtfjjdelmfohaeaaDoorCiL
import Derived.Test.YtfjjdelmfohaeaaDoorIxM
import Derived.Test.YtfjjdelmfohaeaaDoorWalkM
import Derived.Deep.RegionHeld3
namespace Go.Proofs.YtfjjdelmfohaeaaDoor
open Go.RowKit

/-- The answer on one move; the ring behind it, or none. -/
def canR (s : ByteArray) (f t : Int) : Value := .tuple #[.bool (ringB s && rgCi s f t), .bool (ringB s)]
def makR (s : ByteArray) (f t : Int) : Value := strOr (ringB s && rgCi s f t) (behind s f t)

set_option maxHeartbeats 1000000 in
theorem canOnRing_any (s : ByteArray) (f t : Int) (w : World) (hs : s.size ≤ maxLen) :
    Calls Tryd.prog 21 #[.string s, .agg #[.int .i64 f, .int .i64 t]] w fun e w' => e = .returned (canR s f t) ∧ Below w.heap.size w w' := by
  have hle := rgOr_le s
  have HM := Lib.hid (mem_rgOr s f t)
  go_enter Tryd.func21, Tryd.ntmps21
  go_wp2_with fail
  refine (ringMoves_any s _ hs).mono ?_
  rintro e w1 ⟨v, rfl, ho, hb⟩
  obtain ⟨A, cap, rfl, hat⟩ := at_of_own ho
  have HAT := Lib.hid hat
  obtain ⟨hcell, _⟩ := bcell hb
  have d0 : w1.cell? ⟨w.heap.size, 0, none⟩ = some (.int .i64 f) := by rw [hcell _ _ (by simp), World.cell?_alloc_new]; rfl
  have d1 : w1.cell? ⟨w.heap.size, 1, none⟩ = some (.int .i64 t) := by rw [hcell _ _ (by simp), World.cell?_alloc_new]; rfl
  have HB := Lib.hid (((Below.refl w.heap.size w).alloc (Nat.le_refl _) (mvB f t)).trans (hb.mono (by simp)))
  clear ho hb hat hcell
  generalize rgOr s = L at HAT HM hle
  go_wp2_with fail
  refine (containsMv_any L A cap f t _ HAT.out (by omega)).mono ?_
  rintro e w2 ⟨r, rfl, hr, hb2⟩
  have HR : Hid (r = (ringB s && rgCi s f t)) := Lib.hid (by rw [Bool.eq_iff_iff, hr, HM.out])
  have HB2 := Lib.hid (HB.out.trans (hb2.mono HB.out.size))
  clear hr hb2 HB
  go_wp2
  go_ret2
  exact ⟨by rw [HR.out]; rfl, HB2.out⟩

set_option maxHeartbeats 1000000 in
theorem sCanOnRing_any (s : ByteArray) (f t : Int) (w : World) (hs : s.size ≤ maxLen) :
    Calls Tryd.prog 19 #[.string s, .agg #[.int .i64 f, .int .i64 t]] w fun e w' => e = .returned (canR s f t) ∧ Below w.heap.size w w' := by
  cases hc : ringB s
  · have hC := Lib.hid hc
    have hR : Hid (canR s f t = .tuple #[.bool false, .bool false]) := Lib.hid (by unfold canR; rw [hc]; rfl)
    clear hc
    go_enter Tryd.func19, Tryd.ntmps19
    go_wp2_with (go_at_call 45; refine (ciGood_any _ _ hs).mono ?_; rintro e w' ⟨rfl, rfl⟩; rw [hC.out])
    go_ret2
    exact ⟨by rw [hR.out]; rfl, (Below.refl _ _).alloc (Nat.le_refl _) _⟩
  · obtain ⟨h3, h9⟩ := ring_sz hc
    have hC := Lib.hid hc
    have hR : Hid (canR s f t = .tuple #[.bool (rgCi s f t), .bool true]) := Lib.hid (by unfold canR; rw [hc]; rfl)
    clear hc
    go_enter Tryd.func19, Tryd.ntmps19
    go_wp2_with (go_at_call 45; refine (ciGood_any _ _ hs).mono ?_; rintro e w' ⟨rfl, rfl⟩; rw [hC.out])
    refine (ciCan_any s f t _ h3 h9).mono ?_
    rintro e w1 ⟨rfl, hb1⟩
    go_wp2
    go_ret2
    exact ⟨by rw [hR.out]; rfl, ((Below.refl _ _).alloc (Nat.le_refl _) _).trans (hb1.mono (by simp))⟩

set_option maxHeartbeats 1000000 in
theorem sMakeOnRing_any (s : ByteArray) (f t : Int) (w : World) (hs : s.size ≤ maxLen) :
    Calls Tryd.prog 22 #[.string s, .agg #[.int .i64 f, .int .i64 t]] w fun e w' => e = .returned (makR s f t) ∧ Below w.heap.size w w' := by
  cases hc : ringB s
  · have hC := Lib.hid hc
    have hR : Hid (makR s f t = .tuple #[.string (str []), .bool false]) := Lib.hid (by unfold makR; rw [hc]; rfl)
    clear hc
    go_enter Tryd.func22, Tryd.ntmps22
    go_wp2_with (go_at_call 45; refine (ciGood_any _ _ hs).mono ?_; rintro e w' ⟨rfl, rfl⟩; rw [hC.out])
    go_ret2
    exact ⟨by rw [hR.out]; rfl, (Below.refl _ _).alloc (Nat.le_refl _) _⟩
  · obtain ⟨h3, h9⟩ := ring_sz hc
    have hC := Lib.hid hc
    cases hm : rgCi s f t
    · have hM := Lib.hid hm
      have hR : Hid (makR s f t = .tuple #[.string (str []), .bool false]) := Lib.hid (by unfold makR; rw [hc, hm]; rfl)
      clear hc hm
      go_enter Tryd.func22, Tryd.ntmps22
      go_wp2_with (go_at_call 45; refine (ciGood_any _ _ hs).mono ?_; rintro e w' ⟨rfl, rfl⟩; rw [hC.out])
      refine (ciCan_any s f t _ h3 h9).mono ?_
      rintro e w1 ⟨rfl, hb1⟩
      rw [hM.out]
      go_wp2
      go_ret2
      exact ⟨by rw [hR.out]; rfl, ((Below.refl _ _).alloc (Nat.le_refl _) _).trans (hb1.mono (by simp))⟩
    · obtain ⟨a, c, rfl, rfl, ha, hc', hne, _⟩ := rgCi_in hm
      have hM := Lib.hid hm
      have hR : Hid (makR s a c = .tuple #[.string (str (putL s a c)), .bool true]) := Lib.hid (by unfold makR; rw [hc, hm]; rfl)
      clear hc hm
      go_enter Tryd.func22, Tryd.ntmps22
      go_wp2_with (go_at_call 45; refine (ciGood_any _ _ hs).mono ?_; rintro e w' ⟨rfl, rfl⟩; rw [hC.out])
      refine (ciCan_any s a c _ h3 h9).mono ?_
      rintro e w1 ⟨rfl, hb1⟩
      rw [hM.out]
      obtain ⟨hcell, _⟩ := bcell hb1
      have d0 : w1.cell? ⟨w.heap.size, 0, none⟩ = some (.int .i64 a) := by rw [hcell _ _ (by simp), World.cell?_alloc_new]; rfl
      have d1 : w1.cell? ⟨w.heap.size, 1, none⟩ = some (.int .i64 c) := by rw [hcell _ _ (by simp), World.cell?_alloc_new]; rfl
      have HB := Lib.hid (((Below.refl w.heap.size w).alloc (Nat.le_refl _) (mvB a c)).trans (hb1.mono (by simp)))
      clear hb1 hcell
      go_wp2_with fail
      refine (liMake_any s a c _ (by omega) ha hc' hne).mono ?_
      rintro e w2 ⟨rfl, hb2⟩
      have HB2 := Lib.hid (HB.out.trans (hb2.mono HB.out.size))
      clear hb2 d0 d1
      go_wp2
      go_ret2
      exact ⟨by rw [hR.out]; rfl, HB2.out⟩

theorem put_nz {s : ByteArray} (hg : (byt s).all isSign = true) (a c : Nat) (ha : a < s.size) : ∀ x ∈ putL s a c, x ≠ 0 := by
  have h0 := sign_nz hg
  intro x hx
  unfold putL at hx
  rcases List.mem_or_eq_of_mem_set hx with h | h
  · rcases List.mem_or_eq_of_mem_set h with h | h
    · exact h0 x h
    · rw [h, List.getD_eq_getElem?_getD, List.getElem?_eq_getElem (by rw [byt_len]; exact ha)]
      exact h0 _ (List.getElem_mem _)
  · rw [h]; decide

/-- The boxes of a move. -/
abbrev MvBx (W : World) (B : Nat) (f t : Int) : Prop := W.cell? ⟨B, 0, none⟩ = some (.int .i64 f) ∧ W.cell? ⟨B, 1, none⟩ = some (.int .i64 t) ∧ B < W.heap.size
theorem mvbx_below {W W' : World} {B : Nat} {f t : Int} (h : MvBx W B f t) (hb : Below W.heap.size W W') : MvBx W' B f t :=
  ⟨(hb.cell (p := ⟨B, 0, none⟩) h.2.2).trans h.1, (hb.cell (p := ⟨B, 1, none⟩) h.2.2).trans h.2.1, Nat.lt_of_lt_of_le h.2.2 hb.size⟩

set_option maxRecDepth 100000 in
set_option maxHeartbeats 2000000 in
theorem makeOnRing_any (s : ByteArray) (f t : Int) (w : World) (hs : s.size ≤ maxLen) :
    Calls Tryd.prog 23 #[.string s, .agg #[.int .i64 f, .int .i64 t]] w fun e w' => e = .returned (makR s f t) ∧ Below w.heap.size w w' := by
  cases hm : ringB s && rgCi s f t
  · have hR : Hid (makR s f t = .tuple #[.string (str []), .bool false]) := Lib.hid (by unfold makR; rw [hm]; rfl)
    have hV : Hid (canR s f t = .tuple #[.bool false, .bool (ringB s)]) := Lib.hid (by unfold canR; rw [hm])
    clear hm
    go_enter Tryd.func23, Tryd.ntmps23
    go_wp2_with fail
    refine (canOnRing_any s f t _ hs).mono ?_
    rintro e w1 ⟨rfl, hb1⟩
    rw [hV.out]
    go_wp2
    go_ret2
    exact ⟨by rw [hR.out]; rfl, ((Below.refl _ _).alloc (Nat.le_refl _) _).trans (hb1.mono (by simp))⟩
  · obtain ⟨a, c, rfl, rfl, ha, hc', hne, _⟩ := rgCi_in (Bool.and_eq_true_iff.1 hm).2
    have hrg := (Bool.and_eq_true_iff.1 hm).1
    obtain ⟨h3, h9⟩ := ring_sz hrg
    have hR : Hid (makR s a c = .tuple #[.string (str (putL s a c)), .bool true]) := Lib.hid (by unfold makR; rw [hm]; rfl)
    have hV : Hid (canR s a c = .tuple #[.bool true, .bool (ringB s)]) := Lib.hid (by unfold canR; rw [hm])
    have hbl := byt_len s
    have HB : Hid (∀ wx, Calls Tryd.prog 54 #[ringV (byt s), .agg #[.int .i64 a, .int .i64 c]] wx fun e w' => e = .returned (ringV (putL s a c)) ∧ Below wx.heap.size wx w') := Lib.hid fun wx => ringBehind_any (byt s) a c wx (by omega) (by omega) (by omega) hne
    have HT : Hid (∀ wx, Calls Tryd.prog 55 #[ringV (putL s a c)] wx fun e w' => e = .returned (.string (str (putL s a c))) ∧ Below wx.heap.size wx w') := Lib.hid fun wx => ringText_any (putL s a c) wx (by rw [putL_len]; exact h9) (put_nz ((goodL_iff s).1 (ring_good hrg)).2.2 a c ha)
    clear hm hrg hbl
    generalize putL s a c = q at HB HT hR
    go_enter Tryd.func23, Tryd.ntmps23
    go_wp2_with fail
    refine (canOnRing_any s a c _ hs).mono ?_
    rintro e w1 ⟨rfl, hb1⟩
    rw [hV.out]
    obtain ⟨hcell, _⟩ := bcell hb1
    have S0 : MvBx w1 w.heap.size a c := ⟨by rw [hcell _ _ (by simp), World.cell?_alloc_new]; rfl, by rw [hcell _ _ (by simp), World.cell?_alloc_new]; rfl, by have := hb1.size; simp at this; omega⟩
    have HB1 := Lib.hid (((Below.refl w.heap.size w).alloc (Nat.le_refl _) (mvB a c)).trans (hb1.mono (by simp)))
    clear hb1 hcell
    go_wp2
    have SD : MvBx w1.drew w.heap.size a c := S0
    go_region_held3 (fun w' => MvBx w' w.heap.size a c) (first | exact S0 | exact mvbx_below SD hbm | exact mvbx_below (mvbx_below SD hbm) hbr | exact mvbx_below (mvbx_below (mvbx_below SD hbm) hbr) hbc) (first | (go_at_call 48; refine (ringOf_any s _ h9).mono ?_; rintro e w2 ⟨rfl, hbm⟩) | (go_at_call 54; refine (HB.out _).mono ?_; rintro e w3 ⟨rfl, hbr⟩) | (go_at_call 55; refine (HT.out _).mono ?_; rintro e w4 ⟨rfl, hbc⟩))
    have HB4 : Hid (Below w.heap.size w w4) := Lib.hid (HB1.out.trans (((Below.drew (Below.refl w1.heap.size w1)).trans (hbm.trans ((hbr.trans (hbc.mono hbr.size)).mono hbm.size))).mono HB1.out.size))
    rename_i hHeld
    clear hHeld SD hbm hbr hbc
    go_wp2
    go_ret2
    exact ⟨by rw [hR.out]; rfl, HB4.out⟩

set_option maxHeartbeats 1000000 in
theorem walk_FnExactCanOnRing (s : ByteArray) (hs : s.size ≤ maxLen) (f t : Int) (_ : (Lit.int .i64 f).wf = true) (_ : (Lit.int .i64 t).wf = true) (w : World) :
    Calls Tryd.prog 4 #[.string s, .agg #[.int .i64 f, .int .i64 t]] w fun e w' => e = .returned (.bool true) ∧ Below w.heap.size w w' := by
  by_cases hbig : (1048576 : Int) < (s.size : Int)
  · go_enter Tryd.func4, Tryd.ntmps4
    go_wp2
    go_ret
    exact ⟨rfl, (Below.refl _ _).alloc (Nat.le_refl _) _⟩
  · obtain ⟨x, y, hxy⟩ := (⟨_, _, rfl⟩ : ∃ x y, canR s f t = .tuple #[.bool x, .bool y])
    have hR : Hid (canR s f t = .tuple #[.bool x, .bool y]) := Lib.hid hxy
    clear hxy
    go_enter Tryd.func4, Tryd.ntmps4
    go_wp2_with fail
    refine (toMove_any _ _ _).mono ?_
    rintro e w1 ⟨rfl, hb1⟩
    go_wp2_with fail
    refine (sCanOnRing_any _ _ _ _ hs).mono ?_
    rintro e w2 ⟨rfl, hb2⟩
    rw [hR.out]
    have hB := hb1.trans (hb2.mono hb1.size)
    have hz := hb1.size
    clear hb1 hb2
    obtain ⟨hcell, _⟩ := bcell hB
    have hz2 := hB.size
    have hB0 := ((Below.refl w.heap.size w).alloc (Nat.le_refl _) (Obj.cells #[Value.int IntKind.i64 f, Value.int IntKind.i64 t] 29)).trans (hB.mono (by simp))
    have hz3 : w.heap.size + 1 ≤ w2.heap.size := by simpa using hz2
    clear hB hz hz2
    go_wp2_with fail
    refine (toMove_any _ _ _).mono ?_
    rintro e w3 ⟨rfl, hb3⟩
    clear hcell
    go_wp2_with fail
    refine (canOnRing_any _ _ _ _ hs).mono ?_
    rintro e w4 ⟨rfl, hb4⟩
    rw [hR.out]
    go_wp2
    go_ret
    exact ⟨rfl, hB0.trans ((hb3.trans (hb4.mono hb3.size)).mono (by omega))⟩

set_option maxHeartbeats 1000000 in
theorem walk_FnExactMakeOnRing (s : ByteArray) (hs : s.size ≤ maxLen) (f t : Int) (_ : (Lit.int .i64 f).wf = true) (_ : (Lit.int .i64 t).wf = true) (w : World) :
    Calls Tryd.prog 5 #[.string s, .agg #[.int .i64 f, .int .i64 t]] w fun e w' => e = .returned (.bool true) ∧ Below w.heap.size w w' := by
  by_cases hbig : (1048576 : Int) < (s.size : Int)
  · go_enter Tryd.func5, Tryd.ntmps5
    go_wp2
    go_ret
    exact ⟨rfl, (Below.refl _ _).alloc (Nat.le_refl _) _⟩
  · obtain ⟨x, y, hxy⟩ := strOr_open (ringB s && rgCi s f t) (behind s f t)
    have hR : Hid (makR s f t = .tuple #[.string x, .bool y]) := Lib.hid hxy
    clear hxy
    go_enter Tryd.func5, Tryd.ntmps5
    go_wp2_with fail
    refine (toMove_any _ _ _).mono ?_
    rintro e w1 ⟨rfl, hb1⟩
    go_wp2_with fail
    refine (sMakeOnRing_any _ _ _ _ hs).mono ?_
    rintro e w2 ⟨rfl, hb2⟩
    rw [hR.out]
    have hB := hb1.trans (hb2.mono hb1.size)
    have hz := hb1.size
    clear hb1 hb2
    obtain ⟨hcell, _⟩ := bcell hB
    have hz2 := hB.size
    have hB0 := ((Below.refl w.heap.size w).alloc (Nat.le_refl _) (Obj.cells #[Value.int IntKind.i64 f, Value.int IntKind.i64 t] 29)).trans (hB.mono (by simp))
    have hz3 : w.heap.size + 1 ≤ w2.heap.size := by simpa using hz2
    clear hB hz hz2
    go_wp2_with fail
    refine (toMove_any _ _ _).mono ?_
    rintro e w3 ⟨rfl, hb3⟩
    clear hcell
    go_wp2_with fail
    refine (makeOnRing_any _ _ _ _ hs).mono ?_
    rintro e w4 ⟨rfl, hb4⟩
    rw [hR.out]
    go_wp2
    go_ret
    exact ⟨rfl, hB0.trans ((hb3.trans (hb4.mono hb3.size)).mono (by omega))⟩

set_option maxRecDepth 100000 in
set_option maxHeartbeats 2000000 in
theorem walk_FnExactRingBlocked (s : ByteArray) (hs : s.size ≤ maxLen) (w : World) :
    Calls Tryd.prog 12 #[.string s] w fun e w' => e = .returned (.bool true) ∧ Below w.heap.size w w' := by
  by_cases hbig0 : (1048576 : Int) < (s.size : Int)
  · go_enter Tryd.func12, Tryd.ntmps12
    go_wp2
    go_ret
    exact ⟨rfl, Below.refl _ _⟩
  · skip
    have HS := Lib.hid (fun wx => sBlocked_any s wx hs)
    have HM := Lib.hid (fun wx => ringBlocked_any s wx hs)
    generalize (ringB s && decide ((rgOr s).length = 0)) = x at HS HM
    generalize ringB s = y at HS HM
    have hxy : (0 : Nat) = 0 := rfl
    clear hxy
    go_enter Tryd.func12, Tryd.ntmps12
    go_wp2_with fail
    refine (HS.out _).mono ?_
    rintro e w1 ⟨rfl, hb1⟩
    go_wp2_with fail
    refine (HM.out _).mono ?_
    rintro e w2 ⟨rfl, hb2⟩
    go_wp2
    go_ret
    exact ⟨rfl, hb1.trans (hb2.mono hb1.size)⟩

set_option maxRecDepth 100000 in
set_option maxHeartbeats 4000000 in
theorem walk_FnExactRingMoves (s : ByteArray) (hs : s.size ≤ maxLen) (w : World) :
    Calls Tryd.prog 3 #[.string s] w fun e w' => e = .returned (.bool true) ∧ Below w.heap.size w w' := by
  by_cases hbig0 : (1048576 : Int) < (s.size : Int)
  · go_enter Tryd.func3, Tryd.ntmps3
    go_wp2
    go_ret
    exact ⟨rfl, Below.refl _ _⟩
  · skip
    have hle : (rgOr s).length ≤ 1000 := by have := rgOr_le s; omega
    have HS0 := Lib.hid (fun wx => sRingMoves_any s wx hs)
    have HM0 := Lib.hid (fun wx => ringMoves_any s wx hs)
    generalize rgOr s = l at HS0 HM0 hle
    generalize ringB s = c at HS0 HM0
    go_enter Tryd.func3, Tryd.ntmps3
    go_wp2_with fail
    refine (HS0.out _).mono ?_
    rintro e w1 ⟨v1, rfl, ho1, hb1⟩
    go_wp2_with fail
    refine (HM0.out _).mono ?_
    rintro e w2 ⟨v2, rfl, ho2, hb2⟩
    have HM := HM0
    obtain ⟨A1, cap1, rfl, at1⟩ := at_of_own ho1
    have at1b := at1.below hb2
    obtain ⟨A2, cap2, rfl, at2⟩ := at_of_own ho2
    have AT1 := Lib.hid at1b
    have AT2 := Lib.hid at2
    have HO2 := Lib.hid ho2
    have hB2 := hb1.trans (hb2.mono hb1.size)
    have hsz1 := hb1.size
    have lt1 : ∀ g, A1 = some ⟨g, 0, none⟩ → 0 < l.length → g < w1.heap.size := by
      intro g hg hl
      obtain ⟨g', e, z, _⟩ := at1 0 hl
      rw [hg] at e
      injection e with e
      injection e with e
      omega
    have LT1 := Lib.hid lt1
    clear at1 at1b at2 ho1 ho2 hb1 lt1
    go_wp2_with fail
    refine (eqMoveS_same l A2 A1 cap2 cap1 _ AT2.out AT1.out (by omega)).mono ?_
    rintro e w3 ⟨rfl, hb3⟩
    have ho3 := own_below HO2.out hb3
    have at3 := Lib.hid (AT1.out.below hb3)
    have hB3 := hB2.trans (hb3.mono hB2.size)
    have hB13 := hb2.trans (hb3.mono hb2.size)
    clear HO2 AT1 AT2 hb3 hb2 hB2
    go_wp2_with fail
    refine (markMoveS_any l.length 1 w1.heap.size l _ _ rfl ho3 (by omega) (by omega)).mono ?_
    rintro e w4 ⟨rfl, ho4, hb4⟩
    have hB4 := hB3.trans (hb4.mono hsz1)
    have HO4 := Lib.hid ho4
    have at4 : Hid (MvAt w4 A1 l) := by
      intro k hk
      obtain ⟨g, a, b, c, d⟩ := at3.out k hk
      have hg := LT1.out g a (by omega)
      exact ⟨g, a, Nat.lt_of_lt_of_le b hb4.size, (hb4.cell (p := ⟨g, k * 2, none⟩) hg).trans c, (hb4.cell (p := ⟨g, k * 2 + 1, none⟩) hg).trans d⟩
    clear ho3 at3 hB3 hB13 ho4 hb4
    go_wp2_with fail
    refine (heldMoveS_any l.length 1 w1.heap.size _ _ HO4.out (by omega) (by omega)).mono ?_
    rintro e w4' ⟨rfl, rfl⟩
    go_wp2_with fail
    refine (HM.out _).mono ?_
    rintro e w5 ⟨v5, rfl, ho5, hb5⟩
    obtain ⟨A5, cap5, rfl, at5⟩ := at_of_own ho5
    have AT5 := Lib.hid at5
    have AT1 := Lib.hid (at4.out.below hb5)
    have HO5 := Lib.hid (own_below HO4.out hb5)
    have hB5 := hB4.trans (hb5.mono hB4.size)
    clear ho5 at5 hb5 at4 HO4 hB4
    go_wp2_with fail
    refine (eqMoveS_same l A5 A1 cap5 cap1 _ AT5.out AT1.out (by omega)).mono ?_
    rintro e w6 ⟨rfl, hb6⟩
    have ho6 := Lib.hid (own_below HO5.out hb6)
    have hB6 := hB5.trans (hb6.mono hB5.size)
    clear AT5 AT1 HO5 hb6 hB5
    go_wp2_with fail
    refine (heldMoveS_any l.length 1 w1.heap.size _ _ ho6.out (by omega) (by omega)).mono ?_
    rintro e w6' ⟨rfl, rfl⟩
    go_wp2
    go_ret
    exact ⟨rfl, hB6⟩

end Go.Proofs.YtfjjdelmfohaeaaDoor
