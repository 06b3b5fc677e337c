/- A move on a ring asked and made, both sides; the walks of four laws. -/
import Derived.Test.YtoiaklnaecghnaaDoorCiU
import Derived.Test.YtoiaklnaecghnaaDoorCiL
import Derived.Test.YtoiaklnaecghnaaDoorIxM
import Derived.Test.YtoiaklnaecghnaaDoorWalkM
import Derived.Deep.RegionHeld3
namespace Go.Proofs.YtoiaklnaecghnaaDoor
open Go.RowKit

/-- The answer on one move; the ring behind it, or none. -/
def canR (s : ByteArray) (f t : Int) : Value := .tuple #[.bool (ringB s && rgCi s f t), .bool (ringB s)]
def makR (s : ByteArray) (f t : Int) : Value := strOr (ringB s && rgCi s f t) (behind s f t)

set_option maxHeartbeats 1000000 in
theorem canOnRing_any (s : ByteArray) (f t : Int) (w : World) (hs : s.size ≤ maxLen) :
    Calls Tryd.prog 108 #[.string s, .agg #[.int .i64 f, .int .i64 t]] w fun e w' => e = .returned (canR s f t) ∧ Below w.heap.size w w' := by
  have hle := rgOr_le s
  have HM := Lib.hid (mem_rgOr s f t)
  go_enter Tryd.func108, Tryd.ntmps108
  go_wp2_with fail
  refine (ringMoves_any s _ hs).mono ?_
  rintro e w1 ⟨v, rfl, ho, hb⟩
  obtain ⟨A, cap, rfl, hat⟩ := at_of_own ho
  have HAT := Lib.hid hat
  obtain ⟨hcell, _⟩ := bcell hb
  have d0 : w1.cell? ⟨w.heap.size, 0, none⟩ = some (.int .i64 f) := by rw [hcell _ _ (by simp), World.cell?_alloc_new]; rfl
  have d1 : w1.cell? ⟨w.heap.size, 1, none⟩ = some (.int .i64 t) := by rw [hcell _ _ (by simp), World.cell?_alloc_new]; rfl
  have HB := Lib.hid (((Below.refl w.heap.size w).alloc (Nat.le_refl _) (mvB f t)).trans (hb.mono (by simp)))
  clear ho hb hat hcell
  generalize rgOr s = L at HAT HM hle
  go_wp2_with fail
  refine (containsMv_any L A cap f t _ HAT.out (by omega)).mono ?_
  rintro e w2 ⟨r, rfl, hr, hb2⟩
  have HR : Hid (r = (ringB s && rgCi s f t)) := Lib.hid (by rw [Bool.eq_iff_iff, hr, HM.out])
  have HB2 := Lib.hid (HB.out.trans (hb2.mono HB.out.size))
  clear hr hb2 HB
  go_wp2
  go_ret2
  exact ⟨by rw [HR.out]; rfl, HB2.out⟩

theorem put_nz {s : ByteArray} (hg : (byt s).all isSign = true) (a c : Nat) (ha : a < s.size) : ∀ x ∈ putL s a c, x ≠ 0 := by
  have h0 := sign_nz hg
  intro x hx
  unfold putL at hx
  rcases List.mem_or_eq_of_mem_set hx with h | h
  · rcases List.mem_or_eq_of_mem_set h with h | h
    · exact h0 x h
    · rw [h, List.getD_eq_getElem?_getD, List.getElem?_eq_getElem (by rw [byt_len]; exact ha)]
      exact h0 _ (List.getElem_mem _)
  · rw [h]; decide

/-- The boxes of a move. -/
abbrev MvBx (W : World) (B : Nat) (f t : Int) : Prop := W.cell? ⟨B, 0, none⟩ = some (.int .i64 f) ∧ W.cell? ⟨B, 1, none⟩ = some (.int .i64 t) ∧ B < W.heap.size
theorem mvbx_below {W W' : World} {B : Nat} {f t : Int} (h : MvBx W B f t) (hb : Below W.heap.size W W') : MvBx W' B f t :=
  ⟨(hb.cell (p := ⟨B, 0, none⟩) h.2.2).trans h.1, (hb.cell (p := ⟨B, 1, none⟩) h.2.2).trans h.2.1, Nat.lt_of_lt_of_le h.2.2 hb.size⟩

set_option maxRecDepth 100000 in
set_option maxHeartbeats 2000000 in
theorem makeOnRing_any (s : ByteArray) (f t : Int) (w : World) (hs : s.size ≤ maxLen) :
    Calls Tryd.prog 82 #[.string s, .agg #[.int .i64 f, .int .i64 t]] w fun e w' => e = .returned (makR s f t) ∧ Below w.heap.size w w' := by
  cases hm : ringB s && rgCi s f t
  · have hR : Hid (makR s f t = .tuple #[.string (str []), .bool false]) := Lib.hid (by unfold makR; rw [hm]; rfl)
    have hV : Hid (canR s f t = .tuple #[.bool false, .bool (ringB s)]) := Lib.hid (by unfold canR; rw [hm])
    clear hm
    go_enter Tryd.func82, Tryd.ntmps82
    go_wp2_with fail
    refine (canOnRing_any s f t _ hs).mono ?_
    rintro e w1 ⟨rfl, hb1⟩
    rw [hV.out]
    go_wp2
    go_ret2
    exact ⟨by rw [hR.out]; rfl, ((Below.refl _ _).alloc (Nat.le_refl _) _).trans (hb1.mono (by simp))⟩
  · obtain ⟨a, c, rfl, rfl, ha, hc', hne, _⟩ := rgCi_in (Bool.and_eq_true_iff.1 hm).2
    have hrg := (Bool.and_eq_true_iff.1 hm).1
    obtain ⟨h3, h9⟩ := ring_sz hrg
    have hR : Hid (makR s a c = .tuple #[.string (str (putL s a c)), .bool true]) := Lib.hid (by unfold makR; rw [hm]; rfl)
    have hV : Hid (canR s a c = .tuple #[.bool true, .bool (ringB s)]) := Lib.hid (by unfold canR; rw [hm])
    have hbl := byt_len s
    have HB : Hid (∀ wx, Calls Tryd.prog 110 #[ringV (byt s), .agg #[.int .i64 a, .int .i64 c]] wx fun e w' => e = .returned (ringV (putL s a c)) ∧ Below wx.heap.size wx w') := Lib.hid fun wx => ringBehind_any (byt s) a c wx (by omega) (by omega) (by omega) hne
    have HT : Hid (∀ wx, Calls Tryd.prog 111 #[ringV (putL s a c)] wx fun e w' => e = .returned (.string (str (putL s a c))) ∧ Below wx.heap.size wx w') := Lib.hid fun wx => ringText_any (putL s a c) wx (by rw [putL_len]; exact h9) (put_nz ((goodL_iff s).1 (ring_good hrg)).2.2 a c ha)
    clear hm hrg hbl
    generalize putL s a c = q at HB HT hR
    go_enter Tryd.func82, Tryd.ntmps82
    go_wp2_with fail
    refine (canOnRing_any s a c _ hs).mono ?_
    rintro e w1 ⟨rfl, hb1⟩
    rw [hV.out]
    obtain ⟨hcell, _⟩ := bcell hb1
    have S0 : MvBx w1 w.heap.size a c := ⟨by rw [hcell _ _ (by simp), World.cell?_alloc_new]; rfl, by rw [hcell _ _ (by simp), World.cell?_alloc_new]; rfl, by have := hb1.size; simp at this; omega⟩
    have HB1 := Lib.hid (((Below.refl w.heap.size w).alloc (Nat.le_refl _) (mvB a c)).trans (hb1.mono (by simp)))
    clear hb1 hcell
    go_wp2
    have SD : MvBx w1.drew w.heap.size a c := S0
    go_region_held3 (fun w' => MvBx w' w.heap.size a c) (first | exact S0 | exact mvbx_below SD hbm | exact mvbx_below (mvbx_below SD hbm) hbr | exact mvbx_below (mvbx_below (mvbx_below SD hbm) hbr) hbc) (first | (go_at_call 109; refine (ringOf_any s _ h9).mono ?_; rintro e w2 ⟨rfl, hbm⟩) | (go_at_call 110; refine (HB.out _).mono ?_; rintro e w3 ⟨rfl, hbr⟩) | (go_at_call 111; refine (HT.out _).mono ?_; rintro e w4 ⟨rfl, hbc⟩))
    have HB4 : Hid (Below w.heap.size w w4) := Lib.hid (HB1.out.trans (((Below.drew (Below.refl w1.heap.size w1)).trans (hbm.trans ((hbr.trans (hbc.mono hbr.size)).mono hbm.size))).mono HB1.out.size))
    rename_i hHeld
    clear hHeld SD hbm hbr hbc
    go_wp2
    go_ret2
    exact ⟨by rw [hR.out]; rfl, HB4.out⟩

end Go.Proofs.YtoiaklnaecghnaaDoor
