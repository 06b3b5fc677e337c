/- How few moves exchange, by a rule. -/
import Derived.Test.YtcndlfoodbmgbaaRuQa
import Derived.Test.YtcndlfoodbmgbaaRuN
import Derived.Test.YtcndlfoodbmgbaaEnds
namespace Go.Proofs.Ytcndlfoodbmgbaa
open Go.RowKit
/-- A rule's box, as one region asks it. -/
abbrev RqT (W : World) (B : Nat) (o b l : Bool) : Prop := W.cell? ⟨B, 0, none⟩ = some (.bool o) ∧ W.cell? ⟨B, 1, none⟩ = some (.bool b) ∧ W.cell? ⟨B, 2, none⟩ = some (.bool l) ∧ B < W.heap.size
theorem rqt_below {W W' : World} {B : Nat} {o b l : Bool} (h : RqT W B o b l) (hb : Below W.heap.size W W') : RqT W' B o b l := by
  obtain ⟨c0, c1, c2, hz⟩ := h
  exact ⟨(hb.cell (p := ⟨B, 0, none⟩) hz).trans c0, (hb.cell (p := ⟨B, 1, none⟩) hz).trans c1, (hb.cell (p := ⟨B, 2, none⟩) hz).trans c2, Nat.lt_of_lt_of_le hz hb.size⟩
/-- The line of T's, dots and F's, in that order. -/
def fstR (t g f : Int) : List UInt8 := firstL t.toNat g.toNat f.toNat
theorem fstR_len (t g f : Int) : (fstR t g f).length = t.toNat + g.toNat + f.toNat := by
  unfold fstR
  rw [firstL_len]
theorem fstR_T {t g f : Int} (h : thrR t g f = true) : goodT (fstR t g f).length (fstR t g f) := by
  have hb := (thrR_iff t g f).1 h
  have hl := fstR_len t g f
  refine ⟨(goodL_iff _).2 ⟨?_, ?_, ?_⟩, rfl, by omega⟩
  · rw [str_size]; omega
  · rw [str_size]; omega
  · rw [byt_str]; exact firstL_all _ _ _
theorem lastR_len {t g f : Int} (h : thrR t g f = true) : (lastL (fstR t g f)).length ≤ 1000 := by
  have hb := (thrR_iff t g f).1 h
  have := lastL_len (fstR t g f)
  have hl := fstR_len t g f
  omega
/-- The answer of FewestToExchange. -/
def feV (t g f : Int) (o b l : Bool) : Value := if thrR t g f then dbV (stF (bfsL (nxR o b l) (fstR t g f)) (lastL (fstR t g f))) else dbV none
theorem feV_open (t g f : Int) (o b l : Bool) : ∃ x y, feV t g f o b l = .tuple #[.int .i64 x, .bool y] := by
  have h : ∀ st, ∃ x y, dbV st = .tuple #[.int .i64 x, .bool y] := fun st => by cases st <;> exact ⟨_, _, rfl⟩
  unfold feV
  split
  · exact h _
  · exact h _

set_option maxRecDepth 100000 in
set_option maxHeartbeats 4000000 in
theorem sFewestToExchange_any (t g f : Int) (o b l : Bool) (w : World) :
    Calls Try.prog 37 #[.int .i64 t, .int .i64 g, .int .i64 f, ruV o b l] w fun e w' => e = .returned (feV t g f o b l) ∧ Below w.heap.size w w' := by
  cases hc : thrR t g f
  · have hV : Hid (feV t g f o b l = .tuple #[.int .i64 0, .bool false]) := Lib.hid (by unfold feV; rw [hc]; rfl)
    have hC := Lib.hid hc
    clear hc
    go_enter Try.func37, Try.ntmps37
    go_wp2_with fail
    refine (ruThree_any _ _ _ _).mono ?_; rintro e w1 ⟨rfl, hb1⟩; rw [hC.out]
    go_wp2
    go_ret2
    exact ⟨by rw [hV.out]; rfl, ((Below.refl w.heap.size w).alloc (Nat.le_refl _) (ruO o b l)).trans (hb1.mono (by simp))⟩
  · have hV : Hid (feV t g f o b l = dbV (stF (bfsL (nxR o b l) (fstR t g f)) (lastL (fstR t g f)))) := Lib.hid (by unfold feV; rw [if_pos hc])
    have hg := fstR_T hc
    have hl := fstR_len t g f
    have hb := (thrR_iff t g f).1 hc
    have hvl := lastR_len hc
    have hC := Lib.hid hc
    have HF : Hid (∀ wx, Calls Try.prog 78 #[.int .i64 t, .int .i64 g, .int .i64 f] wx fun e w' => e = .returned (.string (str (fstR t g f))) ∧ wx = w') := Lib.hid (fun wx => liFirst_any t g f wx (by omega) (by omega) (by omega))
    have HL := Lib.hid (fun wx => liLast_any (str (fstR t g f)) wx (by rw [str_size]; omega))
    rw [byt_str] at HL
    have HD := Lib.hid (fun wx => ruSteps_any _ o b l (fstR t g f) (lastL (fstR t g f)) wx hg)
    clear hc hg hl hb hvl
    generalize stF (bfsL (nxR o b l) (fstR t g f)) (lastL (fstR t g f)) = st at HD hV
    cases st with
    | none =>
      have hst : stI (none) = -1 := rfl
      rw [hst] at HD
      clear hst
      go_enter Try.func37, Try.ntmps37
      go_wp2_with fail
      refine (ruThree_any _ _ _ _).mono ?_; rintro e W0 ⟨rfl, hb1⟩; rw [hC.out]
      have HX0 := Lib.hid ((RuBx.new w o b l 27).below hb1)
      have HB0 := Lib.hid (((Below.refl w.heap.size w).alloc (Nat.le_refl _) (ruO o b l)).trans (hb1.mono (by simp)))
      clear hb1
      go_wp2_with fail
      refine (HF.out _).mono ?_; rintro e w' ⟨rfl, rfl⟩
      go_wp2
      have S0 : RqT W0 w.heap.size o b l := ⟨HX0.out.c0, HX0.out.c1, HX0.out.c2, HX0.out.lt⟩
      have S0d : RqT W0.drew w.heap.size o b l := S0
      go_region_held3 (fun w' => RqT w' w.heap.size o b l) (first | exact S0 | exact S0d | exact rqt_below S0d hbc)
        (first
          | (go_at_call 79; refine (HL.out _).mono ?_; rintro e w2 ⟨rfl, rfl⟩)
          | (go_at_call 67; refine (HD.out _).mono ?_; rintro e w4 ⟨rfl, hbc⟩))
      have HB3 : Hid (Below w.heap.size w w4) := Lib.hid (HB0.out.trans (((Below.drew (Below.refl W0.heap.size W0)).trans hbc).mono HB0.out.size))
      rename_i hHeld
      clear hHeld S0 S0d hbc
      go_wp2
      go_ret2
      exact ⟨by rw [hV.out]; rfl, HB3.out⟩
    | some d =>
      have hst : stI (some d) = (d : Int) := rfl
      have hd0 : ¬ ((d : Int) < 0) := by omega
      have hd1 : (0 : Int) ≤ (d : Int) := by omega
      rw [hst] at HD
      clear hst
      go_enter Try.func37, Try.ntmps37
      go_wp2_with fail
      refine (ruThree_any _ _ _ _).mono ?_; rintro e W0 ⟨rfl, hb1⟩; rw [hC.out]
      have HX0 := Lib.hid ((RuBx.new w o b l 27).below hb1)
      have HB0 := Lib.hid (((Below.refl w.heap.size w).alloc (Nat.le_refl _) (ruO o b l)).trans (hb1.mono (by simp)))
      clear hb1
      go_wp2_with fail
      refine (HF.out _).mono ?_; rintro e w' ⟨rfl, rfl⟩
      go_wp2
      have S0 : RqT W0 w.heap.size o b l := ⟨HX0.out.c0, HX0.out.c1, HX0.out.c2, HX0.out.lt⟩
      have S0d : RqT W0.drew w.heap.size o b l := S0
      go_region_held3 (fun w' => RqT w' w.heap.size o b l) (first | exact S0 | exact S0d | exact rqt_below S0d hbc)
        (first
          | (go_at_call 79; refine (HL.out _).mono ?_; rintro e w2 ⟨rfl, rfl⟩)
          | (go_at_call 67; refine (HD.out _).mono ?_; rintro e w4 ⟨rfl, hbc⟩))
      have HB3 : Hid (Below w.heap.size w w4) := Lib.hid (HB0.out.trans (((Below.drew (Below.refl W0.heap.size W0)).trans hbc).mono HB0.out.size))
      rename_i hHeld
      clear hHeld S0 S0d hbc
      go_wp2
      go_ret2
      exact ⟨by rw [hV.out]; rfl, HB3.out⟩

set_option maxRecDepth 100000 in
set_option maxHeartbeats 4000000 in
theorem fewestToExchange_any (t g f : Int) (o b l : Bool) (w : World) :
    Calls Try.prog 38 #[.int .i64 t, .int .i64 g, .int .i64 f, ruV o b l] w fun e w' => e = .returned (feV t g f o b l) ∧ Below w.heap.size w w' := by
  cases hc : thrR t g f
  · have hV : Hid (feV t g f o b l = .tuple #[.int .i64 0, .bool false]) := Lib.hid (by unfold feV; rw [hc]; rfl)
    have hC := Lib.hid hc
    clear hc
    go_enter Try.func38, Try.ntmps38
    go_wp2_with fail
    refine (areRuleCounts_any _ _ _ _).mono ?_; rintro e w' ⟨rfl, rfl⟩; rw [hC.out]
    go_wp2
    go_ret2
    exact ⟨by rw [hV.out]; rfl, (Below.refl _ _).alloc (Nat.le_refl _) _⟩
  · have hV : Hid (feV t g f o b l = dbV (stF (bfsL (nxR o b l) (fstR t g f)) (lastL (fstR t g f)))) := Lib.hid (by unfold feV; rw [if_pos hc])
    have hg := fstR_T hc
    have hl := fstR_len t g f
    have hb := (thrR_iff t g f).1 hc
    have hvl := lastR_len hc
    have hC := Lib.hid hc
    have h3 : three t g f = true := (three_iff t g f).2 (by omega)
    have HF : Hid (∀ wx, Calls Try.prog 81 #[.int .i64 t, .int .i64 g, .int .i64 f] wx fun e w' => e = .returned (.tuple #[.string (str (fstR t g f)), .bool true]) ∧ Below wx.heap.size wx w') := Lib.hid (fun wx => by
      have := firstLine_any t g f wx
      rw [h3] at this
      exact this)
    have HL := Lib.hid (fun wx => lastLine_any (str (fstR t g f)) wx (by rw [str_size]; unfold maxLen; omega))
    rw [byt_str, hg.1] at HL
    have hso : strOr true (lastL (fstR t g f)) = .tuple #[.string (str (lastL (fstR t g f))), .bool true] := rfl
    rw [hso] at HL
    have HD := Lib.hid (fun wx => depthBetween_any _ o b l (fstR t g f) (lastL (fstR t g f)) wx hg hvl)
    clear hc hg hl hb hvl h3 hso
    have hdb : ∃ x y, dbV (stF (bfsL (nxR o b l) (fstR t g f)) (lastL (fstR t g f))) = .tuple #[.int .i64 x, .bool y] := by
      cases stF (bfsL (nxR o b l) (fstR t g f)) (lastL (fstR t g f)) <;> exact ⟨_, _, rfl⟩
    obtain ⟨x, y, hxy⟩ := hdb
    rw [hxy] at HD hV
    clear hxy
    go_enter Try.func38, Try.ntmps38
    go_wp2_with fail
    refine (areRuleCounts_any _ _ _ _).mono ?_; rintro e w' ⟨rfl, rfl⟩; rw [hC.out]
    go_wp2_with fail
    refine (HF.out _).mono ?_; rintro e w1 ⟨rfl, hb1⟩
    have HX1 := Lib.hid ((RuBx.new w o b l 27).below hb1)
    have HB1 := Lib.hid (((Below.refl w.heap.size w).alloc (Nat.le_refl _) (ruO o b l)).trans (hb1.mono (by simp)))
    clear hb1
    go_wp2_with fail
    refine (HL.out _).mono ?_; rintro e w2 ⟨rfl, hb2⟩
    have HX2 := Lib.hid (HX1.out.below hb2)
    have HB2 := Lib.hid (HB1.out.trans (hb2.mono HB1.out.size))
    clear hb2 HX1 HB1
    obtain ⟨_, x0, x1, x2⟩ := HX2.out
    go_wp2_with fail
    refine (HD.out _).mono ?_; rintro e w3 ⟨rfl, hb3⟩
    have HB3 := Lib.hid (HB2.out.trans (hb3.mono HB2.out.size))
    clear hb3 x0 x1 x2
    go_wp2
    go_ret2
    exact ⟨by rw [hV.out]; rfl, HB3.out⟩
set_option maxRecDepth 100000 in
set_option maxHeartbeats 4000000 in
theorem walk_FnExactFewestToExchange (t : Int) (_ : (Lit.int .i64 t).wf = true) (g : Int) (_ : (Lit.int .i64 g).wf = true) (f : Int) (_ : (Lit.int .i64 f).wf = true) (o b l : Bool) (w : World) :
    Calls Try.prog 10 #[.int .i64 t, .int .i64 g, .int .i64 f, ruV o b l] w fun e w' => e = .returned (.bool true) ∧ Below w.heap.size w w' := by
  have HS := Lib.hid (fun wx => sFewestToExchange_any t g f o b l wx)
  have HM := Lib.hid (fun wx => fewestToExchange_any t g f o b l wx)
  obtain ⟨x, y, hxy⟩ := feV_open t g f o b l
  rw [hxy] at HS HM
  clear hxy
  go_enter Try.func10, Try.ntmps10
  go_wp2_with fail
  refine (toRule_any o b l _).mono ?_
  rintro e w0 ⟨rfl, hb0⟩
  have HB0 := Lib.hid (((Below.refl w.heap.size w).alloc (Nat.le_refl _) (Obj.cells #[.bool o, .bool b, .bool l] 23)).trans (hb0.mono (by simp)))
  have HX0 := Lib.hid ((RuBx.new w o b l 23).below hb0)
  clear hb0
  go_wp2_with fail
  refine (HS.out _).mono ?_
  rintro e w1 ⟨rfl, hb1⟩
  have HX1 := Lib.hid (HX0.out.below hb1)
  have HB1 := Lib.hid (HB0.out.trans (hb1.mono HB0.out.size))
  clear hb1 HX0 HB0
  obtain ⟨_, x0, x1, x2⟩ := HX1.out
  go_wp2_with fail
  refine (toRule_any o b l _).mono ?_
  rintro e w2 ⟨rfl, hb2⟩
  clear x0 x1 x2
  have HB2 := Lib.hid (HB1.out.trans (hb2.mono HB1.out.size))
  clear hb2
  go_wp2_with fail
  refine (HM.out _).mono ?_
  rintro e w3 ⟨rfl, hb3⟩
  have HB3 := Lib.hid (HB2.out.trans (hb3.mono HB2.out.size))
  clear hb3
  go_wp2
  go_ret
  exact ⟨rfl, HB3.out⟩
end Go.Proofs.Ytcndlfoodbmgbaa
