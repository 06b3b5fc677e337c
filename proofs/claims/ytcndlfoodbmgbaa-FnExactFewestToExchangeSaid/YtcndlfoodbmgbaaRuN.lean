/- Lines reached by a rule: the laws' walks. -/
import Derived.Test.YtcndlfoodbmgbaaRuM
namespace Go.Proofs.Ytcndlfoodbmgbaa
open Go.RowKit

theorem rch_size {s : ByteArray} (h : rchB s = true) : s.size ≤ 10 := by
  unfold rchB at h
  rw [Bool.and_eq_true, decide_eq_true_eq] at h
  exact h.2
set_option maxHeartbeats 1000000 in
theorem ruTwo_any (s v : ByteArray) (w : World) (hs : s.size ≤ maxLen) (hv : v.size ≤ maxLen) :
    Calls Try.prog 66 #[.string s, .string v] w fun e w' => e = .returned (.bool (rchB s && rchB v)) ∧ w = w' := by
  cases hc : rchB s
  · have hC := Lib.hid hc
    clear hc
    go_enter Try.func66, Try.ntmps66
    go_wp2_with fail
    refine (sRch_any _ _ hs).mono ?_; rintro e w' ⟨rfl, rfl⟩; rw [hC.out]
    go_wp2
    go_ret
    exact ⟨rfl, rfl⟩
  · have hC := Lib.hid hc
    clear hc
    go_enter Try.func66, Try.ntmps66
    go_wp2_with fail
    refine (sRch_any _ _ hs).mono ?_; rintro e w' ⟨rfl, rfl⟩; rw [hC.out]
    go_wp2_with fail
    refine (sRch_any _ _ hv).mono ?_; rintro e w' ⟨rfl, rfl⟩
    go_wp2
    go_ret
    exact ⟨by rw [Bool.true_and]; rfl, rfl⟩
/-- The answers of ShortestByRule and of ReachByRule. -/
def shV (s v : ByteArray) (o b l : Bool) : Value := if rchB s && rchB v then dbV (stF (bfsL (nxR o b l) (byt s)) (byt v)) else dbV none
def rbV (s v : ByteArray) (o b l : Bool) : Value := if rchB s && rchB v then .tuple #[.bool (stF (bfsL (nxR o b l) (byt s)) (byt v)).isSome, .bool true] else .tuple #[.bool false, .bool false]
set_option maxHeartbeats 2000000 in
theorem sShortestByRule_any (s v : ByteArray) (o b l : Bool) (w : World) (hs : s.size ≤ maxLen) (hv : v.size ≤ maxLen) :
    Calls Try.prog 29 #[.string s, .string v, ruV o b l] w fun e w' => e = .returned (shV s v o b l) ∧ Below w.heap.size w w' := by
  cases hc : (rchB s && rchB v)
  · have hV : Hid (shV s v o b l = .tuple #[.int .i64 0, .bool false]) := Lib.hid (by unfold shV; rw [hc]; rfl)
    have hC := Lib.hid hc
    clear hc
    go_enter Try.func29, Try.ntmps29
    go_wp2_with fail
    refine (ruTwo_any _ _ _ hs hv).mono ?_; rintro e w' ⟨rfl, rfl⟩; rw [hC.out]
    go_wp2
    go_ret2
    exact ⟨by rw [hV.out]; rfl, (Below.refl _ _).alloc (Nat.le_refl _) _⟩
  · obtain ⟨h1, h2⟩ := Bool.and_eq_true_iff.1 hc
    have hV : Hid (shV s v o b l = dbV (stF (bfsL (nxR o b l) (byt s)) (byt v))) := Lib.hid (by unfold shV; rw [if_pos hc])
    have h1' := h1
    rw [← str_byt s] at h1'
    have hg := rch_T h1'
    have hvl : (byt v).length ≤ 1000 := by rw [byt_len]; have := rch_size h2; omega
    have HD := Lib.hid (fun wx => ruSteps_any _ o b l (byt s) (byt v) wx hg)
    rw [str_byt, str_byt] at HD
    have hC := Lib.hid h1
    have hD := Lib.hid h2
    have hCD := Lib.hid hc
    clear hc h1 h2 h1' hg
    generalize stF (bfsL (nxR o b l) (byt s)) (byt v) = st at HD hV
    cases st with
    | none =>
      have hst : stI (none) = -1 := rfl
      rw [hst] at HD
      clear hst
      go_enter Try.func29, Try.ntmps29
      go_wp2_with fail
      refine (ruTwo_any _ _ _ hs hv).mono ?_; rintro e w' ⟨rfl, rfl⟩; rw [hCD.out]
      go_wp2_with fail
      refine (HD.out _).mono ?_
      rintro e w1 ⟨rfl, hb1⟩
      have HB1 := Lib.hid (((Below.refl w.heap.size w).alloc (Nat.le_refl _) (ruO o b l)).trans (hb1.mono (by simp)))
      clear hb1
      go_wp2
      go_ret2
      exact ⟨by rw [hV.out]; rfl, HB1.out⟩
    | some d =>
      have hst : stI (some d) = (d : Int) := rfl
      have hd0 : ¬ ((d : Int) < 0) := by omega
      have hd1 : (0 : Int) ≤ (d : Int) := by omega
      rw [hst] at HD
      clear hst
      go_enter Try.func29, Try.ntmps29
      go_wp2_with fail
      refine (ruTwo_any _ _ _ hs hv).mono ?_; rintro e w' ⟨rfl, rfl⟩; rw [hCD.out]
      go_wp2_with fail
      refine (HD.out _).mono ?_
      rintro e w1 ⟨rfl, hb1⟩
      have HB1 := Lib.hid (((Below.refl w.heap.size w).alloc (Nat.le_refl _) (ruO o b l)).trans (hb1.mono (by simp)))
      clear hb1
      go_wp2
      go_ret2
      exact ⟨by rw [hV.out]; rfl, HB1.out⟩
set_option maxHeartbeats 2000000 in
theorem sReachByRule_any (s v : ByteArray) (o b l : Bool) (w : World) (hs : s.size ≤ maxLen) (hv : v.size ≤ maxLen) :
    Calls Try.prog 35 #[.string s, .string v, ruV o b l] w fun e w' => e = .returned (rbV s v o b l) ∧ Below w.heap.size w w' := by
  cases hc : (rchB s && rchB v)
  · have hV : Hid (rbV s v o b l = .tuple #[.bool false, .bool false]) := Lib.hid (by unfold rbV; rw [hc]; rfl)
    have hC := Lib.hid hc
    clear hc
    go_enter Try.func35, Try.ntmps35
    go_wp2_with fail
    refine (ruTwo_any _ _ _ hs hv).mono ?_; rintro e w' ⟨rfl, rfl⟩; rw [hC.out]
    go_wp2
    go_ret2
    exact ⟨by rw [hV.out]; rfl, (Below.refl _ _).alloc (Nat.le_refl _) _⟩
  · obtain ⟨h1, h2⟩ := Bool.and_eq_true_iff.1 hc
    have hV : Hid (rbV s v o b l = .tuple #[.bool (stF (bfsL (nxR o b l) (byt s)) (byt v)).isSome, .bool true]) := Lib.hid (by unfold rbV; rw [if_pos hc])
    have h1' := h1
    rw [← str_byt s] at h1'
    have hg := rch_T h1'
    have hvl : (byt v).length ≤ 1000 := by rw [byt_len]; have := rch_size h2; omega
    have HD := Lib.hid (fun wx => ruSteps_any _ o b l (byt s) (byt v) wx hg)
    rw [str_byt, str_byt] at HD
    have hC := Lib.hid h1
    have hD := Lib.hid h2
    have hCD := Lib.hid hc
    clear hc h1 h2 h1' hg
    generalize stF (bfsL (nxR o b l) (byt s)) (byt v) = st at HD hV
    cases st with
    | none =>
      have hst : stI (none) = -1 := rfl
      rw [hst] at HD
      clear hst
      go_enter Try.func35, Try.ntmps35
      go_wp2_with fail
      refine (ruTwo_any _ _ _ hs hv).mono ?_; rintro e w' ⟨rfl, rfl⟩; rw [hCD.out]
      go_wp2_with fail
      refine (HD.out _).mono ?_
      rintro e w1 ⟨rfl, hb1⟩
      have HB1 := Lib.hid (((Below.refl w.heap.size w).alloc (Nat.le_refl _) (ruO o b l)).trans (hb1.mono (by simp)))
      clear hb1
      go_wp2
      go_ret2
      exact ⟨by rw [hV.out]; rfl, HB1.out⟩
    | some d =>
      have hst : stI (some d) = (d : Int) := rfl
      have hd0 : ¬ ((d : Int) < 0) := by omega
      have hd1 : (0 : Int) ≤ (d : Int) := by omega
      rw [hst] at HD
      clear hst
      go_enter Try.func35, Try.ntmps35
      go_wp2_with fail
      refine (ruTwo_any _ _ _ hs hv).mono ?_; rintro e w' ⟨rfl, rfl⟩; rw [hCD.out]
      go_wp2_with fail
      refine (HD.out _).mono ?_
      rintro e w1 ⟨rfl, hb1⟩
      have HB1 := Lib.hid (((Below.refl w.heap.size w).alloc (Nat.le_refl _) (ruO o b l)).trans (hb1.mono (by simp)))
      clear hb1
      go_wp2
      go_ret2
      exact ⟨by rw [hV.out]; rfl, HB1.out⟩
set_option maxHeartbeats 2000000 in
theorem iShortestByRule_any (s v : ByteArray) (o b l : Bool) (w : World) (hs : s.size ≤ maxLen) (hv : v.size ≤ maxLen) :
    Calls Try.prog 30 #[.string s, .string v, ruV o b l] w fun e w' => e = .returned (shV s v o b l) ∧ Below w.heap.size w w' := by
  cases hc : (rchB s && rchB v)
  · have hV : Hid (shV s v o b l = .tuple #[.int .i64 0, .bool false]) := Lib.hid (by unfold shV; rw [hc]; rfl)
    cases h1 : rchB s
    · have hC := Lib.hid h1
      clear hc h1
      go_enter Try.func30, Try.ntmps30
      go_wp2_with fail
      refine (isRch_any _ _ hs).mono ?_; rintro e w' ⟨rfl, rfl⟩; rw [hC.out]
      go_wp2
      go_ret2
      exact ⟨by rw [hV.out]; rfl, (Below.refl _ _).alloc (Nat.le_refl _) _⟩
    · have h2 : rchB v = false := by rw [h1] at hc; simpa using hc
      have hC := Lib.hid h1
      have hD := Lib.hid h2
      clear hc h1 h2
      go_enter Try.func30, Try.ntmps30
      go_wp2_with fail
      refine (isRch_any _ _ hs).mono ?_; rintro e w' ⟨rfl, rfl⟩; rw [hC.out]
      go_wp2_with fail
      refine (isRch_any _ _ hv).mono ?_; rintro e w' ⟨rfl, rfl⟩; rw [hD.out]
      go_wp2
      go_ret2
      exact ⟨by rw [hV.out]; rfl, (Below.refl _ _).alloc (Nat.le_refl _) _⟩
  · obtain ⟨h1, h2⟩ := Bool.and_eq_true_iff.1 hc
    have hV : Hid (shV s v o b l = dbV (stF (bfsL (nxR o b l) (byt s)) (byt v))) := Lib.hid (by unfold shV; rw [if_pos hc])
    have h1' := h1
    rw [← str_byt s] at h1'
    have hg := rch_T h1'
    have hvl : (byt v).length ≤ 1000 := by rw [byt_len]; have := rch_size h2; omega
    have HD := Lib.hid (fun wx => depthBetween_any _ o b l (byt s) (byt v) wx hg hvl)
    rw [str_byt, str_byt] at HD
    have hC := Lib.hid h1
    have hD := Lib.hid h2
    have hCD := Lib.hid hc
    clear hc h1 h2 h1' hg
    generalize stF (bfsL (nxR o b l) (byt s)) (byt v) = st at HD hV
    cases st with
    | none =>
      have hst : dbV (none) = .tuple #[.int .i64 0, .bool false] := rfl
      rw [hst] at HD
      clear hst
      go_enter Try.func30, Try.ntmps30
      go_wp2_with fail
      refine (isRch_any _ _ hs).mono ?_; rintro e w' ⟨rfl, rfl⟩; rw [hC.out]
      go_wp2_with fail
      refine (isRch_any _ _ hv).mono ?_; rintro e w' ⟨rfl, rfl⟩; rw [hD.out]
      go_wp2_with fail
      refine (HD.out _).mono ?_
      rintro e w1 ⟨rfl, hb1⟩
      have HB1 := Lib.hid (((Below.refl w.heap.size w).alloc (Nat.le_refl _) (ruO o b l)).trans (hb1.mono (by simp)))
      clear hb1
      go_wp2
      go_ret2
      exact ⟨by rw [hV.out]; rfl, HB1.out⟩
    | some d =>
      have hst : dbV (some d) = .tuple #[.int .i64 (d : Int), .bool true] := rfl
      rw [hst] at HD
      clear hst
      go_enter Try.func30, Try.ntmps30
      go_wp2_with fail
      refine (isRch_any _ _ hs).mono ?_; rintro e w' ⟨rfl, rfl⟩; rw [hC.out]
      go_wp2_with fail
      refine (isRch_any _ _ hv).mono ?_; rintro e w' ⟨rfl, rfl⟩; rw [hD.out]
      go_wp2_with fail
      refine (HD.out _).mono ?_
      rintro e w1 ⟨rfl, hb1⟩
      have HB1 := Lib.hid (((Below.refl w.heap.size w).alloc (Nat.le_refl _) (ruO o b l)).trans (hb1.mono (by simp)))
      clear hb1
      go_wp2
      go_ret2
      exact ⟨by rw [hV.out]; rfl, HB1.out⟩
set_option maxHeartbeats 2000000 in
theorem iReachByRule_any (s v : ByteArray) (o b l : Bool) (w : World) (hs : s.size ≤ maxLen) (hv : v.size ≤ maxLen) :
    Calls Try.prog 36 #[.string s, .string v, ruV o b l] w fun e w' => e = .returned (rbV s v o b l) ∧ Below w.heap.size w w' := by
  cases hc : (rchB s && rchB v)
  · have hV : Hid (rbV s v o b l = .tuple #[.bool false, .bool false]) := Lib.hid (by unfold rbV; rw [hc]; rfl)
    cases h1 : rchB s
    · have hC := Lib.hid h1
      clear hc h1
      go_enter Try.func36, Try.ntmps36
      go_wp2_with fail
      refine (isRch_any _ _ hs).mono ?_; rintro e w' ⟨rfl, rfl⟩; rw [hC.out]
      go_wp2
      go_ret2
      exact ⟨by rw [hV.out]; rfl, (Below.refl _ _).alloc (Nat.le_refl _) _⟩
    · have h2 : rchB v = false := by rw [h1] at hc; simpa using hc
      have hC := Lib.hid h1
      have hD := Lib.hid h2
      clear hc h1 h2
      go_enter Try.func36, Try.ntmps36
      go_wp2_with fail
      refine (isRch_any _ _ hs).mono ?_; rintro e w' ⟨rfl, rfl⟩; rw [hC.out]
      go_wp2_with fail
      refine (isRch_any _ _ hv).mono ?_; rintro e w' ⟨rfl, rfl⟩; rw [hD.out]
      go_wp2
      go_ret2
      exact ⟨by rw [hV.out]; rfl, (Below.refl _ _).alloc (Nat.le_refl _) _⟩
  · obtain ⟨h1, h2⟩ := Bool.and_eq_true_iff.1 hc
    have hV : Hid (rbV s v o b l = .tuple #[.bool (stF (bfsL (nxR o b l) (byt s)) (byt v)).isSome, .bool true]) := Lib.hid (by unfold rbV; rw [if_pos hc])
    have h1' := h1
    rw [← str_byt s] at h1'
    have hg := rch_T h1'
    have hvl : (byt v).length ≤ 1000 := by rw [byt_len]; have := rch_size h2; omega
    have HD := Lib.hid (fun wx => depthBetween_any _ o b l (byt s) (byt v) wx hg hvl)
    rw [str_byt, str_byt] at HD
    have hC := Lib.hid h1
    have hD := Lib.hid h2
    have hCD := Lib.hid hc
    clear hc h1 h2 h1' hg
    generalize stF (bfsL (nxR o b l) (byt s)) (byt v) = st at HD hV
    cases st with
    | none =>
      have hst : dbV (none) = .tuple #[.int .i64 0, .bool false] := rfl
      rw [hst] at HD
      clear hst
      go_enter Try.func36, Try.ntmps36
      go_wp2_with fail
      refine (isRch_any _ _ hs).mono ?_; rintro e w' ⟨rfl, rfl⟩; rw [hC.out]
      go_wp2_with fail
      refine (isRch_any _ _ hv).mono ?_; rintro e w' ⟨rfl, rfl⟩; rw [hD.out]
      go_wp2_with fail
      refine (HD.out _).mono ?_
      rintro e w1 ⟨rfl, hb1⟩
      have HB1 := Lib.hid (((Below.refl w.heap.size w).alloc (Nat.le_refl _) (ruO o b l)).trans (hb1.mono (by simp)))
      clear hb1
      go_wp2
      go_ret2
      exact ⟨by rw [hV.out]; rfl, HB1.out⟩
    | some d =>
      have hst : dbV (some d) = .tuple #[.int .i64 (d : Int), .bool true] := rfl
      rw [hst] at HD
      clear hst
      go_enter Try.func36, Try.ntmps36
      go_wp2_with fail
      refine (isRch_any _ _ hs).mono ?_; rintro e w' ⟨rfl, rfl⟩; rw [hC.out]
      go_wp2_with fail
      refine (isRch_any _ _ hv).mono ?_; rintro e w' ⟨rfl, rfl⟩; rw [hD.out]
      go_wp2_with fail
      refine (HD.out _).mono ?_
      rintro e w1 ⟨rfl, hb1⟩
      have HB1 := Lib.hid (((Below.refl w.heap.size w).alloc (Nat.le_refl _) (ruO o b l)).trans (hb1.mono (by simp)))
      clear hb1
      go_wp2
      go_ret2
      exact ⟨by rw [hV.out]; rfl, HB1.out⟩
theorem shV_open (s v : ByteArray) (o b l : Bool) : ∃ x y, shV s v o b l = .tuple #[.int .i64 x, .bool y] := by
  have h : ∀ st, ∃ x y, dbV st = .tuple #[.int .i64 x, .bool y] := fun st => by cases st <;> exact ⟨_, _, rfl⟩
  unfold shV
  split
  · exact h _
  · exact h _
theorem rbV_open (s v : ByteArray) (o b l : Bool) : ∃ x y, rbV s v o b l = .tuple #[.bool x, .bool y] := by
  unfold rbV
  split
  · exact ⟨_, _, rfl⟩
  · exact ⟨_, _, rfl⟩
set_option maxRecDepth 100000 in
set_option maxHeartbeats 4000000 in
theorem walk_FnExactCountReachedByRule (s : ByteArray) (hs : s.size ≤ maxLen) (o b l : Bool) (w : World) :
    Calls Try.prog 8 #[.string s, ruV o b l] w fun e w' => e = .returned (.bool true) ∧ Below w.heap.size w w' := by
  by_cases hbig0 : (1048576 : Int) < (s.size : Int)
  · go_enter Try.func8, Try.ntmps8
    go_wp2
    go_ret
    exact ⟨rfl, (Below.refl _ _).alloc (Nat.le_refl _) _⟩
  · skip
    have HS := Lib.hid (fun wx => sCountRb_any s o b l wx hs)
    have HM := Lib.hid (fun wx => countRb_any s o b l wx hs)
    obtain ⟨x, y, hxy⟩ := crV_open s o b l
    rw [hxy] at HS HM
    clear hxy
    go_enter Try.func8, Try.ntmps8
    go_wp2_with fail
    refine (toRule_any o b l _).mono ?_
    rintro e w0 ⟨rfl, hb0⟩
    have HB0 := Lib.hid (((Below.refl w.heap.size w).alloc (Nat.le_refl _) (Obj.cells #[.bool o, .bool b, .bool l] 23)).trans (hb0.mono (by simp)))
    have HX0 := Lib.hid ((RuBx.new w o b l 23).below hb0)
    clear hb0
    go_wp2_with fail
    refine (HS.out _).mono ?_
    rintro e w1 ⟨rfl, hb1⟩
    have HX1 := Lib.hid (HX0.out.below hb1)
    have HB1 := Lib.hid (HB0.out.trans (hb1.mono HB0.out.size))
    clear hb1 HX0 HB0
    obtain ⟨_, x0, x1, x2⟩ := HX1.out
    go_wp2_with fail
    refine (toRule_any o b l _).mono ?_
    rintro e w2 ⟨rfl, hb2⟩
    clear x0 x1 x2
    have HB2 := Lib.hid (HB1.out.trans (hb2.mono HB1.out.size))
    clear hb2
    go_wp2_with fail
    refine (HM.out _).mono ?_
    rintro e w3 ⟨rfl, hb3⟩
    have HB3 := Lib.hid (HB2.out.trans (hb3.mono HB2.out.size))
    clear hb3
    go_wp2
    go_ret
    exact ⟨rfl, HB3.out⟩
set_option maxRecDepth 100000 in
set_option maxHeartbeats 4000000 in
theorem walk_FnExactShortestByRule (s : ByteArray) (hs : s.size ≤ maxLen) (v : ByteArray) (hv : v.size ≤ maxLen) (o b l : Bool) (w : World) :
    Calls Try.prog 6 #[.string s, .string v, ruV o b l] w fun e w' => e = .returned (.bool true) ∧ Below w.heap.size w w' := by
  by_cases hbig0 : (1048576 : Int) < (s.size : Int)
  · go_enter Try.func6, Try.ntmps6
    go_wp2
    go_ret
    exact ⟨rfl, (Below.refl _ _).alloc (Nat.le_refl _) _⟩
  · skip
    by_cases hbig1 : (1048576 : Int) < (v.size : Int)
    · go_enter Try.func6, Try.ntmps6
      go_wp2
      go_ret
      exact ⟨rfl, (Below.refl _ _).alloc (Nat.le_refl _) _⟩
    · skip
      have HS := Lib.hid (fun wx => sShortestByRule_any s v o b l wx hs hv)
      have HM := Lib.hid (fun wx => iShortestByRule_any s v o b l wx hs hv)
      obtain ⟨x, y, hxy⟩ := shV_open s v o b l
      rw [hxy] at HS HM
      clear hxy
      go_enter Try.func6, Try.ntmps6
      go_wp2_with fail
      refine (toRule_any o b l _).mono ?_
      rintro e w0 ⟨rfl, hb0⟩
      have HB0 := Lib.hid (((Below.refl w.heap.size w).alloc (Nat.le_refl _) (Obj.cells #[.bool o, .bool b, .bool l] 23)).trans (hb0.mono (by simp)))
      have HX0 := Lib.hid ((RuBx.new w o b l 23).below hb0)
      clear hb0
      go_wp2_with fail
      refine (HS.out _).mono ?_
      rintro e w1 ⟨rfl, hb1⟩
      have HX1 := Lib.hid (HX0.out.below hb1)
      have HB1 := Lib.hid (HB0.out.trans (hb1.mono HB0.out.size))
      clear hb1 HX0 HB0
      obtain ⟨_, x0, x1, x2⟩ := HX1.out
      go_wp2_with fail
      refine (toRule_any o b l _).mono ?_
      rintro e w2 ⟨rfl, hb2⟩
      clear x0 x1 x2
      have HB2 := Lib.hid (HB1.out.trans (hb2.mono HB1.out.size))
      clear hb2
      go_wp2_with fail
      refine (HM.out _).mono ?_
      rintro e w3 ⟨rfl, hb3⟩
      have HB3 := Lib.hid (HB2.out.trans (hb3.mono HB2.out.size))
      clear hb3
      go_wp2
      go_ret
      exact ⟨rfl, HB3.out⟩
set_option maxRecDepth 100000 in
set_option maxHeartbeats 4000000 in
theorem walk_FnExactReachByRule (s : ByteArray) (hs : s.size ≤ maxLen) (v : ByteArray) (hv : v.size ≤ maxLen) (o b l : Bool) (w : World) :
    Calls Try.prog 9 #[.string s, .string v, ruV o b l] w fun e w' => e = .returned (.bool true) ∧ Below w.heap.size w w' := by
  by_cases hbig0 : (1048576 : Int) < (s.size : Int)
  · go_enter Try.func9, Try.ntmps9
    go_wp2
    go_ret
    exact ⟨rfl, (Below.refl _ _).alloc (Nat.le_refl _) _⟩
  · skip
    by_cases hbig1 : (1048576 : Int) < (v.size : Int)
    · go_enter Try.func9, Try.ntmps9
      go_wp2
      go_ret
      exact ⟨rfl, (Below.refl _ _).alloc (Nat.le_refl _) _⟩
    · skip
      have HS := Lib.hid (fun wx => sReachByRule_any s v o b l wx hs hv)
      have HM := Lib.hid (fun wx => iReachByRule_any s v o b l wx hs hv)
      obtain ⟨x, y, hxy⟩ := rbV_open s v o b l
      rw [hxy] at HS HM
      clear hxy
      go_enter Try.func9, Try.ntmps9
      go_wp2_with fail
      refine (toRule_any o b l _).mono ?_
      rintro e w0 ⟨rfl, hb0⟩
      have HB0 := Lib.hid (((Below.refl w.heap.size w).alloc (Nat.le_refl _) (Obj.cells #[.bool o, .bool b, .bool l] 23)).trans (hb0.mono (by simp)))
      have HX0 := Lib.hid ((RuBx.new w o b l 23).below hb0)
      clear hb0
      go_wp2_with fail
      refine (HS.out _).mono ?_
      rintro e w1 ⟨rfl, hb1⟩
      have HX1 := Lib.hid (HX0.out.below hb1)
      have HB1 := Lib.hid (HB0.out.trans (hb1.mono HB0.out.size))
      clear hb1 HX0 HB0
      obtain ⟨_, x0, x1, x2⟩ := HX1.out
      go_wp2_with fail
      refine (toRule_any o b l _).mono ?_
      rintro e w2 ⟨rfl, hb2⟩
      clear x0 x1 x2
      have HB2 := Lib.hid (HB1.out.trans (hb2.mono HB1.out.size))
      clear hb2
      go_wp2_with fail
      refine (HM.out _).mono ?_
      rintro e w3 ⟨rfl, hb3⟩
      have HB3 := Lib.hid (HB2.out.trans (hb3.mono HB2.out.size))
      clear hb3
      go_wp2
      go_ret
      exact ⟨rfl, HB3.out⟩
end Go.Proofs.Ytcndlfoodbmgbaa
