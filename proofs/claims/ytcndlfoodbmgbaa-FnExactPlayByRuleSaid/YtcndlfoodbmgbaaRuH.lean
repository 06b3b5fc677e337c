/- Contracts: whether a move is among moves; a move by a rule asked and made; plays by a rule. -/
import Derived.Test.YtcndlfoodbmgbaaRuG
namespace Go.Proofs.Ytcndlfoodbmgbaa
open Go.RowKit

theorem eql_no {f t a b : Int} (h : ¬ (a = f ∧ b = t)) (w : World) : (binOp .eql 36 (.agg #[.int .i64 f, .int .i64 t]) (.agg #[.int .i64 a, .int .i64 b])).run Try.prog w = .ok (.bool false) w := by
  rw [eql_move]
  congr 2
  rw [Bool.and_eq_false_iff]
  by_cases e : f = a
  · exact .inr (by simpa using fun e2 : t = b => h ⟨e.symm, e2.symm⟩)
  · exact .inl (by simpa using e)
theorem eql_yes (f t : Int) (w : World) : (binOp .eql 36 (.agg #[.int .i64 f, .int .i64 t]) (.agg #[.int .i64 f, .int .i64 t])).run Try.prog w = .ok (.bool true) w := by
  rw [eql_move]
  simp

set_option maxHeartbeats 1000000 in
theorem indexMv_any (l : List (Int × Int)) (A : Option Addr) (c : Nat) (f t : Int) (w : World) (hat : MvAt w A l) (hn : l.length ≤ 1000) :
    Calls Try.prog 101 #[.slice A l.length c, .agg #[.int .i64 f, .int .i64 t]] w fun e w' => ∃ r : Int, e = .returned (.int .i64 r) ∧ (0 ≤ r ↔ (f, t) ∈ l) ∧ Below w.heap.size w w' := by
  have HAT : Hid (MvAt (w.alloc (mvB f t)) A l) := Lib.hid fun k hk => by
    obtain ⟨g, a, b, c, d⟩ := hat k hk
    exact ⟨g, a, by simp; omega, (cell_below w (mvB f t) g _ b).trans c, (cell_below w (mvB f t) g _ b).trans d⟩
  clear hat
  go_enter Try.func101, Try.ntmps101
  go_wp2
  obtain ⟨W0, hW0⟩ : ∃ W0, W0 = w.alloc (mvB f t) := ⟨_, rfl⟩
  rw [← hW0] at HAT ⊢
  have q0 : W0.cell? ⟨w.heap.size, 0, none⟩ = some (.int .i64 f) := by rw [hW0, World.cell?_alloc_new]; rfl
  have q1 : W0.cell? ⟨w.heap.size, 1, none⟩ = some (.int .i64 t) := by rw [hW0, World.cell?_alloc_new]; rfl
  have hzl : w.heap.size < W0.heap.size := by rw [hW0]; simp
  have HB0 : Hid (Below w.heap.size w W0) := Lib.hid (by rw [hW0]; exact (Below.refl _ _).alloc (Nat.le_refl _) _)
  clear hW0
  go_loopw [8] (fun x wr => ∃ j : Nat, j ≤ l.length ∧ x = .int .i64 j ∧ Hid (∀ k (h : k < l.length), k < j → l[k] ≠ (f, t)) ∧ Below W0.heap.size W0 wr) (fun x _ => l.length - (intOf x).toNat)
  case atStart => exact ⟨0, Nat.zero_le _, rfl, Lib.hid fun k _ hk => absurd hk (by omega), Below.refl _ _⟩
  case round =>
    obtain ⟨j, hj, rfl, hno, hB⟩ := hrel
    by_cases hlt : j < l.length
    · obtain ⟨g, rfl, hg, c0, c1⟩ := (HAT.out.below hB) j hlt
      have d0 := (hB.cell (p := ⟨w.heap.size, 0, none⟩) hzl).trans q0
      have d1 := (hB.cell (p := ⟨w.heap.size, 1, none⟩) hzl).trans q1
      have i1 : (0 : Int) ≤ (j : Int) := by omega
      have i2 : (j : Int) < (l.length : Int) := by omega
      have HM : Hid (l[j] ∈ l) := Lib.hid (List.getElem_mem hlt)
      have HN : Hid (l[j] ≠ (f, t) → ∀ k (h : k < l.length), k < j + 1 → l[k] ≠ (f, t)) := Lib.hid fun h0 k h hk => by
        by_cases e : k = j
        · subst e; exact h0
        · exact hno.out k h (by omega)
      obtain ⟨⟨a, b⟩, hp⟩ : ∃ p, p = l[j] := ⟨_, rfl⟩
      rw [← hp] at c0 c1 HM HN
      clear hp
      by_cases e : a = f ∧ b = t
      · obtain ⟨rfl, rfl⟩ := e
        have hq := eql_yes a b
        go_wp2
        go_quiet (fail)
        go_wp2
        go_ret
        exact ⟨j, rfl, ⟨fun _ => HM.out, fun _ => by omega⟩, HB0.out.trans ((below_drewN hB _).mono (by omega))⟩
      · have hq := fun wx => eql_no e wx
        have HN2 := Lib.hid (HN.out (fun h => by injection h with h1 h2; exact e ⟨h1, h2⟩))
        clear e
        go_wp2
        go_quiet (fail)
        go_wp2
        go_roundw
        case rel => exact ⟨j + 1, by omega, by go_num, HN2, below_drewN hB _⟩
        case measure => simp [intOf]; omega
    · obtain rfl : j = l.length := by omega
      go_wp2
      go_ret
      refine ⟨-1, rfl, ⟨fun h => by omega, fun h => ?_⟩, HB0.out.trans (hB.mono (by omega))⟩
      obtain ⟨k, hk, e⟩ := List.getElem_of_mem h
      exact absurd e (hno.out k hk hk)

set_option maxHeartbeats 1000000 in
theorem containsMv_any (l : List (Int × Int)) (A : Option Addr) (c : Nat) (f t : Int) (w : World) (hat : MvAt w A l) (hn : l.length ≤ 1000) :
    Calls Try.prog 63 #[.slice A l.length c, .agg #[.int .i64 f, .int .i64 t]] w fun e w' => ∃ r : Bool, e = .returned (.bool r) ∧ (r = true ↔ (f, t) ∈ l) ∧ Below w.heap.size w w' := by
  have HAT : Hid (MvAt (w.alloc (mvB f t)) A l) := Lib.hid fun k hk => by
    obtain ⟨g, a, b, c, d⟩ := hat k hk
    exact ⟨g, a, by simp; omega, (cell_below w (mvB f t) g _ b).trans c, (cell_below w (mvB f t) g _ b).trans d⟩
  clear hat
  go_enter Try.func63, Try.ntmps63
  go_wp2_with fail
  refine (indexMv_any l A c f t _ HAT.out hn).mono ?_
  rintro e w1 ⟨r, rfl, hr, hb⟩
  have HR := Lib.hid hr
  have HB := Lib.hid (((Below.refl w.heap.size w).alloc (Nat.le_refl _) (mvB f t)).trans (hb.mono (by simp)))
  clear hr hb
  go_wp2
  go_ret
  exact ⟨decide (0 ≤ r), rfl, by rw [decide_eq_true_iff]; exact HR.out, HB.out⟩

theorem mem_ruOr (s : ByteArray) (o b l : Bool) (f t : Int) : (f, t) ∈ ruOr s o b l ↔ (rchB s && ruC s o b l f t) = true := by
  unfold ruOr
  cases h : rchB s
  · simp
  · simp only [if_true, Bool.true_and]
    rw [mem_ruTo]
    constructor
    · exact fun h => h.2.2
    · intro h
      obtain ⟨a, c, rfl, rfl, ha, _, _⟩ := ruC_in h
      exact ⟨by omega, by omega, h⟩
/-- The answer on one move. -/
def canV (s : ByteArray) (o b l : Bool) (f t : Int) : Value := .tuple #[.bool (rchB s && ruC s o b l f t), .bool (rchB s)]

set_option maxHeartbeats 1000000 in
theorem canByRule_any (s : ByteArray) (f t : Int) (o b l : Bool) (w : World) (hs : s.size ≤ maxLen) :
    Calls Try.prog 26 #[.string s, .agg #[.int .i64 f, .int .i64 t], ruV o b l] w fun e w' => e = .returned (canV s o b l f t) ∧ Below w.heap.size w w' := by
  have hle := ruOr_le s o b l
  have HM := Lib.hid (mem_ruOr s o b l f t)
  go_enter Try.func26, Try.ntmps26
  go_wp2_with fail
  refine (ruleMoves_any s o b l _ hs).mono ?_
  rintro e w1 ⟨v, rfl, ho, hb⟩
  obtain ⟨A, cap, rfl, hat⟩ := at_of_own ho
  have HAT := Lib.hid hat
  obtain ⟨hcell, _⟩ := bcell hb
  have d0 : w1.cell? ⟨w.heap.size, 0, none⟩ = some (.int .i64 f) := by rw [hcell _ _ (by simp; omega), cell_below _ _ _ _ (by simp), World.cell?_alloc_new]; rfl
  have d1 : w1.cell? ⟨w.heap.size, 1, none⟩ = some (.int .i64 t) := by rw [hcell _ _ (by simp; omega), cell_below _ _ _ _ (by simp), World.cell?_alloc_new]; rfl
  have HB := Lib.hid ((((Below.refl w.heap.size w).alloc (Nat.le_refl _) (mvB f t)).alloc (by simp) (ruO o b l)).trans (hb.mono (by simp; omega)))
  clear ho hb hat hcell
  generalize ruOr s o b l = L at HAT HM hle
  go_wp2_with fail
  refine (containsMv_any L A cap f t _ HAT.out (by omega)).mono ?_
  rintro e w2 ⟨r, rfl, hr, hb2⟩
  have HR : Hid (r = (rchB s && ruC s o b l f t)) := Lib.hid (by rw [Bool.eq_iff_iff, hr, HM.out])
  have HB2 := Lib.hid (HB.out.trans (hb2.mono HB.out.size))
  clear hr hb2 HB
  go_wp2
  go_ret2
  exact ⟨by rw [HR.out]; rfl, HB2.out⟩

set_option maxHeartbeats 1000000 in
theorem sCanByRule_any (s : ByteArray) (f t : Int) (o b l : Bool) (w : World) (hs : s.size ≤ maxLen) :
    Calls Try.prog 24 #[.string s, .agg #[.int .i64 f, .int .i64 t], ruV o b l] w fun e w' => e = .returned (canV s o b l f t) ∧ Below w.heap.size w w' := by
  cases hc : rchB s
  · have hC := Lib.hid hc
    have hR : Hid (canV s o b l f t = .tuple #[.bool false, .bool false]) := Lib.hid (by unfold canV; rw [hc]; rfl)
    clear hc
    go_enter Try.func24, Try.ntmps24
    go_wp2_with (go_at_call 56; refine (sRch_any _ _ hs).mono ?_; rintro e w' ⟨rfl, rfl⟩; rw [hC.out])
    go_ret2
    exact ⟨by rw [hR.out]; rfl, ((Below.refl _ _).alloc (Nat.le_refl _) _).alloc (by simp) _⟩
  · have h1 := good1000 (rch_good hc)
    have hC := Lib.hid hc
    have hR : Hid (canV s o b l f t = .tuple #[.bool (ruC s o b l f t), .bool true]) := Lib.hid (by unfold canV; rw [hc]; rfl)
    clear hc
    go_enter Try.func24, Try.ntmps24
    go_wp2_with (go_at_call 56; refine (sRch_any _ _ hs).mono ?_; rintro e w' ⟨rfl, rfl⟩; rw [hC.out])
    refine (ruCan_any s o b l f t _ h1).mono ?_
    rintro e w1 ⟨rfl, hb1⟩
    go_wp2
    go_ret2
    exact ⟨by rw [hR.out]; rfl, (((Below.refl _ _).alloc (Nat.le_refl _) _).alloc (by simp) _).trans (hb1.mono (by simp; omega))⟩

/-- The line behind a move by a rule, or none. -/
def makV (s : ByteArray) (o b l : Bool) (f t : Int) : Value := strOr (rchB s && ruC s o b l f t) (behind s f t)

set_option maxHeartbeats 1000000 in
theorem sMakeByRule_any (s : ByteArray) (f t : Int) (o b l : Bool) (w : World) (hs : s.size ≤ maxLen) :
    Calls Try.prog 27 #[.string s, .agg #[.int .i64 f, .int .i64 t], ruV o b l] w fun e w' => e = .returned (makV s o b l f t) ∧ Below w.heap.size w w' := by
  cases hc : rchB s
  · have hC := Lib.hid hc
    have hR : Hid (makV s o b l f t = .tuple #[.string (str []), .bool false]) := Lib.hid (by unfold makV; rw [hc]; rfl)
    clear hc
    go_enter Try.func27, Try.ntmps27
    go_wp2_with (go_at_call 56; refine (sRch_any _ _ hs).mono ?_; rintro e w' ⟨rfl, rfl⟩; rw [hC.out])
    go_ret2
    exact ⟨by rw [hR.out]; rfl, ((Below.refl _ _).alloc (Nat.le_refl _) _).alloc (by simp) _⟩
  · have h1 := good1000 (rch_good hc)
    have hC := Lib.hid hc
    cases hm : ruC s o b l f t
    · have hM := Lib.hid hm
      have hR : Hid (makV s o b l f t = .tuple #[.string (str []), .bool false]) := Lib.hid (by unfold makV; rw [hc, hm]; rfl)
      clear hc hm
      go_enter Try.func27, Try.ntmps27
      go_wp2_with (go_at_call 56; refine (sRch_any _ _ hs).mono ?_; rintro e w' ⟨rfl, rfl⟩; rw [hC.out])
      refine (ruCan_any s o b l f t _ h1).mono ?_
      rintro e w1 ⟨rfl, hb1⟩
      rw [hM.out]
      go_wp2
      go_ret2
      exact ⟨by rw [hR.out]; rfl, (((Below.refl _ _).alloc (Nat.le_refl _) _).alloc (by simp) _).trans (hb1.mono (by simp; omega))⟩
    · obtain ⟨a, c, rfl, rfl, ha, hc', hne⟩ := ruC_in hm
      have hM := Lib.hid hm
      have hR : Hid (makV s o b l a c = .tuple #[.string (str (putL s a c)), .bool true]) := Lib.hid (by unfold makV; rw [hc, hm]; rfl)
      clear hc hm
      go_enter Try.func27, Try.ntmps27
      go_wp2_with (go_at_call 56; refine (sRch_any _ _ hs).mono ?_; rintro e w' ⟨rfl, rfl⟩; rw [hC.out])
      refine (ruCan_any s o b l a c _ h1).mono ?_
      rintro e w1 ⟨rfl, hb1⟩
      rw [hM.out]
      obtain ⟨hcell, _⟩ := bcell hb1
      have d0 : w1.cell? ⟨w.heap.size, 0, none⟩ = some (.int .i64 a) := by rw [hcell _ _ (by simp; omega), cell_below _ _ _ _ (by simp), World.cell?_alloc_new]; rfl
      have d1 : w1.cell? ⟨w.heap.size, 1, none⟩ = some (.int .i64 c) := by rw [hcell _ _ (by simp; omega), cell_below _ _ _ _ (by simp), World.cell?_alloc_new]; rfl
      have HB := Lib.hid ((((Below.refl w.heap.size w).alloc (Nat.le_refl _) (mvB a c)).alloc (by simp) (ruO o b l)).trans (hb1.mono (by simp; omega)))
      clear hb1 hcell
      go_wp2_with fail
      refine (liMake_any s a c _ h1 ha hc' hne).mono ?_
      rintro e w2 ⟨rfl, hb2⟩
      have HB2 := Lib.hid (HB.out.trans (hb2.mono HB.out.size))
      clear hb2 d0 d1
      go_wp2
      go_ret2
      exact ⟨by rw [hR.out]; rfl, HB2.out⟩

set_option maxHeartbeats 1000000 in
theorem makeByRule_any (s : ByteArray) (f t : Int) (o b l : Bool) (w : World) (hs : s.size ≤ maxLen) :
    Calls Try.prog 28 #[.string s, .agg #[.int .i64 f, .int .i64 t], ruV o b l] w fun e w' => e = .returned (makV s o b l f t) ∧ Below w.heap.size w w' := by
  cases hm : rchB s && ruC s o b l f t
  · have hR : Hid (makV s o b l f t = .tuple #[.string (str []), .bool false]) := Lib.hid (by unfold makV; rw [hm]; rfl)
    have hV : Hid (canV s o b l f t = .tuple #[.bool false, .bool (rchB s)]) := Lib.hid (by unfold canV; rw [hm])
    clear hm
    go_enter Try.func28, Try.ntmps28
    go_wp2_with fail
    refine (canByRule_any s f t o b l _ hs).mono ?_
    rintro e w1 ⟨rfl, hb1⟩
    rw [hV.out]
    go_wp2
    go_ret2
    exact ⟨by rw [hR.out]; rfl, (((Below.refl _ _).alloc (Nat.le_refl _) _).alloc (by simp) _).trans (hb1.mono (by simp; omega))⟩
  · obtain ⟨a, c, rfl, rfl, ha, hc', hne⟩ := ruC_in (Bool.and_eq_true_iff.1 hm).2
    have hR : Hid (makV s o b l a c = .tuple #[.string (str (putL s a c)), .bool true]) := Lib.hid (by unfold makV; rw [hm]; rfl)
    have hV : Hid (canV s o b l a c = .tuple #[.bool true, .bool (rchB s)]) := Lib.hid (by unfold canV; rw [hm])
    clear hm
    go_enter Try.func28, Try.ntmps28
    go_wp2_with fail
    refine (canByRule_any s a c o b l _ hs).mono ?_
    rintro e w1 ⟨rfl, hb1⟩
    rw [hV.out]
    obtain ⟨hcell, _⟩ := bcell hb1
    have d0 : w1.cell? ⟨w.heap.size, 0, none⟩ = some (.int .i64 a) := by rw [hcell _ _ (by simp; omega), cell_below _ _ _ _ (by simp), World.cell?_alloc_new]; rfl
    have d1 : w1.cell? ⟨w.heap.size, 1, none⟩ = some (.int .i64 c) := by rw [hcell _ _ (by simp; omega), cell_below _ _ _ _ (by simp), World.cell?_alloc_new]; rfl
    have HB := Lib.hid ((((Below.refl w.heap.size w).alloc (Nat.le_refl _) (mvB a c)).alloc (by simp) (ruO o b l)).trans (hb1.mono (by simp; omega)))
    clear hb1 hcell
    go_wp2_with fail
    refine (lineBehind_any s a c _ ha hc' hne).mono ?_
    rintro e w2 ⟨rfl, hb2⟩
    have HB2 := Lib.hid (HB.out.trans (hb2.mono HB.out.size))
    clear hb2 d0 d1
    go_wp2
    go_ret2
    exact ⟨by rw [hR.out]; rfl, HB2.out⟩
end Go.Proofs.Ytcndlfoodbmgbaa
