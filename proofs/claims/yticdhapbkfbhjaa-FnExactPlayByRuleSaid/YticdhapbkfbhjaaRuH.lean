/- Contracts: whether a move is among moves; a move by a rule asked and made; plays by a rule. -/
import Derived.Test.YticdhapbkfbhjaaRuG
import Derived.Test.YticdhapbkfbhjaaIxM
namespace Go.Proofs.Yticdhapbkfbhjaa
open Go.RowKit

theorem mem_ruOr (s : ByteArray) (o b l : Bool) (f t : Int) : (f, t) ∈ ruOr s o b l ↔ (rchB s && ruC s o b l f t) = true := by
  unfold ruOr
  cases h : rchB s
  · simp
  · simp only [if_true, Bool.true_and]
    rw [mem_ruTo]
    constructor
    · exact fun h => h.2.2
    · intro h
      obtain ⟨a, c, rfl, rfl, ha, _, _⟩ := ruC_in h
      exact ⟨by omega, by omega, h⟩
/-- The answer on one move. -/
def canV (s : ByteArray) (o b l : Bool) (f t : Int) : Value := .tuple #[.bool (rchB s && ruC s o b l f t), .bool (rchB s)]

set_option maxHeartbeats 1000000 in
theorem canByRule_any (s : ByteArray) (f t : Int) (o b l : Bool) (w : World) (hs : s.size ≤ maxLen) :
    Calls Try.prog 99 #[.string s, .agg #[.int .i64 f, .int .i64 t], ruV o b l] w fun e w' => e = .returned (canV s o b l f t) ∧ Below w.heap.size w w' := by
  have hle := ruOr_le s o b l
  have HM := Lib.hid (mem_ruOr s o b l f t)
  go_enter Try.func99, Try.ntmps99
  go_wp2_with fail
  refine (ruleMoves_any s o b l _ hs).mono ?_
  rintro e w1 ⟨v, rfl, ho, hb⟩
  obtain ⟨A, cap, rfl, hat⟩ := at_of_own ho
  have HAT := Lib.hid hat
  obtain ⟨hcell, _⟩ := bcell hb
  have d0 : w1.cell? ⟨w.heap.size, 0, none⟩ = some (.int .i64 f) := by rw [hcell _ _ (by simp; omega), cell_below _ _ _ _ (by simp), World.cell?_alloc_new]; rfl
  have d1 : w1.cell? ⟨w.heap.size, 1, none⟩ = some (.int .i64 t) := by rw [hcell _ _ (by simp; omega), cell_below _ _ _ _ (by simp), World.cell?_alloc_new]; rfl
  have HB := Lib.hid ((((Below.refl w.heap.size w).alloc (Nat.le_refl _) (mvB f t)).alloc (by simp) (ruO o b l)).trans (hb.mono (by simp; omega)))
  clear ho hb hat hcell
  generalize ruOr s o b l = L at HAT HM hle
  go_wp2_with fail
  refine (containsMv_any L A cap f t _ HAT.out (by omega)).mono ?_
  rintro e w2 ⟨r, rfl, hr, hb2⟩
  have HR : Hid (r = (rchB s && ruC s o b l f t)) := Lib.hid (by rw [Bool.eq_iff_iff, hr, HM.out])
  have HB2 := Lib.hid (HB.out.trans (hb2.mono HB.out.size))
  clear hr hb2 HB
  go_wp2
  go_ret2
  exact ⟨by rw [HR.out]; rfl, HB2.out⟩

/-- The line behind a move by a rule, or none. -/
def makV (s : ByteArray) (o b l : Bool) (f t : Int) : Value := strOr (rchB s && ruC s o b l f t) (behind s f t)

set_option maxHeartbeats 1000000 in
theorem makeByRule_any (s : ByteArray) (f t : Int) (o b l : Bool) (w : World) (hs : s.size ≤ maxLen) :
    Calls Try.prog 71 #[.string s, .agg #[.int .i64 f, .int .i64 t], ruV o b l] w fun e w' => e = .returned (makV s o b l f t) ∧ Below w.heap.size w w' := by
  cases hm : rchB s && ruC s o b l f t
  · have hR : Hid (makV s o b l f t = .tuple #[.string (str []), .bool false]) := Lib.hid (by unfold makV; rw [hm]; rfl)
    have hV : Hid (canV s o b l f t = .tuple #[.bool false, .bool (rchB s)]) := Lib.hid (by unfold canV; rw [hm])
    clear hm
    go_enter Try.func71, Try.ntmps71
    go_wp2_with fail
    refine (canByRule_any s f t o b l _ hs).mono ?_
    rintro e w1 ⟨rfl, hb1⟩
    rw [hV.out]
    go_wp2
    go_ret2
    exact ⟨by rw [hR.out]; rfl, (((Below.refl _ _).alloc (Nat.le_refl _) _).alloc (by simp) _).trans (hb1.mono (by simp; omega))⟩
  · obtain ⟨a, c, rfl, rfl, ha, hc', hne⟩ := ruC_in (Bool.and_eq_true_iff.1 hm).2
    have hR : Hid (makV s o b l a c = .tuple #[.string (str (putL s a c)), .bool true]) := Lib.hid (by unfold makV; rw [hm]; rfl)
    have hV : Hid (canV s o b l a c = .tuple #[.bool true, .bool (rchB s)]) := Lib.hid (by unfold canV; rw [hm])
    clear hm
    go_enter Try.func71, Try.ntmps71
    go_wp2_with fail
    refine (canByRule_any s a c o b l _ hs).mono ?_
    rintro e w1 ⟨rfl, hb1⟩
    rw [hV.out]
    obtain ⟨hcell, _⟩ := bcell hb1
    have d0 : w1.cell? ⟨w.heap.size, 0, none⟩ = some (.int .i64 a) := by rw [hcell _ _ (by simp; omega), cell_below _ _ _ _ (by simp), World.cell?_alloc_new]; rfl
    have d1 : w1.cell? ⟨w.heap.size, 1, none⟩ = some (.int .i64 c) := by rw [hcell _ _ (by simp; omega), cell_below _ _ _ _ (by simp), World.cell?_alloc_new]; rfl
    have HB := Lib.hid ((((Below.refl w.heap.size w).alloc (Nat.le_refl _) (mvB a c)).alloc (by simp) (ruO o b l)).trans (hb1.mono (by simp; omega)))
    clear hb1 hcell
    go_wp2_with fail
    refine (lineBehind_any s a c _ ha hc' hne).mono ?_
    rintro e w2 ⟨rfl, hb2⟩
    have HB2 := Lib.hid (HB.out.trans (hb2.mono HB.out.size))
    clear hb2 d0 d1
    go_wp2
    go_ret2
    exact ⟨by rw [hR.out]; rfl, HB2.out⟩
end Go.Proofs.Yticdhapbkfbhjaa
