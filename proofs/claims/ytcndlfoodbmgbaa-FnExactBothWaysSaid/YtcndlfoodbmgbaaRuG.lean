/- Contracts: the exported functions on moves by a rule. -/
import Derived.Test.YtcndlfoodbmgbaaRuF
import Derived.Test.YtcndlfoodbmgbaaWalkV
namespace Go.Proofs.Ytcndlfoodbmgbaa
open Go.RowKit

/-- A line of at most ten cells, as both sides ask it. -/
def rchB (s : ByteArray) : Bool := goodL s && decide (s.size ≤ 10)
theorem rch_good {s : ByteArray} (h : rchB s = true) : goodL s = true := by
  unfold rchB at h
  exact (Bool.and_eq_true_iff.1 h).1
theorem rch_T {l : List UInt8} (h : rchB (str l) = true) : goodT l.length l := by
  unfold rchB at h
  rw [Bool.and_eq_true, decide_eq_true_eq, str_size] at h
  exact ⟨h.1, rfl, h.2⟩
set_option maxHeartbeats 400000 in
theorem isRch_any (s : ByteArray) (w : World) (hs : s.size ≤ maxLen) :
    Calls Try.prog 58 #[.string s] w fun e w' => e = .returned (.bool (rchB s)) ∧ w = w' := by
  cases hc : goodL s
  · have hR : Hid (rchB s = false) := Lib.hid (by unfold rchB; rw [hc]; rfl)
    have hC := Lib.hid hc
    clear hc
    go_enter Try.func58, Try.ntmps58
    go_wp2_with (go_at_call 97; refine (isLine_any _ _ hs).mono ?_; rintro e w' ⟨rfl, rfl⟩; rw [hC.out])
    go_ret
    exact ⟨by rw [hR.out]; rfl, rfl⟩
  · have hC := Lib.hid hc
    have h12 := ((goodL_iff s).1 hc).2.1
    have hR : Hid (rchB s = decide (s.size ≤ 10)) := Lib.hid (by unfold rchB; rw [hc]; simp)
    clear hc
    go_enter Try.func58, Try.ntmps58
    go_wp2_with (go_at_call 97; refine (isLine_any _ _ hs).mono ?_; rintro e w' ⟨rfl, rfl⟩; rw [hC.out])
    go_ret
    exact ⟨by rw [hR.out]; exact congrArg (fun b => Ending.returned (.bool b)) (decide_eq_decide.2 (by omega)), rfl⟩
set_option maxHeartbeats 400000 in
theorem sRch_any (s : ByteArray) (w : World) (hs : s.size ≤ maxLen) :
    Calls Try.prog 56 #[.string s] w fun e w' => e = .returned (.bool (rchB s)) ∧ w = w' := by
  cases hc : goodL s
  · have hR : Hid (rchB s = false) := Lib.hid (by unfold rchB; rw [hc]; rfl)
    have hC := Lib.hid hc
    clear hc
    go_enter Try.func56, Try.ntmps56
    go_wp2_with (go_at_call 96; refine (liGood_any _ _ hs).mono ?_; rintro e w' ⟨rfl, rfl⟩; rw [hC.out])
    go_ret
    exact ⟨by rw [hR.out]; rfl, rfl⟩
  · have hC := Lib.hid hc
    have h12 := ((goodL_iff s).1 hc).2.1
    have hR : Hid (rchB s = decide (s.size ≤ 10)) := Lib.hid (by unfold rchB; rw [hc]; simp)
    clear hc
    go_enter Try.func56, Try.ntmps56
    go_wp2_with (go_at_call 96; refine (liGood_any _ _ hs).mono ?_; rintro e w' ⟨rfl, rfl⟩; rw [hC.out])
    go_ret
    exact ⟨by rw [hR.out]; exact congrArg (fun b => Ending.returned (.bool b)) (decide_eq_decide.2 (by omega)), rfl⟩
set_option maxHeartbeats 400000 in
theorem toRule_any (o b l : Bool) (w : World) : Calls Try.prog 19 #[ruV o b l] w fun e w' => e = .returned (ruV o b l) ∧ Below w.heap.size w w' := by
  go_enter Try.func19, Try.ntmps19
  go_wp2
  refine bodyPost_ret (v := ruV o b l) (by simp [results, Try.results19, go_sem]) rfl ⟨rfl, ?_⟩
  exact (((Below.refl _ _).alloc (Nat.le_refl _) _).alloc (by simp) _).alloc (by simp; omega) _
def ruOr (s : ByteArray) (o b l : Bool) : List (Int × Int) := if rchB s then ruTo s o b l s.size else []
theorem ruOr_le (s : ByteArray) (o b l : Bool) : (ruOr s o b l).length ≤ 200 := by
  unfold ruOr
  split
  · rename_i h
    have h1 := ruTo_le s o b l s.size
    have h2 := ((goodL_iff s).1 (rch_good h)).2.1
    have : s.size * s.size ≤ 12 * 12 := Nat.mul_le_mul h2 h2
    omega
  · simp
/-- A rule's box. -/
structure RuBx (W : World) (B : Nat) (o b l : Bool) : Prop where
  lt : B < W.heap.size
  c0 : W.cell? ⟨B, 0, none⟩ = some (.bool o)
  c1 : W.cell? ⟨B, 1, none⟩ = some (.bool b)
  c2 : W.cell? ⟨B, 2, none⟩ = some (.bool l)
theorem RuBx.below {W W' : World} {B : Nat} {o b l : Bool} (h : RuBx W B o b l) (hb : Below W.heap.size W W') : RuBx W' B o b l :=
  ⟨Nat.lt_of_lt_of_le h.lt hb.size, (hb.cell (p := ⟨B, 0, none⟩) h.lt).trans h.c0, (hb.cell (p := ⟨B, 1, none⟩) h.lt).trans h.c1, (hb.cell (p := ⟨B, 2, none⟩) h.lt).trans h.c2⟩
theorem RuBx.new (w : World) (o b l : Bool) (t : TypeId) : RuBx (w.alloc (Obj.cells #[.bool o, .bool b, .bool l] t)) w.heap.size o b l :=
  ⟨by simp, by rw [World.cell?_alloc_new]; rfl, by rw [World.cell?_alloc_new]; rfl, by rw [World.cell?_alloc_new]; rfl⟩

set_option maxHeartbeats 1000000 in
theorem sRuleMoves_any (s : ByteArray) (o b l : Bool) (w : World) (hs : s.size ≤ maxLen) :
    Calls Try.prog 18 #[.string s, ruV o b l] w (MvAns w (rchB s) (ruOr s o b l)) := by
  cases hc : rchB s
  · have hC := Lib.hid hc
    have hM : Hid (ruOr s o b l = []) := Lib.hid (by unfold ruOr; rw [hc]; rfl)
    clear hc
    go_enter Try.func18, Try.ntmps18
    go_wp2_with (go_at_call 56; refine (sRch_any _ _ hs).mono ?_; rintro e w' ⟨rfl, rfl⟩; rw [hC.out])
    go_ret2
    exact ⟨_, rfl, by rw [hM.out]; exact World.ownsRow_nil _ _ _ _, (Below.refl _ _).alloc (Nat.le_refl _) _⟩
  · have hg := Lib.hid (rch_good hc)
    have hC := Lib.hid hc
    have hM : Hid (ruOr s o b l = ruTo s o b l s.size) := Lib.hid (by unfold ruOr; rw [hc]; rfl)
    clear hc
    go_enter Try.func18, Try.ntmps18
    go_wp2_with (go_at_call 56; refine (sRch_any _ _ hs).mono ?_; rintro e w' ⟨rfl, rfl⟩; rw [hC.out])
    refine (ruMoves_any s o b l _ hg.out).mono ?_
    rintro e w1 ⟨v, rfl, ho, hb⟩
    have HO := Lib.hid (own_base ho (by simp : w.heap.size ≤ _))
    have HB := Lib.hid (((Below.refl w.heap.size w).alloc (Nat.le_refl _) (ruO o b l)).trans (hb.mono (by simp)))
    clear ho hb
    go_wp2
    go_ret2
    exact ⟨_, rfl, by rw [hM.out]; exact HO.out, HB.out⟩

set_option maxHeartbeats 1000000 in
theorem ruleMoves_any (s : ByteArray) (o b l : Bool) (w : World) (hs : s.size ≤ maxLen) :
    Calls Try.prog 20 #[.string s, ruV o b l] w (MvAns w (rchB s) (ruOr s o b l)) := by
  cases hc : rchB s
  · have hC := Lib.hid hc
    have hM : Hid (ruOr s o b l = []) := Lib.hid (by unfold ruOr; rw [hc]; rfl)
    clear hc
    go_enter Try.func20, Try.ntmps20
    go_wp2_with (go_at_call 58; refine (isRch_any _ _ hs).mono ?_; rintro e w' ⟨rfl, rfl⟩; rw [hC.out])
    go_ret2
    exact ⟨_, rfl, by rw [hM.out]; exact World.ownsRow_nil _ _ _ _, (Below.refl _ _).alloc (Nat.le_refl _) _⟩
  · have hg := Lib.hid (rch_good hc)
    have hC := Lib.hid hc
    have hM : Hid (ruOr s o b l = ruTo s o b l s.size) := Lib.hid (by unfold ruOr; rw [hc]; rfl)
    clear hc
    go_enter Try.func20, Try.ntmps20
    go_wp2_with fail
    refine (isRch_any _ _ hs).mono ?_
    rintro e w' ⟨rfl, rfl⟩
    rw [hC.out]
    go_wp2_with fail
    refine (partsOf_any o b l _).mono ?_
    rintro e w1 ⟨rfl, hb1⟩
    have HB1 := Lib.hid (((Below.refl w.heap.size w).alloc (Nat.le_refl _) (ruO o b l)).trans (hb1.mono (by simp)))
    clear hb1
    go_wp2_with fail
    refine (rmoves_any s o b l _ hg.out).mono ?_
    rintro e w2 ⟨v, rfl, ho, hb⟩
    have HO := Lib.hid (own_base ho HB1.out.size)
    have HB := Lib.hid (HB1.out.trans (hb.mono HB1.out.size))
    clear ho hb
    go_wp2
    go_ret2
    exact ⟨_, rfl, by rw [hM.out]; exact HO.out, HB.out⟩

set_option maxRecDepth 100000 in
set_option maxHeartbeats 4000000 in
theorem walk_FnExactRuleMoves (s : ByteArray) (hs : s.size ≤ maxLen) (o b l : Bool) (w : World) :
    Calls Try.prog 3 #[.string s, ruV o b l] w fun e w' => e = .returned (.bool true) ∧ Below w.heap.size w w' := by
  by_cases hbig : (1048576 : Int) < (s.size : Int)
  · go_enter Try.func3, Try.ntmps3
    go_wp2
    go_ret
    exact ⟨rfl, (Below.refl _ _).alloc (Nat.le_refl _) _⟩
  · have hle : (ruOr s o b l).length ≤ 1000 := by have := ruOr_le s o b l; omega
    have HS := Lib.hid (fun wx => sRuleMoves_any s o b l wx hs)
    have HM := Lib.hid (fun wx => ruleMoves_any s o b l wx hs)
    generalize ruOr s o b l = l' at HS HM hle
    generalize rchB s = c' at HS HM
    go_enter Try.func3, Try.ntmps3
    go_wp2_with fail
    refine (toRule_any o b l _).mono ?_
    rintro e w0 ⟨rfl, hb0⟩
    have HB0 := Lib.hid (((Below.refl w.heap.size w).alloc (Nat.le_refl _) (Obj.cells #[.bool o, .bool b, .bool l] 23)).trans (hb0.mono (by simp)))
    have HX0 := Lib.hid ((RuBx.new w o b l 23).below hb0)
    clear hb0
    go_wp2_with fail
    refine (HS.out _).mono ?_
    rintro e w1 ⟨v1, rfl, ho1, hb1⟩
    have HX1 := Lib.hid (HX0.out.below hb1)
    have LT5 : Hid (w.heap.size < w0.heap.size) := Lib.hid HX0.out.lt
    have HB1 := Lib.hid (HB0.out.trans (hb1.mono HB0.out.size))
    obtain ⟨A1, cap1, rfl, at1⟩ := at_of_own ho1
    have hlt1 : ∀ g, A1 = some ⟨g, 0, none⟩ → 0 < l'.length → g < w1.heap.size := by
      intro g hg hl
      obtain ⟨g', e, z, _⟩ := at1 0 hl
      rw [hg] at e
      injection e with e
      injection e with e
      omega
    have AT1 := Lib.hid at1
    have HX1L := Lib.hid HX1.out.lt
    have LT1 := Lib.hid hlt1
    clear ho1 hb1 at1 hlt1 HX0 HB0
    obtain ⟨_, x0, x1, x2⟩ := HX1.out
    go_wp2_with fail
    refine (toRule_any o b l _).mono ?_
    rintro e w2 ⟨rfl, hb2⟩
    clear x0 x1 x2
    have HB12 := Lib.hid hb2
    have HX2 := Lib.hid (HX1.out.below hb2)
    have HB2 := Lib.hid (HB1.out.trans (hb2.mono HB1.out.size))
    have AT1b := Lib.hid (AT1.out.below hb2)
    clear hb2 AT1
    go_wp2_with fail
    refine (HM.out _).mono ?_
    rintro e w3 ⟨v3, rfl, ho3, hb3⟩
    obtain ⟨A3, cap3, rfl, at3⟩ := at_of_own ho3
    have AT3 := Lib.hid at3
    have AT1c := Lib.hid (AT1b.out.below hb3)
    have HX3 := Lib.hid (HX2.out.below hb3)
    have HB3 := Lib.hid (HB2.out.trans (hb3.mono HB2.out.size))
    have hsz12 := HB12.out.size
    have HO3 := Lib.hid (own_base ho3 hsz12)
    have HB13 := Lib.hid (HB12.out.trans (hb3.mono hsz12))
    clear at3 AT1b ho3 hb3 HX2 HB2 HX1
    go_wp2_with fail
    refine (eqMoveS_same l' A3 A1 cap3 cap1 _ AT3.out AT1c.out (by omega)).mono ?_
    rintro e w4 ⟨rfl, hb4⟩
    have HO4 := Lib.hid (own_below HO3.out hb4)
    have AT4 := Lib.hid (AT1c.out.below hb4)
    have HX4 := Lib.hid (HX3.out.below hb4)
    have HB4 := Lib.hid (HB3.out.trans (hb4.mono HB3.out.size))
    have HB14 := Lib.hid (HB13.out.trans (hb4.mono HB13.out.size))
    clear HO3 AT1c AT3 hb4 HX3 HB3 HB13
    go_wp2_with fail
    refine (markMoveS_any l'.length 1 w1.heap.size l' _ _ rfl HO4.out (by omega) (by omega)).mono ?_
    rintro e w5 ⟨rfl, ho5, hb5⟩
    have HO5 := Lib.hid ho5
    have AT5 : Hid (MvAt w5 A1 l') := Lib.hid (by
      intro k hk
      obtain ⟨g, a, b, c, d⟩ := AT4.out k hk
      have hg := LT1.out g a (by omega)
      exact ⟨g, a, Nat.lt_of_lt_of_le b hb5.size, (hb5.cell (p := ⟨g, k * 2, none⟩) hg).trans c, (hb5.cell (p := ⟨g, k * 2 + 1, none⟩) hg).trans d⟩)
    have HX5 : Hid (RuBx w5 w.heap.size o b l) := Lib.hid (by
      have h := HX4.out
      have hlt : w.heap.size < w1.heap.size := by have := HX1L.out; exact this
      exact ⟨Nat.lt_of_lt_of_le h.lt hb5.size, (hb5.cell (p := ⟨w.heap.size, 0, none⟩) hlt).trans h.c0, (hb5.cell (p := ⟨w.heap.size, 1, none⟩) hlt).trans h.c1, (hb5.cell (p := ⟨w.heap.size, 2, none⟩) hlt).trans h.c2⟩)
    have HB5 := Lib.hid (HB4.out.trans (hb5.mono HB1.out.size))
    clear HO4 AT4 ho5 hb5 HX4 HB4
    go_wp2_with fail
    refine (heldMoveS_any l'.length 1 w1.heap.size _ _ HO5.out (by omega) (by omega)).mono ?_
    rintro e w5' ⟨rfl, rfl⟩
    obtain ⟨_, x0, x1, x2⟩ := HX5.out
    go_wp2_with fail
    refine (toRule_any o b l _).mono ?_
    rintro e w6 ⟨rfl, hb6⟩
    clear x0 x1 x2
    have HO6 := Lib.hid (own_below HO5.out hb6)
    have AT6 := Lib.hid (AT5.out.below hb6)
    have HB6 := Lib.hid (HB5.out.trans (hb6.mono HB5.out.size))
    clear HO5 AT5 hb6 HB5 HX5
    go_wp2_with fail
    refine (HM.out _).mono ?_
    rintro e w7 ⟨v7, rfl, ho7, hb7⟩
    obtain ⟨A7, cap7, rfl, at7⟩ := at_of_own ho7
    have AT7 := Lib.hid at7
    have AT1d := Lib.hid (AT6.out.below hb7)
    have HO7 := Lib.hid (own_below HO6.out hb7)
    have HB7 := Lib.hid (HB6.out.trans (hb7.mono HB6.out.size))
    clear ho7 at7 hb7 AT6 HO6 HB6
    go_wp2_with fail
    refine (eqMoveS_same l' A7 A1 cap7 cap1 _ AT7.out AT1d.out (by omega)).mono ?_
    rintro e w8 ⟨rfl, hb8⟩
    have HO8 := Lib.hid (own_below HO7.out hb8)
    have HB8 := Lib.hid (HB7.out.trans (hb8.mono HB7.out.size))
    clear AT7 AT1d HO7 hb8 HB7
    go_wp2_with fail
    refine (heldMoveS_any l'.length 1 w1.heap.size _ _ HO8.out (by omega) (by omega)).mono ?_
    rintro e w8' ⟨rfl, rfl⟩
    go_wp2
    go_ret
    exact ⟨rfl, HB8.out⟩
end Go.Proofs.Ytcndlfoodbmgbaa
