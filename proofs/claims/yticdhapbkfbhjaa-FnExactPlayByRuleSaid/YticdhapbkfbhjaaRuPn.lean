/- Contract: the program's PlayByRule, its maker a function literal. -/
import Derived.Test.YticdhapbkfbhjaaPlC
import Derived.Test.YticdhapbkfbhjaaRuP
namespace Go.Proofs.Yticdhapbkfbhjaa
open Go.RowKit

def mkRu (o b l : Bool) (s : ByteArray) (f t : Int) : Option ByteArray := if rchB s && ruC s o b l f t then some (str (behind s f t)) else none
theorem mkRu_mk (s : ByteArray) (o b l : Bool) (f t : Int) : mkV (mkRu o b l s f t) = makV s o b l f t := by
  unfold mkRu makV strOr
  split <;> rfl
set_option maxHeartbeats 1000000 in
theorem mkRu_any (s : ByteArray) (f t : Int) (o b l : Bool) (B : Nat) (w : World) (hs : s.size ≤ maxLen) (hx : RuBx w B o b l) :
    Calls Try.prog 70 #[.string s, .agg #[.int .i64 f, .int .i64 t], .pointer (some ⟨B, 0, none⟩)] w fun e w' => e = .returned (makV s o b l f t) ∧ Below w.heap.size w w' := by
  have HM := Lib.hid (fun wx => makeByRule_any s f t o b l wx hs)
  obtain ⟨z0, q0, q1, q2⟩ := hx
  obtain ⟨x, y, hxy⟩ : ∃ x y, makV s o b l f t = .tuple #[.string x, .bool y] := by
    unfold makV strOr
    split
    · exact ⟨_, _, rfl⟩
    · exact ⟨_, _, rfl⟩
  rw [hxy] at HM ⊢
  clear hxy
  obtain ⟨W0, hW0⟩ : ∃ W0, W0 = w.alloc (Obj.cells #[.int .i64 f, .int .i64 t] 53) := ⟨_, rfl⟩
  have hb0 : Below w.heap.size w W0 := by rw [hW0]; exact (Below.refl _ _).alloc (Nat.le_refl _) _
  have e0 := (hb0.cell (p := ⟨B, 0, none⟩) z0).trans q0
  have e1 := (hb0.cell (p := ⟨B, 1, none⟩) z0).trans q1
  have e2 := (hb0.cell (p := ⟨B, 2, none⟩) z0).trans q2
  have k0 : W0.cell? ⟨w.heap.size, 0, none⟩ = some (.int .i64 f) := by rw [hW0, World.cell?_alloc_new]; rfl
  have k1 : W0.cell? ⟨w.heap.size, 1, none⟩ = some (.int .i64 t) := by rw [hW0, World.cell?_alloc_new]; rfl
  have HB := Lib.hid hb0
  clear hb0
  go_enter Try.func70, Try.ntmps70
  go_wp2_with fail
  rw [← hW0]
  clear hW0
  go_wp2_with fail
  refine (HM.out _).mono ?_
  rintro e w1 ⟨rfl, hb1⟩
  have HB1 := Lib.hid (HB.out.trans (hb1.mono HB.out.size))
  clear hb1
  go_wp2_with fail
  go_ret2
  exact ⟨rfl, HB1.out⟩
theorem mkRu_ok (B : Nat) (o b l : Bool) : MkCl 70 B (mkRu o b l) (fun s => s.size ≤ maxLen) (fun w => RuBx w B o b l) where
  enter := fun args w => enters_of Try.func70 (by kernel_rfl) rfl args w
  call := fun s f t w hs hx => by
    rw [mkRu_mk]
    exact mkRu_any s f t o b l B w hs hx
  keep := fun s r f t hs h => by
    unfold mkRu at h
    split at h
    · injection h with h
      rw [← h, str_size, behind_len]
      exact hs
    · cases h
  world := fun w w' h hb => h.below hb
theorem allG_Ru (o b l : Bool) : ∀ (m : List (Int × Int)) (s : ByteArray), rchB s = true → allG (mkRu o b l) s m = playR o b l s m
  | [], s, _ => by simp [allG, playG, playR]
  | p :: r, s, hs => by
    have ih := fun h => allG_Ru o b l r (str (behind s p.1 p.2)) h
    unfold allG playG playR
    cases hc : ruC s o b l p.1 p.2
    · have e : mkRu o b l s p.1 p.2 = none := by unfold mkRu; rw [hs, hc]; rfl
      rw [e]
      simp
    · have e : mkRu o b l s p.1 p.2 = some (str (behind s p.1 p.2)) := by unfold mkRu; rw [hs, hc]; rfl
      rw [e]
      simp only [if_true]
      rw [← ih (rch_behind hs hc)]
      unfold allG
      simp
theorem optV_mk (x : Option ByteArray) : mkV x = optV x := by cases x <;> rfl

set_option maxRecDepth 100000 in
set_option maxHeartbeats 4000000 in
theorem playByRuleN_any (s0 : ByteArray) (m : List (Int × Int)) (A : Option Addr) (c : Nat) (o b l : Bool) (w : World) (hs : s0.size ≤ maxLen) (hn : m.length ≤ 2000000) (hat : MvIn w A m) :
    Calls Try.prog 36 #[.string s0, .slice A m.length c, ruV o b l] w (PlrP s0 m o b l w) := by
  have HN := Lib.hid hat
  clear hat
  cases hc : rchB s0
  · have hC := Lib.hid hc
    have hV : Hid (plrV s0 m o b l = .tuple #[.string (str []), .bool false]) := Lib.hid (by unfold plrV; rw [hc]; rfl)
    clear hc
    go_enter Try.func36, Try.ntmps36
    go_wp2_with fail
    refine (isRch_any _ _ hs).mono ?_; rintro e w' ⟨rfl, rfl⟩; rw [hC.out]
    go_wp2
    go_ret2
    exact ⟨by rw [hV.out]; rfl, (Below.refl _ _).alloc (Nat.le_refl _) _⟩
  · by_cases hl : 100 < m.length
    · have hC := Lib.hid hc
      have hV : Hid (plrV s0 m o b l = .tuple #[.string (str []), .bool false]) := Lib.hid (by unfold plrV; rw [hc, decide_eq_false (by omega)]; rfl)
      clear hc
      go_enter Try.func36, Try.ntmps36
      go_wp2_with fail
      refine (isRch_any _ _ hs).mono ?_; rintro e w' ⟨rfl, rfl⟩; rw [hC.out]
      go_wp2
      go_ret2
      exact ⟨by rw [hV.out]; rfl, (Below.refl _ _).alloc (Nat.le_refl _) _⟩
    · have hC := Lib.hid hc
      have hV : Hid (plrV s0 m o b l = optV (playR o b l s0 m)) := Lib.hid (by unfold plrV; rw [hc, decide_eq_true (by omega)]; rfl)
      have HR0 := Lib.hid hc
      clear hc
      go_enter Try.func36, Try.ntmps36
      go_wp2_with fail
      refine (isRch_any _ _ hs).mono ?_; rintro e w' ⟨rfl, rfl⟩; rw [hC.out]
      go_wp2_with fail
      obtain ⟨W0, hW0⟩ : ∃ W0, W0 = w.alloc (ruO o b l) := ⟨_, rfl⟩
      rw [← hW0]
      have HX0 : Hid (RuBx W0 w.heap.size o b l) := Lib.hid (by rw [hW0]; exact RuBx.new w o b l _)
      have HB0 : Hid (Below w.heap.size w W0) := Lib.hid (by rw [hW0]; exact (Below.refl _ _).alloc (Nat.le_refl _) _)
      clear hW0
      refine (playAll_cl _ _ (mkRu o b l) _ _ (mkRu_ok w.heap.size o b l) s0 hs m A c _ HX0.out (HN.out.below HB0.out) (by omega)).mono ?_
      rintro e w2 ⟨rfl, hb2⟩
      rw [optV_mk, allG_Ru o b l m s0 HR0.out]
      have HB2 := Lib.hid (HB0.out.trans (hb2.mono HB0.out.size))
      clear hb2
      unfold optV at hV ⊢
      cases hp : playR o b l s0 m with
      | none =>
        rw [hp] at hV
        go_wp2_with fail
        go_ret2
        exact ⟨by rw [hV.out]; rfl, HB2.out⟩
      | some r =>
        rw [hp] at hV
        go_wp2_with fail
        go_ret2
        exact ⟨by rw [hV.out]; rfl, HB2.out⟩
/-- A rule's box, as one region asks it. -/
abbrev RqS (W : World) (B : Nat) (o b l : Bool) : Prop := W.cell? ⟨B, 0, none⟩ = some (.bool o) ∧ W.cell? ⟨B, 1, none⟩ = some (.bool b) ∧ W.cell? ⟨B, 2, none⟩ = some (.bool l) ∧ B < W.heap.size
theorem rq_below {W W' : World} {B : Nat} {o b l : Bool} (h : RqS W B o b l) (hb : Below W.heap.size W W') : RqS W' B o b l := by
  obtain ⟨c0, c1, c2, hz⟩ := h
  exact ⟨(hb.cell (p := ⟨B, 0, none⟩) hz).trans c0, (hb.cell (p := ⟨B, 1, none⟩) hz).trans c1, (hb.cell (p := ⟨B, 2, none⟩) hz).trans c2, Nat.lt_of_lt_of_le hz hb.size⟩
theorem plrV_open (s : ByteArray) (m : List (Int × Int)) (o b l : Bool) : ∃ x y, plrV s m o b l = .tuple #[.string x, .bool y] := by
  unfold plrV
  generalize (if (rchB s && decide (m.length ≤ 100)) = true then playR o b l s m else none) = q
  cases q <;> exact ⟨_, _, rfl⟩

set_option maxRecDepth 100000 in
set_option maxHeartbeats 4000000 in
theorem walk_FnExactPlayByRule (s : ByteArray) (hs : s.size ≤ maxLen) (A : Option Addr) (n c : Nat) (m : List (Int × Int)) (o b l : Bool) (w : World) (hin : n = m.length ∧ n ≤ maxLen ∧ MvIn w A m) :
    Calls Try.prog 11 #[.string s, .slice A n c, ruV o b l] w fun e w' => e = .returned (.bool true) ∧ Below w.heap.size w w' := by
  obtain ⟨rfl, hmax, hin⟩ := hin
  by_cases hbig : (1048576 : Int) < (s.size : Int)
  · clear hin
    go_enter Try.func11, Try.ntmps11
    go_wp2
    go_ret
    exact ⟨rfl, (Below.refl _ _).alloc (Nat.le_refl _) _⟩
  · have HI := Lib.hid (hin.below ((Below.refl w.heap.size w).alloc (Nat.le_refl _) (Obj.cells #[.bool o, .bool b, .bool l] 44)))
    clear hin
    by_cases hl : 1048576 < m.length
    · go_enter Try.func11, Try.ntmps11
      go_wp2_with fail
      refine (szMoveS_any _ _ _ _ hmax).mono ?_
      rintro e w1 ⟨rfl, rfl⟩
      rw [if_pos hl]
      go_wp2
      go_ret
      exact ⟨rfl, (Below.refl _ _).alloc (Nat.le_refl _) _⟩
    · have hln : m.length ≤ 2000000 := by omega
      have hnn : ¬ (1048576 : Int) - (m.length : Int) < 0 := by omega
      obtain ⟨x, y, hR⟩ := plrV_open s m o b l
      have hR := Lib.hid hR
      go_enter Try.func11, Try.ntmps11
      go_wp2_with fail
      refine (szMoveS_any _ _ _ _ hmax).mono ?_
      rintro e w1 ⟨rfl, rfl⟩
      rw [if_neg hl]
      obtain ⟨W0, hW0⟩ : ∃ W0, W0 = w.alloc (Obj.cells #[.bool o, .bool b, .bool l] 44) := ⟨_, rfl⟩
      rw [← hW0] at HI ⊢
      have HX0 : Hid (RuBx W0 w.heap.size o b l) := Lib.hid (by rw [hW0]; exact RuBx.new w o b l _)
      have HB0 : Hid (Below w.heap.size w W0) := Lib.hid (by rw [hW0]; exact (Below.refl _ _).alloc (Nat.le_refl _) _)
      clear hW0
      go_wp2
      have S0 : RqS W0 w.heap.size o b l := ⟨HX0.out.c0, HX0.out.c1, HX0.out.c2, HX0.out.lt⟩
      have S0d : RqS W0.drew w.heap.size o b l := S0
      have HI0 : Hid (MvIn W0.drew A m) := Lib.hid HI.out
      go_region_held3 (fun w' => RqS w' w.heap.size o b l) (first | exact S0 | exact rq_below S0d hbm | exact rq_below (rq_below S0d hbm) hbr | exact rq_below (rq_below (rq_below S0d hbm) hbr) hbc | exact rq_below S0d hbr | exact rq_below (rq_below S0d hbr) hbm | exact rq_below (rq_below (rq_below S0d hbr) hbm) hbc)
        (first
          | (go_at_call 15; refine (toMoveS_any m A c _ HI0.out hln).mono ?_; rintro e w2 ⟨rfl, ho1, hbm⟩; obtain ⟨A1, c1, hv1, at1⟩ := at_of_own ho1; injection hv1 with hA1 _ hc1; subst hA1; subst hc1; have AT1 := Lib.hid at1)
          | (go_at_call 15; refine (toMoveS_any m A c _ (HI0.out.below hbr) hln).mono ?_; rintro e w2 ⟨rfl, ho1, hbm⟩; obtain ⟨A1, c1, hv1, at1⟩ := at_of_own ho1; injection hv1 with hA1 _ hc1; subst hA1; subst hc1; have AT1 := Lib.hid at1)
          | (go_at_call 35; refine (toRule_any _ _ _ _).mono ?_; rintro e w3 ⟨rfl, hbr⟩)
          | (go_at_call 34; refine (sPlayByRule_any s m _ _ o b l _ hs hln (AT1.out.below hbr).into).mono ?_; rintro e w4 ⟨rfl, hbc⟩; rw [hR.out])
          | (go_at_call 34; refine (sPlayByRule_any s m _ _ o b l _ hs hln AT1.out.into).mono ?_; rintro e w4 ⟨rfl, hbc⟩; rw [hR.out]))
      have S4 := rq_below (rq_below (rq_below S0d hbm) hbr) hbc
      have HX3 : Hid (RuBx w4 w.heap.size o b l) := Lib.hid ⟨S4.2.2.2, S4.1, S4.2.1, S4.2.2.1⟩
      have HB3 : Hid (Below w.heap.size w w4) := Lib.hid (HB0.out.trans (((Below.drew (Below.refl W0.heap.size W0)).trans (hbm.trans ((hbr.trans (hbc.mono hbr.size)).mono hbm.size))).mono HB0.out.size))
      have H3 : Hid (MvIn w4 A m) := Lib.hid (((HI0.out.below hbm).below hbr).below hbc)
      rename_i hHeld
      clear hHeld S0 S0d S4 hbm hbr hbc ho1 at1 AT1 HI0 HI HX0 HB0
      go_wp2_with fail
      refine (toMoveS_any m A c _ H3.out hln).mono ?_
      rintro e w14 ⟨rfl, ho4, hb4⟩
      obtain ⟨A4, c4, hv4, at4⟩ := at_of_own ho4
      injection hv4 with hA4 _ hc4
      subst hA4; subst hc4
      have AT4 := Lib.hid at4
      have HX4 := Lib.hid (HX3.out.below hb4)
      have HB4 := Lib.hid (HB3.out.trans (hb4.mono HB3.out.size))
      have H4 := Lib.hid (H3.out.below hb4)
      clear ho4 at4 hb4 HX3 HB3 H3
      obtain ⟨_, x0, x1, x2⟩ := HX4.out
      go_wp2_with fail
      refine (toRule_any o b l _).mono ?_
      rintro e w5 ⟨rfl, hb5⟩
      clear x0 x1 x2
      have AT5 := Lib.hid (AT4.out.below hb5)
      have HB5 := Lib.hid (HB4.out.trans (hb5.mono HB4.out.size))
      have H5 := Lib.hid (H4.out.below hb5)
      clear hb5 AT4 HX4 HB4 H4
      go_wp2_with fail
      refine (playByRuleN_any s m _ _ o b l _ hs hln AT5.out.into).mono ?_
      rintro e w6 ⟨rfl, hb6⟩
      rw [hR.out]
      have AT6 := Lib.hid (AT5.out.below hb6)
      have HB6 := Lib.hid (HB5.out.trans (hb6.mono HB5.out.size))
      have H6 := Lib.hid (H5.out.below hb6)
      clear hb6 AT5 HB5 H5
      go_wp2_with fail
      refine (toMoveS_any m A c _ H6.out hln).mono ?_
      rintro e w7 ⟨rfl, ho7, hb7⟩
      obtain ⟨A7, c7, hv7, at7⟩ := at_of_own ho7
      injection hv7 with hA7 _ hc7
      subst hA7; subst hc7
      have AT7 := Lib.hid at7
      have AT6' := Lib.hid (AT6.out.below hb7)
      have HB7 := Lib.hid (HB6.out.trans (hb7.mono HB6.out.size))
      clear ho7 at7 hb7 HB6 AT6 H6
      go_wp2_with fail
      refine (eqMoveS_same m _ _ _ _ _ AT6'.out AT7.out hln).mono ?_
      rintro e w8 ⟨rfl, hb8⟩
      have HB8 := Lib.hid (HB7.out.trans (hb8.mono HB7.out.size))
      clear hb8 HB7 AT6' AT7
      go_wp2
      go_ret
      exact ⟨rfl, HB8.out⟩
end Go.Proofs.Yticdhapbkfbhjaa
