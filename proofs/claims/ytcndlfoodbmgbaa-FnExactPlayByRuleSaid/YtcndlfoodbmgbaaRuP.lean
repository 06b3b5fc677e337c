/- ParseRule's law; plays by a rule. -/
import Derived.Test.YtcndlfoodbmgbaaRuO
import Derived.Test.YtcndlfoodbmgbaaRuH
namespace Go.Proofs.Ytcndlfoodbmgbaa
open Go.RowKit

theorem parV_open (s : ByteArray) : ∃ o b l y, parV s = .tuple #[ruV o b l, .bool y] := by
  unfold parV
  split
  · exact ⟨_, _, _, _, rfl⟩
  · exact ⟨_, _, _, _, rfl⟩
theorem results_sPar (tmps : Array Value) (w : World) (g : Nat) (x y z : Value) (hp : tmps.getD 2 undef = .pointer (some ⟨g, 0, none⟩)) (c0 : w.cell? ⟨g, 0, none⟩ = some x) (c1 : w.cell? ⟨g, 1, none⟩ = some y) (c2 : w.cell? ⟨g, 2, none⟩ = some z) :
    (results Try.f53 tmps).run Try.prog w = .ok (.tuple #[.agg #[x, y, z], tmps.getD 3 undef]) w := by
  have hr : Try.f53.results = #[.cell 2 27, .tmp 3] := rfl
  unfold results
  rw [hr]
  simp at hp
  simp [hp, asAddr, c0, c1, c2, go_sem]
set_option maxHeartbeats 2000000 in
theorem sParseRule_any (s : ByteArray) (w : World) :
    Calls Try.prog 53 #[.string s] w fun e w' => e = .returned (parV s) ∧ Below w.heap.size w w' := by
  have HP := Lib.hid (fun wx => ruParse_any s wx)
  obtain ⟨o, b, l, y, hv⟩ := parV_open s
  rw [hv] at HP
  have HV := Lib.hid hv
  clear hv
  go_enter Try.func53, Try.ntmps53
  go_wp2_with fail
  refine (HP.out _).mono ?_
  rintro e w1 ⟨rfl, hb1⟩
  obtain ⟨a0, a1, a2, f0, f1, f2⟩ := ((BlU.new w (.bool false) (.bool false) (.bool false)).below hb1).all
  have HB1 := Lib.hid (((Below.refl w.heap.size w).alloc (Nat.le_refl _) (ruO false false false)).trans (hb1.mono (by simp)))
  clear hb1
  go_wp2
  obtain ⟨r0, r1, r2⟩ := set3 (.bool o) (.bool b) (.bool l) a0 a1 a2
  (try simp only [Exit.inBlock, Exit.then]); refine bodyPost_ret (results_sPar _ _ w.heap.size (.bool o) (.bool b) (.bool l) rfl r0 r1 r2) rfl ?_
  exact ⟨by rw [HV.out]; rfl, ((HB1.out.setCell (Nat.le_refl _) _).setCell (Nat.le_refl _) _).setCell (Nat.le_refl _) _⟩
set_option maxHeartbeats 2000000 in
theorem eqRule_same (o b l : Bool) (w : World) : Calls Try.prog 55 #[ruV o b l, ruV o b l] w fun e w' => e = .returned (.bool true) ∧ Below w.heap.size w w' := by
  cases o <;> cases b <;> cases l
  all_goals
    go_enter Try.func55, Try.ntmps55
    go_wp2
    go_ret
    exact ⟨rfl, ((Below.refl _ _).alloc (Nat.le_refl _) _).alloc (by simp) _⟩
set_option maxHeartbeats 2000000 in
theorem walk_FnExactParseRule (s : ByteArray) (_ : s.size ≤ maxLen) (w : World) :
    Calls Try.prog 17 #[.string s] w fun e w' => e = .returned (.bool true) ∧ Below w.heap.size w w' := by
  by_cases hbig : (1048576 : Int) < (s.size : Int)
  · go_enter Try.func17, Try.ntmps17
    go_wp2
    go_ret
    exact ⟨rfl, Below.refl _ _⟩
  · have HS := Lib.hid (fun wx => sParseRule_any s wx)
    have HM := Lib.hid (fun wx => parseRule_any s wx)
    obtain ⟨o, b, l, y, hv⟩ := parV_open s
    rw [hv] at HS HM
    clear hv
    have HE := Lib.hid (fun wx => eqRule_same o b l wx)
    go_enter Try.func17, Try.ntmps17
    go_wp2_with fail
    refine (HS.out _).mono ?_
    rintro e w1 ⟨rfl, hb1⟩
    go_wp2_with fail
    refine (HM.out _).mono ?_
    rintro e w2 ⟨rfl, hb2⟩
    obtain ⟨a0, a1, a2, _, _, _⟩ := ((BlU.new w1 (.bool o) (.bool b) (.bool l)).below hb2).all
    have HB2 := Lib.hid ((hb1.alloc hb1.size (ruO o b l)).trans (hb2.mono (by have := hb1.size; simp; omega)))
    have hz := hb2.size
    have hz2 : w1.heap.size < w2.heap.size := by simp at hz; omega
    clear hb1 hb2 hz
    go_wp2_with fail
    refine (HE.out _).mono ?_
    rintro e w3 ⟨rfl, hb3⟩
    have HB3 := Lib.hid ((HB2.out.alloc HB2.out.size (ruO o b l)).trans (hb3.mono (by have := HB2.out.size; simp; omega)))
    clear hb3
    go_wp2
    go_ret
    exact ⟨rfl, HB3.out⟩

/-- The line behind moves by a rule, if all can be made. -/
def playR (o b l : Bool) : ByteArray → List (Int × Int) → Option ByteArray
  | s, [] => some s
  | s, p :: r => if ruC s o b l p.1 p.2 then playR o b l (str (behind s p.1 p.2)) r else none
theorem playR_step {o b l : Bool} (s : ByteArray) (m : List (Int × Int)) (k : Nat) (h : k < m.length) (hc : ruC s o b l m[k].1 m[k].2 = true) : playR o b l s (m.drop k) = playR o b l (str (behind s m[k].1 m[k].2)) (m.drop (k + 1)) := by
  rw [List.drop_eq_getElem_cons h, playR, if_pos hc]
theorem playR_stop {o b l : Bool} (s : ByteArray) (m : List (Int × Int)) (k : Nat) (h : k < m.length) (hc : ruC s o b l m[k].1 m[k].2 = false) : playR o b l s (m.drop k) = none := by
  rw [List.drop_eq_getElem_cons h, playR, if_neg (by rw [hc]; decide)]
theorem rch_behind {s : ByteArray} {o b l : Bool} {f t : Int} (h : rchB s = true) (hc : ruC s o b l f t = true) : rchB (str (behind s f t)) = true := by
  unfold rchB at h ⊢
  rw [Bool.and_eq_true, decide_eq_true_eq] at h ⊢
  exact ⟨ruC_behind_good h.1 hc, by rw [str_size, behind_len]; exact h.2⟩
def optV : Option ByteArray → Value
  | some x => .tuple #[.string x, .bool true]
  | none => .tuple #[.string (str []), .bool false]
def plrV (s : ByteArray) (m : List (Int × Int)) (o b l : Bool) : Value := optV (if rchB s && decide (m.length ≤ 100) then playR o b l s m else none)
def PlrP (s : ByteArray) (m : List (Int × Int)) (o b l : Bool) (w : World) (e : Ending) (w' : World) : Prop := e = .returned (plrV s m o b l) ∧ Below w.heap.size w w'

set_option maxRecDepth 100000 in
set_option maxHeartbeats 4000000 in
theorem sPlayByRule_any (s0 : ByteArray) (m : List (Int × Int)) (A : Option Addr) (c : Nat) (o b l : Bool) (w : World) (hs : s0.size ≤ maxLen) (hn : m.length ≤ 2000000) (hat : MvIn w A m) :
    Calls Try.prog 48 #[.string s0, .slice A m.length c, ruV o b l] w (PlrP s0 m o b l w) := by
  have HN := Lib.hid hat
  clear hat
  cases hc : rchB s0
  · have hC := Lib.hid hc
    have hV : Hid (plrV s0 m o b l = .tuple #[.string (str []), .bool false]) := Lib.hid (by unfold plrV; rw [hc]; rfl)
    clear hc
    go_enter Try.func48, Try.ntmps48
    go_wp2_with fail
    refine (sRch_any _ _ hs).mono ?_; rintro e w' ⟨rfl, rfl⟩; rw [hC.out]
    go_wp2
    go_ret2
    exact ⟨by rw [hV.out]; rfl, (Below.refl _ _).alloc (Nat.le_refl _) _⟩
  · by_cases hl : 100 < m.length
    · have hC := Lib.hid hc
      have hV : Hid (plrV s0 m o b l = .tuple #[.string (str []), .bool false]) := Lib.hid (by unfold plrV; rw [hc, decide_eq_false (by omega)]; rfl)
      clear hc
      go_enter Try.func48, Try.ntmps48
      go_wp2_with fail
      refine (sRch_any _ _ hs).mono ?_; rintro e w' ⟨rfl, rfl⟩; rw [hC.out]
      go_wp2
      go_ret2
      exact ⟨by rw [hV.out]; rfl, (Below.refl _ _).alloc (Nat.le_refl _) _⟩
    · have hC := Lib.hid hc
      have hV : Hid (plrV s0 m o b l = optV (playR o b l s0 m)) := Lib.hid (by unfold plrV; rw [hc, decide_eq_true (by omega)]; rfl)
      have HR0 := Lib.hid hc
      clear hc
      go_enter Try.func48, Try.ntmps48
      go_wp2_with fail
      refine (sRch_any _ _ hs).mono ?_; rintro e w' ⟨rfl, rfl⟩; rw [hC.out]
      go_wp2
      obtain ⟨W0, hW0⟩ : ∃ W0, W0 = w.alloc (ruO o b l) := ⟨_, rfl⟩
      rw [← hW0]
      have HX0 : Hid (RuBx W0 w.heap.size o b l) := Lib.hid (by rw [hW0]; exact RuBx.new w o b l _)
      have HB0 : Hid (Below w.heap.size w W0) := Lib.hid (by rw [hW0]; exact (Below.refl _ _).alloc (Nat.le_refl _) _)
      clear hW0
      go_loopw [0, 20] (fun x t wr => ∃ (k : Nat) (s : ByteArray), k ≤ m.length ∧ t = .int .i64 k ∧ x = .string s ∧ Hid (rchB s = true) ∧ Hid (playR o b l s0 m = playR o b l s (m.drop k)) ∧ RuBx wr w.heap.size o b l ∧ Below w.heap.size w wr) (fun _ t _ => m.length - (intOf t).toNat)
      case atStart => exact ⟨0, s0, Nat.zero_le _, rfl, rfl, HR0, Lib.hid (by simp), HX0.out, HB0.out⟩
      case round =>
        obtain ⟨k, s, hk, rfl, rfl, hR, hP, hbx, hB⟩ := hrel
        clear HX0 HB0
        by_cases hlt : k < m.length
        · obtain ⟨g, off, rfl, hg, c0, c1⟩ := (HN.out.below hB) k hlt
          have hstep := Lib.hid (fun hc => playR_step (o := o) (b := b) (l := l) s m k hlt hc)
          have hstop := Lib.hid (fun hc => playR_stop (o := o) (b := b) (l := l) s m k hlt hc)
          have h1 : s.size ≤ 1000 := good1000 (rch_good hR.out)
          generalize m[k].1 = f at c0 hstep hstop
          generalize m[k].2 = t at c1 hstep hstop
          have i1 : (0 : Int) ≤ (k : Int) := by omega
          have i2 : (k : Int) < (m.length : Int) := by omega
          obtain ⟨z0, q0, q1, q2⟩ := hbx
          have HBX := Lib.hid (RuBx.mk z0 q0 q1 q2)
          go_wp2_with fail
          refine (ruCan_any s o b l f t _ h1).mono ?_
          rintro e w2 ⟨rfl, hb2⟩
          have HB2 := Lib.hid ((hB.alloc hB.size (mvB f t)).trans (hb2.mono (by have := hB.size; simp; omega)))
          have HBX2 := Lib.hid ((HBX.out.below ((Below.refl wr.heap.size wr).alloc (Nat.le_refl _) (mvB f t))).below hb2)
          cases hc : ruC s o b l f t
          · have hR2 : Hid (plrV s0 m o b l = optV none) := Lib.hid (by rw [hV.out, hP.out, hstop.out hc])
            clear hc hb2 c0 c1 hB q0 q1 q2
            go_wp2
            go_ret2
            exact ⟨by rw [hR2.out]; rfl, HB2.out⟩
          · obtain ⟨a, d, rfl, rfl, ha, hd, hne⟩ := ruC_in hc
            have HR2 := Lib.hid (rch_behind hR.out hc)
            have HP2 := Lib.hid (hstep.out hc)
            obtain ⟨hcell, _⟩ := bcell hb2
            have d0 : w2.cell? ⟨wr.heap.size, 0, none⟩ = some (.int .i64 a) := by rw [hcell _ _ (by simp), World.cell?_alloc_new]; rfl
            have d1 : w2.cell? ⟨wr.heap.size, 1, none⟩ = some (.int .i64 d) := by rw [hcell _ _ (by simp), World.cell?_alloc_new]; rfl
            clear hc hb2 c0 c1 hB q0 q1 q2 hcell
            go_wp2_with fail
            refine (liMake_any s a d _ h1 ha hd hne).mono ?_
            rintro e w3 ⟨rfl, hb3⟩
            have HB3 := Lib.hid (HB2.out.trans (hb3.mono HB2.out.size))
            have HBX3 := Lib.hid (HBX2.out.below hb3)
            clear hb3 d0 d1
            go_wp2
            go_roundw
            case rel => exact ⟨k + 1, str (putL s a d), by omega, by go_num, rfl, HR2, Lib.hid (by rw [hP.out, HP2.out]; rfl), HBX3.out, HB3.out⟩
            case measure => simp [intOf]; omega
        · obtain rfl : k = m.length := by omega
          have hR2 : Hid (plrV s0 m o b l = optV (some s)) := Lib.hid (by rw [hV.out, hP.out, List.drop_length]; rfl)
          go_wp2
          go_ret2
          exact ⟨by rw [hR2.out]; rfl, hB⟩

set_option maxRecDepth 100000 in
set_option maxHeartbeats 4000000 in
theorem playByRule_any (s0 : ByteArray) (m : List (Int × Int)) (A : Option Addr) (c : Nat) (o b l : Bool) (w : World) (hs : s0.size ≤ maxLen) (hn : m.length ≤ 2000000) (hat : MvIn w A m) :
    Calls Try.prog 50 #[.string s0, .slice A m.length c, ruV o b l] w (PlrP s0 m o b l w) := by
  have HN := Lib.hid hat
  clear hat
  cases hc : rchB s0
  · have hC := Lib.hid hc
    have hV : Hid (plrV s0 m o b l = .tuple #[.string (str []), .bool false]) := Lib.hid (by unfold plrV; rw [hc]; rfl)
    clear hc
    go_enter Try.func50, Try.ntmps50
    go_wp2_with fail
    refine (isRch_any _ _ hs).mono ?_; rintro e w' ⟨rfl, rfl⟩; rw [hC.out]
    go_wp2
    go_ret2
    exact ⟨by rw [hV.out]; rfl, (Below.refl _ _).alloc (Nat.le_refl _) _⟩
  · by_cases hl : 100 < m.length
    · have hC := Lib.hid hc
      have hV : Hid (plrV s0 m o b l = .tuple #[.string (str []), .bool false]) := Lib.hid (by unfold plrV; rw [hc, decide_eq_false (by omega)]; rfl)
      clear hc
      go_enter Try.func50, Try.ntmps50
      go_wp2_with fail
      refine (isRch_any _ _ hs).mono ?_; rintro e w' ⟨rfl, rfl⟩; rw [hC.out]
      go_wp2
      go_ret2
      exact ⟨by rw [hV.out]; rfl, (Below.refl _ _).alloc (Nat.le_refl _) _⟩
    · have hC := Lib.hid hc
      have hV : Hid (plrV s0 m o b l = optV (playR o b l s0 m)) := Lib.hid (by unfold plrV; rw [hc, decide_eq_true (by omega)]; rfl)
      have HR0 := Lib.hid hc
      clear hc
      go_enter Try.func50, Try.ntmps50
      go_wp2_with fail
      refine (isRch_any _ _ hs).mono ?_; rintro e w' ⟨rfl, rfl⟩; rw [hC.out]
      go_wp2
      obtain ⟨W0, hW0⟩ : ∃ W0, W0 = w.alloc (ruO o b l) := ⟨_, rfl⟩
      rw [← hW0]
      have HX0 : Hid (RuBx W0 w.heap.size o b l) := Lib.hid (by rw [hW0]; exact RuBx.new w o b l _)
      have HB0 : Hid (Below w.heap.size w W0) := Lib.hid (by rw [hW0]; exact (Below.refl _ _).alloc (Nat.le_refl _) _)
      clear hW0
      go_loopw [8, 24] (fun x t wr => ∃ (k : Nat) (s : ByteArray), k ≤ m.length ∧ t = .int .i64 k ∧ x = .string s ∧ Hid (rchB s = true) ∧ Hid (playR o b l s0 m = playR o b l s (m.drop k)) ∧ RuBx wr w.heap.size o b l ∧ Below w.heap.size w wr) (fun _ t _ => m.length - (intOf t).toNat)
      case atStart => exact ⟨0, s0, Nat.zero_le _, rfl, rfl, HR0, Lib.hid (by simp), HX0.out, HB0.out⟩
      case round =>
        obtain ⟨k, s, hk, rfl, rfl, hR, hP, hbx, hB⟩ := hrel
        clear HX0 HB0
        by_cases hlt : k < m.length
        · obtain ⟨g, off, rfl, hg, c0, c1⟩ := (HN.out.below hB) k hlt
          have hstep := Lib.hid (fun hc => playR_step (o := o) (b := b) (l := l) s m k hlt hc)
          have hstop := Lib.hid (fun hc => playR_stop (o := o) (b := b) (l := l) s m k hlt hc)
          have h1 : s.size ≤ maxLen := by have := good1000 (rch_good hR.out); unfold maxLen; omega
          generalize m[k].1 = f at c0 hstep hstop
          generalize m[k].2 = t at c1 hstep hstop
          have i1 : (0 : Int) ≤ (k : Int) := by omega
          have i2 : (k : Int) < (m.length : Int) := by omega
          obtain ⟨z0, q0, q1, q2⟩ := hbx
          have HBX := Lib.hid (RuBx.mk z0 q0 q1 q2)
          have HMK := Lib.hid (fun wx => makeByRule_any s f t o b l wx h1)
          cases hc : ruC s o b l f t
          · have hM : makV s o b l f t = .tuple #[.string (str []), .bool false] := by unfold makV; rw [hc, Bool.and_false]; rfl
            rw [hM] at HMK
            have hR2 : Hid (plrV s0 m o b l = optV none) := Lib.hid (by rw [hV.out, hP.out, hstop.out hc])
            clear hc hM
            go_wp2_with fail
            refine (HMK.out _).mono ?_
            rintro e w2 ⟨rfl, hb2⟩
            have HB2 := Lib.hid ((hB.alloc hB.size (mvB f t)).trans (hb2.mono (by have := hB.size; simp; omega)))
            clear hb2 c0 c1 hB q0 q1 q2
            go_wp2
            go_ret2
            exact ⟨by rw [hR2.out]; rfl, HB2.out⟩
          · have hM : makV s o b l f t = .tuple #[.string (str (behind s f t)), .bool true] := by unfold makV; rw [hc, hR.out]; rfl
            rw [hM] at HMK
            have HR2 := Lib.hid (rch_behind hR.out hc)
            have HP2 := Lib.hid (hstep.out hc)
            clear hc hM
            go_wp2_with fail
            refine (HMK.out _).mono ?_
            rintro e w2 ⟨rfl, hb2⟩
            have HB2 := Lib.hid ((hB.alloc hB.size (mvB f t)).trans (hb2.mono (by have := hB.size; simp; omega)))
            have HBX2 := Lib.hid ((HBX.out.below ((Below.refl wr.heap.size wr).alloc (Nat.le_refl _) (mvB f t))).below hb2)
            clear hb2 c0 c1 hB q0 q1 q2
            go_wp2
            go_roundw
            case rel => exact ⟨k + 1, str (behind s f t), by omega, by go_num, rfl, HR2, Lib.hid (by rw [hP.out, HP2.out]), HBX2.out, HB2.out⟩
            case measure => simp [intOf]; omega
        · obtain rfl : k = m.length := by omega
          have hR2 : Hid (plrV s0 m o b l = optV (some s)) := Lib.hid (by rw [hV.out, hP.out, List.drop_length]; rfl)
          go_wp2
          go_ret2
          exact ⟨by rw [hR2.out]; rfl, hB⟩
/-- A rule's box, as one region asks it. -/
abbrev RqS (W : World) (B : Nat) (o b l : Bool) : Prop := W.cell? ⟨B, 0, none⟩ = some (.bool o) ∧ W.cell? ⟨B, 1, none⟩ = some (.bool b) ∧ W.cell? ⟨B, 2, none⟩ = some (.bool l) ∧ B < W.heap.size
theorem rq_below {W W' : World} {B : Nat} {o b l : Bool} (h : RqS W B o b l) (hb : Below W.heap.size W W') : RqS W' B o b l := by
  obtain ⟨c0, c1, c2, hz⟩ := h
  exact ⟨(hb.cell (p := ⟨B, 0, none⟩) hz).trans c0, (hb.cell (p := ⟨B, 1, none⟩) hz).trans c1, (hb.cell (p := ⟨B, 2, none⟩) hz).trans c2, Nat.lt_of_lt_of_le hz hb.size⟩
theorem plrV_open (s : ByteArray) (m : List (Int × Int)) (o b l : Bool) : ∃ x y, plrV s m o b l = .tuple #[.string x, .bool y] := by
  unfold plrV
  generalize (if (rchB s && decide (m.length ≤ 100)) = true then playR o b l s m else none) = q
  cases q <;> exact ⟨_, _, rfl⟩

set_option maxRecDepth 100000 in
set_option maxHeartbeats 4000000 in
theorem walk_FnExactPlayByRule (s : ByteArray) (hs : s.size ≤ maxLen) (A : Option Addr) (n c : Nat) (m : List (Int × Int)) (o b l : Bool) (w : World) (hin : n = m.length ∧ n ≤ maxLen ∧ MvIn w A m) :
    Calls Try.prog 15 #[.string s, .slice A n c, ruV o b l] w fun e w' => e = .returned (.bool true) ∧ Below w.heap.size w w' := by
  obtain ⟨rfl, hmax, hin⟩ := hin
  by_cases hbig : (1048576 : Int) < (s.size : Int)
  · clear hin
    go_enter Try.func15, Try.ntmps15
    go_wp2
    go_ret
    exact ⟨rfl, (Below.refl _ _).alloc (Nat.le_refl _) _⟩
  · have HI := Lib.hid (hin.below ((Below.refl w.heap.size w).alloc (Nat.le_refl _) (Obj.cells #[.bool o, .bool b, .bool l] 23)))
    clear hin
    by_cases hl : 1048576 < m.length
    · go_enter Try.func15, Try.ntmps15
      go_wp2_with fail
      refine (szMoveS_any _ _ _ _ hmax).mono ?_
      rintro e w1 ⟨rfl, rfl⟩
      rw [if_pos hl]
      go_wp2
      go_ret
      exact ⟨rfl, (Below.refl _ _).alloc (Nat.le_refl _) _⟩
    · have hln : m.length ≤ 2000000 := by omega
      have hnn : ¬ (1048576 : Int) - (m.length : Int) < 0 := by omega
      obtain ⟨x, y, hR⟩ := plrV_open s m o b l
      have hR := Lib.hid hR
      go_enter Try.func15, Try.ntmps15
      go_wp2_with fail
      refine (szMoveS_any _ _ _ _ hmax).mono ?_
      rintro e w1 ⟨rfl, rfl⟩
      rw [if_neg hl]
      obtain ⟨W0, hW0⟩ : ∃ W0, W0 = w.alloc (Obj.cells #[.bool o, .bool b, .bool l] 23) := ⟨_, rfl⟩
      rw [← hW0] at HI ⊢
      have HX0 : Hid (RuBx W0 w.heap.size o b l) := Lib.hid (by rw [hW0]; exact RuBx.new w o b l _)
      have HB0 : Hid (Below w.heap.size w W0) := Lib.hid (by rw [hW0]; exact (Below.refl _ _).alloc (Nat.le_refl _) _)
      clear hW0
      go_wp2
      have S0 : RqS W0 w.heap.size o b l := ⟨HX0.out.c0, HX0.out.c1, HX0.out.c2, HX0.out.lt⟩
      have S0d : RqS W0.drew w.heap.size o b l := S0
      have HI0 : Hid (MvIn W0.drew A m) := Lib.hid HI.out
      go_region_held3 (fun w' => RqS w' w.heap.size o b l) (first | exact S0 | exact rq_below S0d hbm | exact rq_below (rq_below S0d hbm) hbr | exact rq_below (rq_below (rq_below S0d hbm) hbr) hbc | exact rq_below S0d hbr | exact rq_below (rq_below S0d hbr) hbm | exact rq_below (rq_below (rq_below S0d hbr) hbm) hbc)
        (first
          | (go_at_call 49; refine (toMoveS_any m A c _ HI0.out hln).mono ?_; rintro e w2 ⟨rfl, ho1, hbm⟩; obtain ⟨A1, c1, hv1, at1⟩ := at_of_own ho1; injection hv1 with hA1 _ hc1; subst hA1; subst hc1; have AT1 := Lib.hid at1)
          | (go_at_call 49; refine (toMoveS_any m A c _ (HI0.out.below hbr) hln).mono ?_; rintro e w2 ⟨rfl, ho1, hbm⟩; obtain ⟨A1, c1, hv1, at1⟩ := at_of_own ho1; injection hv1 with hA1 _ hc1; subst hA1; subst hc1; have AT1 := Lib.hid at1)
          | (go_at_call 19; refine (toRule_any _ _ _ _).mono ?_; rintro e w3 ⟨rfl, hbr⟩)
          | (go_at_call 48; refine (sPlayByRule_any s m _ _ o b l _ hs hln (AT1.out.below hbr).into).mono ?_; rintro e w4 ⟨rfl, hbc⟩; rw [hR.out])
          | (go_at_call 48; refine (sPlayByRule_any s m _ _ o b l _ hs hln AT1.out.into).mono ?_; rintro e w4 ⟨rfl, hbc⟩; rw [hR.out]))
      have S4 := rq_below (rq_below (rq_below S0d hbm) hbr) hbc
      have HX3 : Hid (RuBx w4 w.heap.size o b l) := Lib.hid ⟨S4.2.2.2, S4.1, S4.2.1, S4.2.2.1⟩
      have HB3 : Hid (Below w.heap.size w w4) := Lib.hid (HB0.out.trans (((Below.drew (Below.refl W0.heap.size W0)).trans (hbm.trans ((hbr.trans (hbc.mono hbr.size)).mono hbm.size))).mono HB0.out.size))
      have H3 : Hid (MvIn w4 A m) := Lib.hid (((HI0.out.below hbm).below hbr).below hbc)
      rename_i hHeld
      clear hHeld S0 S0d S4 hbm hbr hbc ho1 at1 AT1 HI0 HI HX0 HB0
      go_wp2_with fail
      refine (toMoveS_any m A c _ H3.out hln).mono ?_
      rintro e w14 ⟨rfl, ho4, hb4⟩
      obtain ⟨A4, c4, hv4, at4⟩ := at_of_own ho4
      injection hv4 with hA4 _ hc4
      subst hA4; subst hc4
      have AT4 := Lib.hid at4
      have HX4 := Lib.hid (HX3.out.below hb4)
      have HB4 := Lib.hid (HB3.out.trans (hb4.mono HB3.out.size))
      have H4 := Lib.hid (H3.out.below hb4)
      clear ho4 at4 hb4 HX3 HB3 H3
      obtain ⟨_, x0, x1, x2⟩ := HX4.out
      go_wp2_with fail
      refine (toRule_any o b l _).mono ?_
      rintro e w5 ⟨rfl, hb5⟩
      clear x0 x1 x2
      have AT5 := Lib.hid (AT4.out.below hb5)
      have HB5 := Lib.hid (HB4.out.trans (hb5.mono HB4.out.size))
      have H5 := Lib.hid (H4.out.below hb5)
      clear hb5 AT4 HX4 HB4 H4
      go_wp2_with fail
      refine (playByRule_any s m _ _ o b l _ hs hln AT5.out.into).mono ?_
      rintro e w6 ⟨rfl, hb6⟩
      rw [hR.out]
      have AT6 := Lib.hid (AT5.out.below hb6)
      have HB6 := Lib.hid (HB5.out.trans (hb6.mono HB5.out.size))
      have H6 := Lib.hid (H5.out.below hb6)
      clear hb6 AT5 HB5 H5
      go_wp2_with fail
      refine (toMoveS_any m A c _ H6.out hln).mono ?_
      rintro e w7 ⟨rfl, ho7, hb7⟩
      obtain ⟨A7, c7, hv7, at7⟩ := at_of_own ho7
      injection hv7 with hA7 _ hc7
      subst hA7; subst hc7
      have AT7 := Lib.hid at7
      have AT6' := Lib.hid (AT6.out.below hb7)
      have HB7 := Lib.hid (HB6.out.trans (hb7.mono HB6.out.size))
      clear ho7 at7 hb7 HB6 AT6 H6
      go_wp2_with fail
      refine (eqMoveS_same m _ _ _ _ _ AT6'.out AT7.out hln).mono ?_
      rintro e w8 ⟨rfl, hb8⟩
      have HB8 := Lib.hid (HB7.out.trans (hb8.mono HB7.out.size))
      clear hb8 HB7 AT6' AT7
      go_wp2
      go_ret
      exact ⟨rfl, HB8.out⟩
end Go.Proofs.Ytcndlfoodbmgbaa
