/- ParseRule's law; plays by a rule. -/
import Derived.Test.YticdhapbkfbhjaaRuO
import Derived.Test.YticdhapbkfbhjaaRuH
namespace Go.Proofs.Yticdhapbkfbhjaa
open Go.RowKit

theorem parV_open (s : ByteArray) : ∃ o b l y, parV s = .tuple #[ruV o b l, .bool y] := by
  unfold parV
  split
  · exact ⟨_, _, _, _, rfl⟩
  · exact ⟨_, _, _, _, rfl⟩
/-- The line behind moves by a rule, if all can be made. -/
def playR (o b l : Bool) : ByteArray → List (Int × Int) → Option ByteArray
  | s, [] => some s
  | s, p :: r => if ruC s o b l p.1 p.2 then playR o b l (str (behind s p.1 p.2)) r else none
theorem playR_step {o b l : Bool} (s : ByteArray) (m : List (Int × Int)) (k : Nat) (h : k < m.length) (hc : ruC s o b l m[k].1 m[k].2 = true) : playR o b l s (m.drop k) = playR o b l (str (behind s m[k].1 m[k].2)) (m.drop (k + 1)) := by
  rw [List.drop_eq_getElem_cons h, playR, if_pos hc]
theorem playR_stop {o b l : Bool} (s : ByteArray) (m : List (Int × Int)) (k : Nat) (h : k < m.length) (hc : ruC s o b l m[k].1 m[k].2 = false) : playR o b l s (m.drop k) = none := by
  rw [List.drop_eq_getElem_cons h, playR, if_neg (by rw [hc]; decide)]
theorem rch_behind {s : ByteArray} {o b l : Bool} {f t : Int} (h : rchB s = true) (hc : ruC s o b l f t = true) : rchB (str (behind s f t)) = true := by
  unfold rchB at h ⊢
  rw [Bool.and_eq_true, decide_eq_true_eq] at h ⊢
  exact ⟨ruC_behind_good h.1 hc, by rw [str_size, behind_len]; exact h.2⟩
def optV : Option ByteArray → Value
  | some x => .tuple #[.string x, .bool true]
  | none => .tuple #[.string (str []), .bool false]
def plrV (s : ByteArray) (m : List (Int × Int)) (o b l : Bool) : Value := optV (if rchB s && decide (m.length ≤ 100) then playR o b l s m else none)
def PlrP (s : ByteArray) (m : List (Int × Int)) (o b l : Bool) (w : World) (e : Ending) (w' : World) : Prop := e = .returned (plrV s m o b l) ∧ Below w.heap.size w w'

set_option maxRecDepth 100000 in
set_option maxHeartbeats 4000000 in
theorem sPlayByRule_any (s0 : ByteArray) (m : List (Int × Int)) (A : Option Addr) (c : Nat) (o b l : Bool) (w : World) (hs : s0.size ≤ maxLen) (hn : m.length ≤ 2000000) (hat : MvIn w A m) :
    Calls Try.prog 34 #[.string s0, .slice A m.length c, ruV o b l] w (PlrP s0 m o b l w) := by
  have HN := Lib.hid hat
  clear hat
  cases hc : rchB s0
  · have hC := Lib.hid hc
    have hV : Hid (plrV s0 m o b l = .tuple #[.string (str []), .bool false]) := Lib.hid (by unfold plrV; rw [hc]; rfl)
    clear hc
    go_enter Try.func34, Try.ntmps34
    go_wp2_with fail
    refine (sRch_any _ _ hs).mono ?_; rintro e w' ⟨rfl, rfl⟩; rw [hC.out]
    go_wp2
    go_ret2
    exact ⟨by rw [hV.out]; rfl, (Below.refl _ _).alloc (Nat.le_refl _) _⟩
  · by_cases hl : 100 < m.length
    · have hC := Lib.hid hc
      have hV : Hid (plrV s0 m o b l = .tuple #[.string (str []), .bool false]) := Lib.hid (by unfold plrV; rw [hc, decide_eq_false (by omega)]; rfl)
      clear hc
      go_enter Try.func34, Try.ntmps34
      go_wp2_with fail
      refine (sRch_any _ _ hs).mono ?_; rintro e w' ⟨rfl, rfl⟩; rw [hC.out]
      go_wp2
      go_ret2
      exact ⟨by rw [hV.out]; rfl, (Below.refl _ _).alloc (Nat.le_refl _) _⟩
    · have hC := Lib.hid hc
      have hV : Hid (plrV s0 m o b l = optV (playR o b l s0 m)) := Lib.hid (by unfold plrV; rw [hc, decide_eq_true (by omega)]; rfl)
      have HR0 := Lib.hid hc
      clear hc
      go_enter Try.func34, Try.ntmps34
      go_wp2_with fail
      refine (sRch_any _ _ hs).mono ?_; rintro e w' ⟨rfl, rfl⟩; rw [hC.out]
      go_wp2
      obtain ⟨W0, hW0⟩ : ∃ W0, W0 = w.alloc (ruO o b l) := ⟨_, rfl⟩
      rw [← hW0]
      have HX0 : Hid (RuBx W0 w.heap.size o b l) := Lib.hid (by rw [hW0]; exact RuBx.new w o b l _)
      have HB0 : Hid (Below w.heap.size w W0) := Lib.hid (by rw [hW0]; exact (Below.refl _ _).alloc (Nat.le_refl _) _)
      clear hW0
      go_loopw [0, 20] (fun x t wr => ∃ (k : Nat) (s : ByteArray), k ≤ m.length ∧ t = .int .i64 k ∧ x = .string s ∧ Hid (rchB s = true) ∧ Hid (playR o b l s0 m = playR o b l s (m.drop k)) ∧ RuBx wr w.heap.size o b l ∧ Below w.heap.size w wr) (fun _ t _ => m.length - (intOf t).toNat)
      case atStart => exact ⟨0, s0, Nat.zero_le _, rfl, rfl, HR0, Lib.hid (by simp), HX0.out, HB0.out⟩
      case round =>
        obtain ⟨k, s, hk, rfl, rfl, hR, hP, hbx, hB⟩ := hrel
        clear HX0 HB0
        by_cases hlt : k < m.length
        · obtain ⟨g, off, rfl, hg, c0, c1⟩ := (HN.out.below hB) k hlt
          have hstep := Lib.hid (fun hc => playR_step (o := o) (b := b) (l := l) s m k hlt hc)
          have hstop := Lib.hid (fun hc => playR_stop (o := o) (b := b) (l := l) s m k hlt hc)
          have h1 : s.size ≤ 1000 := good1000 (rch_good hR.out)
          generalize m[k].1 = f at c0 hstep hstop
          generalize m[k].2 = t at c1 hstep hstop
          have i1 : (0 : Int) ≤ (k : Int) := by omega
          have i2 : (k : Int) < (m.length : Int) := by omega
          obtain ⟨z0, q0, q1, q2⟩ := hbx
          have HBX := Lib.hid (RuBx.mk z0 q0 q1 q2)
          go_wp2_with fail
          refine (ruCan_any s o b l f t _ h1).mono ?_
          rintro e w2 ⟨rfl, hb2⟩
          have HB2 := Lib.hid ((hB.alloc hB.size (mvB f t)).trans (hb2.mono (by have := hB.size; simp; omega)))
          have HBX2 := Lib.hid ((HBX.out.below ((Below.refl wr.heap.size wr).alloc (Nat.le_refl _) (mvB f t))).below hb2)
          cases hc : ruC s o b l f t
          · have hR2 : Hid (plrV s0 m o b l = optV none) := Lib.hid (by rw [hV.out, hP.out, hstop.out hc])
            clear hc hb2 c0 c1 hB q0 q1 q2
            go_wp2
            go_ret2
            exact ⟨by rw [hR2.out]; rfl, HB2.out⟩
          · obtain ⟨a, d, rfl, rfl, ha, hd, hne⟩ := ruC_in hc
            have HR2 := Lib.hid (rch_behind hR.out hc)
            have HP2 := Lib.hid (hstep.out hc)
            obtain ⟨hcell, _⟩ := bcell hb2
            have d0 : w2.cell? ⟨wr.heap.size, 0, none⟩ = some (.int .i64 a) := by rw [hcell _ _ (by simp), World.cell?_alloc_new]; rfl
            have d1 : w2.cell? ⟨wr.heap.size, 1, none⟩ = some (.int .i64 d) := by rw [hcell _ _ (by simp), World.cell?_alloc_new]; rfl
            clear hc hb2 c0 c1 hB q0 q1 q2 hcell
            go_wp2_with fail
            refine (liMake_any s a d _ h1 ha hd hne).mono ?_
            rintro e w3 ⟨rfl, hb3⟩
            have HB3 := Lib.hid (HB2.out.trans (hb3.mono HB2.out.size))
            have HBX3 := Lib.hid (HBX2.out.below hb3)
            clear hb3 d0 d1
            go_wp2
            go_roundw
            case rel => exact ⟨k + 1, str (putL s a d), by omega, by go_num, rfl, HR2, Lib.hid (by rw [hP.out, HP2.out]; rfl), HBX3.out, HB3.out⟩
            case measure => simp [intOf]; omega
        · obtain rfl : k = m.length := by omega
          have hR2 : Hid (plrV s0 m o b l = optV (some s)) := Lib.hid (by rw [hV.out, hP.out, List.drop_length]; rfl)
          go_wp2
          go_ret2
          exact ⟨by rw [hR2.out]; rfl, hB⟩

end Go.Proofs.Yticdhapbkfbhjaa
