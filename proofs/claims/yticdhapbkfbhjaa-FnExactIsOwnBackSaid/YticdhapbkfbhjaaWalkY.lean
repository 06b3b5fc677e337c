/- Contracts and the walk: whether an exchange is its own back. -/
import Derived.Test.YticdhapbkfbhjaaWalkX
import Derived.Test.YticdhapbkfbhjaaEqY
namespace Go.Proofs.Yticdhapbkfbhjaa
open Go.RowKit

/-- The same so far. -/
def sameTo (a b : List (Int × Int)) (k : Nat) : Prop := a.take k = b.take k
theorem sameTo_next {a b : List (Int × Int)} {k : Nat} (h : sameTo a b k) (ha : k < a.length) (hb : k < b.length) (e : a[k] = b[k]) : sameTo a b (k + 1) := by
  unfold sameTo at *
  rw [List.take_succ_eq_append_getElem ha, List.take_succ_eq_append_getElem hb, h, e]
theorem sameTo_no {a b : List (Int × Int)} {k : Nat} (ha : k < a.length) (hb : k < b.length) (e : a[k] ≠ b[k]) : decide (a = b) = false := by
  rw [decide_eq_false_iff_not]
  intro h
  subst h
  exact e rfl
theorem sameTo_all {a b : List (Int × Int)} (h : sameTo a b a.length) (hl : a.length = b.length) : decide (a = b) = true := by
  rw [decide_eq_true_eq]
  unfold sameTo at h
  rwa [List.take_length, hl, List.take_length] at h
theorem pair_ne {a b c d : Int} (h : (a == c && b == d) = false) : (a, b) ≠ (c, d) := by
  intro e
  injection e with e1 e2
  subst e1 e2
  simp at h
theorem pair_eq {a b c d : Int} (h : (a == c && b == d) = true) : (a, b) = (c, d) := by
  simp at h
  rw [h.1, h.2]

set_option maxRecDepth 100000 in
set_option maxHeartbeats 2000000 in
theorem slEqual_any (l m : List (Int × Int)) (A1 A2 : Option Addr) (c1 c2 : Nat) (w : World) (h1 : MvIn w A1 l) (h2 : MvIn w A2 m) (hlm : l.length = m.length) (hl : l.length ≤ 2000000) :
    Calls Try.prog 59 #[.slice A1 l.length c1, .slice A2 l.length c2] w fun e w' => e = .returned (.bool (decide (l = m))) ∧ Below w.heap.size w w' := by
  have H1 := Lib.hid h1
  have H2 := Lib.hid h2
  have HL := Lib.hid hlm
  clear h1 h2 hlm
  go_enter Try.func59, Try.ntmps59
  go_wp2
  go_loopw [5, 13] (fun _ i wr => ∃ k : Nat, k ≤ l.length ∧ i = .int .i64 k ∧ Hid (sameTo l m k) ∧ Below w.heap.size w wr) (fun _ i _ => l.length - (intOf i).toNat)
  case atStart => exact ⟨0, Nat.zero_le _, rfl, by show _ = _; simp, Below.refl _ _⟩
  case round =>
    obtain ⟨k, hk, rfl, hs, hB⟩ := hrel
    by_cases hlt : k < l.length
    · have hlt2 : k < m.length := by have := HL.out; omega
      obtain ⟨g, o, rfl, z1, p1, q1⟩ := (H1.out.below hB) k hlt
      obtain ⟨g', o', rfl, z2, p2, q2⟩ := (H2.out.below hB) k hlt2
      have hyes : Hid ((l[k].1, l[k].2) = (m[k].1, m[k].2) → sameTo l m (k + 1)) := fun e => sameTo_next hs.out hlt hlt2 e
      have hno : Hid ((l[k].1, l[k].2) ≠ (m[k].1, m[k].2) → decide (l = m) = false) := fun e => sameTo_no hlt hlt2 e
      generalize l[k].1 = a at p1 hyes hno
      generalize l[k].2 = b at q1 hyes hno
      generalize m[k].1 = c at p2 hyes hno
      generalize m[k].2 = d at q2 hyes hno
      have i1 : (0 : Int) ≤ (k : Int) := by omega
      have i2 : (k : Int) < (l.length : Int) := by omega
      cases hab : (a == c && b == d)
      · have hR := Lib.hid (hno.out (pair_ne hab))
        have hne := fun wx => neq_move a b c d wx
        rw [hab] at hne
        clear hyes hno hs hab
        go_wp2
        go_quiet (fail)
        go_wp2
        go_ret
        exact ⟨congrArg (fun b => Ending.returned (.bool b)) hR.out.symm, below_drewN hB _⟩
      · have hR := Lib.hid (hyes.out (pair_eq hab))
        have hne := fun wx => neq_move a b c d wx
        rw [hab] at hne
        clear hyes hno hs hab
        go_wp2
        go_quiet (fail)
        go_wp2
        go_roundw
        case rel => exact ⟨k + 1, by omega, by go_num, hR, below_drewN hB _⟩
        case measure => simp [intOf]; omega
    · obtain rfl : k = l.length := by omega
      have hR := Lib.hid (sameTo_all hs.out HL.out)
      clear hs
      go_wp2
      go_ret
      exact ⟨congrArg (fun b => Ending.returned (.bool b)) hR.out.symm, hB⟩

/-- An exchange is its own back. -/
def ownB (l : List (Int × Int)) : Bool := decide (backL l = l)

set_option maxHeartbeats 1000000 in
theorem isOwnBack_any (t g f : Int) (l : List (Int × Int)) (A : Option Addr) (c : Nat) (w : World) (hn : l.length ≤ 2000000) (hat : MvIn w A l) :
    Calls Try.prog 29 #[.int .i64 t, .int .i64 g, .int .i64 f, .slice A l.length c] w fun e w' => e = .returned (boolOr (isEx t g f l) (ownB l)) ∧ Below w.heap.size w w' := by
  have HA := Lib.hid hat
  clear hat
  cases hx : isEx t g f l
  · have hX := Lib.hid hx
    have hR := Lib.hid (boolOr_no false (ownB l) rfl)
    clear hx
    go_enter Try.func29, Try.ntmps29
    go_wp2_with fail
    refine (backExchange_any t g f l _ _ _ hn HA.out).mono ?_
    rintro e w1 ⟨v1, rfl, ho1, hb1⟩
    rw [hX.out]
    clear ho1
    go_wp2
    go_ret2
    exact ⟨congrArg Ending.returned hR.out.symm, hb1⟩
  · have hX := Lib.hid hx
    have hR := Lib.hid (boolOr_yes true (ownB l) rfl)
    clear hx
    go_enter Try.func29, Try.ntmps29
    go_wp2_with fail
    refine (backExchange_any t g f l _ _ _ hn HA.out).mono ?_
    rintro e w1 ⟨v1, rfl, ho1, hb1⟩
    rw [hX.out] at ho1 ⊢
    have ho2 : w1.ownsRow w.heap.size 53 2 v1 (backL l).length (flat (backL l)) := ho1
    obtain ⟨A1, cap1, rfl, at1⟩ := at_of_own ho2
    have AT1 := Lib.hid at1
    have HA1 := Lib.hid (HA.out.below hb1)
    have heq := fun wx (h1 : MvIn wx A1 (backL l)) (h2 : MvIn wx A l) => slEqual_any (backL l) l A1 A cap1 c wx h1 h2 (backL_len l) (by rw [backL_len]; exact hn)
    rw [backL_len] at heq ⊢
    have HE := Lib.hid heq
    clear ho1 ho2 at1 heq
    go_wp2_with fail
    refine (HE.out _ AT1.out.into HA1.out).mono ?_
    rintro e w2 ⟨rfl, hb2⟩
    have hB := hb1.trans (hb2.mono hb1.size)
    clear hb1 hb2 HA1 AT1 HE
    generalize hq : decide (backL l = l) = q
    have hR2 : Hid (boolOr true (ownB l) = .tuple #[.bool q, .bool true]) := by show _ = _; rw [hR.out]; unfold ownB; rw [hq]
    clear hq hR
    go_wp2
    go_ret2
    exact ⟨congrArg Ending.returned hR2.out.symm, hB⟩

set_option maxRecDepth 100000 in
set_option maxHeartbeats 4000000 in
theorem sIsOwnBack_any (t g f : Int) (l : List (Int × Int)) (A : Option Addr) (c : Nat) (w : World) (hn : l.length ≤ 2000000) (hat : MvIn w A l) :
    Calls Try.prog 28 #[.int .i64 t, .int .i64 g, .int .i64 f, .slice A l.length c] w fun e w' => e = .returned (boolOr (isEx t g f l) (ownB l)) ∧ Below w.heap.size w w' := by
  have HA := Lib.hid hat
  clear hat
  cases hc : askM t g f l.length
  · have hC := Lib.hid hc
    have hR := Lib.hid (boolOr_no (isEx t g f l) (ownB l) (isEx_no1 hc))
    clear hc
    go_enter Try.func28, Try.ntmps28
    go_wp2_with fail
    refine (swMoves_any _ _ _ _ _ _ _ hn).mono ?_
    rintro e w1 ⟨rfl, hb1⟩
    rw [hC.out]
    go_wp2
    go_ret2
    exact ⟨congrArg Ending.returned hR.out.symm, hb1⟩
  · obtain ⟨hf, h100⟩ := askM_in hc
    have hC := Lib.hid hc
    have HF := Lib.hid hf
    cases hx : exB t g f l
    · have hX := Lib.hid hx
      have hR := Lib.hid (boolOr_no (isEx t g f l) (ownB l) (by rw [isEx_of hc, hx]))
      clear hx hc hf
      go_enter Try.func28, Try.ntmps28
      go_wp2_with fail
      refine (swMoves_any _ _ _ _ _ _ _ hn).mono ?_
      rintro e w1 ⟨rfl, hb1⟩
      rw [hC.out]
      have HA1 := Lib.hid (HA.out.below hb1)
      go_wp2_with fail
      refine (swIs_any t g f l _ _ _ HF.out h100 HA1.out).mono ?_
      rintro e w2 ⟨rfl, hb2⟩
      rw [hX.out]
      have hB := hb1.trans (hb2.mono hb1.size)
      clear hb1 hb2 HA1 HA
      go_wp2
      go_ret2
      exact ⟨congrArg Ending.returned hR.out.symm, hB⟩
    · have hX := Lib.hid hx
      have hR := Lib.hid (boolOr_yes (isEx t g f l) (ownB l) (by rw [isEx_of hc, hx]))
      clear hx hc hf
      go_enter Try.func28, Try.ntmps28
      go_wp2_with fail
      refine (swMoves_any _ _ _ _ _ _ _ hn).mono ?_
      rintro e w1 ⟨rfl, hb1⟩
      rw [hC.out]
      have HA1 := Lib.hid (HA.out.below hb1)
      go_wp2_with fail
      refine (swIs_any t g f l _ _ _ HF.out h100 HA1.out).mono ?_
      rintro e w2 ⟨rfl, hb2⟩
      rw [hX.out]
      have hB := hb1.trans (hb2.mono hb1.size)
      have HA2 := Lib.hid (HA1.out.below hb2)
      clear hb1 hb2 HA1 HA
      go_wp2_with fail
      refine (swBack_any l _ _ _ HA2.out h100).mono ?_
      rintro e w3 ⟨v, rfl, ho3, hb3⟩
      obtain ⟨A3, cap3, rfl, at3⟩ := at_of_own ho3
      have AT3 := Lib.hid at3
      have HA3 := Lib.hid (HA2.out.below hb3)
      have hB3 := hB.trans (hb3.mono hB.size)
      have hlen := Lib.hid (backL_len l)
      clear at3 ho3 hb3 hB HA2
      rw [hlen.out]
      go_wp2
      go_loopw [10, 11, 29] (fun _ _ i wr => ∃ k : Nat, k ≤ l.length ∧ i = .int .i64 k ∧ Hid (sameTo (backL l) l k) ∧ Below w3.heap.size w3 wr) (fun _ _ i _ => l.length - (intOf i).toNat)
      case atStart => exact ⟨0, Nat.zero_le _, rfl, by show _ = _; simp, Below.refl _ _⟩
      case round =>
        obtain ⟨k, hk, rfl, hs, hb⟩ := hrel
        have hB := hB3.trans (hb.mono hB3.size)
        by_cases hlt : k < l.length
        · have hlt2 : k < (backL l).length := by have := hlen.out; omega
          obtain ⟨g1, rfl, z1, p1, q1⟩ := (AT3.out.below hb) k hlt2
          obtain ⟨g2, o2, rfl, z2, p2, q2⟩ := (HA3.out.below hb) k hlt
          have hyes : Hid (((backL l)[k].1, (backL l)[k].2) = (l[k].1, l[k].2) → sameTo (backL l) l (k + 1)) := fun e => sameTo_next hs.out hlt2 hlt e
          have hno : Hid (((backL l)[k].1, (backL l)[k].2) ≠ (l[k].1, l[k].2) → decide (backL l = l) = false) := fun e => sameTo_no hlt2 hlt e
          generalize (backL l)[k].1 = a1 at p1 hyes hno
          generalize (backL l)[k].2 = b1 at q1 hyes hno
          generalize l[k].1 = c1 at p2 hyes hno
          generalize l[k].2 = d1 at q2 hyes hno
          have i1 : (0 : Int) ≤ (k : Int) := by omega
          have i2 : (k : Int) < (l.length : Int) := by omega
          have hbz := hb.size
          have hBz := hB.size
          have r0 : (wr.alloc (mvB a1 b1)).cell? ⟨g2, o2 + k * 2, none⟩ = some (.int .i64 c1) := by
            rw [World.cell?_alloc_old _ _ _ (Nat.ne_of_lt z2)]; exact p2
          have r1 : (wr.alloc (mvB a1 b1)).cell? ⟨g2, o2 + k * 2 + 1, none⟩ = some (.int .i64 d1) := by
            rw [World.cell?_alloc_old _ _ _ (Nat.ne_of_lt z2)]; exact q2
          have hb' := hb.alloc hbz (mvB a1 b1)
          have hB' := hB.alloc hBz (mvB a1 b1)
          cases hab : (a1 == c1 && b1 == d1)
          · have hR2 : Hid (boolOr (isEx t g f l) (ownB l) = .tuple #[.bool false, .bool true]) := by show _ = _; rw [hR.out]; unfold ownB; rw [hno.out (pair_ne hab)]
            have hne := fun wx => neq_move a1 b1 c1 d1 wx
            rw [hab] at hne
            clear hyes hno hs hab hb hB hB3
            go_wp2
            go_quiet (fail)
            go_wp2
            go_ret2
            exact ⟨congrArg Ending.returned hR2.out.symm, below_drewN hB' _⟩
          · have hS := Lib.hid (hyes.out (pair_eq hab))
            have hne := fun wx => neq_move a1 b1 c1 d1 wx
            rw [hab] at hne
            clear hyes hno hs hab hb hB hB3
            go_wp2
            go_quiet (fail)
            go_wp2
            go_roundw
            case rel => exact ⟨k + 1, by omega, by go_num, hS, below_drewN hb' _⟩
            case measure => simp [intOf]; omega
        · obtain rfl : k = l.length := by omega
          have hR2 : Hid (boolOr (isEx t g f l) (ownB l) = .tuple #[.bool true, .bool true]) := by
            show _ = _
            rw [hR.out]
            unfold ownB
            have h := hs.out
            have e := hlen.out
            rw [sameTo_all (by rw [e]; exact h) e]
          clear hs hb
          go_wp2
          go_ret2
          exact ⟨congrArg Ending.returned hR2.out.symm, hB⟩

set_option maxRecDepth 100000 in
set_option maxHeartbeats 4000000 in
theorem walk_FnExactIsOwnBack (t : Int) (_ : (Lit.int .i64 t).wf = true) (g : Int) (_ : (Lit.int .i64 g).wf = true) (f : Int) (_ : (Lit.int .i64 f).wf = true) (A : Option Addr) (n c : Nat) (l : List (Int × Int)) (w : World) (hin : n = l.length ∧ n ≤ maxLen ∧ MvIn w A l) :
    Calls Try.prog 8 #[.int .i64 t, .int .i64 g, .int .i64 f, .slice A n c] w fun e w' => e = .returned (.bool true) ∧ Below w.heap.size w w' := by
  obtain ⟨rfl, hmax, hin⟩ := hin
  have HI := Lib.hid hin
  clear hin
  by_cases hl : 1048576 < l.length
  · go_enter Try.func8, Try.ntmps8
    go_wp2_with fail
    refine (szMoveS_any _ _ _ _ hmax).mono ?_
    rintro e w1 ⟨rfl, rfl⟩
    rw [if_pos hl]
    go_wp2
    go_ret
    exact ⟨rfl, Below.refl _ _⟩
  · have hln : l.length ≤ 2000000 := by omega
    have hnn : ¬ (1048576 : Int) - (l.length : Int) < 0 := by omega
    obtain ⟨r0, r1, hR⟩ : ∃ (r0 : Bool) (r1 : Bool), boolOr (isEx t g f l) (ownB l) = .tuple #[.bool r0, .bool r1] := by
      unfold boolOr
      split
      · exact ⟨_, _, rfl⟩
      · exact ⟨_, _, rfl⟩
    have hR := Lib.hid hR
    go_enter Try.func8, Try.ntmps8
    go_wp2_with fail
    refine (szMoveS_any _ _ _ _ hmax).mono ?_
    rintro e w1 ⟨rfl, rfl⟩
    rw [if_neg hl]
    go_wp2_with fail
    refine (toMoveS_any l A c _ HI.out hln).mono ?_
    rintro e w1 ⟨rfl, ho1, hb1⟩
    obtain ⟨A1, c1, hv1, at1⟩ := at_of_own ho1
    injection hv1 with hA1 _ hc1
    subst hA1; subst hc1
    have AT1 := Lib.hid at1
    clear ho1 at1
    go_wp2_with fail
    refine (sIsOwnBack_any t g f l _ _ _ hln AT1.out.into).mono ?_
    rintro e w2 ⟨rfl, hb2⟩
    rw [hR.out]
    have hB2 := hb1.trans (hb2.mono hb1.size)
    have H2 := Lib.hid (HI.out.below hB2)
    clear hb1 hb2 AT1 HI
    go_wp2_with fail
    refine (toMoveS_any l A c _ H2.out hln).mono ?_
    rintro e w3 ⟨rfl, ho3, hb3⟩
    obtain ⟨A3, c3, hv3, at3⟩ := at_of_own ho3
    injection hv3 with hA3 _ hc3
    subst hA3; subst hc3
    have AT3 := Lib.hid at3
    have hB3 := hB2.trans (hb3.mono hB2.size)
    have H3 := Lib.hid (H2.out.below hb3)
    clear ho3 at3 hb3 hB2 H2
    go_wp2_with fail
    refine (isOwnBack_any t g f l _ _ _ hln AT3.out.into).mono ?_
    rintro e w4 ⟨rfl, hb4⟩
    rw [hR.out]
    have AT4 := Lib.hid (AT3.out.below hb4)
    have H4 := Lib.hid (H3.out.below hb4)
    have hB4 := hB3.trans (hb4.mono hB3.size)
    clear hb4 AT3 H3 hB3
    go_wp2_with fail
    refine (toMoveS_any l A c _ H4.out hln).mono ?_
    rintro e w5 ⟨rfl, ho5, hb5⟩
    obtain ⟨A5, c5, hv5, at5⟩ := at_of_own ho5
    injection hv5 with hA5 _ hc5
    subst hA5; subst hc5
    have AT5 := Lib.hid at5
    have AT4' := Lib.hid (AT4.out.below hb5)
    have hB5 := hB4.trans (hb5.mono hB4.size)
    clear ho5 at5 hb5 hB4 AT4 H4
    go_wp2_with fail
    refine (eqMoveS_same l _ _ _ _ _ AT4'.out AT5.out hln).mono ?_
    rintro e w6 ⟨rfl, hb6⟩
    have hB6 := hB5.trans (hb6.mono hB5.size)
    clear hb6 hB5 AT4' AT5
    go_wp2
    go_ret
    exact ⟨rfl, hB6⟩
end Go.Proofs.Yticdhapbkfbhjaa
