/- How many lines are stuck by a rule. -/
import Derived.Test.YtcndlfoodbmgbaaRuR
import Derived.Test.YtcndlfoodbmgbaaRuF
import Derived.Test.YtcndlfoodbmgbaaRuG
namespace Go.Proofs.Ytcndlfoodbmgbaa
open Go.RowKit

def stk (o b l : Bool) (x : List UInt8) : Bool := decide ((ruTo (str x) o b l (str x).size).length = 0)
def stkN (t g f : Int) (o b l : Bool) (k : Nat) : Nat := ((lnsTo t g f k).filter (stk o b l)).length
theorem stk_succ (t g f : Int) (o b l : Bool) (k : Nat) : stkN t g f o b l (k + 1) = stkN t g f o b l k + if stk o b l (lnk t g f k) then 1 else 0 := by
  unfold stkN
  rw [lns_succ, List.filter_append, List.length_append]
  cases h : stk o b l (lnk t g f k) <;> simp [h]
theorem stk_le (t g f : Int) (o b l : Bool) (k : Nat) : stkN t g f o b l k ≤ k := by
  unfold stkN
  have := List.length_filter_le (stk o b l) (lnsTo t g f k)
  rw [lns_len] at this
  exact this
def csV (t g f : Int) (o b l : Bool) : Value := if thrR t g f then .tuple #[.int .i64 (stkN t g f o b l (manyK t g f)), .bool true] else .tuple #[.int .i64 0, .bool false]
theorem csV_open (t g f : Int) (o b l : Bool) : ∃ x y, csV t g f o b l = .tuple #[.int .i64 x, .bool y] := by
  unfold csV
  split
  · exact ⟨_, _, rfl⟩
  · exact ⟨_, _, rfl⟩
theorem lnsRow {W : World} {R0 N cap : Nat} {A : Option Addr} {xs : List Value} (h : W.ownsRow R0 9 1 (.slice A N cap) N xs) {k : Nat} (hk : k < N) : ∃ gs, A = some ⟨gs, 0, none⟩ ∧ R0 ≤ gs ∧ gs < W.heap.size ∧ W.cell? ⟨gs, k, none⟩ = xs[k]? := by
  rcases h.2 with ⟨_, h0⟩ | ⟨g, cap', cur, hv, hb, hg, hn, hm, _⟩
  · omega
  · injection hv with h1 _ _
    subst h1
    exact ⟨g, rfl, hb, (Array.getElem?_eq_some_iff.1 hg).1, h.cellAt k (by omega)⟩
theorem lnsForm {W : World} {R0 N : Nat} {v : Value} {xs : List Value} (h : W.ownsRow R0 9 1 v N xs) : ∃ A cap, v = .slice A N cap := by
  rcases h.2 with ⟨hv, h0⟩ | ⟨g, cap, cur, hv, _⟩
  · exact ⟨none, 0, by rw [hv, h0]⟩
  · exact ⟨_, cap, hv⟩
set_option maxRecDepth 100000 in
set_option maxHeartbeats 4000000 in
theorem sCountStuck_any (t g f : Int) (o b l : Bool) (w : World) :
    Calls Try.prog 41 #[.int .i64 t, .int .i64 g, .int .i64 f, ruV o b l] w fun e w' => e = .returned (csV t g f o b l) ∧ Below w.heap.size w w' := by
  cases hc : thrR t g f
  · have hV : Hid (csV t g f o b l = .tuple #[.int .i64 0, .bool false]) := Lib.hid (by unfold csV; rw [hc]; rfl)
    have hC := Lib.hid hc
    clear hc
    go_enter Try.func41, Try.ntmps41
    go_wp2_with fail
    refine (ruThree_any _ _ _ _).mono ?_; rintro e W0 ⟨rfl, hb1⟩; rw [hC.out]
    go_wp2
    go_ret2
    exact ⟨by rw [hV.out]; rfl, ((Below.refl w.heap.size w).alloc (Nat.le_refl _) (ruO o b l)).trans (hb1.mono (by simp))⟩
  · have hV : Hid (csV t g f o b l = .tuple #[.int .i64 (stkN t g f o b l (manyK t g f)), .bool true]) := Lib.hid (by unfold csV; rw [if_pos hc])
    have HL := Lib.hid (fun wx => ruLines_any t g f wx hc)
    have hN1 := (many8 hc).2
    have HM : Hid (∀ k, k < manyK t g f → ∀ wx, Calls Try.prog 57 #[.string (str (lnk t g f k)), ruV o b l] wx (SpPost wx (ruTo (str (lnk t g f k)) o b l (str (lnk t g f k)).size))) := Lib.hid fun k hk wx => ruMoves_any (str (lnk t g f k)) o b l wx (lnk_T hc hk).1
    have HS := Lib.hid (fun k => stk_succ t g f o b l k)
    have HLE := Lib.hid (fun k => stk_le t g f o b l k)
    have HAT := Lib.hid (fun (k : Nat) (h : k < manyK t g f) => lns_at t g f h)
    have hC := Lib.hid hc
    clear hc
    unfold LnPost at HL
    generalize manyK t g f = N at HL hN1 HM HAT hV
    go_enter Try.func41, Try.ntmps41
    go_wp2_with fail
    refine (ruThree_any _ _ _ _).mono ?_; rintro e W0 ⟨rfl, hb1⟩; rw [hC.out]
    have HX0 := Lib.hid ((RuBx.new w o b l 27).below hb1)
    have HB0 := Lib.hid (((Below.refl w.heap.size w).alloc (Nat.le_refl _) (ruO o b l)).trans (hb1.mono (by simp)))
    clear hb1
    go_wp2_with fail
    refine (HL.out _).mono ?_
    rintro e w2 ⟨v, rfl, ho, hb2⟩
    obtain ⟨A, cap, rfl⟩ := lnsForm ho
    have HX2 := Lib.hid (HX0.out.below hb2)
    have HB2 := Lib.hid (HB0.out.trans (hb2.mono HB0.out.size))
    have HO := Lib.hid ho
    clear ho hb2 HX0 HB0 HL
    go_wp2
    go_loopw [10, 23] (fun n i wr => ∃ k : Nat, k ≤ N ∧ i = .int .i64 k ∧ n = .int .i64 (stkN t g f o b l k) ∧ Below w2.heap.size w2 wr) (fun _ i _ => N - (intOf i).toNat)
    case atStart => exact ⟨0, Nat.zero_le _, rfl, rfl, Below.refl _ _⟩
    case round =>
      obtain ⟨k, hk, rfl, rfl, hB⟩ := hrel
      by_cases hlt : k < N
      · have i1 : (0 : Int) ≤ (k : Int) := by omega
        have i2 : (k : Int) < (N : Int) := by omega
        obtain ⟨gs, hA, _, hgs, hcl⟩ := lnsRow (own_below HO.out hB) hlt
        rw [HAT.out k hlt] at hcl
        subst hA
        have HMk := Lib.hid (HM.out k hlt)
        have hs := HS.out k
        have hle := HLE.out k
        have hdef : stk o b l (lnk t g f k) = decide ((ruTo (str (lnk t g f k)) o b l (str (lnk t g f k)).size).length = 0) := rfl
        generalize ruTo (str (lnk t g f k)) o b l (str (lnk t g f k)).size = ms at HMk hdef
        generalize stkN t g f o b l k = n at hs hle
        have i3 : (0 : Int) ≤ (n : Int) := by omega
        have i4 : (n : Int) ≤ 1000 := by omega
        obtain ⟨z0, q0, q1, q2⟩ := HX2.out.below hB
        go_wp2_with fail
        refine (HMk.out _).mono ?_
        rintro e w3 ⟨v3, rfl, ho3, hb3⟩
        obtain ⟨A3, c3, rfl, _⟩ := at_of_own ho3
        have HB3 := Lib.hid (hB.trans (hb3.mono hB.size))
        have HSS := Lib.hid hs
        by_cases hm : ms.length = 0
        · have hm2 : ((ms.length : Nat) : Int) = 0 := by omega
          have he : Hid (stkN t g f o b l (k + 1) = n + 1) := Lib.hid (by rw [HSS.out, hdef, decide_eq_true hm]; rfl)
          clear hs hdef ho3 hb3 hB hm q0 q1 q2 hcl
          go_wp2
          go_roundw
          case rel => exact ⟨k + 1, by omega, by go_num, by rw [he.out]; go_num, HB3.out⟩
          case measure => simp [intOf]; omega
        · have hm2 : ¬ ((ms.length : Nat) : Int) = 0 := by omega
          have he : Hid (stkN t g f o b l (k + 1) = n) := Lib.hid (by rw [HSS.out, hdef, decide_eq_false hm]; rfl)
          clear hs hdef ho3 hb3 hB hm q0 q1 q2 hcl
          go_wp2
          go_roundw
          case rel => exact ⟨k + 1, by omega, by go_num, by rw [he.out], HB3.out⟩
          case measure => simp [intOf]; omega
      · obtain rfl : k = N := by omega
        go_wp2
        go_ret2
        exact ⟨by rw [hV.out]; rfl, HB2.out.trans (hB.mono HB2.out.size)⟩
set_option maxRecDepth 100000 in
set_option maxHeartbeats 4000000 in
theorem countStuck_any (t g f : Int) (o b l : Bool) (w : World) :
    Calls Try.prog 42 #[.int .i64 t, .int .i64 g, .int .i64 f, ruV o b l] w fun e w' => e = .returned (csV t g f o b l) ∧ Below w.heap.size w w' := by
  cases hc : thrR t g f
  · have hV : Hid (csV t g f o b l = .tuple #[.int .i64 0, .bool false]) := Lib.hid (by unfold csV; rw [hc]; rfl)
    have hC := Lib.hid hc
    clear hc
    go_enter Try.func42, Try.ntmps42
    go_wp2_with fail
    refine (areRuleCounts_any _ _ _ _).mono ?_; rintro e w' ⟨rfl, rfl⟩; rw [hC.out]
    go_wp2
    go_ret2
    exact ⟨by rw [hV.out]; rfl, (Below.refl _ _).alloc (Nat.le_refl _) _⟩
  · have hV : Hid (csV t g f o b l = .tuple #[.int .i64 (stkN t g f o b l (manyK t g f)), .bool true]) := Lib.hid (by unfold csV; rw [if_pos hc])
    have HL := Lib.hid (fun wx => allLines_any t g f wx hc)
    have hN1 := (many8 hc).2
    have HM : Hid (∀ k, k < manyK t g f → ∀ wx, Calls Try.prog 60 #[ruV o b l, .string (str (lnk t g f k))] wx (SpPost wx (ruTo (str (lnk t g f k)) o b l (str (lnk t g f k)).size))) := Lib.hid fun k hk wx => rmoves_any (str (lnk t g f k)) o b l wx (lnk_T hc hk).1
    have HS := Lib.hid (fun k => stk_succ t g f o b l k)
    have HLE := Lib.hid (fun k => stk_le t g f o b l k)
    have HAT := Lib.hid (fun (k : Nat) (h : k < manyK t g f) => lns_at t g f h)
    have hC := Lib.hid hc
    clear hc
    unfold LnPost at HL
    generalize manyK t g f = N at HL hN1 HM HAT hV
    go_enter Try.func42, Try.ntmps42
    go_wp2_with fail
    refine (areRuleCounts_any _ _ _ _).mono ?_; rintro e w' ⟨rfl, rfl⟩; rw [hC.out]
    go_wp2_with fail
    refine (partsOf_any _ _ _ _).mono ?_; rintro e w1 ⟨rfl, hb1⟩
    have HX0 : Hid (RuBx (w1.alloc (paO o b l)) w1.heap.size o b l) := Lib.hid (RuBx.new w1 o b l _)
    have HB0 : Hid (Below w.heap.size w (w1.alloc (paO o b l))) := Lib.hid ((((Below.refl w.heap.size w).alloc (Nat.le_refl _) (ruO o b l)).trans (hb1.mono (by simp))).alloc (by have := hb1.size; simp at this; omega) _)
    clear hb1
    go_wp2_with fail
    refine (HL.out _).mono ?_
    rintro e w2 ⟨v, rfl, ho, hb2⟩
    obtain ⟨A, cap, rfl⟩ := lnsForm ho
    have HX2 := Lib.hid (HX0.out.below hb2)
    have HB2 := Lib.hid (HB0.out.trans (hb2.mono HB0.out.size))
    have HO := Lib.hid ho
    clear ho hb2 HX0 HB0 HL
    go_wp2
    go_loopw [11, 26] (fun n i wr => ∃ k : Nat, k ≤ N ∧ i = .int .i64 k ∧ n = .int .i64 (stkN t g f o b l k) ∧ Below w2.heap.size w2 wr) (fun _ i _ => N - (intOf i).toNat)
    case atStart => exact ⟨0, Nat.zero_le _, rfl, rfl, Below.refl _ _⟩
    case round =>
      obtain ⟨k, hk, rfl, rfl, hB⟩ := hrel
      by_cases hlt : k < N
      · have i1 : (0 : Int) ≤ (k : Int) := by omega
        have i2 : (k : Int) < (N : Int) := by omega
        obtain ⟨gs, hA, _, hgs, hcl⟩ := lnsRow (own_below HO.out hB) hlt
        rw [HAT.out k hlt] at hcl
        subst hA
        have HMk := Lib.hid (HM.out k hlt)
        have hs := HS.out k
        have hle := HLE.out k
        have hdef : stk o b l (lnk t g f k) = decide ((ruTo (str (lnk t g f k)) o b l (str (lnk t g f k)).size).length = 0) := rfl
        generalize ruTo (str (lnk t g f k)) o b l (str (lnk t g f k)).size = ms at HMk hdef
        generalize stkN t g f o b l k = n at hs hle
        have i3 : (0 : Int) ≤ (n : Int) := by omega
        have i4 : (n : Int) ≤ 1000 := by omega
        obtain ⟨z0, q0, q1, q2⟩ := HX2.out.below hB
        go_wp2_with fail
        refine (HMk.out _).mono ?_
        rintro e w3 ⟨v3, rfl, ho3, hb3⟩
        obtain ⟨A3, c3, rfl, _⟩ := at_of_own ho3
        have HB3 := Lib.hid (hB.trans (hb3.mono hB.size))
        have HSS := Lib.hid hs
        by_cases hm : ms.length = 0
        · have hm2 : ((ms.length : Nat) : Int) = 0 := by omega
          have he : Hid (stkN t g f o b l (k + 1) = n + 1) := Lib.hid (by rw [HSS.out, hdef, decide_eq_true hm]; rfl)
          clear hs hdef ho3 hb3 hB hm q0 q1 q2 hcl
          go_wp2
          go_roundw
          case rel => exact ⟨k + 1, by omega, by go_num, by rw [he.out]; go_num, HB3.out⟩
          case measure => simp [intOf]; omega
        · have hm2 : ¬ ((ms.length : Nat) : Int) = 0 := by omega
          have he : Hid (stkN t g f o b l (k + 1) = n) := Lib.hid (by rw [HSS.out, hdef, decide_eq_false hm]; rfl)
          clear hs hdef ho3 hb3 hB hm q0 q1 q2 hcl
          go_wp2
          go_roundw
          case rel => exact ⟨k + 1, by omega, by go_num, by rw [he.out], HB3.out⟩
          case measure => simp [intOf]; omega
      · obtain rfl : k = N := by omega
        go_wp2
        go_ret2
        exact ⟨by rw [hV.out]; rfl, HB2.out.trans (hB.mono HB2.out.size)⟩
set_option maxRecDepth 100000 in
set_option maxHeartbeats 4000000 in
theorem walk_FnExactCountStuck (t : Int) (_ : (Lit.int .i64 t).wf = true) (g : Int) (_ : (Lit.int .i64 g).wf = true) (f : Int) (_ : (Lit.int .i64 f).wf = true) (o b l : Bool) (w : World) :
    Calls Try.prog 12 #[.int .i64 t, .int .i64 g, .int .i64 f, ruV o b l] w fun e w' => e = .returned (.bool true) ∧ Below w.heap.size w w' := by
  have HS := Lib.hid (fun wx => sCountStuck_any t g f o b l wx)
  have HM := Lib.hid (fun wx => countStuck_any t g f o b l wx)
  obtain ⟨x, y, hxy⟩ := csV_open t g f o b l
  rw [hxy] at HS HM
  clear hxy
  go_enter Try.func12, Try.ntmps12
  go_wp2_with fail
  refine (toRule_any o b l _).mono ?_
  rintro e w0 ⟨rfl, hb0⟩
  have HB0 := Lib.hid (((Below.refl w.heap.size w).alloc (Nat.le_refl _) (Obj.cells #[.bool o, .bool b, .bool l] 23)).trans (hb0.mono (by simp)))
  have HX0 := Lib.hid ((RuBx.new w o b l 23).below hb0)
  clear hb0
  go_wp2_with fail
  refine (HS.out _).mono ?_
  rintro e w1 ⟨rfl, hb1⟩
  have HX1 := Lib.hid (HX0.out.below hb1)
  have HB1 := Lib.hid (HB0.out.trans (hb1.mono HB0.out.size))
  clear hb1 HX0 HB0
  obtain ⟨_, x0, x1, x2⟩ := HX1.out
  go_wp2_with fail
  refine (toRule_any o b l _).mono ?_
  rintro e w2 ⟨rfl, hb2⟩
  clear x0 x1 x2
  have HB2 := Lib.hid (HB1.out.trans (hb2.mono HB1.out.size))
  clear hb2
  go_wp2_with fail
  refine (HM.out _).mono ?_
  rintro e w3 ⟨rfl, hb3⟩
  have HB3 := Lib.hid (HB2.out.trans (hb3.mono HB2.out.size))
  clear hb3
  go_wp2
  go_ret
  exact ⟨rfl, HB3.out⟩
end Go.Proofs.Ytcndlfoodbmgbaa
