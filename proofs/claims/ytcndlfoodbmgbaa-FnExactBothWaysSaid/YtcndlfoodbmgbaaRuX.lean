/- BothWays: the program's side, and the model's over a contract for the search backwards. -/
import Derived.Test.YtcndlfoodbmgbaaRuW
namespace Go.Proofs.Ytcndlfoodbmgbaa
open Go.RowKit

set_option maxRecDepth 100000 in
set_option maxHeartbeats 2000000 in
theorem bothWays_any (s : ByteArray) (o b l : Bool) (w : World) (hs : s.size ≤ maxLen) :
    Calls Try.prog 44 #[.string s, ruV o b l] w fun e w' => e = .returned (bwV s o b l) ∧ Below w.heap.size w w' := by
  have HM := Lib.hid (fun wx => ruleMoves_any s o b l wx hs)
  cases hc : rchB s
  · have hV : Hid (bwV s o b l = .tuple #[.bool false, .bool false]) := Lib.hid (by unfold bwV; rw [hc]; rfl)
    rw [hc] at HM
    generalize ruOr s o b l = ms at HM
    unfold MvAns at HM
    clear hc
    go_enter Try.func44, Try.ntmps44
    go_wp2_with fail
    refine (HM.out _).mono ?_
    rintro e w1 ⟨v, rfl, ho, hb1⟩
    obtain ⟨A1, c1, rfl, _⟩ := at_of_own ho
    have HX1 := Lib.hid ((RuBx.new w o b l 27).below hb1)
    have HB1 := Lib.hid (((Below.refl w.heap.size w).alloc (Nat.le_refl _) (ruO o b l)).trans (hb1.mono (by simp)))
    clear ho hb1
    obtain ⟨_, x0, x1, x2⟩ := HX1.out
    go_wp2
    go_ret2
    exact ⟨by rw [hV.out]; rfl, HB1.out⟩
  · have hO : ruOr s o b l = ruTo s o b l s.size := by unfold ruOr; rw [if_pos hc]
    have hV : Hid (bwV s o b l = .tuple #[.bool (b || decide ((ruTo s o b l s.size).length = 0)), .bool true]) := Lib.hid (by unfold bwV; rw [if_pos hc])
    rw [hc, hO] at HM
    clear hO
    generalize ruTo s o b l s.size = ms at HM hV
    unfold MvAns at HM
    clear hc
    cases b with
    | true =>
      go_enter Try.func44, Try.ntmps44
      go_wp2_with fail
      refine (HM.out _).mono ?_
      rintro e w1 ⟨v, rfl, ho, hb1⟩
      obtain ⟨A1, c1, rfl, _⟩ := at_of_own ho
      have HX1 := Lib.hid ((RuBx.new w o true l 27).below hb1)
      have HB1 := Lib.hid (((Below.refl w.heap.size w).alloc (Nat.le_refl _) (ruO o true l)).trans (hb1.mono (by simp)))
      clear ho hb1
      obtain ⟨_, x0, x1, x2⟩ := HX1.out
      go_wp2
      go_ret2
      exact ⟨by rw [hV.out]; rfl, HB1.out⟩
    | false =>
      by_cases hm : ms.length = 0
      · have hm2 : ((ms.length : Nat) : Int) = 0 := by omega
        rw [decide_eq_true hm] at hV
        go_enter Try.func44, Try.ntmps44
        go_wp2_with fail
        refine (HM.out _).mono ?_
        rintro e w1 ⟨v, rfl, ho, hb1⟩
        obtain ⟨A1, c1, rfl, _⟩ := at_of_own ho
        have HX1 := Lib.hid ((RuBx.new w o false l 27).below hb1)
        have HB1 := Lib.hid (((Below.refl w.heap.size w).alloc (Nat.le_refl _) (ruO o false l)).trans (hb1.mono (by simp)))
        clear ho hb1
        obtain ⟨_, x0, x1, x2⟩ := HX1.out
        go_wp2
        go_ret2
        exact ⟨by rw [hV.out]; rfl, HB1.out⟩
      · have hm2 : ¬ ((ms.length : Nat) : Int) = 0 := by omega
        have hm3 : (((ms.length : Nat) : Int) == 0) = false := by simpa using hm
        rw [decide_eq_false hm] at hV
        go_enter Try.func44, Try.ntmps44
        go_wp2_with fail
        refine (HM.out _).mono ?_
        rintro e w1 ⟨v, rfl, ho, hb1⟩
        obtain ⟨A1, c1, rfl, _⟩ := at_of_own ho
        have HX1 := Lib.hid ((RuBx.new w o false l 27).below hb1)
        have HB1 := Lib.hid (((Below.refl w.heap.size w).alloc (Nat.le_refl _) (ruO o false l)).trans (hb1.mono (by simp)))
        clear ho hb1
        obtain ⟨_, x0, x1, x2⟩ := HX1.out
        go_wp2
        go_ret2
        exact ⟨by rw [hV.out]; rfl, HB1.out⟩
/-- What the search backwards leaves. -/
def RkPost (o b l : Bool) (wl : List UInt8) (w : World) (e : Ending) (w' : World) : Prop :=
  ∃ va vb, e = .returned (.agg #[va, vb]) ∧ w'.ownsRow w.heap.size 9 1 va (bfsL (nxB o b l) wl).length (txs (keysF (bfsL (nxB o b l) wl))) ∧
    w'.ownsRow w.heap.size 3 1 vb (bfsL (nxB o b l) wl).length (nus (depF (bfsL (nxB o b l) wl))) ∧ Below w.heap.size w w'
def BackAny : Prop := ∀ (n : Nat) (o b l : Bool) (wl : List UInt8) (w : World), goodT n wl → Calls Try.prog 69 #[.string (str wl), ruV o b l] w (RkPost o b l wl w)
set_option maxHeartbeats 1000000 in
theorem sBoth_no (s : ByteArray) (o b l : Bool) (w : World) (hs : s.size ≤ maxLen) (hr : rchB s = false) :
    Calls Try.prog 43 #[.string s, ruV o b l] w fun e w' => e = .returned (bwV s o b l) ∧ Below w.heap.size w w' := by
  have hV : Hid (bwV s o b l = .tuple #[.bool false, .bool false]) := Lib.hid (by unfold bwV; rw [hr]; rfl)
  have hC := Lib.hid hr
  clear hr
  go_enter Try.func43, Try.ntmps43
  go_wp2_with fail
  refine (sRch_any _ _ hs).mono ?_; rintro e w' ⟨rfl, rfl⟩; rw [hC.out]
  go_wp2
  go_ret2
  exact ⟨by rw [hV.out]; rfl, (Below.refl _ _).alloc (Nat.le_refl _) _⟩
set_option maxRecDepth 100000 in
set_option maxHeartbeats 4000000 in
theorem sBoth_yes (HBK : BackAny) (o b l : Bool) (wl : List UInt8) (w : World) (hr : rchB (str wl) = true) :
    Calls Try.prog 43 #[.string (str wl), ruV o b l] w fun e w' => e = .returned (bwV (str wl) o b l) ∧ Below w.heap.size w w' := by
  have hg := rch_T hr
  have hV : Hid (bwV (str wl) o b l = .tuple #[.bool (bothL o b l wl), .bool true]) := Lib.hid (by unfold bwV; rw [if_pos hr, both_is o b l hg])
  have HFR := Lib.hid (found_L o b l hg)
  have HFB := Lib.hid (found_B o b l hg)
  have hlR : (bfsL (nxR o b l) wl).length ≤ 59049 := found_few HFR.out
  have hlB : (bfsL (nxB o b l) wl).length ≤ 59049 := found_few HFB.out
  have hs : (str wl).size ≤ maxLen := by have := hg.2; rw [str_size]; unfold maxLen; omega
  have hneR := bfsL_ne (nxR o b l) wl
  have hneB := bfsL_ne (nxB o b l) wl
  have HPR := Lib.hid (fun wx => ruReach_any _ o b l wl wx hg)
  have HPB := Lib.hid (fun wx => HBK _ o b l wl wx hg)
  have hC := Lib.hid hr
  unfold RrPost at HPR
  unfold RkPost at HPB
  unfold bothL at hV
  clear hr hg HBK
  generalize bfsL (nxR o b l) wl = L at HFR hlR hneR HPR hV
  generalize bfsL (nxB o b l) wl = K at HFB hlB hneB HPB hV
  have HP : Hid (0 < L.length) := Lib.hid (List.length_pos_iff.2 hneR)
  have HPK : Hid (0 < K.length) := Lib.hid (List.length_pos_iff.2 hneB)
  clear hneR hneB
  go_enter Try.func43, Try.ntmps43
  go_wp2_with fail
  refine (sRch_any _ _ hs).mono ?_; rintro e w' ⟨rfl, rfl⟩; rw [hC.out]
  go_wp2_with fail
  refine (HPB.out _).mono ?_
  rintro e w1 ⟨va, vb, rfl, hla, hlb, hb1⟩
  obtain ⟨ga, ca, rfl, ga1, ga2⟩ := hla.form HPK.out
  obtain ⟨gb, cb, rfl, gb1, gb2⟩ := hlb.form HPK.out
  obtain ⟨W2, hW2⟩ : ∃ W2, W2 = w1.alloc (Obj.cells #[.slice (some ⟨ga, 0, none⟩) K.length ca, .slice (some ⟨gb, 0, none⟩) K.length cb] rrT) := ⟨_, rfl⟩
  have HX1 := Lib.hid ((RuBx.new w o b l 27).below hb1)
  have HB1 := Lib.hid (((Below.refl w.heap.size w).alloc (Nat.le_refl _) (ruO o b l)).trans (hb1.mono (by simp)))
  have h12 : Below w1.heap.size w1 W2 := by rw [hW2]; exact (Below.refl _ _).alloc (Nat.le_refl _) _
  have HX2 := Lib.hid (HX1.out.below h12)
  have HB2 := Lib.hid (HB1.out.trans (h12.mono HB1.out.size))
  have HLA := Lib.hid (own_below hla h12)
  have HLB := Lib.hid (own_below hlb h12)
  have k0 : W2.cell? ⟨w1.heap.size, 0, none⟩ = some (.slice (some ⟨ga, 0, none⟩) K.length ca) := by rw [hW2, World.cell?_alloc_new]; rfl
  have k1 : W2.cell? ⟨w1.heap.size, 1, none⟩ = some (.slice (some ⟨gb, 0, none⟩) K.length cb) := by rw [hW2, World.cell?_alloc_new]; rfl
  have HK0 := Lib.hid k0
  have HK1 := Lib.hid k1
  have hz12 : w1.heap.size < W2.heap.size := by rw [hW2]; simp
  have hga2 : ga < W2.heap.size := by omega
  have hgb2 : gb < W2.heap.size := by omega
  obtain ⟨B0, hB0⟩ : ∃ B0, B0 = w1.heap.size := ⟨_, rfl⟩
  rw [← hB0] at HK0 HK1 hz12
  clear hla hlb hb1 h12 k0 k1 HX1 HB1
  obtain ⟨_, x0, x1, x2⟩ := HX2.out
  rw [hW2] at x0 x1 x2
  go_wp2_with fail
  rw [← hW2, ← hB0]
  clear hW2 hB0
  refine (HPR.out _).mono ?_
  rintro e w3 ⟨va, vb, rfl, hla, hlb, hb3⟩
  obtain ⟨ra, rca, rfl, ra1, ra2⟩ := hla.form HP.out
  obtain ⟨rb, rcb, rfl, rb1, rb2⟩ := hlb.form HP.out
  have HLA3 := Lib.hid (own_below HLA.out hb3)
  have HLB3 := Lib.hid (own_below HLB.out hb3)
  have k0 := (hb3.cell (p := ⟨B0, 0, none⟩) hz12).trans HK0.out
  have k1 := (hb3.cell (p := ⟨B0, 1, none⟩) hz12).trans HK1.out
  have HC0 := Lib.hid k0
  have HC1 := Lib.hid k1
  have hz3 := hb3.size
  have hB03 : B0 < w3.heap.size := by omega
  have HB3 := Lib.hid (HB2.out.trans (hb3.mono HB2.out.size))
  have HRA := Lib.hid hla
  have hif : ∀ wx, (Instr.field rrT (.agg #[.slice (some ⟨ra, 0, none⟩) L.length rca, .slice (some ⟨rb, 0, none⟩) L.length rcb]) 0).run Try.prog wx = .ok (.slice (some ⟨ra, 0, none⟩) L.length rca) wx := fun wx => by kernel_rfl
  clear hla hlb hb3 k0 k1 x0 x1 x2
  go_wp2
  go_loopw [20] (fun i wr => ∃ k : Nat, k ≤ L.length ∧ i = .int .i64 k ∧ Below w3.heap.size w3 wr ∧ Hid (∀ j (h : j < L.length), j < k → L[j].1 ∈ keysF K)) (fun i _ => L.length - (intOf i).toNat)
  case atStart => exact ⟨0, Nat.zero_le _, rfl, Below.refl _ _, Lib.hid fun j _ h => absurd h (by omega)⟩
  case round =>
    obtain ⟨k, hk, rfl, hB, hyes⟩ := hrel
    by_cases hlt : k < L.length
    · have hat : L[k]? = some L[k] := List.getElem?_eq_getElem hlt
      have hca := (hB.cell (p := ⟨ra, k, none⟩) ra2).trans (rrCell HRA.out hat)
      have c0 := (hB.cell (p := ⟨B0, 0, none⟩) hB03).trans HC0.out
      have c1 := (hB.cell (p := ⟨B0, 1, none⟩) hB03).trans HC1.out
      have hzr := hB.size
      have HLL := Lib.hid (fun x => ruLeft_any K x wr _ ga ca gb cb (own_below HLA3.out hB) (own_below HLB3.out hB) (by omega) (by omega) hlB HFB.out.nodup)
      have HMX : Hid (L[k].1 ∈ keysF L) := Lib.hid (List.mem_map_of_mem (List.getElem_mem hlt))
      have HNX : Hid (L[k].1 ∈ keysF K → ∀ j (h : j < L.length), j < k + 1 → L[j].1 ∈ keysF K) := Lib.hid fun h0 j h hj => by
        by_cases e : j = k
        · subst e; exact h0
        · exact hyes.out j h (by omega)
      have i1 : (0 : Int) ≤ (k : Int) := by omega
      have i2 : (k : Int) < (L.length : Int) := by omega
      clear hat
      obtain ⟨x, hx⟩ : ∃ x, x = L[k].1 := ⟨_, rfl⟩
      rw [← hx] at hca HMX HNX
      clear hx
      rcases stF_cases K HFB.out.nodup x with ⟨d, _, hin, hst⟩ | ⟨hno, hst⟩
      · have HLx := Lib.hid (HLL.out x)
        rw [hst, show stI (some d) = (d : Int) from rfl] at HLx
        have hd0 : ¬ ((d : Int) < 0) := by omega
        have HN2 := Lib.hid (HNX.out hin)
        clear hst
        go_wp2_with fail
        refine HLx.out.mono ?_
        rintro e w4 ⟨rfl, hb4⟩
        have HB4 := Lib.hid (hB.trans (hb4.mono hB.size))
        clear hb4 hB hca c0 c1
        go_wp2
        go_roundw
        case rel => exact ⟨k + 1, by omega, by go_num, HB4.out, HN2⟩
        case measure => simp [intOf]; omega
      · have HLx := Lib.hid (HLL.out x)
        rw [hst, show stI none = -1 from rfl] at HLx
        have HE : Hid (((keysF L).all fun x => decide (x ∈ keysF K)) = false) := Lib.hid (List.all_eq_false.2 ⟨x, HMX.out, by simpa using hno⟩)
        clear hst
        go_wp2_with fail
        refine HLx.out.mono ?_
        rintro e w4 ⟨rfl, hb4⟩
        have HB4 := Lib.hid (hB.trans (hb4.mono hB.size))
        clear hb4 hB hca c0 c1
        go_wp2
        go_ret2
        exact ⟨by rw [hV.out, HE.out]; rfl, HB3.out.trans (HB4.out.mono HB3.out.size)⟩
    · obtain rfl : k = L.length := by omega
      have HE : Hid (((keysF L).all fun x => decide (x ∈ keysF K)) = true) := Lib.hid (List.all_eq_true.2 fun x hx => by
        obtain ⟨p, hp, rfl⟩ := List.mem_map.1 hx
        obtain ⟨j, hj, e⟩ := List.getElem_of_mem hp
        rw [decide_eq_true_iff, ← e]
        exact hyes.out j hj hj)
      go_wp2
      go_ret2
      exact ⟨by rw [hV.out, HE.out]; rfl, HB3.out.trans (hB.mono HB3.out.size)⟩
theorem sBothWays_any (HBK : BackAny) (s : ByteArray) (o b l : Bool) (w : World) (hs : s.size ≤ maxLen) :
    Calls Try.prog 43 #[.string s, ruV o b l] w fun e w' => e = .returned (bwV s o b l) ∧ Below w.heap.size w w' := by
  cases hr : rchB s
  · exact sBoth_no s o b l w hs hr
  · rw [← str_byt s] at hr ⊢
    exact sBoth_yes HBK o b l (byt s) w hr
set_option maxRecDepth 100000 in
set_option maxHeartbeats 4000000 in
theorem walkBoth_of (HBK : BackAny) (s : ByteArray) (hs : s.size ≤ maxLen) (o b l : Bool) (w : World) :
    Calls Try.prog 13 #[.string s, ruV o b l] w fun e w' => e = .returned (.bool true) ∧ Below w.heap.size w w' := by
  by_cases hbig0 : (1048576 : Int) < (s.size : Int)
  · go_enter Try.func13, Try.ntmps13
    go_wp2
    go_ret
    exact ⟨rfl, (Below.refl _ _).alloc (Nat.le_refl _) _⟩
  · skip
    have HS := Lib.hid (fun wx => sBothWays_any HBK s o b l wx hs)
    have HM := Lib.hid (fun wx => bothWays_any s o b l wx hs)
    obtain ⟨x, y, hxy⟩ := bwV_open s o b l
    clear HBK
    rw [hxy] at HS HM
    clear hxy
    go_enter Try.func13, Try.ntmps13
    go_wp2_with fail
    refine (toRule_any o b l _).mono ?_
    rintro e w0 ⟨rfl, hb0⟩
    have HB0 := Lib.hid (((Below.refl w.heap.size w).alloc (Nat.le_refl _) (Obj.cells #[.bool o, .bool b, .bool l] 23)).trans (hb0.mono (by simp)))
    have HX0 := Lib.hid ((RuBx.new w o b l 23).below hb0)
    clear hb0
    go_wp2_with fail
    refine (HS.out _).mono ?_
    rintro e w1 ⟨rfl, hb1⟩
    have HX1 := Lib.hid (HX0.out.below hb1)
    have HB1 := Lib.hid (HB0.out.trans (hb1.mono HB0.out.size))
    clear hb1 HX0 HB0
    obtain ⟨_, x0, x1, x2⟩ := HX1.out
    go_wp2_with fail
    refine (toRule_any o b l _).mono ?_
    rintro e w2 ⟨rfl, hb2⟩
    clear x0 x1 x2
    have HB2 := Lib.hid (HB1.out.trans (hb2.mono HB1.out.size))
    clear hb2
    go_wp2_with fail
    refine (HM.out _).mono ?_
    rintro e w3 ⟨rfl, hb3⟩
    have HB3 := Lib.hid (HB2.out.trans (hb3.mono HB2.out.size))
    clear hb3
    go_wp2
    go_ret
    exact ⟨rfl, HB3.out⟩
end Go.Proofs.Ytcndlfoodbmgbaa
