/- ColumnOfBoard: the model's contract, the law's walk. -/
import Derived.Test.YtmlffocbcfediaaDoorBdU
namespace Go.Proofs.YtmlffocbcfediaaDoor
open Go.RowKit

set_option maxRecDepth 100000 in
set_option maxHeartbeats 1000000 in
theorem sColumn_any (s : ByteArray) (k : Int) (w : World) (hs : s.size ≤ maxLen) :
    Calls Tryd.prog 30 #[.string s, .int .i64 k] w fun e w' => e = .returned (strOr (colAsk (byt s) k) (colAt (byt s) k)) ∧ Below w.heap.size w w' := by
  cases hc : goodB (byt s)
  · have HR := Lib.hid (fun wx => boRows_no s wx hs hc)
    have e : colAsk (byt s) k = false := by unfold colAsk; rw [hc]; rfl
    rw [e, strOr_no _ _ rfl]
    clear hc e
    go_enter Tryd.func30, Tryd.ntmps30
    go_wp2_with fail
    refine (HR.out _).mono ?_
    rintro e w1 ⟨rfl, hb1⟩
    go_wp2
    go_ret2
    exact ⟨rfl, hb1⟩
  · have HR := Lib.hid (fun wx => boRows_yes s wx hs hc)
    obtain ⟨g1, g2, g3, g4, g5⟩ := good_size hc
    obtain ⟨_, hrow⟩ := (boOk_iff _).1 hc
    have HX := Lib.hid (fun A cap wx h => boCross_any (spl (byt s)) ((spl (byt s)).headD []).length A cap wx h g3 g4 g2 (fun r hr => (hrow r hr).2.2) (fun r hr => (hrow r hr).1))
    have hask : colAsk (byt s) k = (decide (0 ≤ k) && decide (k < ((spl (byt s)).headD []).length)) := by unfold colAsk; rw [hc]; rfl
    have HS0 : Hid ((str ((spl (byt s))[0]'(spl_pos _))).size = ((spl (byt s)).headD []).length) := Lib.hid (by rw [str_size, spl_head])
    have HKL := Lib.hid (colsR_len (spl (byt s)) ((spl (byt s)).headD []).length)
    unfold colAt
    rw [hask]
    have hpos := spl_pos (byt s)
    clear hc hrow g5 hask
    suffices main : ∀ (wd : Nat) (R O : List (List UInt8)) (hpos : 0 < R.length), O.length = wd → (str (R[0]'hpos)).size = wd → wd ≤ 5 → (∀ wx, Calls Tryd.prog 40 #[.string s] wx fun e w' => ∃ A cap, e = .returned (.tuple #[.slice A R.length cap, .bool true]) ∧ R.length ≤ cap ∧ StAt w' A R ∧ Below wx.heap.size wx w') →
        (∀ A cap wx, StAt wx A R → Calls Tryd.prog 59 #[.slice A R.length cap] wx (BtPost wx O)) → Calls Tryd.prog 30 #[.string s, .int .i64 k] w fun e w' => e = .returned (strOr (decide (0 ≤ k) && decide (k < wd)) (O.getD k.toNat [])) ∧ Below w.heap.size w w' from
      main _ _ _ hpos HKL.out HS0.out g2 HR.out HX.out
    clear HR HX HS0 HKL g1 g2 g3 g4 hpos
    intro wd R O hpos hO hS hw5 hR hX
    have HR := Lib.hid hR
    have HX := Lib.hid hX
    have HSZ := Lib.hid hS
    have HOL := Lib.hid hO
    clear hR hX hO
    have HIN := Lib.hid (fun wx => l1In_any k 0 ((wd : Int) - 1) wx)
    have i3 : (0 : Int) < (R.length : Int) := by omega
    by_cases h0 : 0 ≤ k
    · by_cases h1 : k < wd
      · have e : (decide (0 ≤ k) && decide (k < wd)) = true := by simp [h0, h1]
        rw [e, strOr_yes _ _ rfl]
        have hin : inR k 0 ((wd : Int) - 1) = true := by unfold inR; simp; omega
        rw [hin] at HIN
        obtain ⟨q, rfl⟩ := Int.eq_ofNat_of_zero_le h0
        have hq : q < O.length := by rw [HOL.out]; omega
        have hgd : O.getD (q : Int).toNat [] = O[q] := by
          show O.getD q [] = _
          rw [List.getD_eq_getElem?_getD, List.getElem?_eq_getElem hq]; rfl
        rw [hgd]
        obtain ⟨x, hx⟩ : ∃ x, x = str O[q] := ⟨_, rfl⟩
        rw [← hx]
        have HXX := Lib.hid hx

        clear hgd e hin hx hS
        go_enter Tryd.func30, Tryd.ntmps30
        go_wp2_with fail
        refine (HR.out _).mono ?_
        rintro e w1 ⟨A, cap, rfl, hle, AT, hb1⟩
        obtain ⟨g, rfl, hg, hcell⟩ := AT 0 hpos
        have hs := HSZ.out
        have HX2 := Lib.hid (HX.out (some ⟨g, 0, none⟩) cap w1 AT)
        generalize str (R[0]'hpos) = s0 at hcell hs
        subst hs
        clear AT HX HSZ
        go_wp2_with fail
        refine (HIN.out _).mono ?_
        rintro e w' ⟨rfl, rfl⟩
        go_wp2_with fail
        refine HX2.out.mono ?_
        rintro e w2 ⟨v, rfl, ho, hb2⟩
        obtain ⟨A2, cap2, rfl, hle2, hmx, AT2, _⟩ := st_own ho
        obtain ⟨g2, rfl, hg2, hcell2⟩ := AT2 q hq
        rw [← HXX.out] at hcell2
        have i4 : (q : Int) < (O.length : Int) := by omega
        clear AT2 ho
        go_wp2
        go_ret2
        exact ⟨rfl, hb1.trans (hb2.mono hb1.size)⟩
      · have e : (decide (0 ≤ k) && decide (k < wd)) = false := by simp [h1]
        rw [e, strOr_no _ _ rfl]
        have hin : inR k 0 ((wd : Int) - 1) = false := by unfold inR; simp; omega
        rw [hin] at HIN
        clear e hin hS
        go_enter Tryd.func30, Tryd.ntmps30
        go_wp2_with fail
        refine (HR.out _).mono ?_
        rintro e w1 ⟨A, cap, rfl, hle, AT, hb1⟩
        obtain ⟨g, rfl, hg, hcell⟩ := AT 0 hpos
        have hs := HSZ.out
        generalize str (R[0]'hpos) = s0 at hcell hs
        subst hs
        clear AT HX HSZ
        go_wp2_with fail
        refine (HIN.out _).mono ?_
        rintro e w' ⟨rfl, rfl⟩
        go_wp2
        go_ret2
        exact ⟨rfl, hb1⟩
    · have e : (decide (0 ≤ k) && decide (k < wd)) = false := by simp [h0]
      rw [e, strOr_no _ _ rfl]
      have hin : inR k 0 ((wd : Int) - 1) = false := by unfold inR; simp; omega
      rw [hin] at HIN
      clear e hin hS
      go_enter Tryd.func30, Tryd.ntmps30
      go_wp2_with fail
      refine (HR.out _).mono ?_
      rintro e w1 ⟨A, cap, rfl, hle, AT, hb1⟩
      obtain ⟨g, rfl, hg, hcell⟩ := AT 0 hpos
      have hs := HSZ.out
      generalize str (R[0]'hpos) = s0 at hcell hs
      subst hs
      clear AT HX HSZ
      go_wp2_with fail
      refine (HIN.out _).mono ?_
      rintro e w' ⟨rfl, rfl⟩
      go_wp2
      go_ret2
      exact ⟨rfl, hb1⟩
set_option maxRecDepth 100000 in
set_option maxHeartbeats 2000000 in
theorem walk_FnExactColumnOfBoard (s : ByteArray) (hs : s.size ≤ maxLen) (k : Int) (_ : (Lit.int .i64 k).wf = true) (w : World) :
    Calls Tryd.prog 9 #[.string s, .int .i64 k] w fun e w' => e = .returned (.bool true) ∧ Below w.heap.size w w' := by
  by_cases hbig0 : (1048576 : Int) < (s.size : Int)
  · go_enter Tryd.func9, Tryd.ntmps9
    go_wp2
    go_ret
    exact ⟨rfl, Below.refl _ _⟩
  · skip
    have HS := Lib.hid (fun wx => sColumn_any s k wx hs)
    have HM := Lib.hid (fun wx => column_any s k wx (by omega))
    obtain ⟨x, y, hxy⟩ : ∃ x y, strOr (colAsk (byt s) k) (colAt (byt s) k) = .tuple #[.string x, .bool y] := by cases colAsk (byt s) k <;> exact ⟨_, _, rfl⟩
    rw [hxy] at HS HM
    clear hxy
    go_enter Tryd.func9, Tryd.ntmps9
    go_wp2_with fail
    refine (HS.out _).mono ?_
    rintro e w1 ⟨rfl, hb1⟩
    go_wp2_with fail
    refine (HM.out _).mono ?_
    rintro e w2 ⟨rfl, hb2⟩
    go_wp2
    go_ret
    exact ⟨rfl, hb1.trans (hb2.mono hb1.size)⟩
end Go.Proofs.YtmlffocbcfediaaDoor
