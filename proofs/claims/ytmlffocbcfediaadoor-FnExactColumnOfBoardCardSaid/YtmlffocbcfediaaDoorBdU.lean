/- CrossBoard, ColumnOfBoard: both sides' contracts, the laws' walks. -/
import Derived.Test.YtmlffocbcfediaaDoorBdV
namespace Go.Proofs.YtmlffocbcfediaaDoor
open Go.RowKit

set_option maxRecDepth 100000 in
set_option maxHeartbeats 1000000 in
theorem sCross_any (s : ByteArray) (w : World) (hs : s.size ≤ maxLen) :
    Calls Tryd.prog 32 #[.string s] w fun e w' => e = .returned (strOr (goodB (byt s)) (crossL (byt s))) ∧ Below w.heap.size w w' := by
  cases hc : goodB (byt s)
  · have HR := Lib.hid (fun wx => boRows_no s wx hs hc)
    rw [strOr_no _ _ rfl]
    clear hc
    go_enter Tryd.func32, Tryd.ntmps32
    go_wp2_with fail
    refine (HR.out _).mono ?_
    rintro e w1 ⟨rfl, hb1⟩
    go_wp2
    go_ret2
    exact ⟨rfl, hb1⟩
  · have HR := Lib.hid (fun wx => boRows_yes s wx hs hc)
    obtain ⟨g1, g2, g3, g4, g5⟩ := good_size hc
    obtain ⟨_, hrow⟩ := (boOk_iff _).1 hc
    have HX := Lib.hid (fun A cap wx h => boCross_any (spl (byt s)) ((spl (byt s)).headD []).length A cap wx h g3 g4 g2 (fun r hr => (hrow r hr).2.2) (fun r hr => (hrow r hr).1))
    have hl5 : (colsR (spl (byt s)) ((spl (byt s)).headD []).length).length ≤ 10 := by rw [colsR_len]; omega
    have HT := Lib.hid (fun A cap wx h => boText_any (colsR (spl (byt s)) ((spl (byt s)).headD []).length) A cap wx h hl5 (fun r hr => by rw [colsR_row r hr]; omega))
    rw [strOr_yes _ _ rfl]
    unfold crossL
    clear hc hrow g1 g2 g5 hl5
    generalize colsR (spl (byt s)) ((spl (byt s)).headD []).length = O at HX HT ⊢
    generalize spl (byt s) = R at HR HX g3 g4 ⊢
    go_enter Tryd.func32, Tryd.ntmps32
    go_wp2_with fail
    refine (HR.out _).mono ?_
    rintro e w1 ⟨A, cap, rfl, hle, AT, hb1⟩
    have HX2 := Lib.hid (HX.out A cap w1 AT)
    clear HX AT
    go_wp2_with fail
    refine HX2.out.mono ?_
    rintro e w2 ⟨v, rfl, ho, hb2⟩
    obtain ⟨A2, cap2, rfl, hle2, hmx, AT2, _⟩ := st_own ho
    have HT2 := Lib.hid (HT.out A2 cap2 w2 AT2)
    clear HT AT2 ho
    go_wp2_with fail
    refine HT2.out.mono ?_
    rintro e w3 ⟨rfl, rfl⟩
    go_wp2
    go_ret2
    exact ⟨rfl, hb1.trans (hb2.mono hb1.size)⟩

theorem ColO.pts {w : World} {gC wd hi : Nat} {R : List (List UInt8)} {F : List UInt8} (h : ColO w gC wd hi wd (colC F wd hi)) (hF : F = R.flatten) (hh : hi = R.length) : PtAt w gC (colsR R wd) := by
  intro k hk
  rw [colsR_len] at hk
  obtain ⟨g, c, e1, h1, h2, h3, h4⟩ := h.done k hk
  subst hF
  subst hh
  have hkk : k < (colsR R wd).length := by rw [colsR_len]; exact hk
  refine ⟨g, 0, c, ?_, h3, fun j hj => ?_⟩
  · rw [colsR_at R wd k hkk, colC_len]
    exact e1
  · rw [Nat.zero_add]
    have e : (colsR R wd)[k]? = some (colC R.flatten wd R.length k) := by rw [List.getElem?_eq_getElem hkk, colsR_at R wd k hkk]
    have hj2 : j < (colC R.flatten wd R.length k).length := by
      have := hj
      rw [colsR_at R wd k hkk] at this
      exact this
    rw [h4 j hj2]
    congr 3
    have := colsR_at R wd k hkk
    simp only [this]

set_option maxRecDepth 100000 in
set_option maxHeartbeats 1000000 in
theorem cross_any (s : ByteArray) (w : World) (hs : s.size ≤ 2000000) :
    Calls Tryd.prog 33 #[.string s] w fun e w' => e = .returned (strOr (goodB (byt s)) (crossL (byt s))) ∧ Below w.heap.size w w' := by
  cases hc : goodB (byt s)
  · have HR := Lib.hid (fun wx => boardOf_no s wx hs hc)
    rw [strOr_no _ _ rfl]
    clear hc
    go_enter Tryd.func33, Tryd.ntmps33
    go_wp2_with fail
    refine (HR.out _).mono ?_
    rintro e w1 ⟨rfl, hb1⟩
    go_wp2
    go_ret2
    exact ⟨rfl, hb1.alloc hb1.size _⟩
  · have HR := Lib.hid (fun wx => boardOf_yes s wx hs hc)
    obtain ⟨g1, g2, g3, g4, g5⟩ := good_size hc
    have HT := Lib.hid (fun gC c wx h1 h2 h3 => textOfRows_any (colsR (spl (byt s)) ((spl (byt s)).headD []).length) gC c wx (by rw [colsR_len]; exact g1) (by rw [colsR_len]; exact g2) (fun r hr => by rw [colsR_row r hr]; exact ⟨g3, g4⟩) h1 h2 h3)
    rw [strOr_yes _ _ rfl]
    unfold crossL
    have HPT := Lib.hid (fun (wx : World) gC (h : ColO wx gC ((spl (byt s)).headD []).length (spl (byt s)).length ((spl (byt s)).headD []).length (colC (spl (byt s)).flatten ((spl (byt s)).headD []).length (spl (byt s)).length)) => h.pts rfl rfl)
    have hlen := colsR_len (spl (byt s)) ((spl (byt s)).headD []).length
    clear hc
    generalize colsR (spl (byt s)) ((spl (byt s)).headD []).length = O at HT HPT hlen ⊢
    generalize ((spl (byt s)).headD []).length = wd at HR g1 g2 g5 HPT hlen
    generalize (spl (byt s)).flatten = F at HR g5 HPT
    generalize (spl (byt s)).length = hi at g3 g4 g5 HPT
    rw [hlen] at HT
    clear hlen
    have HRO := Lib.hid (fun g cap hcap wx => rowsB_any F.length g wd hi cap g5 g1 (by omega) g3 (by omega) hcap wx)
    have HCO := Lib.hid (fun g g' c' wx h1 h2 h3 h4 => columns_any wd hi g g' c' F wx g1 g2 g3 g4 g5 h1 h2 h3 h4)
    generalize colC F wd hi = C at HPT HCO
    clear g5
    go_enter Tryd.func33, Tryd.ntmps33
    go_wp2_with fail
    refine (HR.out _).mono ?_
    rintro e w1 ⟨g, cap, rfl, b1, b2, b3, b4, hb1⟩
    have HB4 := Lib.hid b4
    clear b4
    have HRg := Lib.hid (fun wx => HRO.out g cap b3 wx)
    generalize hfl : F.length = fl at HRg b3 ⊢
    clear HRO hfl
    go_wp2_with fail
    obtain ⟨W2, hW2⟩ : ∃ W2, W2 = w1.alloc (Obj.cells #[.int .i64 wd, .slice (some ⟨g, 0, none⟩) fl cap] 51) := ⟨_, rfl⟩
    rw [← hW2]
    have HB2 := Lib.hid (hb1.alloc hb1.size (Obj.cells #[.int .i64 wd, .slice (some ⟨g, 0, none⟩) fl cap] 51))
    rw [← hW2] at HB2
    have HBS2 : Hid (BsAt W2 g F) := Lib.hid (by rw [hW2]; exact HB4.out.below b2 ((Below.refl _ _).alloc (Nat.le_refl _) _))
    have hg2 : g < W2.heap.size := by rw [hW2]; simp; omega
    clear hW2 HB4 hb1
    refine (HRg.out _).mono ?_
    rintro e w3 ⟨g', c', rfl, r1, r2, r3, r4, hb3⟩
    have HBS3 := Lib.hid (HBS2.out.below hg2 hb3)
    have hg3 : g < w3.heap.size := Nat.lt_of_lt_of_le hg2 hb3.size
    have HB3 := Lib.hid (HB2.out.trans (hb3.mono HB2.out.size))
    have HC2 := Lib.hid (HCO.out g g' c' w3 hg3 r2 HBS3.out r4)
    clear r4 hb3 HBS2 HCO
    go_wp2_with fail
    refine HC2.out.mono ?_
    rintro e w4 ⟨gC, cC, rfl, k1, k2, k3, hb4⟩
    have HB5 := Lib.hid (HB3.out.trans (hb4.mono HB3.out.size))
    have HT2 := Lib.hid (HT.out gC cC w4 k2 k3.lt (HPT.out w4 gC k3))
    clear k3 hb4 HT HPT
    go_wp2_with fail
    refine HT2.out.mono ?_
    rintro e w5 ⟨rfl, hb5⟩
    go_wp2
    go_ret2
    exact ⟨rfl, HB5.out.trans (hb5.mono HB5.out.size)⟩

/-- A column of a board, if it is there. -/
def colAsk (l : List UInt8) (k : Int) : Bool := goodB l && decide (0 ≤ k) && decide (k < ((spl l).headD []).length)
def colAt (l : List UInt8) (k : Int) : List UInt8 := (colsR (spl l) ((spl l).headD []).length).getD k.toNat []

set_option maxRecDepth 100000 in
set_option maxHeartbeats 1000000 in
theorem column_any (s : ByteArray) (k : Int) (w : World) (hs : s.size ≤ 2000000) :
    Calls Tryd.prog 31 #[.string s, .int .i64 k] w fun e w' => e = .returned (strOr (colAsk (byt s) k) (colAt (byt s) k)) ∧ Below w.heap.size w w' := by
  have HC := Lib.hid (fun wx => cross_any s wx hs)
  cases hc : goodB (byt s)
  · rw [hc, strOr_no _ _ rfl] at HC
    have e : colAsk (byt s) k = false := by unfold colAsk; rw [hc]; rfl
    have HR := Lib.hid (fun wx => row_any (str []) k wx (by decide))
    have e2 : rowAsk (byt (str [])) k = false := by
      unfold rowAsk
      rw [byt_str, show goodB [] = false from by decide]
      rfl
    rw [e2, strOr_no _ _ rfl] at HR
    rw [e, strOr_no _ _ rfl]
    clear hc e e2
    go_enter Tryd.func31, Tryd.ntmps31
    go_wp2_with fail
    refine (HC.out _).mono ?_
    rintro e w1 ⟨rfl, hb1⟩
    go_wp2_with fail
    refine (HR.out _).mono ?_
    rintro e w2 ⟨rfl, hb2⟩
    go_wp2
    go_ret2
    exact ⟨rfl, hb1.trans (hb2.mono hb1.size)⟩
  · rw [hc, strOr_yes _ _ rfl] at HC
    have hcg := cross_good hc
    have h30 := goodB_len hcg
    have HR := Lib.hid (fun wx => row_any (str (crossL (byt s))) k wx (by rw [str_size]; omega))
    have hsp : spl (crossL (byt s)) = colsR (spl (byt s)) ((spl (byt s)).headD []).length := (cols_good hc).2
    have e1 : rowAsk (byt (str (crossL (byt s)))) k = colAsk (byt s) k := by
      unfold rowAsk colAsk
      rw [byt_str, hcg, hc, hsp, colsR_len]
    have e2 : rowAt (byt (str (crossL (byt s)))) k = colAt (byt s) k := by
      unfold rowAt colAt
      rw [byt_str, hsp]
    rw [e1, e2] at HR
    clear hc hcg h30 hsp e1 e2
    obtain ⟨x, y, hxy⟩ : ∃ x y, strOr (colAsk (byt s) k) (colAt (byt s) k) = .tuple #[.string x, .bool y] := by cases colAsk (byt s) k <;> exact ⟨_, _, rfl⟩
    rw [hxy] at HR ⊢
    clear hxy
    generalize crossL (byt s) = t at HC HR
    go_enter Tryd.func31, Tryd.ntmps31
    go_wp2_with fail
    refine (HC.out _).mono ?_
    rintro e w1 ⟨rfl, hb1⟩
    go_wp2_with fail
    refine (HR.out _).mono ?_
    rintro e w2 ⟨rfl, hb2⟩
    go_wp2
    go_ret2
    exact ⟨rfl, hb1.trans (hb2.mono hb1.size)⟩
set_option maxRecDepth 100000 in
set_option maxHeartbeats 2000000 in
theorem walk_FnExactCrossBoard (s : ByteArray) (hs : s.size ≤ maxLen) (w : World) :
    Calls Tryd.prog 10 #[.string s] w fun e w' => e = .returned (.bool true) ∧ Below w.heap.size w w' := by
  by_cases hbig0 : (1048576 : Int) < (s.size : Int)
  · go_enter Tryd.func10, Tryd.ntmps10
    go_wp2
    go_ret
    exact ⟨rfl, Below.refl _ _⟩
  · skip
    have HS := Lib.hid (fun wx => sCross_any s wx hs)
    have HM := Lib.hid (fun wx => cross_any s wx (by omega))
    obtain ⟨x, y, hxy⟩ : ∃ x y, strOr (goodB (byt s)) (crossL (byt s)) = .tuple #[.string x, .bool y] := by cases goodB (byt s) <;> exact ⟨_, _, rfl⟩
    rw [hxy] at HS HM
    clear hxy
    go_enter Tryd.func10, Tryd.ntmps10
    go_wp2_with fail
    refine (HS.out _).mono ?_
    rintro e w1 ⟨rfl, hb1⟩
    go_wp2_with fail
    refine (HM.out _).mono ?_
    rintro e w2 ⟨rfl, hb2⟩
    go_wp2
    go_ret
    exact ⟨rfl, hb1.trans (hb2.mono hb1.size)⟩
end Go.Proofs.YtmlffocbcfediaaDoor
