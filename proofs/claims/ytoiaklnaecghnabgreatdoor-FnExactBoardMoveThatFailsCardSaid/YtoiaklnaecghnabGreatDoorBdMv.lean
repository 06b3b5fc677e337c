/- Contract: the program's moves of a board. -/
import Derived.Test.YtoiaklnaecghnabGreatDoorBdU
import Derived.Test.YtoiaklnaecghnabGreatDoorBdCc
import Derived.Test.YtoiaklnaecghnabGreatDoorBdSo
import Derived.Deep.RegionHeld3
namespace Go.Proofs.YtoiaklnaecghnabGreatDoor
open Go.RowKit

/-- The numbers of a row's cells, of a column's. -/
def rowN (wd hi k : Nat) : List Int := (List.range wd).map fun x => (numL (hi * wd)).getD (k * wd + x) 0
def colN (wd hi k : Nat) : List Int := colCI (numL (hi * wd)) wd hi k
theorem rowN_len (wd hi k : Nat) : (rowN wd hi k).length = wd := by simp [rowN]
/-- What is gathered before it is put in order. -/
def gaL (R : List (List UInt8)) (wd hi : Nat) : List (Int × Int) := alP R (rowN wd hi) hi ++ alP (colsR R wd) (colN wd hi) wd
def bmL (R : List (List UInt8)) (wd hi : Nat) : List (Int × Int) := srtM (gaL R wd hi)
theorem gaL_le (R : List (List UInt8)) (wd hi : Nat) (h1 : wd ≤ 5) (h2 : hi ≤ 5) : (alP R (rowN wd hi) hi).length ≤ 60 ∧ (alP (colsR R wd) (colN wd hi) wd).length ≤ 60 := by
  have := alP_le R (rowN wd hi) hi
  have := alP_le (colsR R wd) (colN wd hi) wd
  omega
theorem rows_pts {w : World} {g g' wd hi : Nat} {R : List (List UInt8)} (hl : ∀ r ∈ R, r.length = wd) (hh : hi = R.length) (hb : BsAt w g R.flatten) (hg : g < w.heap.size) (hr : ∀ k, k < hi → w.cell? ⟨g', k, none⟩ = some (.slice (some ⟨g, k * wd, none⟩) wd wd)) : PtAt w g' R := by
  intro k hk
  refine ⟨g, k * wd, wd, ?_, hg, row_bytes hl hb k hk⟩
  rw [hr k (by omega), hl _ (List.getElem_mem hk)]
theorem own_slice {w : World} {base : Nat} {e : TypeId} {size n : Nat} {v : Value} {xs : List Value} (h : w.ownsRow base e size v n xs) : ∃ p a c, v = .slice p a c := by
  rcases h.2 with ⟨hv, h0⟩ | ⟨g1, cap1, cur, rfl, hb, hh, hn, hm, hs, ht⟩
  · exact ⟨_, _, _, hv⟩
  · exact ⟨_, _, _, rfl⟩
theorem own_lowerB {w : World} {b b' : Nat} {e : TypeId} {size n : Nat} {v : Value} {xs : List Value} (h : w.ownsRow b e size v n xs) (hle : b' ≤ b) : w.ownsRow b' e size v n xs := by
  refine ⟨h.1, ?_⟩
  rcases h.2 with h2 | ⟨g, cap, cur, e1, hb, r⟩
  · exact .inl h2
  · exact .inr ⟨g, cap, cur, e1, Nat.le_trans hle hb, r⟩
theorem rowsN_pts {w : World} {g g' wd hi : Nat} (hb : BsAtI w g (numL (hi * wd))) (hg : g < w.heap.size) (hr : ∀ k, k < hi → w.cell? ⟨g', k, none⟩ = some (.slice (some ⟨g, k * wd, none⟩) wd wd)) : NtAt w g' hi (rowN wd hi) := by
  intro k hk
  refine ⟨g, k * wd, wd, by rw [hr k hk, rowN_len], hg, fun j hj => ?_⟩
  have hj2 : j < wd := by rw [rowN_len] at hj; exact hj
  have h1 : k * wd + j < (numL (hi * wd)).length := by
    rw [numL_len]
    have : (k + 1) * wd ≤ hi * wd := Nat.mul_le_mul_right wd hk
    rw [Nat.add_mul] at this
    omega
  rw [hb _ h1]
  have e : (rowN wd hi k)[j] = (numL (hi * wd))[k * wd + j] := by
    simp only [rowN]
    rw [List.getElem_map, List.getElem_range, List.getD_eq_getElem?_getD, List.getElem?_eq_getElem h1]
    rfl
  rw [e]
theorem colsN_pts {w : World} {gC wd hi : Nat} (h : ColOI w gC wd hi wd (colCI (numL (hi * wd)) wd hi)) : NtAt w gC wd (colN wd hi) := by
  intro k hk
  obtain ⟨g, c, e1, h1, h2, h3, h4⟩ := h.done k hk
  refine ⟨g, 0, c, ?_, h3, fun j hj => ?_⟩
  · unfold colN
    rw [colC_lenI]
    exact e1
  · rw [Nat.zero_add]
    exact h4 j hj

set_option maxRecDepth 100000 in
set_option maxHeartbeats 1500000 in
theorem moves_any (R : List (List UInt8)) (wd hi fl g cap : Nat) (w : World) (hh : hi = R.length) (hfl : fl = R.flatten.length) (hw1 : 1 ≤ wd) (hw5 : wd ≤ 5) (hh1 : 1 ≤ hi) (hh5 : hi ≤ 5) (hl : ∀ r ∈ R, r.length = wd) (hgood : ∀ r ∈ R, goodL (str r) = true) (hgoodC : ∀ r ∈ colsR R wd, goodL (str r) = true) (hcap : fl ≤ cap) (hg : g < w.heap.size) (hb : BsAt w g R.flatten) :
    Calls Tryz.prog 31 #[.agg #[.int .i64 wd, .slice (some ⟨g, 0, none⟩) fl cap]] w fun e w' => ∃ v, e = .returned v ∧ w'.ownsRow w.heap.size 39 2 v (bmL R wd hi).length (flat (bmL R wd hi)) ∧ Below w.heap.size w w' := by
  have hfe : fl = hi * wd := by rw [hfl, flat_eq R wd hl, hh]
  have hf25 : fl ≤ 25 := by rw [hfe]; have := Nat.mul_le_mul hh5 hw5; omega
  have HRO := Lib.hid (fun wx => rowsB_any fl g wd hi cap hfe hw1 (by omega) hh1 (by omega) hcap wx)
  have hq : fl / wd = hi := by rw [hfe]; exact Nat.mul_div_cancel _ (by omega)
  have HH := Lib.hid (fun wx => high_any wd g cap fl wx hw1 (by omega) (by omega))
  rw [hq] at HH
  have HCI := Lib.hid (fun wx => cellsInRows_any wd hi wx hw1 hw5 hh1 hh5)
  obtain ⟨W2, hW2⟩ : ∃ W2, W2 = w.alloc (Obj.cells #[.int .i64 wd, .slice (some ⟨g, 0, none⟩) fl cap] 44) := ⟨_, rfl⟩
  have c0 : W2.cell? ⟨w.heap.size, 0, none⟩ = some (.int .i64 wd) := by rw [hW2, World.cell?_alloc_new]; rfl
  have c1 : W2.cell? ⟨w.heap.size, 1, none⟩ = some (.slice (some ⟨g, 0, none⟩) fl cap) := by rw [hW2, World.cell?_alloc_new]; rfl
  have z2 : w.heap.size < W2.heap.size := by rw [hW2]; simp
  have HB2 : Hid (Below w.heap.size w W2) := Lib.hid (by rw [hW2]; exact (Below.refl _ _).alloc (Nat.le_refl _) _)
  have HBS2 : Hid (BsAt W2 g R.flatten) := Lib.hid (by rw [hW2]; exact hb.below hg ((Below.refl _ _).alloc (Nat.le_refl _) _))
  have hg2 : g < W2.heap.size := by omega
  have hFL : R.flatten.length = hi * wd := by rw [← hfl]; exact hfe
  have HhR := Lib.hid hh
  have hCL := colsR_len R wd
  have HM1 := Lib.hid (fun gL gN cL cN wx hgL hgN hP hN => movesAlong_any R (rowN wd hi) gL gN cL cN hi wx hh hh5 hgood (fun k hk => by rw [rowN_len, hl _ (List.getElem_mem hk)]) hgL hgN hP hN)
  have HM2 := Lib.hid (fun gL gN cL cN wx hgL hgN hP hN => movesAlong_any (colsR R wd) (colN wd hi) gL gN cL cN wd wx hCL.symm hw5 hgoodC (fun k hk => by rw [colsR_row _ (List.getElem_mem hk)]; unfold colN; rw [colC_lenI]; exact hh) hgL hgN hP hN)
  have HC1 := Lib.hid (fun g' c' wx hg hg' hb hr => columns_any wd hi g g' c' R.flatten wx hw1 hw5 hh1 hh5 hFL hg hg' hb hr)
  have HC2 := Lib.hid (fun gn gN cN wx hg hg' hb hr => columns_anyI wd hi gn gN cN (numL (hi * wd)) wx hw1 hw5 hh1 hh5 (numL_len _) hg hg' hb hr)
  have HRP := Lib.hid (fun (wx : World) (g' : Nat) (hb : BsAt wx g R.flatten) (hg : g < wx.heap.size) hr => rows_pts (g' := g') hl hh hb hg hr)
  have HLE := Lib.hid (gaL_le R wd hi hw5 hh5)
  clear hCL
  clear hq hfe hb hfl hh
  go_enter Tryz.func31, Tryz.ntmps31
  go_wp2_with fail
  rw [← hW2]
  clear hW2
  go_region_held3 (fun w' => w'.cell? ⟨w.heap.size, 0, none⟩ = some (.int .i64 wd) ∧ w'.cell? ⟨w.heap.size, 1, none⟩ = some (.slice (some ⟨g, 0, none⟩) fl cap)) (first | exact ⟨c0, c1⟩ | exact ⟨d0, d1⟩ | exact ⟨d2, d3⟩ | exact ⟨d4, d5⟩) (first | (go_at_call 20; refine (HRO.out _).mono ?_; rintro e w3 ⟨g', c', rfl, r1, r2, r3, r4, hb3⟩; have HR4 := Lib.hid r4; clear r4; have d0 := (hb3.cell (p := ⟨w.heap.size, 0, none⟩) z2).trans c0; have d1 := (hb3.cell (p := ⟨w.heap.size, 1, none⟩) z2).trans c1; have z3 := Nat.lt_of_lt_of_le z2 hb3.size) | (go_at_call 43; refine (HH.out _).mono ?_; rintro e w4 ⟨rfl, hb4⟩; have d2 := (hb4.cell (p := ⟨w.heap.size, 0, none⟩) z3).trans d0; have d3 := (hb4.cell (p := ⟨w.heap.size, 1, none⟩) z3).trans d1) | (go_at_call 42; refine (HCI.out _).mono ?_; rintro e w5 ⟨gn, gN, cN, rfl, s1, s2, s3, s4, s5, s6, s7, hb5⟩; have z4 := Nat.lt_of_lt_of_le z3 hb4.size; have d4 := (hb5.cell (p := ⟨w.heap.size, 0, none⟩) z4).trans d2; have d5 := (hb5.cell (p := ⟨w.heap.size, 1, none⟩) z4).trans d3))
  all_goals
    have g3 : g < w3.heap.size := Nat.lt_of_lt_of_le (show g < W2.drew.heap.size from hg2) hb3.size
    have B3 := (show BsAt W2.drew g R.flatten from HBS2.out).below (show g < W2.drew.heap.size from hg2) hb3
    have g4 := Nat.lt_of_lt_of_le g3 hb4.size
    have B4 := B3.below g3 hb4
    have g5 := Nat.lt_of_lt_of_le g4 hb5.size
    have B5 := Lib.hid (B4.below g4 hb5)
    have q4 := Nat.lt_of_lt_of_le r2 hb4.size
    have q5 := Nat.lt_of_lt_of_le q4 hb5.size
    have HR5 : Hid (∀ k, k < hi → w5.cell? ⟨g', k, none⟩ = some (.slice (some ⟨g, k * wd, none⟩) wd wd)) := Lib.hid fun k hk => (hb5.cell (p := ⟨g', k, none⟩) q4).trans ((hb4.cell (p := ⟨g', k, none⟩) r2).trans (HR4.out k hk))
    have P1 := Lib.hid (HRP.out w5 g' B5.out g5 HR5.out)
    have HS6 := Lib.hid s6
    have HS7 := Lib.hid s7
    have N1 := Lib.hid (rowsN_pts s7 s2 s6)
    clear s6 s7 B3 B4 HR4 d0 d1 d2 d3 d4 d5 c0 c1
    go_wp2_with fail
    refine (HM1.out g' gN c' cN w5 q5 s4 P1.out N1.out).mono ?_
    rintro e w6 ⟨v1, rfl, o1, hb6⟩
    obtain ⟨p1, a1, f1, rfl⟩ := own_slice o1
    have g6 := Nat.lt_of_lt_of_le g5 hb6.size
    have q6 := Nat.lt_of_lt_of_le q5 hb6.size
    have t6 := Nat.lt_of_lt_of_le s4 hb6.size
    have u6 := Nat.lt_of_lt_of_le s2 hb6.size
    have B6 := Lib.hid (B5.out.below g5 hb6)
    have R6 : Hid (∀ k, k < hi → w6.cell? ⟨g', k, none⟩ = some (.slice (some ⟨g, k * wd, none⟩) wd wd)) := Lib.hid fun k hk => (hb6.cell (p := ⟨g', k, none⟩) q5).trans (HR5.out k hk)
    have O1 := Lib.hid o1
    clear o1
    go_wp2_with fail
    refine (HC1.out g' c' w6 g6 q6 B6.out R6.out).mono ?_
    rintro e w7 ⟨gC, cC, rfl, x1, x2, x3, hb7⟩
    have t7 := Nat.lt_of_lt_of_le t6 hb7.size
    have u7 := Nat.lt_of_lt_of_le u6 hb7.size
    have S7 := Lib.hid (((HS7.out.below s2 hb6).below u6 hb7))
    have T7 : Hid (∀ k, k < hi → w7.cell? ⟨gN, k, none⟩ = some (.slice (some ⟨gn, k * wd, none⟩) wd wd)) := Lib.hid fun k hk => (hb7.cell (p := ⟨gN, k, none⟩) t6).trans ((hb6.cell (p := ⟨gN, k, none⟩) s4).trans (HS6.out k hk))
    have k7 : gC < w7.heap.size := by obtain ⟨ga, ca, _, _, y1, y2, _⟩ := x3.done 0 hw1; omega
    have X7 := Lib.hid (x3.pts rfl HhR.out)
    clear x3
    go_wp2_with fail
    refine (HC2.out gn gN cN w7 u7 t7 S7.out T7.out).mono ?_
    rintro e w8 ⟨gD, cD, rfl, y1, y2, y3, hb8⟩
    have k8 := Nat.lt_of_lt_of_le k7 hb8.size
    have m8 : gD < w8.heap.size := by obtain ⟨ga, ca, _, _, y1, y2, _⟩ := y3.done 0 hw1; omega
    have X8 := Lib.hid (X7.out.below k7 hb8)
    have Y8 := Lib.hid (colsN_pts y3)
    clear y3
    go_wp2_with fail
    refine (HM2.out gC gD cC cD w8 k8 m8 X8.out Y8.out).mono ?_
    rintro e w9 ⟨v2, rfl, o2, hb9⟩
    obtain ⟨p2, a2, f2, rfl⟩ := own_slice o2
    have O2 := Lib.hid o2
    clear o2
    have P9 := Lib.hid (own_below (own_below (own_below O1.out hb7) hb8) hb9)
    go_wp2_with fail
    obtain ⟨w10, h10⟩ : ∃ w10, w10 = w9.alloc (Obj.cells #[.slice p1 a1 f1, .slice p2 a2 f2] 26) := ⟨_, rfl⟩
    have hb10 : Below w9.heap.size w9 w10 := by rw [h10]; exact (Below.refl _ _).alloc (Nat.le_refl _) _
    have e0 : w10.cell? ⟨w9.heap.size, 0, none⟩ = some (.slice p1 a1 f1) := by rw [h10, World.cell?_alloc_new]; rfl
    have e1 : w10.cell? ⟨w9.heap.size, 1, none⟩ = some (.slice p2 a2 f2) := by rw [h10, World.cell?_alloc_new]; rfl
    have z10 : w9.heap.size < w10.heap.size := by rw [h10]; simp
    rw [← h10]
    clear h10
    refine (concat_any _ _ _ _ _ _ w10 e0 e1 _ _ (own_below P9.out hb10) (own_below O2.out hb10) z10 (by have := HLE.out; omega) (by have := HLE.out; omega)).mono ?_
    rintro e w11 ⟨v3, rfl, o3, hb11⟩
    have O3 := Lib.hid o3
    clear o3
    go_wp2_with fail
    refine (sortOwn_any (gaL R wd hi) v3 _ w11 (by have := HLE.out; unfold gaL; rw [List.length_append]; omega) O3.out).mono ?_
    rintro e w12 ⟨rfl, o4, hb12⟩
    have O4 := Lib.hid o4
    clear o4
    go_wp2_with fail
    go_ret
    have z5 := Nat.lt_of_lt_of_le z4 hb5.size
    have z6 := Nat.lt_of_lt_of_le z5 hb6.size
    have z7 := Nat.lt_of_lt_of_le z6 hb7.size
    have z8 := Nat.lt_of_lt_of_le z7 hb8.size
    have z9 := Nat.lt_of_lt_of_le z8 hb9.size
    have hlen : (srtM (gaL R wd hi)).length = (gaL R wd hi).length := List.length_mergeSort _
    refine ⟨v3, rfl, ?_, ?_⟩
    · show w12.ownsRow w.heap.size _ 2 v3 (srtM (gaL R wd hi)).length (flat (srtM (gaL R wd hi)))
      rw [hlen]
      exact own_lowerB O4.out (by omega)
    · exact (((((((((HB2.out.drew.trans (hb3.mono (show w.heap.size ≤ W2.drew.heap.size from Nat.le_of_lt z2))).trans (hb4.mono (by omega))).trans (hb5.mono (by omega))).trans (hb6.mono (by omega))).trans (hb7.mono (by omega))).trans (hb8.mono (by omega))).trans (hb9.mono (by omega))).trans (hb10.mono (by omega))).trans (hb11.mono (by omega))).trans (hb12.mono (by omega))
end Go.Proofs.YtoiaklnaecghnabGreatDoor
