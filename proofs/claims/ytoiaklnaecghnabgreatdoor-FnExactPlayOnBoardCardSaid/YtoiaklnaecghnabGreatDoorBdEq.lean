/- The moves on a board, along its lines and place by place, are the same (no walk). -/
import Derived.Test.YtoiaklnaecghnabGreatDoorBdCd
import Derived.Test.YtoiaklnaecghnabGreatDoorBdMv
import Derived.Test.YtoiaklnaecghnabGreatDoorBdBm
namespace Go.Proofs.YtoiaklnaecghnabGreatDoor
open Go.RowKit Go.Sort

/-- A board's rows. -/
structure GoodR (R : List (List UInt8)) (wd : Nat) : Prop where
  hl : ∀ r ∈ R, r.length = wd
  hw : 1 ≤ wd ∧ wd ≤ 5
  hh : 1 ≤ R.length ∧ R.length ≤ 5
  gr : ∀ r ∈ R, goodL (str r) = true
  gc : ∀ r ∈ colsR R wd, goodL (str r) = true
theorem dm {wd a : Nat} (y : Nat) (h : a < wd) : (y * wd + a) % wd = a ∧ (y * wd + a) / wd = y := by
  refine ⟨Nat.mul_add_mod_of_lt h, ?_⟩
  rw [Nat.mul_comm, Nat.mul_add_div (by omega), Nat.div_eq_of_lt h]
  rfl
theorem sign_of {r : List UInt8} (h : goodL (str r) = true) {i : Nat} (hi : i < r.length) : r.getD i 0 = 46 ∨ r.getD i 0 = 70 ∨ r.getD i 0 = 84 := by
  have h2 := ((goodL_iff (str r)).1 h).2.2
  have hm : r.getD i 0 ∈ r := by rw [List.getD_eq_getElem?_getD, List.getElem?_eq_getElem hi]; exact List.getElem_mem hi
  have h3 := List.all_eq_true.1 (by simpa [byt_str] using h2) _ hm
  unfold isSign at h3
  simp only [Bool.or_eq_true, beq_iff_eq] at h3
  rcases h3 with (h3 | h3) | h3
  · exact .inr (.inr h3)
  · exact .inr (.inl h3)
  · exact .inl h3
variable {R : List (List UInt8)} {wd : Nat}
theorem boCell_in (G : GoodR R wd) {x y : Nat} (hx : x < wd) (hy : y < R.length) : boCell R wd x y = (R.getD y []).getD x 0 := by
  have := G.hh; have := G.hw
  unfold boCell inR
  rw [if_pos (by simp; omega)]
  rfl
theorem boCell_out {X Y : Int} (h : ¬ ((0 ≤ X ∧ X < wd) ∧ (0 ≤ Y ∧ Y < R.length))) : boCell R wd X Y = 32 := by
  unfold boCell inR
  rw [if_neg (by simp; omega)]
theorem row_len (G : GoodR R wd) {y : Nat} (hy : y < R.length) : (R.getD y []).length = wd := by
  rw [List.getD_eq_getElem?_getD, List.getElem?_eq_getElem hy]
  exact G.hl _ (List.getElem_mem hy)
theorem row_good (G : GoodR R wd) {y : Nat} (hy : y < R.length) : goodL (str (R.getD y [])) = true := by
  rw [List.getD_eq_getElem?_getD, List.getElem?_eq_getElem hy]
  exact G.gr _ (List.getElem_mem hy)
theorem col_is (_ : GoodR R wd) {x : Nat} (hx : x < wd) : (colsR R wd).getD x [] = colC R.flatten wd R.length x := by
  rw [List.getD_eq_getElem?_getD, List.getElem?_eq_getElem (by rw [colsR_len]; exact hx), Option.getD_some, colsR_at]
theorem col_good (G : GoodR R wd) {x : Nat} (hx : x < wd) : goodL (str ((colsR R wd).getD x [])) = true := by
  rw [List.getD_eq_getElem?_getD, List.getElem?_eq_getElem (by rw [colsR_len]; exact hx)]
  exact G.gc _ (List.getElem_mem _)
theorem boCell_sign (G : GoodR R wd) {x y : Nat} (hx : x < wd) (hy : y < R.length) : boCell R wd x y = 46 ∨ boCell R wd x y = 70 ∨ boCell R wd x y = 84 := by
  rw [boCell_in G hx hy]
  exact sign_of (row_good G hy) (by rw [row_len G hy]; exact hx)
theorem sg_list (l : List UInt8) (i : Nat) (h : i < l.length) : sgAt (str l) i = l.getD i 0 := by
  rw [sgAt_in _ _ (by rw [str_size]; exact h), List.getD_eq_getElem?_getD, List.getElem?_eq_getElem h]
  simp [str, ByteArray.getElem_eq_getElem_data]
theorem sg_row (G : GoodR R wd) {y : Nat} (hy : y < R.length) (i : Int) (c : UInt8) (h0 : c ≠ 0) (h32 : c ≠ 32) : sgAt (str (R.getD y [])) i = c ↔ boCell R wd i y = c := by
  by_cases h : 0 ≤ i ∧ i < wd
  · obtain ⟨n, rfl⟩ : ∃ n : Nat, i = n := ⟨i.toNat, by omega⟩
    rw [sg_list _ _ (by rw [row_len G hy]; omega), boCell_in G (by omega) hy]
  · rw [boCell_out (by omega), sgAt_out _ _ (by rw [str_size, row_len G hy]; exact h)]
    exact ⟨fun e => absurd e.symm h0, fun e => absurd e.symm h32⟩
theorem col_get (G : GoodR R wd) {x y : Nat} (hx : x < wd) (hy : y < R.length) : ((colsR R wd).getD x []).getD y 0 = (R.getD y []).getD x 0 := by
  rw [col_is G hx, ← flat_get R wd y x G.hl hy hx]
  unfold colC
  rw [List.getD_eq_getElem?_getD, List.getElem?_map, List.getElem?_range hy]
  rfl
theorem col_len (G : GoodR R wd) {x : Nat} (hx : x < wd) : ((colsR R wd).getD x []).length = R.length := by rw [col_is G hx, colC_len]
theorem sg_col (G : GoodR R wd) {x : Nat} (hx : x < wd) (i : Int) (c : UInt8) (h0 : c ≠ 0) (h32 : c ≠ 32) : sgAt (str ((colsR R wd).getD x [])) i = c ↔ boCell R wd x i = c := by
  by_cases h : 0 ≤ i ∧ i < R.length
  · obtain ⟨n, rfl⟩ : ∃ n : Nat, i = n := ⟨i.toNat, by omega⟩
    rw [sg_list _ _ (by rw [col_len G hx]; omega), boCell_in G hx (by omega), col_get G hx (by omega)]
  · rw [boCell_out (by omega), sgAt_out _ _ (by rw [str_size, col_len G hx]; exact h)]
    exact ⟨fun e => absurd e.symm h0, fun e => absurd e.symm h32⟩
theorem num_one {u v : Nat} {X Y : Int} (hw : 1 ≤ wd ∧ wd ≤ 5) (hu : u < wd) (hX : 0 ≤ X ∧ X < wd) (h : (v : Int) * wd + u = Y * wd + X) : (u : Int) = X ∧ (v : Int) = Y := by
  have h5 : wd = 1 ∨ wd = 2 ∨ wd = 3 ∨ wd = 4 ∨ wd = 5 := by omega
  rcases h5 with rfl | rfl | rfl | rfl | rfl <;> omega
theorem hit_iff (G : GoodR R wd) {u v : Nat} (hu : u < wd) (hv : v < R.length) (X Y : Int) : (!(boCell R wd X Y == 32) && ((v : Int) * wd + u == Y * wd + X)) = true ↔ (u : Int) = X ∧ (v : Int) = Y := by
  rw [Bool.and_eq_true, Bool.not_eq_true', beq_eq_false_iff_ne, beq_iff_eq]
  constructor
  · rintro ⟨h1, h2⟩
    by_cases h : (0 ≤ X ∧ X < wd) ∧ (0 ≤ Y ∧ Y < R.length)
    · exact num_one G.hw hu h.1 h2
    · exact absurd (boCell_out h) h1
  · rintro ⟨rfl, rfl⟩
    refine ⟨fun e => ?_, rfl⟩
    rcases boCell_sign G hu hv with h | h | h <;> rw [h] at e <;> exact absurd e (by decide)
theorem hitI_iff (G : GoodR R wd) {u v : Nat} (hu : u < wd) (hv : v < R.length) (x y step : Int) (i : Nat) : hitI R wd x y ((v : Int) * wd + u) step i = true ↔ (u : Int) = x + farI i * stX step i ∧ (v : Int) = y + farI i * stY step i := by
  unfold hitI
  rw [Int.add_assoc]
  exact hit_iff G hu hv _ _
theorem rest_iff (G : GoodR R wd) {u v : Nat} (hu : u < wd) (hv : v < R.length) (x y : Int) (step : Int) (_ : step = 1 ∨ step = -1) (tv oth : UInt8) :
    restI R wd x y ((v : Int) * wd + u) step tv oth 4 = true ↔ tv = 46 ∧ (((v : Int) = y ∧ ((u : Int) = x + step ∨ ((u : Int) = x + step + step ∧ boCell R wd (x + step) y = oth))) ∨ ((u : Int) = x ∧ ((v : Int) = y + step ∨ ((v : Int) = y + step + step ∧ boCell R wd x (y + step) = oth)))) := by
  have e0 := hitI_iff G hu hv x y step 0
  have e1 := hitI_iff G hu hv x y step 1
  have e2 := hitI_iff G hu hv x y step 2
  have e3 := hitI_iff G hu hv x y step 3
  have t0 : telI R wd x y step tv oth 0 = (tv == 46) := by simp [telI, farI]
  have t1 : telI R wd x y step tv oth 1 = (tv == 46 && boCell R wd (x + step) y == oth) := by simp [telI, farI, stX, stY]
  have t2 : telI R wd x y step tv oth 2 = (tv == 46) := by simp [telI, farI]
  have t3 : telI R wd x y step tv oth 3 = (tv == 46 && boCell R wd x (y + step) == oth) := by simp [telI, farI, stX, stY]
  simp [farI, stX, stY] at e0 e1 e2 e3
  show (if hitI R wd x y ((v : Int) * wd + u) step 0 then telI R wd x y step tv oth 0 else if hitI R wd x y ((v : Int) * wd + u) step 1 then telI R wd x y step tv oth 1 else if hitI R wd x y ((v : Int) * wd + u) step 2 then telI R wd x y step tv oth 2 else if hitI R wd x y ((v : Int) * wd + u) step 3 then telI R wd x y step tv oth 3 else false) = true ↔ _
  rw [t0, t1, t2, t3]
  generalize hitI R wd x y ((v : Int) * wd + u) step 0 = b0 at e0 ⊢
  generalize hitI R wd x y ((v : Int) * wd + u) step 1 = b1 at e1 ⊢
  generalize hitI R wd x y ((v : Int) * wd + u) step 2 = b2 at e2 ⊢
  generalize hitI R wd x y ((v : Int) * wd + u) step 3 = b3 at e3 ⊢
  generalize boCell R wd (x + step) y = c1
  generalize boCell R wd x (y + step) = c2
  generalize (u : Int) = U at *
  generalize (v : Int) = V at *
  have f1 : (tv == 46) = true ↔ tv = 46 := beq_iff_eq
  have f2 : (c1 == oth) = true ↔ c1 = oth := beq_iff_eq
  have f3 : (c2 == oth) = true ↔ c2 = oth := beq_iff_eq
  rw [← f1, ← f2, ← f3]
  generalize (tv == 46) = d1
  generalize (c1 == oth) = d2
  generalize (c2 == oth) = d3
  cases b0 <;> cases b1 <;> cases b2 <;> cases b3 <;> simp at e0 e1 e2 e3 <;> cases d1 <;> cases d2 <;> cases d3 <;> simp <;> omega
end Go.Proofs.YtoiaklnaecghnabGreatDoor
namespace Go.Proofs.YtoiaklnaecghnabGreatDoor
open Go.RowKit Go.Sort
variable {R : List (List UInt8)} {wd : Nat}

/-- A move on a board is one in a row or one in a column. -/
theorem boCN_iff (G : GoodR R wd) {x y u v : Nat} (hx : x < wd) (hy : y < R.length) (hu : u < wd) (hv : v < R.length) :
    boCN R wd x y u v = true ↔ (v = y ∧ canM (str (R.getD y [])) x u = true) ∨ (u = x ∧ canM (str ((colsR R wd).getD x [])) y v = true) := by
  have r1 := fun i c h0 h32 => sg_row G hy i c h0 h32
  have r2 := fun i c h0 h32 => sg_col G hx i c h0 h32
  have sr : (str (R.getD y [])).size = wd := by rw [str_size, row_len G hy]
  have sc : (str ((colsR R wd).getD x [])).size = R.length := by rw [str_size, col_len G hx]
  rw [canM_iff, canM_iff]
  unfold canS boCN
  rw [sr, sc]
  rw [r1 _ 46 (by decide) (by decide), r1 _ 84 (by decide) (by decide), r1 _ 70 (by decide) (by decide), r1 _ 70 (by decide) (by decide), r1 _ 84 (by decide) (by decide), r2 _ 46 (by decide) (by decide), r2 _ 84 (by decide) (by decide), r2 _ 70 (by decide) (by decide), r2 _ 70 (by decide) (by decide), r2 _ 84 (by decide) (by decide)]
  have T1 := rest_iff G hu hv x y 1 (.inl rfl) (boCell R wd u v) 70
  have T2 := rest_iff G hu hv x y (-1) (.inr rfl) (boCell R wd u v) 84
  have hne : (70 : UInt8) ≠ 84 := by decide
  simp only
  by_cases c1 : boCell R wd x y = 84
  · rw [if_pos (by rw [c1]; rfl), T1]
    have c2 : boCell R wd x y ≠ 70 := by rw [c1]; decide
    simp only [c1, true_and, show ((84 : UInt8) = 70) = False from by simp, false_and, or_false]
    constructor
    · rintro ⟨a, (⟨b, h⟩ | ⟨b, h⟩)⟩
      · obtain rfl : v = y := by omega
        exact .inl ⟨rfl, by omega, by omega, a, h⟩
      · obtain rfl : u = x := by omega
        exact .inr ⟨rfl, by omega, by omega, a, h⟩
    · rintro (⟨rfl, _, _, a, h⟩ | ⟨rfl, _, _, a, h⟩)
      · exact ⟨a, .inl ⟨rfl, h⟩⟩
      · exact ⟨a, .inr ⟨rfl, h⟩⟩
  · rw [if_neg (by simpa using c1)]
    by_cases c2 : boCell R wd x y = 70
    · rw [if_pos (by rw [c2]; rfl), T2]
      simp only [c2, true_and, show ((70 : UInt8) = 84) = False from by simp, false_and, false_or]
      constructor
      · rintro ⟨a, (⟨b, h⟩ | ⟨b, h⟩)⟩
        · obtain rfl : v = y := by omega
          exact .inl ⟨rfl, by omega, by omega, a, h⟩
        · obtain rfl : u = x := by omega
          exact .inr ⟨rfl, by omega, by omega, a, h⟩
      · rintro (⟨rfl, _, _, a, h⟩ | ⟨rfl, _, _, a, h⟩)
        · exact ⟨a, .inl ⟨rfl, h⟩⟩
        · exact ⟨a, .inr ⟨rfl, h⟩⟩
    · rw [if_neg (by simpa using c2)]
      simp only [c1, c2, false_and, or_false, and_false, Bool.false_eq_true]
theorem rowN_at (wd hi y a : Nat) (hy : y < hi) (ha : a < wd) : (rowN wd hi y).getD a 0 = ((y * wd + a : Nat) : Int) := by
  unfold rowN
  rw [List.getD_eq_getElem?_getD, List.getElem?_map, List.getElem?_range ha]
  have h : y * wd + a < hi * wd := by
    have : (y + 1) * wd ≤ hi * wd := Nat.mul_le_mul_right wd (by omega)
    rw [Nat.add_mul] at this; omega
  simp [numL, List.getD_eq_getElem?_getD, h]
theorem colN_at (wd hi x a : Nat) (hx : x < wd) (ha : a < hi) : (colN wd hi x).getD a 0 = ((a * wd + x : Nat) : Int) := by
  unfold colN colCI
  rw [List.getD_eq_getElem?_getD, List.getElem?_map, List.getElem?_range ha]
  have h : a * wd + x < hi * wd := by
    have : (a + 1) * wd ≤ hi * wd := Nat.mul_le_mul_right wd (by omega)
    rw [Nat.add_mul] at this; omega
  simp [numL, List.getD_eq_getElem?_getD, h]
theorem mem_alM {r : List UInt8} (hg : goodL (str r) = true) (C : List Int) (p : Int × Int) : p ∈ alM r C ↔ ∃ a b : Nat, a < r.length ∧ b < r.length ∧ a ≠ b ∧ canM (str r) a b = true ∧ p = (C.getD a 0, C.getD b 0) := by
  unfold alM mvsOr
  rw [if_pos hg, List.mem_map]
  constructor
  · rintro ⟨q, hq, rfl⟩
    obtain ⟨k, hk, rfl, hc⟩ := (mem_mvsB _ _ _ _).1 hq
    obtain ⟨a, b, e1, e2, ha, hb, hne⟩ := canM_in hc
    rw [str_size] at ha hb
    obtain rfl : k = a := by omega
    refine ⟨k, b, ha, hb, hne, by rw [← e2]; exact hc, ?_⟩
    show (C.getD ((k : Int)).toNat 0, C.getD (mvTo (str r) k).toNat 0) = _
    rw [e2]
    rfl
  · rintro ⟨a, b, ha, hb, _, hc, rfl⟩
    have e := canM_to hc
    refine ⟨((a : Int), (b : Int)), (mem_mvsB _ _ _ _).2 ⟨a, by rw [str_size]; exact ha, by rw [← e], by rw [← e]; exact hc⟩, ?_⟩
    simp [onC]
theorem mem_rows (G : GoodR R wd) (p : Int × Int) : p ∈ alP R (rowN wd R.length) R.length ↔ ∃ y a b : Nat, y < R.length ∧ a < wd ∧ b < wd ∧ a ≠ b ∧ canM (str (R.getD y [])) a b = true ∧ p = (((y * wd + a : Nat) : Int), ((y * wd + b : Nat) : Int)) := by
  unfold alP
  rw [List.mem_flatMap]
  constructor
  · rintro ⟨y, hy, hp⟩
    have hy := List.mem_range.1 hy
    obtain ⟨a, b, ha, hb, hne, hc, rfl⟩ := (mem_alM (row_good G hy) _ _).1 hp
    rw [row_len G hy] at ha hb
    exact ⟨y, a, b, hy, ha, hb, hne, hc, by rw [rowN_at _ _ _ _ hy ha, rowN_at _ _ _ _ hy hb]⟩
  · rintro ⟨y, a, b, hy, ha, hb, hne, hc, rfl⟩
    exact ⟨y, List.mem_range.2 hy, (mem_alM (row_good G hy) _ _).2 ⟨a, b, by rw [row_len G hy]; exact ha, by rw [row_len G hy]; exact hb, hne, hc, by rw [rowN_at _ _ _ _ hy ha, rowN_at _ _ _ _ hy hb]⟩⟩
theorem mem_cols (G : GoodR R wd) (p : Int × Int) : p ∈ alP (colsR R wd) (colN wd R.length) wd ↔ ∃ x a b : Nat, x < wd ∧ a < R.length ∧ b < R.length ∧ a ≠ b ∧ canM (str ((colsR R wd).getD x [])) a b = true ∧ p = (((a * wd + x : Nat) : Int), ((b * wd + x : Nat) : Int)) := by
  unfold alP
  rw [List.mem_flatMap]
  constructor
  · rintro ⟨x, hx, hp⟩
    have hx := List.mem_range.1 hx
    obtain ⟨a, b, ha, hb, hne, hc, rfl⟩ := (mem_alM (col_good G hx) _ _).1 hp
    rw [col_len G hx] at ha hb
    exact ⟨x, a, b, hx, ha, hb, hne, hc, by rw [colN_at _ _ _ _ hx ha, colN_at _ _ _ _ hx hb]⟩
  · rintro ⟨x, a, b, hx, ha, hb, hne, hc, rfl⟩
    exact ⟨x, List.mem_range.2 hx, (mem_alM (col_good G hx) _ _).2 ⟨a, b, by rw [col_len G hx]; exact ha, by rw [col_len G hx]; exact hb, hne, hc, by rw [colN_at _ _ _ _ hx ha, colN_at _ _ _ _ hx hb]⟩⟩
theorem mem_rowB (R : List (List UInt8)) (wd f n : Nat) (p : Int × Int) : p ∈ rowB R wd f n ↔ ∃ t : Nat, t < n ∧ boC R wd (f : Int) (t : Int) = true ∧ p = ((f : Int), (t : Int)) := by
  unfold rowB
  rw [List.mem_map]
  constructor
  · rintro ⟨t, ht, rfl⟩
    have h := List.mem_filter.1 ht
    exact ⟨t, List.mem_range.1 h.1, h.2, rfl⟩
  · rintro ⟨t, ht, hc, rfl⟩
    exact ⟨t, List.mem_filter.2 ⟨List.mem_range.2 ht, hc⟩, rfl⟩
theorem mem_bmS (R : List (List UInt8)) (wd n k : Nat) (p : Int × Int) : p ∈ bmS R wd n k ↔ ∃ f t : Nat, f < k ∧ t < n ∧ boC R wd (f : Int) (t : Int) = true ∧ p = ((f : Int), (t : Int)) := by
  unfold bmS
  rw [List.mem_flatMap]
  constructor
  · rintro ⟨f, hf, hp⟩
    obtain ⟨t, ht, hc, e⟩ := (mem_rowB _ _ _ _ _).1 hp
    exact ⟨f, t, List.mem_range.1 hf, ht, hc, e⟩
  · rintro ⟨f, t, hf, ht, hc, e⟩
    exact ⟨f, List.mem_range.2 hf, (mem_rowB _ _ _ _ _).2 ⟨t, ht, hc, e⟩⟩
theorem in_board {y a hi : Nat} (hy : y < hi) (ha : a < wd) : y * wd + a < hi * wd := by
  have : (y + 1) * wd ≤ hi * wd := Nat.mul_le_mul_right wd (by omega)
  rw [Nat.add_mul] at this; omega
theorem boC_num (_ : GoodR R wd) {x y u v : Nat} (hx : x < wd) (hy : y < R.length) (hu : u < wd) (hv : v < R.length) :
    boC R wd ((y * wd + x : Nat) : Int) ((v * wd + u : Nat) : Int) = boCN R wd x y u v := by
  have a := in_board (wd := wd) hy hx
  have b := in_board (wd := wd) hv hu
  have e : (wd : Int) * (R.length : Int) = ((R.length * wd : Nat) : Int) := by rw [Nat.mul_comm]; push_cast; rfl
  unfold boC
  rw [e]
  have i1 : inR ((y * wd + x : Nat) : Int) 0 (((R.length * wd : Nat) : Int) - 1) = true := by unfold inR; rw [decide_eq_true (by omega), decide_eq_true (by omega)]; rfl
  have i2 : inR ((v * wd + u : Nat) : Int) 0 (((R.length * wd : Nat) : Int) - 1) = true := by unfold inR; rw [decide_eq_true (by omega), decide_eq_true (by omega)]; rfl
  rw [i1, i2, Int.toNat_natCast, Int.toNat_natCast, (dm y hx).1, (dm y hx).2, (dm v hu).1, (dm v hu).2]
  rfl
theorem split_num (G : GoodR R wd) {f : Nat} (h : f < R.length * wd) : f = f / wd * wd + f % wd ∧ f % wd < wd ∧ f / wd < R.length := by
  have hw := G.hw.1
  have h1 := Nat.div_add_mod f wd
  rw [Nat.mul_comm] at h1
  exact ⟨h1.symm, Nat.mod_lt _ hw, (Nat.div_lt_iff_lt_mul hw).2 h⟩
theorem mem_same (G : GoodR R wd) (p : Int × Int) : p ∈ gaL R wd R.length ↔ p ∈ bmS R wd (R.length * wd) (R.length * wd) := by
  unfold gaL
  rw [List.mem_append, mem_rows G, mem_cols G, mem_bmS]
  constructor
  · rintro (⟨y, a, b, hy, ha, hb, _, hc, rfl⟩ | ⟨x, a, b, hx, ha, hb, _, hc, rfl⟩)
    · exact ⟨_, _, in_board hy ha, in_board hy hb, by rw [boC_num G ha hy hb hy]; exact (boCN_iff G ha hy hb hy).2 (.inl ⟨rfl, hc⟩), rfl⟩
    · exact ⟨_, _, in_board ha hx, in_board hb hx, by rw [boC_num G hx ha hx hb]; exact (boCN_iff G hx ha hx hb).2 (.inr ⟨rfl, hc⟩), rfl⟩
  · rintro ⟨f, t, hf, ht, hc, rfl⟩
    obtain ⟨e1, hx, hy⟩ := split_num G hf
    obtain ⟨e2, hu, hv⟩ := split_num G ht
    rw [e1, e2, boC_num G hx hy hu hv] at hc
    rcases (boCN_iff G hx hy hu hv).1 hc with ⟨ev, h⟩ | ⟨eu, h⟩
    · refine .inl ⟨f / wd, f % wd, t % wd, hy, hx, hu, ?_, h, by rw [← e1, ← ev, ← e2]⟩
      intro e
      obtain ⟨a, b, q1, q2, _, _, hne⟩ := canM_in h
      omega
    · refine .inr ⟨f % wd, f / wd, t / wd, hx, hy, hv, ?_, h, by rw [← e1, ← eu, ← e2]⟩
      intro e
      obtain ⟨a, b, q1, q2, _, _, hne⟩ := canM_in h
      omega
end Go.Proofs.YtoiaklnaecghnabGreatDoor
namespace Go.Proofs.YtoiaklnaecghnabGreatDoor
open Go.RowKit Go.Sort
variable {R : List (List UInt8)} {wd : Nat}

def ltP (p q : Int × Int) : Prop := p.1 < q.1 ∨ (p.1 = q.1 ∧ p.2 < q.2)
theorem bmS_pw (R : List (List UInt8)) (wd n k : Nat) : (bmS R wd n k).Pairwise ltP := by
  unfold bmS
  rw [List.pairwise_flatMap]
  refine ⟨fun f _ => ?_, (List.pairwise_lt_range (n := k)).imp_of_mem fun {a b} _ _ hab x hx y hy => ?_⟩
  · unfold rowB
    rw [List.pairwise_map]
    refine (List.Pairwise.filter _ (List.pairwise_lt_range (n := n))).imp fun {a b} h => ?_
    exact .inr ⟨rfl, by show (a : Int) < (b : Int); omega⟩
  · obtain ⟨_, _, _, rfl⟩ := (mem_rowB _ _ _ _ _).1 hx
    obtain ⟨_, _, _, rfl⟩ := (mem_rowB _ _ _ _ _).1 hy
    exact .inl (by show (a : Int) < (b : Int); omega)
theorem mvsTo_pw (g : Int → Int → Bool) (s : ByteArray) : ∀ n, (mvsTo g s n).Pairwise fun p q => p.1 < q.1
  | 0 => by simp [mvsTo]
  | n + 1 => by
    rw [mvsTo, List.pairwise_append]
    refine ⟨mvsTo_pw g s n, by split <;> simp, fun p hp q hq => ?_⟩
    obtain ⟨k, hk, rfl, _⟩ := (mem_mvsB _ _ _ _).1 hp
    split at hq
    · simp at hq
      subst hq
      show (k : Int) < (n : Int)
      omega
    · simp at hq
theorem alM_pw {r : List UInt8} (hg : goodL (str r) = true) (C : List Int) (hC : ∀ a b : Nat, a < b → b < r.length → C.getD a 0 < C.getD b 0) : (alM r C).Pairwise fun p q => p.1 < q.1 := by
  unfold alM mvsOr
  rw [if_pos hg, List.pairwise_map]
  refine (mvsTo_pw _ _ _).imp_of_mem fun {p q} hp hq h => ?_
  obtain ⟨k, hk, rfl, _⟩ := (mem_mvsB _ _ _ _).1 hp
  obtain ⟨j, hj, rfl, _⟩ := (mem_mvsB _ _ _ _).1 hq
  have h2 : (k : Int) < (j : Int) := h
  rw [str_size] at hj
  exact hC k j (by omega) hj
theorem rows_pw (G : GoodR R wd) : (alP R (rowN wd R.length) R.length).Pairwise fun p q => p.1 < q.1 := by
  unfold alP
  rw [List.pairwise_flatMap]
  refine ⟨fun y hy => ?_, (List.pairwise_lt_range (n := R.length)).imp_of_mem fun {y z} hy hz h p hp q hq => ?_⟩
  · have hy := List.mem_range.1 hy
    refine alM_pw (row_good G hy) _ fun a b hab hb => ?_
    rw [row_len G hy] at hb
    rw [rowN_at _ _ _ _ hy (by omega), rowN_at _ _ _ _ hy hb]
    omega
  · have hy := List.mem_range.1 hy
    have hz := List.mem_range.1 hz
    obtain ⟨a, b, ha, hb, _, _, rfl⟩ := (mem_alM (row_good G hy) _ _).1 hp
    obtain ⟨c, d, hc, hd, _, _, rfl⟩ := (mem_alM (row_good G hz) _ _).1 hq
    rw [row_len G hy] at ha
    rw [row_len G hz] at hc
    show (rowN wd R.length y).getD a 0 < (rowN wd R.length z).getD c 0
    rw [rowN_at _ _ _ _ hy ha, rowN_at _ _ _ _ hz hc]
    have := in_board (wd := wd) h ha
    omega
theorem cols_pw (G : GoodR R wd) : (alP (colsR R wd) (colN wd R.length) wd).Pairwise fun p q => p ≠ q := by
  unfold alP
  rw [List.pairwise_flatMap]
  refine ⟨fun x hx => ?_, (List.pairwise_lt_range (n := wd)).imp_of_mem fun {x z} hx hz h p hp q hq e => ?_⟩
  · have hx := List.mem_range.1 hx
    refine (alM_pw (col_good G hx) _ fun a b hab hb => ?_).imp fun {p q} h e => by rw [e] at h; omega
    rw [col_len G hx] at hb
    rw [colN_at _ _ _ _ hx (by omega), colN_at _ _ _ _ hx hb]
    have : (a + 1) * wd ≤ b * wd := Nat.mul_le_mul_right wd hab
    rw [Nat.add_mul] at this
    have := G.hw.1
    omega
  · have hx := List.mem_range.1 hx
    have hz := List.mem_range.1 hz
    obtain ⟨a, b, ha, hb, _, _, rfl⟩ := (mem_alM (col_good G hx) _ _).1 hp
    obtain ⟨c, d, hc, hd, _, _, rfl⟩ := (mem_alM (col_good G hz) _ _).1 hq
    rw [col_len G hx] at ha
    rw [col_len G hz] at hc
    have e1 : (colN wd R.length x).getD a 0 = (colN wd R.length z).getD c 0 := congrArg Prod.fst e
    rw [colN_at _ _ _ _ hx ha, colN_at _ _ _ _ hz hc] at e1
    have e2 : a * wd + x = c * wd + z := by omega
    have e3 := (dm a hx).1
    rw [e2, (dm c hz).1] at e3
    omega
theorem ga_nodup (G : GoodR R wd) : (gaL R wd R.length).Nodup := by
  unfold gaL
  rw [List.nodup_append]
  refine ⟨(rows_pw G).imp fun {p q} h e => by rw [e] at h; omega, cols_pw G, fun p hp q hq e => ?_⟩
  obtain ⟨y, a, b, hy, ha, hb, hne, _, rfl⟩ := (mem_rows G _).1 hp
  obtain ⟨x, c, d, hx, hc, hd, _, _, rfl⟩ := (mem_cols G _).1 hq
  have e1 : y * wd + a = c * wd + x := by have := congrArg Prod.fst e; simp only at this; omega
  have e2 : y * wd + b = d * wd + x := by have := congrArg Prod.snd e; simp only at this; omega
  have f1 := (dm y ha).1
  have f2 := (dm y hb).1
  rw [e1, (dm c hx).1] at f1
  rw [e2, (dm d hx).1] at f2
  omega
theorem bm_same (G : GoodR R wd) : bmL R wd R.length = bmS R wd (R.length * wd) (R.length * wd) := by
  unfold bmL srtM
  have hc : ∀ a b : Int × Int, (!ltOf cmpM b a) = true ↔ ¬ ltP b a := fun a b => by
    rw [cmpM_lt, Bool.not_eq_true', decide_eq_false_iff_not]; exact Iff.rfl
  have tr : ∀ a b c : Int × Int, (!ltOf cmpM b a) = true → (!ltOf cmpM c b) = true → (!ltOf cmpM c a) = true := fun a b c h1 h2 => by
    rw [hc] at *; unfold ltP at *; omega
  have tot : ∀ a b : Int × Int, ((!ltOf cmpM b a) || (!ltOf cmpM a b)) = true := fun a b => by
    rw [Bool.or_eq_true, hc, hc]; unfold ltP; omega
  have hs := List.pairwise_mergeSort tr tot (gaL R wd R.length)
  have hp := List.mergeSort_perm (gaL R wd R.length) (fun x y => !ltOf cmpM y x)
  have hn := hp.nodup_iff.2 (ga_nodup G)
  have h1 : ((gaL R wd R.length).mergeSort fun x y => !ltOf cmpM y x).Pairwise ltP := by
    refine (hs.and hn).imp fun {a b} h => ?_
    have h2 := (hc a b).1 h.1
    have h3 : a ≠ b := h.2
    unfold ltP at *
    by_cases e1 : a.1 = b.1
    · by_cases e2 : a.2 = b.2
      · exact absurd (Prod.ext e1 e2) h3
      · omega
    · omega
  have hnd : (bmS R wd (R.length * wd) (R.length * wd)).Nodup := (bmS_pw R wd _ _).imp fun {a b} h e => by subst e; unfold ltP at h; omega
  have hpp := (List.perm_ext_iff_of_nodup hn hnd).2 fun p => (hp.mem_iff).trans (mem_same G p)
  exact List.Perm.eq_of_pairwise (le := ltP) (fun a b _ _ h1 h2 => by unfold ltP at h1 h2; omega) h1 (bmS_pw R wd _ _) hpp
end Go.Proofs.YtoiaklnaecghnabGreatDoor
