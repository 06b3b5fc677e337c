/- The moves on a board, along its lines and place by place, are the same (no walk). -/
import Derived.Test.YtjnidfleccbdbaaDoorBdCd
import Derived.Test.YtjnidfleccbdbaaDoorBdMv
namespace Go.Proofs.YtjnidfleccbdbaaDoor
open Go.RowKit Go.Sort

/-- A board's rows. -/
structure GoodR (R : List (List UInt8)) (wd : Nat) : Prop where
  hl : ∀ r ∈ R, r.length = wd
  hw : 1 ≤ wd ∧ wd ≤ 5
  hh : 1 ≤ R.length ∧ R.length ≤ 5
  gr : ∀ r ∈ R, goodL (str r) = true
  gc : ∀ r ∈ colsR R wd, goodL (str r) = true
theorem dm {wd a : Nat} (y : Nat) (h : a < wd) : (y * wd + a) % wd = a ∧ (y * wd + a) / wd = y := by
  refine ⟨Nat.mul_add_mod_of_lt h, ?_⟩
  rw [Nat.mul_comm, Nat.mul_add_div (by omega), Nat.div_eq_of_lt h]
  rfl
theorem sign_of {r : List UInt8} (h : goodL (str r) = true) {i : Nat} (hi : i < r.length) : r.getD i 0 = 46 ∨ r.getD i 0 = 70 ∨ r.getD i 0 = 84 := by
  have h2 := ((goodL_iff (str r)).1 h).2.2
  have hm : r.getD i 0 ∈ r := by rw [List.getD_eq_getElem?_getD, List.getElem?_eq_getElem hi]; exact List.getElem_mem hi
  have h3 := List.all_eq_true.1 (by simpa [byt_str] using h2) _ hm
  unfold isSign at h3
  simp only [Bool.or_eq_true, beq_iff_eq] at h3
  rcases h3 with (h3 | h3) | h3
  · exact .inr (.inr h3)
  · exact .inr (.inl h3)
  · exact .inl h3
variable {R : List (List UInt8)} {wd : Nat}
theorem boCell_in (G : GoodR R wd) {x y : Nat} (hx : x < wd) (hy : y < R.length) : boCell R wd x y = (R.getD y []).getD x 0 := by
  have := G.hh; have := G.hw
  unfold boCell inR
  rw [if_pos (by simp; omega)]
  rfl
theorem boCell_out {X Y : Int} (h : ¬ ((0 ≤ X ∧ X < wd) ∧ (0 ≤ Y ∧ Y < R.length))) : boCell R wd X Y = 32 := by
  unfold boCell inR
  rw [if_neg (by simp; omega)]
theorem row_len (G : GoodR R wd) {y : Nat} (hy : y < R.length) : (R.getD y []).length = wd := by
  rw [List.getD_eq_getElem?_getD, List.getElem?_eq_getElem hy]
  exact G.hl _ (List.getElem_mem hy)
theorem row_good (G : GoodR R wd) {y : Nat} (hy : y < R.length) : goodL (str (R.getD y [])) = true := by
  rw [List.getD_eq_getElem?_getD, List.getElem?_eq_getElem hy]
  exact G.gr _ (List.getElem_mem hy)
theorem col_is (_ : GoodR R wd) {x : Nat} (hx : x < wd) : (colsR R wd).getD x [] = colC R.flatten wd R.length x := by
  rw [List.getD_eq_getElem?_getD, List.getElem?_eq_getElem (by rw [colsR_len]; exact hx), Option.getD_some, colsR_at]
theorem col_good (G : GoodR R wd) {x : Nat} (hx : x < wd) : goodL (str ((colsR R wd).getD x [])) = true := by
  rw [List.getD_eq_getElem?_getD, List.getElem?_eq_getElem (by rw [colsR_len]; exact hx)]
  exact G.gc _ (List.getElem_mem _)
theorem boCell_sign (G : GoodR R wd) {x y : Nat} (hx : x < wd) (hy : y < R.length) : boCell R wd x y = 46 ∨ boCell R wd x y = 70 ∨ boCell R wd x y = 84 := by
  rw [boCell_in G hx hy]
  exact sign_of (row_good G hy) (by rw [row_len G hy]; exact hx)
theorem sg_list (l : List UInt8) (i : Nat) (h : i < l.length) : sgAt (str l) i = l.getD i 0 := by
  rw [sgAt_in _ _ (by rw [str_size]; exact h), List.getD_eq_getElem?_getD, List.getElem?_eq_getElem h]
  simp [str, ByteArray.getElem_eq_getElem_data]
theorem sg_row (G : GoodR R wd) {y : Nat} (hy : y < R.length) (i : Int) (c : UInt8) (h0 : c ≠ 0) (h32 : c ≠ 32) : sgAt (str (R.getD y [])) i = c ↔ boCell R wd i y = c := by
  by_cases h : 0 ≤ i ∧ i < wd
  · obtain ⟨n, rfl⟩ : ∃ n : Nat, i = n := ⟨i.toNat, by omega⟩
    rw [sg_list _ _ (by rw [row_len G hy]; omega), boCell_in G (by omega) hy]
  · rw [boCell_out (by omega), sgAt_out _ _ (by rw [str_size, row_len G hy]; exact h)]
    exact ⟨fun e => absurd e.symm h0, fun e => absurd e.symm h32⟩
theorem col_get (G : GoodR R wd) {x y : Nat} (hx : x < wd) (hy : y < R.length) : ((colsR R wd).getD x []).getD y 0 = (R.getD y []).getD x 0 := by
  rw [col_is G hx, ← flat_get R wd y x G.hl hy hx]
  unfold colC
  rw [List.getD_eq_getElem?_getD, List.getElem?_map, List.getElem?_range hy]
  rfl
theorem col_len (G : GoodR R wd) {x : Nat} (hx : x < wd) : ((colsR R wd).getD x []).length = R.length := by rw [col_is G hx, colC_len]
theorem sg_col (G : GoodR R wd) {x : Nat} (hx : x < wd) (i : Int) (c : UInt8) (h0 : c ≠ 0) (h32 : c ≠ 32) : sgAt (str ((colsR R wd).getD x [])) i = c ↔ boCell R wd x i = c := by
  by_cases h : 0 ≤ i ∧ i < R.length
  · obtain ⟨n, rfl⟩ : ∃ n : Nat, i = n := ⟨i.toNat, by omega⟩
    rw [sg_list _ _ (by rw [col_len G hx]; omega), boCell_in G hx (by omega), col_get G hx (by omega)]
  · rw [boCell_out (by omega), sgAt_out _ _ (by rw [str_size, col_len G hx]; exact h)]
    exact ⟨fun e => absurd e.symm h0, fun e => absurd e.symm h32⟩
theorem num_one {u v : Nat} {X Y : Int} (hw : 1 ≤ wd ∧ wd ≤ 5) (hu : u < wd) (hX : 0 ≤ X ∧ X < wd) (h : (v : Int) * wd + u = Y * wd + X) : (u : Int) = X ∧ (v : Int) = Y := by
  have h5 : wd = 1 ∨ wd = 2 ∨ wd = 3 ∨ wd = 4 ∨ wd = 5 := by omega
  rcases h5 with rfl | rfl | rfl | rfl | rfl <;> omega
theorem hit_iff (G : GoodR R wd) {u v : Nat} (hu : u < wd) (hv : v < R.length) (X Y : Int) : (!(boCell R wd X Y == 32) && ((v : Int) * wd + u == Y * wd + X)) = true ↔ (u : Int) = X ∧ (v : Int) = Y := by
  rw [Bool.and_eq_true, Bool.not_eq_true', beq_eq_false_iff_ne, beq_iff_eq]
  constructor
  · rintro ⟨h1, h2⟩
    by_cases h : (0 ≤ X ∧ X < wd) ∧ (0 ≤ Y ∧ Y < R.length)
    · exact num_one G.hw hu h.1 h2
    · exact absurd (boCell_out h) h1
  · rintro ⟨rfl, rfl⟩
    refine ⟨fun e => ?_, rfl⟩
    rcases boCell_sign G hu hv with h | h | h <;> rw [h] at e <;> exact absurd e (by decide)
theorem hitI_iff (G : GoodR R wd) {u v : Nat} (hu : u < wd) (hv : v < R.length) (x y step : Int) (i : Nat) : hitI R wd x y ((v : Int) * wd + u) step i = true ↔ (u : Int) = x + farI i * stX step i ∧ (v : Int) = y + farI i * stY step i := by
  unfold hitI
  rw [Int.add_assoc]
  exact hit_iff G hu hv _ _
theorem rest_iff (G : GoodR R wd) {u v : Nat} (hu : u < wd) (hv : v < R.length) (x y : Int) (step : Int) (_ : step = 1 ∨ step = -1) (tv oth : UInt8) :
    restI R wd x y ((v : Int) * wd + u) step tv oth 4 = true ↔ tv = 46 ∧ (((v : Int) = y ∧ ((u : Int) = x + step ∨ ((u : Int) = x + step + step ∧ boCell R wd (x + step) y = oth))) ∨ ((u : Int) = x ∧ ((v : Int) = y + step ∨ ((v : Int) = y + step + step ∧ boCell R wd x (y + step) = oth)))) := by
  have e0 := hitI_iff G hu hv x y step 0
  have e1 := hitI_iff G hu hv x y step 1
  have e2 := hitI_iff G hu hv x y step 2
  have e3 := hitI_iff G hu hv x y step 3
  have t0 : telI R wd x y step tv oth 0 = (tv == 46) := by simp [telI, farI]
  have t1 : telI R wd x y step tv oth 1 = (tv == 46 && boCell R wd (x + step) y == oth) := by simp [telI, farI, stX, stY]
  have t2 : telI R wd x y step tv oth 2 = (tv == 46) := by simp [telI, farI]
  have t3 : telI R wd x y step tv oth 3 = (tv == 46 && boCell R wd x (y + step) == oth) := by simp [telI, farI, stX, stY]
  simp [farI, stX, stY] at e0 e1 e2 e3
  show (if hitI R wd x y ((v : Int) * wd + u) step 0 then telI R wd x y step tv oth 0 else if hitI R wd x y ((v : Int) * wd + u) step 1 then telI R wd x y step tv oth 1 else if hitI R wd x y ((v : Int) * wd + u) step 2 then telI R wd x y step tv oth 2 else if hitI R wd x y ((v : Int) * wd + u) step 3 then telI R wd x y step tv oth 3 else false) = true ↔ _
  rw [t0, t1, t2, t3]
  generalize hitI R wd x y ((v : Int) * wd + u) step 0 = b0 at e0 ⊢
  generalize hitI R wd x y ((v : Int) * wd + u) step 1 = b1 at e1 ⊢
  generalize hitI R wd x y ((v : Int) * wd + u) step 2 = b2 at e2 ⊢
  generalize hitI R wd x y ((v : Int) * wd + u) step 3 = b3 at e3 ⊢
  generalize boCell R wd (x + step) y = c1
  generalize boCell R wd x (y + step) = c2
  generalize (u : Int) = U at *
  generalize (v : Int) = V at *
  have f1 : (tv == 46) = true ↔ tv = 46 := beq_iff_eq
  have f2 : (c1 == oth) = true ↔ c1 = oth := beq_iff_eq
  have f3 : (c2 == oth) = true ↔ c2 = oth := beq_iff_eq
  rw [← f1, ← f2, ← f3]
  generalize (tv == 46) = d1
  generalize (c1 == oth) = d2
  generalize (c2 == oth) = d3
  cases b0 <;> cases b1 <;> cases b2 <;> cases b3 <;> simp at e0 e1 e2 e3 <;> cases d1 <;> cases d2 <;> cases d3 <;> simp <;> omega
end Go.Proofs.YtjnidfleccbdbaaDoor
