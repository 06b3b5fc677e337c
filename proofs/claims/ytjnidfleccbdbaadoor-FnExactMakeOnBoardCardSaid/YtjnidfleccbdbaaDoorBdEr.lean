/- The moves on a board, along its lines and place by place, are the same list (no walk). -/
import Derived.Test.YtjnidfleccbdbaaDoorBdEq
import Derived.Test.YtjnidfleccbdbaaDoorBdBm
namespace Go.Proofs.YtjnidfleccbdbaaDoor
open Go.RowKit Go.Sort
variable {R : List (List UInt8)} {wd : Nat}

/-- A move on a board is one in a row or one in a column. -/
theorem boCN_iff (G : GoodR R wd) {x y u v : Nat} (hx : x < wd) (hy : y < R.length) (hu : u < wd) (hv : v < R.length) :
    boCN R wd x y u v = true ↔ (v = y ∧ canM (str (R.getD y [])) x u = true) ∨ (u = x ∧ canM (str ((colsR R wd).getD x [])) y v = true) := by
  have r1 := fun i c h0 h32 => sg_row G hy i c h0 h32
  have r2 := fun i c h0 h32 => sg_col G hx i c h0 h32
  have sr : (str (R.getD y [])).size = wd := by rw [str_size, row_len G hy]
  have sc : (str ((colsR R wd).getD x [])).size = R.length := by rw [str_size, col_len G hx]
  rw [canM_iff, canM_iff]
  unfold canS boCN
  rw [sr, sc]
  rw [r1 _ 46 (by decide) (by decide), r1 _ 84 (by decide) (by decide), r1 _ 70 (by decide) (by decide), r1 _ 70 (by decide) (by decide), r1 _ 84 (by decide) (by decide), r2 _ 46 (by decide) (by decide), r2 _ 84 (by decide) (by decide), r2 _ 70 (by decide) (by decide), r2 _ 70 (by decide) (by decide), r2 _ 84 (by decide) (by decide)]
  have T1 := rest_iff G hu hv x y 1 (.inl rfl) (boCell R wd u v) 70
  have T2 := rest_iff G hu hv x y (-1) (.inr rfl) (boCell R wd u v) 84
  have hne : (70 : UInt8) ≠ 84 := by decide
  simp only
  by_cases c1 : boCell R wd x y = 84
  · rw [if_pos (by rw [c1]; rfl), T1]
    have c2 : boCell R wd x y ≠ 70 := by rw [c1]; decide
    simp only [c1, true_and, show ((84 : UInt8) = 70) = False from by simp, false_and, or_false]
    constructor
    · rintro ⟨a, (⟨b, h⟩ | ⟨b, h⟩)⟩
      · obtain rfl : v = y := by omega
        exact .inl ⟨rfl, by omega, by omega, a, h⟩
      · obtain rfl : u = x := by omega
        exact .inr ⟨rfl, by omega, by omega, a, h⟩
    · rintro (⟨rfl, _, _, a, h⟩ | ⟨rfl, _, _, a, h⟩)
      · exact ⟨a, .inl ⟨rfl, h⟩⟩
      · exact ⟨a, .inr ⟨rfl, h⟩⟩
  · rw [if_neg (by simpa using c1)]
    by_cases c2 : boCell R wd x y = 70
    · rw [if_pos (by rw [c2]; rfl), T2]
      simp only [c2, true_and, show ((70 : UInt8) = 84) = False from by simp, false_and, false_or]
      constructor
      · rintro ⟨a, (⟨b, h⟩ | ⟨b, h⟩)⟩
        · obtain rfl : v = y := by omega
          exact .inl ⟨rfl, by omega, by omega, a, h⟩
        · obtain rfl : u = x := by omega
          exact .inr ⟨rfl, by omega, by omega, a, h⟩
      · rintro (⟨rfl, _, _, a, h⟩ | ⟨rfl, _, _, a, h⟩)
        · exact ⟨a, .inl ⟨rfl, h⟩⟩
        · exact ⟨a, .inr ⟨rfl, h⟩⟩
    · rw [if_neg (by simpa using c2)]
      simp only [c1, c2, false_and, or_false, and_false, Bool.false_eq_true]
theorem rowN_at (wd hi y a : Nat) (hy : y < hi) (ha : a < wd) : (rowN wd hi y).getD a 0 = ((y * wd + a : Nat) : Int) := by
  unfold rowN
  rw [List.getD_eq_getElem?_getD, List.getElem?_map, List.getElem?_range ha]
  have h : y * wd + a < hi * wd := by
    have : (y + 1) * wd ≤ hi * wd := Nat.mul_le_mul_right wd (by omega)
    rw [Nat.add_mul] at this; omega
  simp [numL, List.getD_eq_getElem?_getD, h]
theorem colN_at (wd hi x a : Nat) (hx : x < wd) (ha : a < hi) : (colN wd hi x).getD a 0 = ((a * wd + x : Nat) : Int) := by
  unfold colN colCI
  rw [List.getD_eq_getElem?_getD, List.getElem?_map, List.getElem?_range ha]
  have h : a * wd + x < hi * wd := by
    have : (a + 1) * wd ≤ hi * wd := Nat.mul_le_mul_right wd (by omega)
    rw [Nat.add_mul] at this; omega
  simp [numL, List.getD_eq_getElem?_getD, h]
theorem mem_alM {r : List UInt8} (hg : goodL (str r) = true) (C : List Int) (p : Int × Int) : p ∈ alM r C ↔ ∃ a b : Nat, a < r.length ∧ b < r.length ∧ a ≠ b ∧ canM (str r) a b = true ∧ p = (C.getD a 0, C.getD b 0) := by
  unfold alM mvsOr
  rw [if_pos hg, List.mem_map]
  constructor
  · rintro ⟨q, hq, rfl⟩
    obtain ⟨k, hk, rfl, hc⟩ := (mem_mvsB _ _ _ _).1 hq
    obtain ⟨a, b, e1, e2, ha, hb, hne⟩ := canM_in hc
    rw [str_size] at ha hb
    obtain rfl : k = a := by omega
    refine ⟨k, b, ha, hb, hne, by rw [← e2]; exact hc, ?_⟩
    show (C.getD ((k : Int)).toNat 0, C.getD (mvTo (str r) k).toNat 0) = _
    rw [e2]
    rfl
  · rintro ⟨a, b, ha, hb, _, hc, rfl⟩
    have e := canM_to hc
    refine ⟨((a : Int), (b : Int)), (mem_mvsB _ _ _ _).2 ⟨a, by rw [str_size]; exact ha, by rw [← e], by rw [← e]; exact hc⟩, ?_⟩
    simp [onC]
theorem mem_rows (G : GoodR R wd) (p : Int × Int) : p ∈ alP R (rowN wd R.length) R.length ↔ ∃ y a b : Nat, y < R.length ∧ a < wd ∧ b < wd ∧ a ≠ b ∧ canM (str (R.getD y [])) a b = true ∧ p = (((y * wd + a : Nat) : Int), ((y * wd + b : Nat) : Int)) := by
  unfold alP
  rw [List.mem_flatMap]
  constructor
  · rintro ⟨y, hy, hp⟩
    have hy := List.mem_range.1 hy
    obtain ⟨a, b, ha, hb, hne, hc, rfl⟩ := (mem_alM (row_good G hy) _ _).1 hp
    rw [row_len G hy] at ha hb
    exact ⟨y, a, b, hy, ha, hb, hne, hc, by rw [rowN_at _ _ _ _ hy ha, rowN_at _ _ _ _ hy hb]⟩
  · rintro ⟨y, a, b, hy, ha, hb, hne, hc, rfl⟩
    exact ⟨y, List.mem_range.2 hy, (mem_alM (row_good G hy) _ _).2 ⟨a, b, by rw [row_len G hy]; exact ha, by rw [row_len G hy]; exact hb, hne, hc, by rw [rowN_at _ _ _ _ hy ha, rowN_at _ _ _ _ hy hb]⟩⟩
theorem mem_cols (G : GoodR R wd) (p : Int × Int) : p ∈ alP (colsR R wd) (colN wd R.length) wd ↔ ∃ x a b : Nat, x < wd ∧ a < R.length ∧ b < R.length ∧ a ≠ b ∧ canM (str ((colsR R wd).getD x [])) a b = true ∧ p = (((a * wd + x : Nat) : Int), ((b * wd + x : Nat) : Int)) := by
  unfold alP
  rw [List.mem_flatMap]
  constructor
  · rintro ⟨x, hx, hp⟩
    have hx := List.mem_range.1 hx
    obtain ⟨a, b, ha, hb, hne, hc, rfl⟩ := (mem_alM (col_good G hx) _ _).1 hp
    rw [col_len G hx] at ha hb
    exact ⟨x, a, b, hx, ha, hb, hne, hc, by rw [colN_at _ _ _ _ hx ha, colN_at _ _ _ _ hx hb]⟩
  · rintro ⟨x, a, b, hx, ha, hb, hne, hc, rfl⟩
    exact ⟨x, List.mem_range.2 hx, (mem_alM (col_good G hx) _ _).2 ⟨a, b, by rw [col_len G hx]; exact ha, by rw [col_len G hx]; exact hb, hne, hc, by rw [colN_at _ _ _ _ hx ha, colN_at _ _ _ _ hx hb]⟩⟩
theorem mem_rowB (R : List (List UInt8)) (wd f n : Nat) (p : Int × Int) : p ∈ rowB R wd f n ↔ ∃ t : Nat, t < n ∧ boC R wd (f : Int) (t : Int) = true ∧ p = ((f : Int), (t : Int)) := by
  unfold rowB
  rw [List.mem_map]
  constructor
  · rintro ⟨t, ht, rfl⟩
    have h := List.mem_filter.1 ht
    exact ⟨t, List.mem_range.1 h.1, h.2, rfl⟩
  · rintro ⟨t, ht, hc, rfl⟩
    exact ⟨t, List.mem_filter.2 ⟨List.mem_range.2 ht, hc⟩, rfl⟩
theorem mem_bmS (R : List (List UInt8)) (wd n k : Nat) (p : Int × Int) : p ∈ bmS R wd n k ↔ ∃ f t : Nat, f < k ∧ t < n ∧ boC R wd (f : Int) (t : Int) = true ∧ p = ((f : Int), (t : Int)) := by
  unfold bmS
  rw [List.mem_flatMap]
  constructor
  · rintro ⟨f, hf, hp⟩
    obtain ⟨t, ht, hc, e⟩ := (mem_rowB _ _ _ _ _).1 hp
    exact ⟨f, t, List.mem_range.1 hf, ht, hc, e⟩
  · rintro ⟨f, t, hf, ht, hc, e⟩
    exact ⟨f, List.mem_range.2 hf, (mem_rowB _ _ _ _ _).2 ⟨t, ht, hc, e⟩⟩
theorem in_board {y a hi : Nat} (hy : y < hi) (ha : a < wd) : y * wd + a < hi * wd := by
  have : (y + 1) * wd ≤ hi * wd := Nat.mul_le_mul_right wd (by omega)
  rw [Nat.add_mul] at this; omega
theorem boC_num (_ : GoodR R wd) {x y u v : Nat} (hx : x < wd) (hy : y < R.length) (hu : u < wd) (hv : v < R.length) :
    boC R wd ((y * wd + x : Nat) : Int) ((v * wd + u : Nat) : Int) = boCN R wd x y u v := by
  have a := in_board (wd := wd) hy hx
  have b := in_board (wd := wd) hv hu
  have e : (wd : Int) * (R.length : Int) = ((R.length * wd : Nat) : Int) := by rw [Nat.mul_comm]; push_cast; rfl
  unfold boC
  rw [e]
  have i1 : inR ((y * wd + x : Nat) : Int) 0 (((R.length * wd : Nat) : Int) - 1) = true := by unfold inR; rw [decide_eq_true (by omega), decide_eq_true (by omega)]; rfl
  have i2 : inR ((v * wd + u : Nat) : Int) 0 (((R.length * wd : Nat) : Int) - 1) = true := by unfold inR; rw [decide_eq_true (by omega), decide_eq_true (by omega)]; rfl
  rw [i1, i2, Int.toNat_natCast, Int.toNat_natCast, (dm y hx).1, (dm y hx).2, (dm v hu).1, (dm v hu).2]
  rfl
theorem split_num (G : GoodR R wd) {f : Nat} (h : f < R.length * wd) : f = f / wd * wd + f % wd ∧ f % wd < wd ∧ f / wd < R.length := by
  have hw := G.hw.1
  have h1 := Nat.div_add_mod f wd
  rw [Nat.mul_comm] at h1
  exact ⟨h1.symm, Nat.mod_lt _ hw, (Nat.div_lt_iff_lt_mul hw).2 h⟩
theorem mem_same (G : GoodR R wd) (p : Int × Int) : p ∈ gaL R wd R.length ↔ p ∈ bmS R wd (R.length * wd) (R.length * wd) := by
  unfold gaL
  rw [List.mem_append, mem_rows G, mem_cols G, mem_bmS]
  constructor
  · rintro (⟨y, a, b, hy, ha, hb, _, hc, rfl⟩ | ⟨x, a, b, hx, ha, hb, _, hc, rfl⟩)
    · exact ⟨_, _, in_board hy ha, in_board hy hb, by rw [boC_num G ha hy hb hy]; exact (boCN_iff G ha hy hb hy).2 (.inl ⟨rfl, hc⟩), rfl⟩
    · exact ⟨_, _, in_board ha hx, in_board hb hx, by rw [boC_num G hx ha hx hb]; exact (boCN_iff G hx ha hx hb).2 (.inr ⟨rfl, hc⟩), rfl⟩
  · rintro ⟨f, t, hf, ht, hc, rfl⟩
    obtain ⟨e1, hx, hy⟩ := split_num G hf
    obtain ⟨e2, hu, hv⟩ := split_num G ht
    rw [e1, e2, boC_num G hx hy hu hv] at hc
    rcases (boCN_iff G hx hy hu hv).1 hc with ⟨ev, h⟩ | ⟨eu, h⟩
    · refine .inl ⟨f / wd, f % wd, t % wd, hy, hx, hu, ?_, h, by rw [← e1, ← ev, ← e2]⟩
      intro e
      obtain ⟨a, b, q1, q2, _, _, hne⟩ := canM_in h
      omega
    · refine .inr ⟨f % wd, f / wd, t / wd, hx, hy, hv, ?_, h, by rw [← e1, ← eu, ← e2]⟩
      intro e
      obtain ⟨a, b, q1, q2, _, _, hne⟩ := canM_in h
      omega
end Go.Proofs.YtjnidfleccbdbaaDoor
