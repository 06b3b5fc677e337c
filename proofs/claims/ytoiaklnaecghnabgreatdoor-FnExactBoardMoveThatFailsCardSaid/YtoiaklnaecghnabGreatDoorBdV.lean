/- CrossBoard, ColumnOfBoard: both sides' contracts. -/
import Derived.Test.YtoiaklnaecghnabGreatDoorBdK
namespace Go.Proofs.YtoiaklnaecghnabGreatDoor
open Go.RowKit

/-- The columns of rows. -/
def colsR (R : List (List UInt8)) (wd : Nat) : List (List UInt8) := (List.range wd).map fun x => colC R.flatten wd R.length x
theorem colsR_len (R : List (List UInt8)) (wd : Nat) : (colsR R wd).length = wd := by simp [colsR]
theorem colsR_at (R : List (List UInt8)) (wd k : Nat) (h : k < (colsR R wd).length) : (colsR R wd)[k] = colC R.flatten wd R.length k := by simp [colsR]
theorem colsR_row {R : List (List UInt8)} {wd : Nat} : ∀ r ∈ colsR R wd, r.length = R.length := by
  intro r hr
  obtain ⟨x, _, rfl⟩ := List.mem_map.1 hr
  exact colC_len _ _ _ _
theorem spl_back : ∀ R : List (List UInt8), R ≠ [] → (∀ r ∈ R, (47 : UInt8) ∉ r) → spl (Lib.join R [47]) = R
  | [], h, _ => absurd rfl h
  | [r], _, h => by rw [Lib.join_one]; exact spl_whole (h r (by simp))
  | r :: q :: R, _, h => by
    have ih := spl_back (q :: R) (by simp) fun x hx => h x (by simp [hx])
    have e : Lib.join (r :: q :: R) [47] = r ++ 47 :: Lib.join (q :: R) [47] := by simp [Lib.join_cons, Lib.joinTail]
    rw [e, spl_wall _ _ (h r (by simp)), ih]
theorem good_no_wall {r : List UInt8} (h : goodL (str r) = true) : (47 : UInt8) ∉ r := by
  intro hm
  have := ((goodL_iff _).1 h).2.2
  rw [byt_str, List.all_eq_true] at this
  have := this 47 hm
  simp [isSign] at this
/-- Columns of a board are rows of one. -/
theorem cols_good {l : List UInt8} (h : goodB l = true) : boOk (colsR (spl l) ((spl l).headD []).length) = true ∧ spl (Lib.join (colsR (spl l) ((spl l).headD []).length) [47]) = colsR (spl l) ((spl l).headD []).length := by
  obtain ⟨h1, h2⟩ := (boOk_iff _).1 h
  obtain ⟨g1, g2, g3, g4, g5⟩ := good_size h
  have hlen : ∀ r ∈ spl l, r.length = ((spl l).headD []).length := fun r hr => (h2 r hr).2.2
  have hsig : ∀ r ∈ spl l, ∀ c ∈ r, isSign c = true := fun r hr c hc => by
    have := ((goodL_iff _).1 (h2 r hr).1).2.2
    rw [byt_str, List.all_eq_true] at this
    exact this c hc
  generalize ((spl l).headD []).length = wd at g1 g2 g5 hlen ⊢
  generalize spl l = R at g3 g4 g5 hlen hsig ⊢
  have hgood : ∀ r ∈ colsR R wd, goodL (str r) = true := by
    intro r hr
    obtain ⟨x, hx, rfl⟩ := List.mem_map.1 hr
    have hx : x < wd := by simpa using hx
    refine (goodL_iff _).2 ⟨by rw [str_size, colC_len]; omega, by rw [str_size, colC_len]; omega, ?_⟩
    rw [byt_str, List.all_eq_true]
    intro c hc
    obtain ⟨y, hy, rfl⟩ := List.mem_map.1 hc
    have hy : y < R.length := by simpa using hy
    rw [flat_get R wd y x hlen hy hx]
    have e1 : R.getD y [] = R[y] := by rw [List.getD_eq_getElem?_getD, List.getElem?_eq_getElem hy]; rfl
    have hyl := hlen _ (List.getElem_mem hy)
    have e2 : R[y].getD x 0 = R[y][x] := by rw [List.getD_eq_getElem?_getD, List.getElem?_eq_getElem (by omega)]; rfl
    rw [e1, e2]
    exact hsig _ (List.getElem_mem hy) _ (List.getElem_mem _)
  have hne : colsR R wd ≠ [] := fun e => by have := congrArg List.length e; rw [colsR_len] at this; simp at this; omega
  refine ⟨(boOk_iff _).2 ⟨by rw [colsR_len]; exact g2, fun r hr => ⟨hgood r hr, by rw [colsR_row r hr]; exact g4, ?_⟩⟩, spl_back _ hne fun r hr => good_no_wall (hgood r hr)⟩
  have hd : (colsR R wd).headD [] ∈ colsR R wd := by
    cases hc : colsR R wd with
    | nil => exact absurd hc hne
    | cons a t => simp
  rw [colsR_row r hr, colsR_row _ hd]
def crossL (l : List UInt8) : List UInt8 := Lib.join (colsR (spl l) ((spl l).headD []).length) [47]
theorem cross_good {l : List UInt8} (h : goodB l = true) : goodB (crossL l) = true := by
  obtain ⟨h1, h2⟩ := cols_good h
  unfold goodB crossL
  rw [h2]
  exact h1

end Go.Proofs.YtoiaklnaecghnabGreatDoor
