/- A move on a ring asked and made, both sides; the walks of four laws. -/
import Derived.Test.YtdcbjbmnkajjcaaDoorCiU
import Derived.Test.YtdcbjbmnkajjcaaDoorCiL
import Derived.Test.YtdcbjbmnkajjcaaDoorIxM
import Derived.Test.YtdcbjbmnkajjcaaDoorWalkM
import Derived.Deep.RegionHeld3
import Derived.Test.YtdcbjbmnkajjcaaDoorPlay
import Derived.Test.YtdcbjbmnkajjcaaDoorWalkV
namespace Go.Proofs.YtdcbjbmnkajjcaaDoor
open Go.RowKit

/-- The answer on one move; the ring behind it, or none. -/
def canR (s : ByteArray) (f t : Int) : Value := .tuple #[.bool (ringB s && rgCi s f t), .bool (ringB s)]
def makR (s : ByteArray) (f t : Int) : Value := strOr (ringB s && rgCi s f t) (behind s f t)

theorem put_nz {s : ByteArray} (hg : (byt s).all isSign = true) (a c : Nat) (ha : a < s.size) : ∀ x ∈ putL s a c, x ≠ 0 := by
  have h0 := sign_nz hg
  intro x hx
  unfold putL at hx
  rcases List.mem_or_eq_of_mem_set hx with h | h
  · rcases List.mem_or_eq_of_mem_set h with h | h
    · exact h0 x h
    · rw [h, List.getD_eq_getElem?_getD, List.getElem?_eq_getElem (by rw [byt_len]; exact ha)]
      exact h0 _ (List.getElem_mem _)
  · rw [h]; decide

/-- The boxes of a move. -/
abbrev MvBx (W : World) (B : Nat) (f t : Int) : Prop := W.cell? ⟨B, 0, none⟩ = some (.int .i64 f) ∧ W.cell? ⟨B, 1, none⟩ = some (.int .i64 t) ∧ B < W.heap.size
theorem mvbx_below {W W' : World} {B : Nat} {f t : Int} (h : MvBx W B f t) (hb : Below W.heap.size W W') : MvBx W' B f t :=
  ⟨(hb.cell (p := ⟨B, 0, none⟩) h.2.2).trans h.1, (hb.cell (p := ⟨B, 1, none⟩) h.2.2).trans h.2.1, Nat.lt_of_lt_of_le h.2.2 hb.size⟩

end Go.Proofs.YtdcbjbmnkajjcaaDoor
namespace Go.Proofs.YtdcbjbmnkajjcaaDoor
open Go.RowKit

/-- The line behind the moves that can be made, and how many they are; by any way of making one. -/
def playG (mk : ByteArray → Int → Int → Option ByteArray) : ByteArray → List (Int × Int) → ByteArray × Nat
  | s, [] => (s, 0)
  | s, p :: r => match mk s p.1 p.2 with
    | some s' => ((playG mk s' r).1, (playG mk s' r).2 + 1)
    | none => (s, 0)
theorem playG_le (mk : ByteArray → Int → Int → Option ByteArray) : ∀ (l : List (Int × Int)) (s : ByteArray), (playG mk s l).2 ≤ l.length
  | [], s => Nat.le_refl _
  | p :: r, s => by
    unfold playG
    cases h : mk s p.1 p.2 with
    | none => simp
    | some s' => have := playG_le mk r s'; simp; omega
theorem playG_step (mk : ByteArray → Int → Int → Option ByteArray) (s s' : ByteArray) (l : List (Int × Int)) (k : Nat) (h : k < l.length) (hc : mk s l[k].1 l[k].2 = some s') :
    playG mk s (l.drop k) = ((playG mk s' (l.drop (k + 1))).1, (playG mk s' (l.drop (k + 1))).2 + 1) := by
  rw [List.drop_eq_getElem_cons h, playG, hc]
theorem playG_stop (mk : ByteArray → Int → Int → Option ByteArray) (s : ByteArray) (l : List (Int × Int)) (k : Nat) (h : k < l.length) (hc : mk s l[k].1 l[k].2 = none) : playG mk s (l.drop k) = (s, 0) := by
  rw [List.drop_eq_getElem_cons h, playG, hc]
def mkV (o : Option ByteArray) : Value := match o with
  | some r => .tuple #[.string r, .bool true]
  | none => .tuple #[.string (str []), .bool false]
/-- The line behind all moves, or none. -/
def allG (mk : ByteArray → Int → Int → Option ByteArray) (s : ByteArray) (l : List (Int × Int)) : Option ByteArray := if (playG mk s l).2 = l.length then some (playG mk s l).1 else none

end Go.Proofs.YtdcbjbmnkajjcaaDoor
namespace Go.Proofs.YtdcbjbmnkajjcaaDoor
open Go.RowKit

/-- A move on a ring, made. -/
def mkR (s : ByteArray) (f t : Int) : Option ByteArray := if ringB s && rgCi s f t then some (str (behind s f t)) else none
theorem makR_mk (s : ByteArray) (f t : Int) : makR s f t = mkV (mkR s f t) := by
  unfold makR mkR
  cases ringB s && rgCi s f t <;> rfl
theorem put_sign {s : ByteArray} (hg : (byt s).all isSign = true) (a c : Nat) (ha : a < s.size) : (putL s a c).all isSign = true := by
  rw [List.all_eq_true]
  intro x hx
  have h0 := List.all_eq_true.1 hg
  unfold putL at hx
  rcases List.mem_or_eq_of_mem_set hx with h | h
  · rcases List.mem_or_eq_of_mem_set h with h | h
    · exact h0 x h
    · rw [h, List.getD_eq_getElem?_getD, List.getElem?_eq_getElem (by rw [byt_len]; exact ha)]
      exact h0 _ (List.getElem_mem _)
  · rw [h]; decide
theorem ring_behind {s : ByteArray} (hr : ringB s = true) (a c : Nat) (ha : a < s.size) : ringB (str (behind s a c)) = true := by
  obtain ⟨h3, h9⟩ := ring_sz hr
  have hg : goodL (str (behind s a c)) = true := (goodL_iff _).2 ⟨by rw [str_size, behind_len]; omega, by rw [str_size, behind_len]; omega, by rw [byt_str]; exact put_sign ((goodL_iff s).1 (ring_good hr)).2.2 a c ha⟩
  rw [ring_in _ hg, str_size, behind_len]
  unfold inR
  simp
  omega
/-- The answer on a play. -/
def pvR (s : ByteArray) (l : List (Int × Int)) : Value := mkV (if ringB s && decide (l.length ≤ 100) then allG mkR s l else none)

theorem mkV_open (o : Option ByteArray) : ∃ x y, mkV o = .tuple #[.string x, .bool y] := by
  cases o with
  | none => exact ⟨_, _, rfl⟩
  | some r => exact ⟨_, _, rfl⟩

end Go.Proofs.YtdcbjbmnkajjcaaDoor
