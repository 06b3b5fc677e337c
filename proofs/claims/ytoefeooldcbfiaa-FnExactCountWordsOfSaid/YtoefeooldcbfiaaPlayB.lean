/- Contracts: plays. -/
import Derived.Test.YtoefeooldcbfiaaPlay
namespace Go.Proofs.Ytoefeooldcbfiaa
open Go.RowKit

/-- What begins at a block's head lies somewhere. -/
theorem MvAt.into {w : World} {A : Option Addr} {l : List (Int × Int)} (h : MvAt w A l) : MvIn w A l := by
  intro k hk
  obtain ⟨g, a, b, c, d⟩ := h k hk
  exact ⟨g, 0, a, b, by rw [Nat.zero_add]; exact c, by rw [Nat.zero_add]; exact d⟩

/-- The line behind the moves that can be made, and how many they are. -/
def playS (s : ByteArray) : List (Int × Int) → ByteArray × Nat
  | [] => (s, 0)
  | p :: r => if canM s p.1 p.2 then ((playS (str (behind s p.1 p.2)) r).1, (playS (str (behind s p.1 p.2)) r).2 + 1) else (s, 0)
theorem playS_le (s : ByteArray) (l : List (Int × Int)) : (playS s l).2 ≤ l.length := by
  induction l generalizing s with
  | nil => simp [playS]
  | cons p r ih =>
    unfold playS
    split
    · have := ih (str (behind s p.1 p.2)); simp; omega
    · simp
theorem behind_len (s : ByteArray) (f t : Int) : (behind s f t).length = s.size := putL_len _ _ _
theorem playS_step (s : ByteArray) (l : List (Int × Int)) (k : Nat) (h : k < l.length) (hc : canM s l[k].1 l[k].2 = true) :
    playS s (l.drop k) = ((playS (str (behind s l[k].1 l[k].2)) (l.drop (k + 1))).1, (playS (str (behind s l[k].1 l[k].2)) (l.drop (k + 1))).2 + 1) := by
  rw [List.drop_eq_getElem_cons h, playS, if_pos hc]
theorem playS_stop (s : ByteArray) (l : List (Int × Int)) (k : Nat) (h : k < l.length) (hc : canM s l[k].1 l[k].2 = false) : playS s (l.drop k) = (s, 0) := by
  rw [List.drop_eq_getElem_cons h, playS, if_neg (by rw [hc]; decide)]

def PlPost (w : World) (q : ByteArray × Nat) (e : Ending) (w' : World) : Prop := e = .returned (.tuple #[.string q.1, .int .i64 q.2]) ∧ Below w.heap.size w w'

end Go.Proofs.Ytoefeooldcbfiaa
