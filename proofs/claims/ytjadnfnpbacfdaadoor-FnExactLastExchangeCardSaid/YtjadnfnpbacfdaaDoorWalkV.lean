/- The walks of the laws on all moves of a line. -/
import Derived.Test.YtjadnfnpbacfdaaDoorMovesS
import Derived.Test.YtjadnfnpbacfdaaDoorMarks
namespace Go.Proofs.YtjadnfnpbacfdaaDoor
open Go.RowKit

theorem kind_all (s : ByteArray) (f t : Int) : kindM true true s f t = canM s f t := by simp [kindM]
theorem can_sign {s : ByteArray} {f t : Int} (h : canM s f t = true) : sgAt s f = 84 ∨ sgAt s f = 70 := by
  obtain ⟨_, _, _, ⟨h, _⟩ | ⟨h, _⟩⟩ := (canM_iff s f t).1 h
  · exact .inl h
  · exact .inr h
theorem kind_toad (s : ByteArray) (f t : Int) : kindM true false s f t = toadM s f t := by
  unfold kindM toadM
  cases h : canM s f t
  · rfl
  · rcases can_sign h with h1 | h1 <;> simp [h1]
theorem kind_frog (s : ByteArray) (f t : Int) : kindM false true s f t = frogM s f t := by
  unfold kindM frogM
  cases h : canM s f t
  · rfl
  · rcases can_sign h with h1 | h1 <;> simp [h1]
theorem mvsTo_eq (a b : Int → Int → Bool) (s : ByteArray) (h : ∀ f t, a f t = b f t) : ∀ k, mvsTo a s k = mvsTo b s k
  | 0 => rfl
  | k + 1 => by rw [mvsTo, mvsTo, mvsTo_eq a b s h k, h]

/-- The answer: a list of moves in memory of the call's own, or none. -/
def MvAns (w : World) (c : Bool) (l : List (Int × Int)) (e : Ending) (w' : World) : Prop :=
  ∃ v, e = .returned (.tuple #[v, .bool c]) ∧ w'.ownsRow w.heap.size 64 2 v l.length (flat l) ∧ Below w.heap.size w w'
def mvsOr (wd : Int → Int → Bool) (s : ByteArray) : List (Int × Int) := if goodL s then mvsTo wd s s.size else []
theorem mvsOr_le (wd : Int → Int → Bool) (s : ByteArray) : (mvsOr wd s).length ≤ 12 := by
  unfold mvsOr
  cases h : goodL s
  · simp
  · have := ((goodL_iff s).1 h).2.1
    have := mvsTo_le wd s s.size
    simp
    omega

set_option maxHeartbeats 1000000 in
theorem movesOf_any (s : ByteArray) (w : World) (hs : s.size ≤ maxLen) :
    Calls Tryd.prog 117 #[.string s] w (MvAns w (goodL s) (mvsOr (canM s) s)) := by
  cases hc : goodL s
  · have hC := Lib.hid hc
    have hR : Hid (mvsOr (canM s) s = []) := by show _ = _; unfold mvsOr; rw [hc]; rfl
    clear hc
    go_enter Tryd.func117, Tryd.ntmps117
    go_wp2_with (first | (go_at_call 134; go_in) | (go_at_call 106; refine (isLine_any _ _ hs).mono ?_; rintro e w' ⟨rfl, rfl⟩; rw [hC.out]))
    go_ret2
    exact ⟨_, rfl, by rw [hR.out]; exact World.ownsRow_nil _ _ _ _, Below.refl _ _⟩
  · have hR : Hid (mvsOr (canM s) s = mvsTo (canM s) s s.size) := by show _ = _; unfold mvsOr; rw [hc]; rfl
    go_enter Tryd.func117, Tryd.ntmps117
    go_wp2_with fail
    refine (movesWhere_can s _ hc hs).mono ?_
    rintro e w1 ⟨v, rfl, ho, hb⟩
    have HO := Lib.hid ho
    clear ho hc
    go_wp2
    go_ret2
    exact ⟨_, rfl, by rw [hR.out]; exact HO.out, hb⟩

end Go.Proofs.YtjadnfnpbacfdaaDoor
