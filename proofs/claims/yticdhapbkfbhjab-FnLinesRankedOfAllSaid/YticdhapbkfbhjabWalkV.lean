/- The walks of the laws on all moves of a line. -/
import Derived.Test.YticdhapbkfbhjabMovesS
import Derived.Test.YticdhapbkfbhjabMarks
namespace Go.Proofs.Yticdhapbkfbhjab
open Go.RowKit

theorem kind_all (s : ByteArray) (f t : Int) : kindM true true s f t = canM s f t := by simp [kindM]
theorem can_sign {s : ByteArray} {f t : Int} (h : canM s f t = true) : sgAt s f = 84 ∨ sgAt s f = 70 := by
  obtain ⟨_, _, _, ⟨h, _⟩ | ⟨h, _⟩⟩ := (canM_iff s f t).1 h
  · exact .inl h
  · exact .inr h
theorem kind_toad (s : ByteArray) (f t : Int) : kindM true false s f t = toadM s f t := by
  unfold kindM toadM
  cases h : canM s f t
  · rfl
  · rcases can_sign h with h1 | h1 <;> simp [h1]
theorem kind_frog (s : ByteArray) (f t : Int) : kindM false true s f t = frogM s f t := by
  unfold kindM frogM
  cases h : canM s f t
  · rfl
  · rcases can_sign h with h1 | h1 <;> simp [h1]
theorem mvsTo_eq (a b : Int → Int → Bool) (s : ByteArray) (h : ∀ f t, a f t = b f t) : ∀ k, mvsTo a s k = mvsTo b s k
  | 0 => rfl
  | k + 1 => by rw [mvsTo, mvsTo, mvsTo_eq a b s h k, h]

/-- The answer: a list of moves in memory of the call's own, or none. -/
def MvAns (w : World) (c : Bool) (l : List (Int × Int)) (e : Ending) (w' : World) : Prop :=
  ∃ v, e = .returned (.tuple #[v, .bool c]) ∧ w'.ownsRow w.heap.size 36 2 v l.length (flat l) ∧ Below w.heap.size w w'
def mvsOr (wd : Int → Int → Bool) (s : ByteArray) : List (Int × Int) := if goodL s then mvsTo wd s s.size else []
theorem mvsOr_le (wd : Int → Int → Bool) (s : ByteArray) : (mvsOr wd s).length ≤ 12 := by
  unfold mvsOr
  cases h : goodL s
  · simp
  · have := ((goodL_iff s).1 h).2.1
    have := mvsTo_le wd s s.size
    simp
    omega

set_option maxHeartbeats 1000000 in
theorem movesOf_any (s : ByteArray) (w : World) (hs : s.size ≤ maxLen) :
    Calls Try.prog 17 #[.string s] w (MvAns w (goodL s) (mvsOr (canM s) s)) := by
  cases hc : goodL s
  · have hC := Lib.hid hc
    have hR : Hid (mvsOr (canM s) s = []) := by show _ = _; unfold mvsOr; rw [hc]; rfl
    clear hc
    go_enter Try.func17, Try.ntmps17
    go_wp2_with (first | (go_at_call 62; go_in) | (go_at_call 32; refine (isLine_any _ _ hs).mono ?_; rintro e w' ⟨rfl, rfl⟩; rw [hC.out]))
    go_ret2
    exact ⟨_, rfl, by rw [hR.out]; exact World.ownsRow_nil _ _ _ _, Below.refl _ _⟩
  · have hR : Hid (mvsOr (canM s) s = mvsTo (canM s) s s.size) := by show _ = _; unfold mvsOr; rw [hc]; rfl
    go_enter Try.func17, Try.ntmps17
    go_wp2_with fail
    refine (movesWhere_can s _ hc hs).mono ?_
    rintro e w1 ⟨v, rfl, ho, hb⟩
    have HO := Lib.hid ho
    clear ho hc
    go_wp2
    go_ret2
    exact ⟨_, rfl, by rw [hR.out]; exact HO.out, hb⟩

set_option maxHeartbeats 1000000 in
theorem sMovesOf_any (s : ByteArray) (w : World) (hs : s.size ≤ maxLen) :
    Calls Try.prog 18 #[.string s] w (MvAns w (goodL s) (mvsOr (canM s) s)) := by
  cases hc : goodL s
  · have hC := Lib.hid hc
    have hR : Hid (mvsOr (canM s) s = []) := by show _ = _; unfold mvsOr; rw [hc]; rfl
    clear hc
    go_enter Try.func18, Try.ntmps18
    go_wp2_with (go_at_call 64; refine (liGood_any _ _ hs).mono ?_; rintro e w' ⟨rfl, rfl⟩; rw [hC.out])
    go_ret2
    exact ⟨_, rfl, by rw [hR.out]; exact World.ownsRow_nil _ _ _ _, Below.refl _ _⟩
  · have hR : Hid (mvsOr (canM s) s = mvsTo (kindM true true s) s s.size) := by
      show _ = _; unfold mvsOr; rw [hc]; exact (mvsTo_eq _ _ s (kind_all s) s.size).symm
    have hC := Lib.hid hc
    go_enter Try.func18, Try.ntmps18
    go_wp2_with fail
    refine (liGood_any _ _ hs).mono ?_; rintro e w' ⟨rfl, rfl⟩; rw [hC.out]
    go_wp2_with fail
    refine (liMoves_all s _ hC.out).mono ?_
    rintro e w1 ⟨v, rfl, ho, hb⟩
    have HO := Lib.hid ho
    clear ho hc
    go_wp2
    go_ret2
    exact ⟨_, rfl, by rw [hR.out]; exact HO.out, hb⟩

set_option maxHeartbeats 1000000 in
theorem toadMoves_any (s : ByteArray) (w : World) (hs : s.size ≤ maxLen) :
    Calls Try.prog 19 #[.string s] w (MvAns w (goodL s) (mvsOr (toadM s) s)) := by
  cases hc : goodL s
  · have hC := Lib.hid hc
    have hR : Hid (mvsOr (toadM s) s = []) := by show _ = _; unfold mvsOr; rw [hc]; rfl
    clear hc
    go_enter Try.func19, Try.ntmps19
    go_wp2_with (first | (go_at_call 62; go_in) | (go_at_call 32; refine (isLine_any _ _ hs).mono ?_; rintro e w' ⟨rfl, rfl⟩; rw [hC.out]))
    go_ret2
    exact ⟨_, rfl, by rw [hR.out]; exact World.ownsRow_nil _ _ _ _, Below.refl _ _⟩
  · have hR : Hid (mvsOr (toadM s) s = mvsTo (toadM s) s s.size) := by show _ = _; unfold mvsOr; rw [hc]; rfl
    go_enter Try.func19, Try.ntmps19
    go_wp2_with fail
    refine (movesWhere_toad s _ hc hs).mono ?_
    rintro e w1 ⟨v, rfl, ho, hb⟩
    have HO := Lib.hid ho
    clear ho hc
    go_wp2
    go_ret2
    exact ⟨_, rfl, by rw [hR.out]; exact HO.out, hb⟩

set_option maxHeartbeats 1000000 in
theorem sToadMoves_any (s : ByteArray) (w : World) (hs : s.size ≤ maxLen) :
    Calls Try.prog 20 #[.string s] w (MvAns w (goodL s) (mvsOr (toadM s) s)) := by
  cases hc : goodL s
  · have hC := Lib.hid hc
    have hR : Hid (mvsOr (toadM s) s = []) := by show _ = _; unfold mvsOr; rw [hc]; rfl
    clear hc
    go_enter Try.func20, Try.ntmps20
    go_wp2_with (go_at_call 64; refine (liGood_any _ _ hs).mono ?_; rintro e w' ⟨rfl, rfl⟩; rw [hC.out])
    go_ret2
    exact ⟨_, rfl, by rw [hR.out]; exact World.ownsRow_nil _ _ _ _, Below.refl _ _⟩
  · have hR : Hid (mvsOr (toadM s) s = mvsTo (kindM true false s) s s.size) := by
      show _ = _; unfold mvsOr; rw [hc]; exact (mvsTo_eq _ _ s (kind_toad s) s.size).symm
    have hC := Lib.hid hc
    go_enter Try.func20, Try.ntmps20
    go_wp2_with fail
    refine (liGood_any _ _ hs).mono ?_; rintro e w' ⟨rfl, rfl⟩; rw [hC.out]
    go_wp2_with fail
    refine (liMoves_toad s _ hC.out).mono ?_
    rintro e w1 ⟨v, rfl, ho, hb⟩
    have HO := Lib.hid ho
    clear ho hc
    go_wp2
    go_ret2
    exact ⟨_, rfl, by rw [hR.out]; exact HO.out, hb⟩

set_option maxHeartbeats 1000000 in
theorem frogMoves_any (s : ByteArray) (w : World) (hs : s.size ≤ maxLen) :
    Calls Try.prog 21 #[.string s] w (MvAns w (goodL s) (mvsOr (frogM s) s)) := by
  cases hc : goodL s
  · have hC := Lib.hid hc
    have hR : Hid (mvsOr (frogM s) s = []) := by show _ = _; unfold mvsOr; rw [hc]; rfl
    clear hc
    go_enter Try.func21, Try.ntmps21
    go_wp2_with (first | (go_at_call 62; go_in) | (go_at_call 32; refine (isLine_any _ _ hs).mono ?_; rintro e w' ⟨rfl, rfl⟩; rw [hC.out]))
    go_ret2
    exact ⟨_, rfl, by rw [hR.out]; exact World.ownsRow_nil _ _ _ _, Below.refl _ _⟩
  · have hR : Hid (mvsOr (frogM s) s = mvsTo (frogM s) s s.size) := by show _ = _; unfold mvsOr; rw [hc]; rfl
    go_enter Try.func21, Try.ntmps21
    go_wp2_with fail
    refine (movesWhere_frog s _ hc hs).mono ?_
    rintro e w1 ⟨v, rfl, ho, hb⟩
    have HO := Lib.hid ho
    clear ho hc
    go_wp2
    go_ret2
    exact ⟨_, rfl, by rw [hR.out]; exact HO.out, hb⟩

set_option maxHeartbeats 1000000 in
theorem sFrogMoves_any (s : ByteArray) (w : World) (hs : s.size ≤ maxLen) :
    Calls Try.prog 22 #[.string s] w (MvAns w (goodL s) (mvsOr (frogM s) s)) := by
  cases hc : goodL s
  · have hC := Lib.hid hc
    have hR : Hid (mvsOr (frogM s) s = []) := by show _ = _; unfold mvsOr; rw [hc]; rfl
    clear hc
    go_enter Try.func22, Try.ntmps22
    go_wp2_with (go_at_call 64; refine (liGood_any _ _ hs).mono ?_; rintro e w' ⟨rfl, rfl⟩; rw [hC.out])
    go_ret2
    exact ⟨_, rfl, by rw [hR.out]; exact World.ownsRow_nil _ _ _ _, Below.refl _ _⟩
  · have hR : Hid (mvsOr (frogM s) s = mvsTo (kindM false true s) s s.size) := by
      show _ = _; unfold mvsOr; rw [hc]; exact (mvsTo_eq _ _ s (kind_frog s) s.size).symm
    have hC := Lib.hid hc
    go_enter Try.func22, Try.ntmps22
    go_wp2_with fail
    refine (liGood_any _ _ hs).mono ?_; rintro e w' ⟨rfl, rfl⟩; rw [hC.out]
    go_wp2_with fail
    refine (liMoves_frog s _ hC.out).mono ?_
    rintro e w1 ⟨v, rfl, ho, hb⟩
    have HO := Lib.hid ho
    clear ho hc
    go_wp2
    go_ret2
    exact ⟨_, rfl, by rw [hR.out]; exact HO.out, hb⟩

set_option maxHeartbeats 1000000 in
theorem isBlocked_any (s : ByteArray) (w : World) (hs : s.size ≤ maxLen) :
    Calls Try.prog 27 #[.string s] w fun e w' => e = .returned (boolOr (goodL s) ((mvsOr (canM s) s).length == 0)) ∧ Below w.heap.size w w' := by
  cases hc : goodL s
  · have hM := fun wx => movesOf_any s wx hs
    rw [hc] at hM
    have HM := Lib.hid hM
    clear hM hc
    go_enter Try.func27, Try.ntmps27
    go_wp2_with fail
    refine (HM.out _).mono ?_
    rintro e w1 ⟨v1, rfl, ho1, hb1⟩
    clear ho1
    go_wp2
    go_ret2
    exact ⟨rfl, hb1⟩
  · have hM := fun wx => movesOf_any s wx hs
    rw [hc] at hM
    have HM := Lib.hid hM
    clear hM hc
    cases hz : ((mvsOr (canM s) s).length == 0)
    all_goals
      go_enter Try.func27, Try.ntmps27
      go_wp2_with fail
      refine (HM.out _).mono ?_
      rintro e w1 ⟨v1, rfl, ho1, hb1⟩
      obtain ⟨A1, cap1, rfl, _⟩ := at_of_own ho1
      have hz' : (((mvsOr (canM s) s).length : Int) == 0) = ((mvsOr (canM s) s).length == 0) := by rw [Bool.eq_iff_iff]; simp
      rw [hz] at hz'
      clear ho1 hz
      go_wp2
      go_ret2
      exact ⟨rfl, hb1⟩

set_option maxHeartbeats 1000000 in
theorem sIsBlocked_any (s : ByteArray) (w : World) (hs : s.size ≤ maxLen) :
    Calls Try.prog 28 #[.string s] w fun e w' => e = .returned (boolOr (goodL s) ((mvsOr (canM s) s).length == 0)) ∧ Below w.heap.size w w' := by
  cases hc : goodL s
  · have hC := Lib.hid hc
    clear hc
    go_enter Try.func28, Try.ntmps28
    go_wp2_with (go_at_call 64; refine (liGood_any _ _ hs).mono ?_; rintro e w' ⟨rfl, rfl⟩; rw [hC.out])
    go_ret2
    exact ⟨rfl, Below.refl _ _⟩
  · have hR : Hid (mvsTo (kindM true true s) s s.size = mvsOr (canM s) s) := by
      show _ = _; unfold mvsOr; rw [hc]; exact mvsTo_eq _ _ s (kind_all s) s.size
    have hM := fun wx => liMoves_all s wx hc
    rw [hR.out] at hM
    have HM := Lib.hid hM
    have hC := Lib.hid hc
    clear hM hc
    cases hz : ((mvsOr (canM s) s).length == 0)
    all_goals
      go_enter Try.func28, Try.ntmps28
      go_wp2_with fail
      refine (liGood_any _ _ hs).mono ?_; rintro e w' ⟨rfl, rfl⟩; rw [hC.out]
      go_wp2_with fail
      refine (HM.out _).mono ?_
      rintro e w1 ⟨v1, rfl, ho1, hb1⟩
      obtain ⟨A1, cap1, rfl, _⟩ := at_of_own ho1
      have hz' : (((mvsOr (canM s) s).length : Int) == 0) = ((mvsOr (canM s) s).length == 0) := by rw [Bool.eq_iff_iff]; simp
      rw [hz] at hz'
      clear ho1 hz
      go_wp2
      go_ret2
      exact ⟨rfl, hb1⟩

end Go.Proofs.Yticdhapbkfbhjab
