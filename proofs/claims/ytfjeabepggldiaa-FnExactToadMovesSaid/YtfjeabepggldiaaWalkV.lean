/- The walks of the laws on all moves of a line. -/
import Derived.Test.YtfjeabepggldiaaMovesS
import Derived.Test.YtfjeabepggldiaaMarks
namespace Go.Proofs.Ytfjeabepggldiaa
open Go.RowKit

theorem kind_all (s : ByteArray) (f t : Int) : kindM true true s f t = canM s f t := by simp [kindM]
theorem can_sign {s : ByteArray} {f t : Int} (h : canM s f t = true) : sgAt s f = 84 ∨ sgAt s f = 70 := by
  obtain ⟨_, _, _, ⟨h, _⟩ | ⟨h, _⟩⟩ := (canM_iff s f t).1 h
  · exact .inl h
  · exact .inr h
theorem kind_toad (s : ByteArray) (f t : Int) : kindM true false s f t = toadM s f t := by
  unfold kindM toadM
  cases h : canM s f t
  · rfl
  · rcases can_sign h with h1 | h1 <;> simp [h1]
theorem kind_frog (s : ByteArray) (f t : Int) : kindM false true s f t = frogM s f t := by
  unfold kindM frogM
  cases h : canM s f t
  · rfl
  · rcases can_sign h with h1 | h1 <;> simp [h1]
theorem mvsTo_eq (a b : Int → Int → Bool) (s : ByteArray) (h : ∀ f t, a f t = b f t) : ∀ k, mvsTo a s k = mvsTo b s k
  | 0 => rfl
  | k + 1 => by rw [mvsTo, mvsTo, mvsTo_eq a b s h k, h]

/-- The answer: a list of moves in memory of the call's own, or none. -/
def MvAns (w : World) (c : Bool) (l : List (Int × Int)) (e : Ending) (w' : World) : Prop :=
  ∃ v, e = .returned (.tuple #[v, .bool c]) ∧ w'.ownsRow w.heap.size 38 2 v l.length (flat l) ∧ Below w.heap.size w w'
def mvsOr (wd : Int → Int → Bool) (s : ByteArray) : List (Int × Int) := if goodL s then mvsTo wd s s.size else []
theorem mvsOr_le (wd : Int → Int → Bool) (s : ByteArray) : (mvsOr wd s).length ≤ 12 := by
  unfold mvsOr
  cases h : goodL s
  · simp
  · have := ((goodL_iff s).1 h).2.1
    have := mvsTo_le wd s s.size
    simp
    omega

set_option maxHeartbeats 1000000 in
theorem movesOf_any (s : ByteArray) (w : World) (hs : s.size ≤ maxLen) :
    Calls Try.prog 35 #[.string s] w (MvAns w (goodL s) (mvsOr (canM s) s)) := by
  cases hc : goodL s
  · have hC := Lib.hid hc
    have hR : Hid (mvsOr (canM s) s = []) := by show _ = _; unfold mvsOr; rw [hc]; rfl
    clear hc
    go_enter Try.func35, Try.ntmps35
    go_wp2_with (first | (go_at_call 89; go_in) | (go_at_call 27; refine (isLine_any _ _ hs).mono ?_; rintro e w' ⟨rfl, rfl⟩; rw [hC.out]))
    go_ret2
    exact ⟨_, rfl, by rw [hR.out]; exact World.ownsRow_nil _ _ _ _, Below.refl _ _⟩
  · have hR : Hid (mvsOr (canM s) s = mvsTo (canM s) s s.size) := by show _ = _; unfold mvsOr; rw [hc]; rfl
    go_enter Try.func35, Try.ntmps35
    go_wp2_with fail
    refine (movesWhere_can s _ hc hs).mono ?_
    rintro e w1 ⟨v, rfl, ho, hb⟩
    have HO := Lib.hid ho
    clear ho hc
    go_wp2
    go_ret2
    exact ⟨_, rfl, by rw [hR.out]; exact HO.out, hb⟩

set_option maxHeartbeats 1000000 in
theorem sMovesOf_any (s : ByteArray) (w : World) (hs : s.size ≤ maxLen) :
    Calls Try.prog 34 #[.string s] w (MvAns w (goodL s) (mvsOr (canM s) s)) := by
  cases hc : goodL s
  · have hC := Lib.hid hc
    have hR : Hid (mvsOr (canM s) s = []) := by show _ = _; unfold mvsOr; rw [hc]; rfl
    clear hc
    go_enter Try.func34, Try.ntmps34
    go_wp2_with (go_at_call 79; refine (liGood_any _ _ hs).mono ?_; rintro e w' ⟨rfl, rfl⟩; rw [hC.out])
    go_ret2
    exact ⟨_, rfl, by rw [hR.out]; exact World.ownsRow_nil _ _ _ _, Below.refl _ _⟩
  · have hR : Hid (mvsOr (canM s) s = mvsTo (kindM true true s) s s.size) := by
      show _ = _; unfold mvsOr; rw [hc]; exact (mvsTo_eq _ _ s (kind_all s) s.size).symm
    have hC := Lib.hid hc
    go_enter Try.func34, Try.ntmps34
    go_wp2_with fail
    refine (liGood_any _ _ hs).mono ?_; rintro e w' ⟨rfl, rfl⟩; rw [hC.out]
    go_wp2_with fail
    refine (liMoves_all s _ hC.out).mono ?_
    rintro e w1 ⟨v, rfl, ho, hb⟩
    have HO := Lib.hid ho
    clear ho hc
    go_wp2
    go_ret2
    exact ⟨_, rfl, by rw [hR.out]; exact HO.out, hb⟩

set_option maxRecDepth 100000 in
set_option maxHeartbeats 4000000 in
theorem walk_FnExactMovesOf (s : ByteArray) (hs : s.size ≤ maxLen) (w : World) :
    Calls Try.prog 7 #[.string s] w fun e w' => e = .returned (.bool true) ∧ Below w.heap.size w w' := by
  by_cases hbig : (1048576 : Int) < (s.size : Int)
  · go_enter Try.func7, Try.ntmps7
    go_wp2
    go_ret
    exact ⟨rfl, Below.refl _ _⟩
  · have hle := mvsOr_le (canM s) s
    go_enter Try.func7, Try.ntmps7
    go_wp2_with fail
    refine (sMovesOf_any _ _ hs).mono ?_
    rintro e w1 ⟨v1, rfl, ho1, hb1⟩
    go_wp2_with fail
    refine (movesOf_any _ _ hs).mono ?_
    rintro e w2 ⟨v2, rfl, ho2, hb2⟩
    have hM := fun wx => movesOf_any s wx hs
    generalize mvsOr (canM s) s = l at ho1 ho2 hle hM
    generalize goodL s = c at hM
    have HM := Lib.hid hM
    clear hM
    obtain ⟨A1, cap1, rfl, at1⟩ := at_of_own ho1
    have at1b := at1.below hb2
    obtain ⟨A2, cap2, rfl, at2⟩ := at_of_own ho2
    have AT1 := Lib.hid at1b
    have AT2 := Lib.hid at2
    have HO2 := Lib.hid ho2
    have hB2 := hb1.trans (hb2.mono hb1.size)
    have hsz1 := hb1.size
    have lt1 : ∀ g, A1 = some ⟨g, 0, none⟩ → 0 < l.length → g < w1.heap.size := by
      intro g hg hl
      obtain ⟨g', e, z, _⟩ := at1 0 hl
      rw [hg] at e
      injection e with e
      injection e with e
      omega
    have LT1 := Lib.hid lt1
    clear at1 at1b at2 ho1 ho2 hb1 lt1
    go_wp2_with fail
    refine (eqMoveS_same l A2 A1 cap2 cap1 _ AT2.out AT1.out (by omega)).mono ?_
    rintro e w3 ⟨rfl, hb3⟩
    have ho3 := own_below HO2.out hb3
    have at3 := Lib.hid (AT1.out.below hb3)
    have hB3 := hB2.trans (hb3.mono hB2.size)
    have hB13 := hb2.trans (hb3.mono hb2.size)
    clear HO2 AT1 AT2 hb3 hb2 hB2
    go_wp2_with fail
    refine (markMoveS_any l.length 1 w1.heap.size l _ _ rfl ho3 (by omega) (by omega)).mono ?_
    rintro e w4 ⟨rfl, ho4, hb4⟩
    have hB4 := hB3.trans (hb4.mono hsz1)
    have HO4 := Lib.hid ho4
    have at4 : Hid (MvAt w4 A1 l) := by
      intro k hk
      obtain ⟨g, a, b, c, d⟩ := at3.out k hk
      have hg := LT1.out g a (by omega)
      exact ⟨g, a, Nat.lt_of_lt_of_le b hb4.size, (hb4.cell (p := ⟨g, k * 2, none⟩) hg).trans c, (hb4.cell (p := ⟨g, k * 2 + 1, none⟩) hg).trans d⟩
    clear ho3 at3 hB3 hB13 ho4 hb4
    go_wp2_with fail
    refine (heldMoveS_any l.length 1 w1.heap.size _ _ HO4.out (by omega) (by omega)).mono ?_
    rintro e w4' ⟨rfl, rfl⟩
    go_wp2_with fail
    refine (HM.out _).mono ?_
    rintro e w5 ⟨v5, rfl, ho5, hb5⟩
    obtain ⟨A5, cap5, rfl, at5⟩ := at_of_own ho5
    have AT5 := Lib.hid at5
    have AT1 := Lib.hid (at4.out.below hb5)
    have HO5 := Lib.hid (own_below HO4.out hb5)
    have hB5 := hB4.trans (hb5.mono hB4.size)
    clear ho5 at5 hb5 at4 HO4 hB4
    go_wp2_with fail
    refine (eqMoveS_same l A5 A1 cap5 cap1 _ AT5.out AT1.out (by omega)).mono ?_
    rintro e w6 ⟨rfl, hb6⟩
    have ho6 := Lib.hid (own_below HO5.out hb6)
    have hB6 := hB5.trans (hb6.mono hB5.size)
    clear AT5 AT1 HO5 hb6 hB5
    go_wp2_with fail
    refine (heldMoveS_any l.length 1 w1.heap.size _ _ ho6.out (by omega) (by omega)).mono ?_
    rintro e w6' ⟨rfl, rfl⟩
    go_wp2
    go_ret
    exact ⟨rfl, hB6⟩

set_option maxHeartbeats 1000000 in
theorem toadMoves_any (s : ByteArray) (w : World) (hs : s.size ≤ maxLen) :
    Calls Try.prog 40 #[.string s] w (MvAns w (goodL s) (mvsOr (toadM s) s)) := by
  cases hc : goodL s
  · have hC := Lib.hid hc
    have hR : Hid (mvsOr (toadM s) s = []) := by show _ = _; unfold mvsOr; rw [hc]; rfl
    clear hc
    go_enter Try.func40, Try.ntmps40
    go_wp2_with (first | (go_at_call 89; go_in) | (go_at_call 27; refine (isLine_any _ _ hs).mono ?_; rintro e w' ⟨rfl, rfl⟩; rw [hC.out]))
    go_ret2
    exact ⟨_, rfl, by rw [hR.out]; exact World.ownsRow_nil _ _ _ _, Below.refl _ _⟩
  · have hR : Hid (mvsOr (toadM s) s = mvsTo (toadM s) s s.size) := by show _ = _; unfold mvsOr; rw [hc]; rfl
    go_enter Try.func40, Try.ntmps40
    go_wp2_with fail
    refine (movesWhere_toad s _ hc hs).mono ?_
    rintro e w1 ⟨v, rfl, ho, hb⟩
    have HO := Lib.hid ho
    clear ho hc
    go_wp2
    go_ret2
    exact ⟨_, rfl, by rw [hR.out]; exact HO.out, hb⟩

set_option maxHeartbeats 1000000 in
theorem sToadMoves_any (s : ByteArray) (w : World) (hs : s.size ≤ maxLen) :
    Calls Try.prog 39 #[.string s] w (MvAns w (goodL s) (mvsOr (toadM s) s)) := by
  cases hc : goodL s
  · have hC := Lib.hid hc
    have hR : Hid (mvsOr (toadM s) s = []) := by show _ = _; unfold mvsOr; rw [hc]; rfl
    clear hc
    go_enter Try.func39, Try.ntmps39
    go_wp2_with (go_at_call 79; refine (liGood_any _ _ hs).mono ?_; rintro e w' ⟨rfl, rfl⟩; rw [hC.out])
    go_ret2
    exact ⟨_, rfl, by rw [hR.out]; exact World.ownsRow_nil _ _ _ _, Below.refl _ _⟩
  · have hR : Hid (mvsOr (toadM s) s = mvsTo (kindM true false s) s s.size) := by
      show _ = _; unfold mvsOr; rw [hc]; exact (mvsTo_eq _ _ s (kind_toad s) s.size).symm
    have hC := Lib.hid hc
    go_enter Try.func39, Try.ntmps39
    go_wp2_with fail
    refine (liGood_any _ _ hs).mono ?_; rintro e w' ⟨rfl, rfl⟩; rw [hC.out]
    go_wp2_with fail
    refine (liMoves_toad s _ hC.out).mono ?_
    rintro e w1 ⟨v, rfl, ho, hb⟩
    have HO := Lib.hid ho
    clear ho hc
    go_wp2
    go_ret2
    exact ⟨_, rfl, by rw [hR.out]; exact HO.out, hb⟩

set_option maxRecDepth 100000 in
set_option maxHeartbeats 4000000 in
theorem walk_FnExactToadMoves (s : ByteArray) (hs : s.size ≤ maxLen) (w : World) :
    Calls Try.prog 8 #[.string s] w fun e w' => e = .returned (.bool true) ∧ Below w.heap.size w w' := by
  by_cases hbig : (1048576 : Int) < (s.size : Int)
  · go_enter Try.func8, Try.ntmps8
    go_wp2
    go_ret
    exact ⟨rfl, Below.refl _ _⟩
  · have hle := mvsOr_le (toadM s) s
    go_enter Try.func8, Try.ntmps8
    go_wp2_with fail
    refine (sToadMoves_any _ _ hs).mono ?_
    rintro e w1 ⟨v1, rfl, ho1, hb1⟩
    go_wp2_with fail
    refine (toadMoves_any _ _ hs).mono ?_
    rintro e w2 ⟨v2, rfl, ho2, hb2⟩
    have hM := fun wx => toadMoves_any s wx hs
    generalize mvsOr (toadM s) s = l at ho1 ho2 hle hM
    generalize goodL s = c at hM
    have HM := Lib.hid hM
    clear hM
    obtain ⟨A1, cap1, rfl, at1⟩ := at_of_own ho1
    have at1b := at1.below hb2
    obtain ⟨A2, cap2, rfl, at2⟩ := at_of_own ho2
    have AT1 := Lib.hid at1b
    have AT2 := Lib.hid at2
    have HO2 := Lib.hid ho2
    have hB2 := hb1.trans (hb2.mono hb1.size)
    have hsz1 := hb1.size
    have lt1 : ∀ g, A1 = some ⟨g, 0, none⟩ → 0 < l.length → g < w1.heap.size := by
      intro g hg hl
      obtain ⟨g', e, z, _⟩ := at1 0 hl
      rw [hg] at e
      injection e with e
      injection e with e
      omega
    have LT1 := Lib.hid lt1
    clear at1 at1b at2 ho1 ho2 hb1 lt1
    go_wp2_with fail
    refine (eqMoveS_same l A2 A1 cap2 cap1 _ AT2.out AT1.out (by omega)).mono ?_
    rintro e w3 ⟨rfl, hb3⟩
    have ho3 := own_below HO2.out hb3
    have at3 := Lib.hid (AT1.out.below hb3)
    have hB3 := hB2.trans (hb3.mono hB2.size)
    have hB13 := hb2.trans (hb3.mono hb2.size)
    clear HO2 AT1 AT2 hb3 hb2 hB2
    go_wp2_with fail
    refine (markMoveS_any l.length 1 w1.heap.size l _ _ rfl ho3 (by omega) (by omega)).mono ?_
    rintro e w4 ⟨rfl, ho4, hb4⟩
    have hB4 := hB3.trans (hb4.mono hsz1)
    have HO4 := Lib.hid ho4
    have at4 : Hid (MvAt w4 A1 l) := by
      intro k hk
      obtain ⟨g, a, b, c, d⟩ := at3.out k hk
      have hg := LT1.out g a (by omega)
      exact ⟨g, a, Nat.lt_of_lt_of_le b hb4.size, (hb4.cell (p := ⟨g, k * 2, none⟩) hg).trans c, (hb4.cell (p := ⟨g, k * 2 + 1, none⟩) hg).trans d⟩
    clear ho3 at3 hB3 hB13 ho4 hb4
    go_wp2_with fail
    refine (heldMoveS_any l.length 1 w1.heap.size _ _ HO4.out (by omega) (by omega)).mono ?_
    rintro e w4' ⟨rfl, rfl⟩
    go_wp2_with fail
    refine (HM.out _).mono ?_
    rintro e w5 ⟨v5, rfl, ho5, hb5⟩
    obtain ⟨A5, cap5, rfl, at5⟩ := at_of_own ho5
    have AT5 := Lib.hid at5
    have AT1 := Lib.hid (at4.out.below hb5)
    have HO5 := Lib.hid (own_below HO4.out hb5)
    have hB5 := hB4.trans (hb5.mono hB4.size)
    clear ho5 at5 hb5 at4 HO4 hB4
    go_wp2_with fail
    refine (eqMoveS_same l A5 A1 cap5 cap1 _ AT5.out AT1.out (by omega)).mono ?_
    rintro e w6 ⟨rfl, hb6⟩
    have ho6 := Lib.hid (own_below HO5.out hb6)
    have hB6 := hB5.trans (hb6.mono hB5.size)
    clear AT5 AT1 HO5 hb6 hB5
    go_wp2_with fail
    refine (heldMoveS_any l.length 1 w1.heap.size _ _ ho6.out (by omega) (by omega)).mono ?_
    rintro e w6' ⟨rfl, rfl⟩
    go_wp2
    go_ret
    exact ⟨rfl, hB6⟩

set_option maxHeartbeats 1000000 in
theorem frogMoves_any (s : ByteArray) (w : World) (hs : s.size ≤ maxLen) :
    Calls Try.prog 42 #[.string s] w (MvAns w (goodL s) (mvsOr (frogM s) s)) := by
  cases hc : goodL s
  · have hC := Lib.hid hc
    have hR : Hid (mvsOr (frogM s) s = []) := by show _ = _; unfold mvsOr; rw [hc]; rfl
    clear hc
    go_enter Try.func42, Try.ntmps42
    go_wp2_with (first | (go_at_call 89; go_in) | (go_at_call 27; refine (isLine_any _ _ hs).mono ?_; rintro e w' ⟨rfl, rfl⟩; rw [hC.out]))
    go_ret2
    exact ⟨_, rfl, by rw [hR.out]; exact World.ownsRow_nil _ _ _ _, Below.refl _ _⟩
  · have hR : Hid (mvsOr (frogM s) s = mvsTo (frogM s) s s.size) := by show _ = _; unfold mvsOr; rw [hc]; rfl
    go_enter Try.func42, Try.ntmps42
    go_wp2_with fail
    refine (movesWhere_frog s _ hc hs).mono ?_
    rintro e w1 ⟨v, rfl, ho, hb⟩
    have HO := Lib.hid ho
    clear ho hc
    go_wp2
    go_ret2
    exact ⟨_, rfl, by rw [hR.out]; exact HO.out, hb⟩

set_option maxHeartbeats 1000000 in
theorem sFrogMoves_any (s : ByteArray) (w : World) (hs : s.size ≤ maxLen) :
    Calls Try.prog 41 #[.string s] w (MvAns w (goodL s) (mvsOr (frogM s) s)) := by
  cases hc : goodL s
  · have hC := Lib.hid hc
    have hR : Hid (mvsOr (frogM s) s = []) := by show _ = _; unfold mvsOr; rw [hc]; rfl
    clear hc
    go_enter Try.func41, Try.ntmps41
    go_wp2_with (go_at_call 79; refine (liGood_any _ _ hs).mono ?_; rintro e w' ⟨rfl, rfl⟩; rw [hC.out])
    go_ret2
    exact ⟨_, rfl, by rw [hR.out]; exact World.ownsRow_nil _ _ _ _, Below.refl _ _⟩
  · have hR : Hid (mvsOr (frogM s) s = mvsTo (kindM false true s) s s.size) := by
      show _ = _; unfold mvsOr; rw [hc]; exact (mvsTo_eq _ _ s (kind_frog s) s.size).symm
    have hC := Lib.hid hc
    go_enter Try.func41, Try.ntmps41
    go_wp2_with fail
    refine (liGood_any _ _ hs).mono ?_; rintro e w' ⟨rfl, rfl⟩; rw [hC.out]
    go_wp2_with fail
    refine (liMoves_frog s _ hC.out).mono ?_
    rintro e w1 ⟨v, rfl, ho, hb⟩
    have HO := Lib.hid ho
    clear ho hc
    go_wp2
    go_ret2
    exact ⟨_, rfl, by rw [hR.out]; exact HO.out, hb⟩

set_option maxRecDepth 100000 in
set_option maxHeartbeats 4000000 in
theorem walk_FnExactFrogMoves (s : ByteArray) (hs : s.size ≤ maxLen) (w : World) :
    Calls Try.prog 9 #[.string s] w fun e w' => e = .returned (.bool true) ∧ Below w.heap.size w w' := by
  by_cases hbig : (1048576 : Int) < (s.size : Int)
  · go_enter Try.func9, Try.ntmps9
    go_wp2
    go_ret
    exact ⟨rfl, Below.refl _ _⟩
  · have hle := mvsOr_le (frogM s) s
    go_enter Try.func9, Try.ntmps9
    go_wp2_with fail
    refine (sFrogMoves_any _ _ hs).mono ?_
    rintro e w1 ⟨v1, rfl, ho1, hb1⟩
    go_wp2_with fail
    refine (frogMoves_any _ _ hs).mono ?_
    rintro e w2 ⟨v2, rfl, ho2, hb2⟩
    have hM := fun wx => frogMoves_any s wx hs
    generalize mvsOr (frogM s) s = l at ho1 ho2 hle hM
    generalize goodL s = c at hM
    have HM := Lib.hid hM
    clear hM
    obtain ⟨A1, cap1, rfl, at1⟩ := at_of_own ho1
    have at1b := at1.below hb2
    obtain ⟨A2, cap2, rfl, at2⟩ := at_of_own ho2
    have AT1 := Lib.hid at1b
    have AT2 := Lib.hid at2
    have HO2 := Lib.hid ho2
    have hB2 := hb1.trans (hb2.mono hb1.size)
    have hsz1 := hb1.size
    have lt1 : ∀ g, A1 = some ⟨g, 0, none⟩ → 0 < l.length → g < w1.heap.size := by
      intro g hg hl
      obtain ⟨g', e, z, _⟩ := at1 0 hl
      rw [hg] at e
      injection e with e
      injection e with e
      omega
    have LT1 := Lib.hid lt1
    clear at1 at1b at2 ho1 ho2 hb1 lt1
    go_wp2_with fail
    refine (eqMoveS_same l A2 A1 cap2 cap1 _ AT2.out AT1.out (by omega)).mono ?_
    rintro e w3 ⟨rfl, hb3⟩
    have ho3 := own_below HO2.out hb3
    have at3 := Lib.hid (AT1.out.below hb3)
    have hB3 := hB2.trans (hb3.mono hB2.size)
    have hB13 := hb2.trans (hb3.mono hb2.size)
    clear HO2 AT1 AT2 hb3 hb2 hB2
    go_wp2_with fail
    refine (markMoveS_any l.length 1 w1.heap.size l _ _ rfl ho3 (by omega) (by omega)).mono ?_
    rintro e w4 ⟨rfl, ho4, hb4⟩
    have hB4 := hB3.trans (hb4.mono hsz1)
    have HO4 := Lib.hid ho4
    have at4 : Hid (MvAt w4 A1 l) := by
      intro k hk
      obtain ⟨g, a, b, c, d⟩ := at3.out k hk
      have hg := LT1.out g a (by omega)
      exact ⟨g, a, Nat.lt_of_lt_of_le b hb4.size, (hb4.cell (p := ⟨g, k * 2, none⟩) hg).trans c, (hb4.cell (p := ⟨g, k * 2 + 1, none⟩) hg).trans d⟩
    clear ho3 at3 hB3 hB13 ho4 hb4
    go_wp2_with fail
    refine (heldMoveS_any l.length 1 w1.heap.size _ _ HO4.out (by omega) (by omega)).mono ?_
    rintro e w4' ⟨rfl, rfl⟩
    go_wp2_with fail
    refine (HM.out _).mono ?_
    rintro e w5 ⟨v5, rfl, ho5, hb5⟩
    obtain ⟨A5, cap5, rfl, at5⟩ := at_of_own ho5
    have AT5 := Lib.hid at5
    have AT1 := Lib.hid (at4.out.below hb5)
    have HO5 := Lib.hid (own_below HO4.out hb5)
    have hB5 := hB4.trans (hb5.mono hB4.size)
    clear ho5 at5 hb5 at4 HO4 hB4
    go_wp2_with fail
    refine (eqMoveS_same l A5 A1 cap5 cap1 _ AT5.out AT1.out (by omega)).mono ?_
    rintro e w6 ⟨rfl, hb6⟩
    have ho6 := Lib.hid (own_below HO5.out hb6)
    have hB6 := hB5.trans (hb6.mono hB5.size)
    clear AT5 AT1 HO5 hb6 hB5
    go_wp2_with fail
    refine (heldMoveS_any l.length 1 w1.heap.size _ _ ho6.out (by omega) (by omega)).mono ?_
    rintro e w6' ⟨rfl, rfl⟩
    go_wp2
    go_ret
    exact ⟨rfl, hB6⟩

set_option maxHeartbeats 1000000 in
theorem isBlocked_any (s : ByteArray) (w : World) (hs : s.size ≤ maxLen) :
    Calls Try.prog 63 #[.string s] w fun e w' => e = .returned (boolOr (goodL s) ((mvsOr (canM s) s).length == 0)) ∧ Below w.heap.size w w' := by
  cases hc : goodL s
  · have hM := fun wx => movesOf_any s wx hs
    rw [hc] at hM
    have HM := Lib.hid hM
    clear hM hc
    go_enter Try.func63, Try.ntmps63
    go_wp2_with fail
    refine (HM.out _).mono ?_
    rintro e w1 ⟨v1, rfl, ho1, hb1⟩
    clear ho1
    go_wp2
    go_ret2
    exact ⟨rfl, hb1⟩
  · have hM := fun wx => movesOf_any s wx hs
    rw [hc] at hM
    have HM := Lib.hid hM
    clear hM hc
    cases hz : ((mvsOr (canM s) s).length == 0)
    all_goals
      go_enter Try.func63, Try.ntmps63
      go_wp2_with fail
      refine (HM.out _).mono ?_
      rintro e w1 ⟨v1, rfl, ho1, hb1⟩
      obtain ⟨A1, cap1, rfl, _⟩ := at_of_own ho1
      have hz' : (((mvsOr (canM s) s).length : Int) == 0) = ((mvsOr (canM s) s).length == 0) := by rw [Bool.eq_iff_iff]; simp
      rw [hz] at hz'
      clear ho1 hz
      go_wp2
      go_ret2
      exact ⟨rfl, hb1⟩

set_option maxHeartbeats 1000000 in
theorem sIsBlocked_any (s : ByteArray) (w : World) (hs : s.size ≤ maxLen) :
    Calls Try.prog 62 #[.string s] w fun e w' => e = .returned (boolOr (goodL s) ((mvsOr (canM s) s).length == 0)) ∧ Below w.heap.size w w' := by
  cases hc : goodL s
  · have hC := Lib.hid hc
    clear hc
    go_enter Try.func62, Try.ntmps62
    go_wp2_with (go_at_call 79; refine (liGood_any _ _ hs).mono ?_; rintro e w' ⟨rfl, rfl⟩; rw [hC.out])
    go_ret2
    exact ⟨rfl, Below.refl _ _⟩
  · have hR : Hid (mvsTo (kindM true true s) s s.size = mvsOr (canM s) s) := by
      show _ = _; unfold mvsOr; rw [hc]; exact mvsTo_eq _ _ s (kind_all s) s.size
    have hM := fun wx => liMoves_all s wx hc
    rw [hR.out] at hM
    have HM := Lib.hid hM
    have hC := Lib.hid hc
    clear hM hc
    cases hz : ((mvsOr (canM s) s).length == 0)
    all_goals
      go_enter Try.func62, Try.ntmps62
      go_wp2_with fail
      refine (liGood_any _ _ hs).mono ?_; rintro e w' ⟨rfl, rfl⟩; rw [hC.out]
      go_wp2_with fail
      refine (HM.out _).mono ?_
      rintro e w1 ⟨v1, rfl, ho1, hb1⟩
      obtain ⟨A1, cap1, rfl, _⟩ := at_of_own ho1
      have hz' : (((mvsOr (canM s) s).length : Int) == 0) = ((mvsOr (canM s) s).length == 0) := by rw [Bool.eq_iff_iff]; simp
      rw [hz] at hz'
      clear ho1 hz
      go_wp2
      go_ret2
      exact ⟨rfl, hb1⟩

set_option maxHeartbeats 1000000 in
theorem walk_FnExactIsBlocked (s : ByteArray) (hs : s.size ≤ maxLen) (w : World) :
    Calls Try.prog 18 #[.string s] w fun e w' => e = .returned (.bool true) ∧ Below w.heap.size w w' := by
  by_cases hbig : (1048576 : Int) < (s.size : Int)
  · go_enter Try.func18, Try.ntmps18
    go_wp2
    go_ret
    exact ⟨rfl, Below.refl _ _⟩
  · cases hc : goodL s
    all_goals
      first
        | have hR := Lib.hid (boolOr_no (goodL s) ((mvsOr (canM s) s).length == 0) hc)
        | have hR := Lib.hid (boolOr_yes (goodL s) ((mvsOr (canM s) s).length == 0) hc)
      clear hc
      go_enter Try.func18, Try.ntmps18
      go_wp2_with fail
      refine (sIsBlocked_any _ _ hs).mono ?_
      rintro e w1 ⟨rfl, hb1⟩
      rw [hR.out]
      go_wp2_with fail
      refine (isBlocked_any _ _ hs).mono ?_
      rintro e w2 ⟨rfl, hb2⟩
      rw [hR.out]
      go_wp2
      go_ret
      exact ⟨rfl, hb1.trans (hb2.mono hb1.size)⟩
end Go.Proofs.Ytfjeabepggldiaa
