/- Plain facts, laid out for the walk of the law on made moves. -/
import Derived.Test.YticdhapbkfbhjabMadeC
import Derived.Test.YticdhapbkfbhjabEqO
import Derived.Test.YticdhapbkfbhjabWalkM
namespace Go.Proofs.Yticdhapbkfbhjab
open Go.RowKit

/-- The cells that moves come from rise. -/
def Rises (l : List (Int × Int)) : Prop := ∀ k (h : k + 1 < l.length), l[k].1 < l[k + 1].1
/-- What is known of a line's moves. -/
structure MadeK (s O : ByteArray) (M T F : List (Int × Int)) (nT nF : Nat) (way prs : Int) (blk : Bool) : Prop where
  good : goodL s = true
  eM : M = mvsTo (canM s) s s.size
  eT : T = mvsTo (kindM true false s) s s.size
  eF : F = mvsTo (kindM false true s) s s.size
  eway : way = wayL (byt s)
  eprs : prs = ((pairSt (byt s)).1 : Int)
  eO : O = str (otherL (byt s))
  eblk : blk = (nT + nF == 0)
  w0 : 0 ≤ way ∧ way ≤ 50000
  p0 : 0 ≤ prs ∧ prs ≤ 1000
def MadeCase (s O : ByteArray) (M T F : List (Int × Int)) (nT nF : Nat) (way prs : Int) (blk b : Bool) : Prop := b = false ∨ b = true ∧ MadeK s O M T F nT nF way prs blk

theorem mvsOr_kind (s : ByteArray) (h : goodL s = true) : mvsOr (canM s) s = mvsTo (canM s) s s.size ∧ mvsOr (toadM s) s = mvsTo (kindM true false s) s s.size ∧ mvsOr (frogM s) s = mvsTo (kindM false true s) s s.size := by
  refine ⟨?_, ?_, ?_⟩
  · unfold mvsOr; rw [if_pos h]
  · unfold mvsOr; rw [if_pos h]; exact (mvsTo_eq _ _ s (kind_toad s) _).symm
  · unfold mvsOr; rw [if_pos h]; exact (mvsTo_eq _ _ s (kind_frog s) _).symm

theorem made_answers (s : ByteArray) : ∃ (b blk : Bool) (M T F : List (Int × Int)) (nT nF : Nat) (way prs : Int) (O : ByteArray),
    Hid (goodL s = b) ∧ Hid (mvsOr (canM s) s = M) ∧ Hid (mvsOr (toadM s) s = T) ∧ Hid (mvsOr (frogM s) s = F) ∧
    Hid (M.length = nT + nF) ∧ Hid (T.length = nT) ∧ Hid (F.length = nF) ∧ nT + nF ≤ 24 ∧
    Hid (intOr (goodL s) (wayL (byt s)) = .tuple #[.int .i64 way, .bool b]) ∧ Hid (intOr (goodL s) (pairSt (byt s)).1 = .tuple #[.int .i64 prs, .bool b]) ∧
    Hid (boolOr (goodL s) ((mvsOr (canM s) s).length == 0) = .tuple #[.bool blk, .bool b]) ∧ Hid (strOr (goodL s) (otherL (byt s)) = .tuple #[.string O, .bool b]) ∧
    MadeCase s O M T F nT nF way prs blk b := by
  cases h : goodL s
  · have e : ∀ wd, mvsOr wd s = [] := fun wd => by unfold mvsOr; rw [h]; rfl
    refine ⟨false, false, [], [], [], 0, 0, 0, 0, str [], rfl, e _, e _, e _, rfl, rfl, rfl, by omega, ?_, ?_, ?_, ?_, .inl rfl⟩
    · show _ = _; rfl
    · show _ = _; rfl
    · show _ = _; rfl
    · show _ = _; rfl
  · obtain ⟨e1, e2, e3⟩ := mvsOr_kind s h
    obtain ⟨h1, h12, hall⟩ := (goodL_iff s).1 h
    have hlen := byt_len s
    have l1 := mvsTo_le (kindM true false s) s s.size
    have l2 := mvsTo_le (kindM false true s) s s.size
    have hw : wayL (byt s) ≤ 50000 := by
      rw [← wayAt_all _ hall]
      exact (wayAt_small _ _ (by omega) (by omega)).2
    have hp : (pairSt (byt s)).1 ≤ 144 := by
      have := (pairSt_le (byt s)).2
      have h2 : (byt s).length * (byt s).length ≤ 12 * 12 := Nat.mul_le_mul (by omega) (by omega)
      omega
    refine ⟨true, ((mvsOr (canM s) s).length == 0), _, _, _, _, _, _, _, _, rfl, e1, e2, e3, mvs_two s s.size, rfl, rfl, by omega, ?_, ?_, ?_, ?_, .inr ⟨rfl, h, rfl, rfl, rfl, rfl, rfl, rfl, ?_, ⟨wayL_pos _ hall, hw⟩, by omega, by omega⟩⟩
    · show _ = _; rfl
    · show _ = _; rfl
    · show _ = _; rfl
    · show _ = _; rfl
    · rw [e1, mvs_two s s.size]

/-- What is known of one move of them. -/
structure RoundK (s : ByteArray) (T F Mr : List (Int × Int)) (way prs a b : Int) (nx : ByteArray) (J : Bool) : Prop where
  can : Hid (boolOr (goodL s) (canM s a b) = .tuple #[.bool true, .bool true])
  made : Hid (strOr (goodL s && canM s a b) (behind s a b) = .tuple #[.string nx, .bool true])
  jump : Hid (boolOr (goodL s && canM s a b) (jumpM a b) = .tuple #[.bool J, .bool true])
  way : Hid (intOr (goodL nx) (wayL (byt nx)) = .tuple #[.int .i64 (way - if J then 2 else 1), .bool true])
  prs : Hid (intOr (goodL nx) (pairSt (byt nx)).1 = .tuple #[.int .i64 (prs - if J then 1 else 0), .bool true])
  inT : Hid (decide ((a, b) ∈ T) = decide (a < b))
  inF : Hid (decide ((a, b) ∈ F) = !decide (a < b))
  inR : Hid (decide (((s.size : Int) - 1 - a, (s.size : Int) - 1 - b) ∈ Mr) = true)
  size : nx.size ≤ maxLen
  a0 : 0 ≤ a ∧ a < s.size
  b0 : 0 ≤ b ∧ b < s.size

theorem round_known {s O : ByteArray} {M T F : List (Int × Int)} {nT nF : Nat} {way prs : Int} {blk : Bool} (h : MadeK s O M T F nT nF way prs blk) (k : Nat) (hk : k < M.length) :
    ∃ nx J, RoundK s T F (mvsOr (canM O) O) way prs M[k].1 M[k].2 nx J := by
  obtain ⟨hg, eM, eT, eF, ew, ep, eO, _, _, _⟩ := h
  obtain ⟨h1, h12, hall⟩ := (goodL_iff s).1 hg
  have hm : M[k] ∈ M := List.getElem_mem hk
  generalize M[k] = q at hm
  obtain ⟨a, b⟩ := q
  rw [eM, mem_moves] at hm
  have hk := kind_side hm
  obtain ⟨x, y, e1, e2, hx, hy, _⟩ := canM_in hm
  have gO : goodL O = true := by rw [eO]; exact other_good hg
  have hbg := behind_good hg hm
  refine ⟨str (behind s a b), jumpM a b, ?_, ?_, ?_, ?_, ?_, ?_, ?_, ?_, ?_, by omega, by omega⟩
  · show _ = _; rw [hg, hm]; rfl
  · show _ = _; rw [hg, hm]; rfl
  · show _ = _; rw [hg, hm]; rfl
  · show _ = _; rw [intOr_yes _ _ hbg, byt_str, way_behind hall hm, ew]
  · show _ = _
    rw [intOr_yes _ _ hbg, byt_str, ep]
    have := pairs_behind hm
    cases hj : jumpM a b
    · rw [hj] at this
      simp at this ⊢
      omega
    · rw [hj] at this
      simp at this ⊢
      omega
  · show _ = _
    rw [eT, ← hk.1, Bool.eq_iff_iff, decide_eq_true_eq, mem_kind]
  · show _ = _
    rw [eF, ← hk.2, Bool.eq_iff_iff, decide_eq_true_eq, mem_kind]
  · show _ = _
    rw [decide_eq_true_eq]
    have e : mvsOr (canM O) O = mvsTo (canM O) O O.size := by unfold mvsOr; rw [if_pos gO]
    rw [e, mem_moves, eO, canM_other hall]
    exact hm
  · rw [str_size, behind_len]; unfold maxLen; omega

/-- What is known of the line from the other side. -/
structure OtherK (s O : ByteArray) (nM : Nat) (way : Int) : Prop where
  good : Hid (goodL O = true)
  len : Hid ((mvsOr (canM O) O).length = nM)
  back : Hid (strOr (goodL O) (otherL (byt O)) = .tuple #[.string s, .bool true])
  way : Hid (intOr (goodL O) (wayL (byt O)) = .tuple #[.int .i64 way, .bool true])
  size : O.size ≤ maxLen
theorem other_known {s O : ByteArray} {M T F : List (Int × Int)} {nT nF : Nat} {way prs : Int} {blk : Bool} (h : MadeK s O M T F nT nF way prs blk) : OtherK s O M.length way := by
  obtain ⟨hg, eM, eT, eF, ew, ep, eO, _, _, _⟩ := h
  obtain ⟨h1, h12, hall⟩ := (goodL_iff s).1 hg
  have gO : goodL O = true := by rw [eO]; exact other_good hg
  refine ⟨gO, ?_, ?_, ?_, ?_⟩
  · show _ = _
    have e : mvsOr (canM O) O = mvsTo (canM O) O O.size := by unfold mvsOr; rw [if_pos gO]
    rw [e, eO, other_size, mvs_other hall, eM]
  · show _ = _
    rw [strOr_yes _ _ gO, eO, byt_str, otherL_twice _ hall, str_byt]
  · show _ = _
    rw [intOr_yes _ _ gO, eO, byt_str, wayL_other _ hall, ew]
  · rw [eO, other_size]; unfold maxLen; omega
theorem rises_of {s O : ByteArray} {M T F : List (Int × Int)} {nT nF : Nat} {way prs : Int} {blk : Bool} (h : MadeK s O M T F nT nF way prs blk) : Rises M := by
  rw [h.eM]
  exact mvs_up _ s s.size
end Go.Proofs.Yticdhapbkfbhjab
