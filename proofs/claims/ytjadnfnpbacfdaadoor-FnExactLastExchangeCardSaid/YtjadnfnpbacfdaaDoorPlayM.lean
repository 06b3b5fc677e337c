/- Plain facts: lines behind moves, and plays cut short. -/
import Derived.Test.YtjadnfnpbacfdaaDoorWalkP
import Derived.Test.YtjadnfnpbacfdaaDoorWay
namespace Go.Proofs.YtjadnfnpbacfdaaDoor
open Go.RowKit

theorem all_set (l : List UInt8) (k : Nat) (c : UInt8) (h : l.all isSign = true) (hc : isSign c = true) : (l.set k c).all isSign = true := by
  rw [List.all_eq_true] at h ⊢
  intro x hx
  rcases List.mem_or_eq_of_mem_set hx with h1 | rfl
  · exact h x h1
  · exact hc
/-- What a move leaves is a line. -/
theorem behind_all {s : ByteArray} {f t : Int} (h : (byt s).all isSign = true) (hc : canM s f t = true) : (behind s f t).all isSign = true := by
  obtain ⟨a, b, rfl, rfl, ha, hb, _⟩ := canM_in hc
  show (((byt s).set b ((byt s).getD a 0)).set a 46).all isSign = true
  refine all_set _ _ _ (all_set _ _ _ h ?_) (by decide)
  have hl : a < (byt s).length := by rw [byt_len]; exact ha
  rw [List.getD_eq_getElem?_getD, List.getElem?_eq_getElem hl]
  exact List.all_eq_true.1 h _ (List.getElem_mem hl)
theorem behind_good {s : ByteArray} {f t : Int} (h : goodL s = true) (hc : canM s f t = true) : goodL (str (behind s f t)) = true := by
  obtain ⟨h1, h2, h3⟩ := (goodL_iff s).1 h
  refine (goodL_iff _).2 ⟨?_, ?_, ?_⟩
  · rw [str_size, behind_len]; exact h1
  · rw [str_size, behind_len]; exact h2
  · rw [byt_str]; exact behind_all h3 hc

/-- A play's line is a line; the moves that can be made can all be made; the next cannot. -/
theorem playS_good (l : List (Int × Int)) : ∀ s, goodL s = true → goodL (playS s l).1 = true := by
  induction l with
  | nil => intro s h; exact h
  | cons p r ih =>
    intro s h
    rw [playS]
    split
    · rename_i hc; exact ih _ (behind_good h hc)
    · exact h
theorem playS_size (l : List (Int × Int)) : ∀ s, (playS s l).1.size = s.size := by
  induction l with
  | nil => intro s; rfl
  | cons p r ih =>
    intro s
    rw [playS]
    split
    · show (playS (str (behind s p.1 p.2)) r).1.size = s.size
      rw [ih, str_size, behind_len]
    · rfl
theorem playS_take (l : List (Int × Int)) : ∀ s, playS s (l.take (playS s l).2) = playS s l := by
  induction l with
  | nil => intro s; rfl
  | cons p r ih =>
    intro s
    by_cases hc : canM s p.1 p.2 = true
    · have e : playS s (p :: r) = ((playS (str (behind s p.1 p.2)) r).1, (playS (str (behind s p.1 p.2)) r).2 + 1) := by rw [playS, if_pos hc]
      rw [e, List.take_succ_cons, playS, if_pos hc, ih]
    · have e : playS s (p :: r) = (s, 0) := by rw [playS, if_neg hc]
      rw [e]; rfl
theorem playS_fails (l : List (Int × Int)) : ∀ s, (h : (playS s l).2 < l.length) → canM (playS s l).1 l[(playS s l).2].1 l[(playS s l).2].2 = false := by
  induction l with
  | nil => intro s h; simp at h
  | cons p r ih =>
    intro s
    by_cases hc : canM s p.1 p.2 = true
    · have e : playS s (p :: r) = ((playS (str (behind s p.1 p.2)) r).1, (playS (str (behind s p.1 p.2)) r).2 + 1) := by rw [playS, if_pos hc]
      rw [e]
      intro h
      exact ih (str (behind s p.1 p.2)) (by simpa using h)
    · have e : playS s (p :: r) = (s, 0) := by rw [playS, if_neg hc]
      rw [e]
      intro _
      exact Bool.eq_false_iff.2 hc
/-- Step by step to the same end. -/
theorem playS_all_step (s : ByteArray) (l : List (Int × Int)) (k : Nat) (h : k < l.length) (ha : (playS s (l.drop k)).2 = l.length - k) :
    canM s l[k].1 l[k].2 = true ∧ (playS (str (behind s l[k].1 l[k].2)) (l.drop (k + 1))).2 = l.length - (k + 1) ∧ (playS s (l.drop k)).1 = (playS (str (behind s l[k].1 l[k].2)) (l.drop (k + 1))).1 := by
  by_cases hc : canM s l[k].1 l[k].2 = true
  · rw [playS_step s l k h hc] at ha ⊢
    refine ⟨hc, ?_, rfl⟩
    simp only at ha
    omega
  · rw [playS_stop s l k h (Bool.eq_false_iff.2 hc)] at ha
    simp only at ha
    omega

/-- The same animals behind a move. -/
theorem cnt_set (c d : UInt8) (l : List UInt8) : ∀ k, (h : k < l.length) → cnt c (l.set k d) + (if l[k] = c then 1 else 0) = cnt c l + (if d = c then 1 else 0) := by
  induction l with
  | nil => intro k h; simp at h
  | cons e r ih =>
    intro k h
    cases k with
    | zero =>
      rw [List.set_cons_zero, cnt_cons, cnt_cons]
      simp only [List.getElem_cons_zero]
      omega
    | succ k =>
      have := ih k (by simpa using h)
      rw [List.set_cons_succ, cnt_cons, cnt_cons]
      simp only [List.getElem_cons_succ]
      omega
theorem behind_cnt {s : ByteArray} {f t : Int} (c : UInt8) (hc : canM s f t = true) : cnt c (behind s f t) = cnt c (byt s) := by
  have h46 : sgAt s t = 46 := ((canM_iff s f t).1 hc).2.2.1
  obtain ⟨a, b, rfl, rfl, ha, hb, hne⟩ := canM_in hc
  show cnt c (((byt s).set b ((byt s).getD a 0)).set a 46) = cnt c (byt s)
  have hla : a < (byt s).length := by rw [byt_len]; exact ha
  have hlb : b < (byt s).length := by rw [byt_len]; exact hb
  have hgb : (byt s)[b] = 46 := by rw [sgAt_in s b hb] at h46; exact h46
  have hga : (byt s).getD a 0 = (byt s)[a] := by rw [List.getD_eq_getElem?_getD, List.getElem?_eq_getElem hla]; rfl
  have e1 := cnt_set c ((byt s).getD a 0) (byt s) b hlb
  have e2 := cnt_set c 46 ((byt s).set b ((byt s).getD a 0)) a (by simpa using hla)
  have e3 : ((byt s).set b ((byt s).getD a 0))[a]'(by simpa using hla) = (byt s)[a] := List.getElem_set_ne (by omega) _
  rw [e3] at e2
  rw [hgb] at e1
  rw [hga] at e1 e2 ⊢
  omega
end Go.Proofs.YtjadnfnpbacfdaaDoor
