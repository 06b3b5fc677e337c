/- Plain facts: the way and the pairs behind a move. -/
import Derived.Test.YtjadnfnpbacfdaaDoorMade
namespace Go.Proofs.YtjadnfnpbacfdaaDoor
open Go.RowKit

/-- A move shortens the way by its cells. -/
theorem way_behind {s : ByteArray} {f t : Int} (hg : (byt s).all isSign = true) (hc : canM s f t = true) : wayL (behind s f t) = wayL (byt s) - (if jumpM f t then 2 else 1) := by
  have hall := behind_all hg hc
  have c84 := behind_cnt 84 hc
  have c70 := behind_cnt 70 hc
  have hS := (canM_iff s f t).1 hc
  obtain ⟨a, b, rfl, rfl, ha, hb, hne⟩ := canM_in hc
  obtain ⟨_, _, h46, hx⟩ := hS
  rw [sgAt_in s a ha] at hx
  rw [sgAt_in s b hb] at h46
  have hla : a < (byt s).length := by rw [byt_len]; exact ha
  have hlb : b < (byt s).length := by rw [byt_len]; exact hb
  have hga : (byt s)[a] = (s[a]'ha) := rfl
  have hgb : (byt s)[b] = 46 := h46
  have hget : (byt s).getD a 0 = (s[a]'ha) := by rw [List.getD_eq_getElem?_getD, List.getElem?_eq_getElem hla]; rfl
  have e : ∀ c, sumP c 0 (behind s a b) + (if (s[a]'ha) = c then a else 0) + (if (46 : UInt8) = c then b else 0) = sumP c 0 (byt s) + (if (s[a]'ha) = c then b else 0) + (if (46 : UInt8) = c then a else 0) := by
    intro c
    have e1 := sumP_set c (s[a]'ha) (byt s) b 0 hlb
    have e2 := sumP_set c 46 ((byt s).set b (s[a]'ha)) a 0 (by simpa using hla)
    have e3 : ((byt s).set b (s[a]'ha))[a]'(by simpa using hla) = (s[a]'ha) := (List.getElem_set_ne (by omega) _).trans hga
    rw [e3] at e2
    rw [hgb] at e1
    have e4 : behind s a b = ((byt s).set b (s[a]'ha)).set a 46 := by
      show ((byt s).set b ((byt s).getD a 0)).set a 46 = _
      rw [hget]
    rw [e4]
    simp only [Nat.zero_add] at e1 e2
    omega
  have e84 := e 84
  have e70 := e 70
  have hlen : (behind s a b).length = (byt s).length := by rw [behind_len, byt_len]
  unfold wayL
  rw [last84 _ hall, last70, last84 _ hg, last70, c84, c70, hlen, sumSt_P, sumSt_P, sumSt_P, sumSt_P]
  rcases hx with ⟨hx, h2⟩ | ⟨hx, h2⟩
  · rw [hx] at e84 e70
    simp at e84 e70
    rcases h2 with h2 | ⟨h2, _⟩
    · have : jumpM a b = false := by simp [jumpM]; omega
      rw [this]; simp; omega
    · have : jumpM a b = true := by simp [jumpM]; omega
      rw [this]; simp; omega
  · rw [hx] at e84 e70
    simp at e84 e70
    rcases h2 with h2 | ⟨h2, _⟩
    · have : jumpM a b = false := by simp [jumpM]; omega
      rw [this]; simp; omega
    · have : jumpM a b = true := by simp [jumpM]; omega
      rw [this]; simp; omega

/-- The pairs, gathered behind t toads. -/
def prs (t : Nat) : List UInt8 → Nat
  | [] => 0
  | d :: l => if d = 84 then prs (t + 1) l else if d = 70 then t + prs t l else prs t l
theorem fold_prs : ∀ (l : List UInt8) (c t : Nat), (l.foldl pairStep (c, t)).1 = c + prs t l
  | [], c, t => rfl
  | d :: l, c, t => by
    rw [List.foldl_cons, prs]
    by_cases h : d = 84
    · rw [pairStep, if_pos h, if_pos h, fold_prs l]
    · rw [pairStep, if_neg h, if_neg h]
      by_cases h2 : d = 70
      · rw [if_pos h2, if_pos h2, fold_prs l]; show c + t + prs t l = _; omega
      · rw [if_neg h2, if_neg h2, fold_prs l]
theorem pairSt_prs (l : List UInt8) : (pairSt l).1 = prs 0 l := by
  unfold pairSt
  rw [fold_prs]; omega
theorem prs_cons (d : UInt8) (l m : List UInt8) (k : Nat) (h : ∀ t, prs t m + k = prs t l) : ∀ t, prs t (d :: m) + k = prs t (d :: l) := by
  intro t
  have h1 := h t
  have h2 := h (t + 1)
  rw [prs, prs]
  split
  · exact h2
  · split
    · omega
    · exact h1
theorem prs_toad_slide : ∀ (a : Nat) (l : List UInt8) (h : a + 1 < l.length), l[a] = 84 → l[a + 1] = 46 → ∀ t, prs t ((l.set (a + 1) 84).set a 46) + 0 = prs t l
  | 0, x :: y :: r, _, h1, h2 => by
    simp at h1 h2; subst h1; subst h2
    intro t; simp [prs]
  | a + 1, x :: l, h, h1, h2 => by
    simp only [List.set_cons_succ]
    exact prs_cons x _ _ 0 (prs_toad_slide a l (by simpa using h) (by simpa using h1) (by simpa using h2))
  | 0, [x], h, _, _ => by simp at h
theorem prs_frog_slide : ∀ (a : Nat) (l : List UInt8) (h : a + 1 < l.length), l[a] = 46 → l[a + 1] = 70 → ∀ t, prs t ((l.set a 70).set (a + 1) 46) + 0 = prs t l
  | 0, x :: y :: r, _, h1, h2 => by
    simp at h1 h2; subst h1; subst h2
    intro t; simp [prs]
  | a + 1, x :: l, h, h1, h2 => by
    simp only [List.set_cons_succ]
    exact prs_cons x _ _ 0 (prs_frog_slide a l (by simpa using h) (by simpa using h1) (by simpa using h2))
  | 0, [x], h, _, _ => by simp at h
theorem prs_toad_jump : ∀ (a : Nat) (l : List UInt8) (h : a + 2 < l.length), l[a] = 84 → l[a + 1] = 70 → l[a + 2] = 46 → ∀ t, prs t ((l.set (a + 2) 84).set a 46) + 1 = prs t l
  | 0, x :: y :: z :: r, _, h1, h2, h3 => by
    simp at h1 h2 h3; subst h1; subst h2; subst h3
    intro t; simp [prs]; omega
  | a + 1, x :: l, h, h1, h2, h3 => by
    simp only [List.set_cons_succ]
    exact prs_cons x _ _ 1 (prs_toad_jump a l (by simp at h; omega) (by simpa using h1) (by simpa using h2) (by simpa using h3))
  | 0, [x], h, _, _, _ => by simp at h
  | 0, [x, y], h, _, _, _ => by simp at h
theorem prs_frog_jump : ∀ (a : Nat) (l : List UInt8) (h : a + 2 < l.length), l[a] = 46 → l[a + 1] = 84 → l[a + 2] = 70 → ∀ t, prs t ((l.set a 70).set (a + 2) 46) + 1 = prs t l
  | 0, x :: y :: z :: r, _, h1, h2, h3 => by
    simp at h1 h2 h3; subst h1; subst h2; subst h3
    intro t; simp [prs]; omega
  | a + 1, x :: l, h, h1, h2, h3 => by
    simp only [List.set_cons_succ]
    exact prs_cons x _ _ 1 (prs_frog_jump a l (by simp at h; omega) (by simpa using h1) (by simpa using h2) (by simpa using h3))
  | 0, [x], h, _, _, _ => by simp at h
  | 0, [x, y], h, _, _, _ => by simp at h

/-- A jump passes one pair, a slide none. -/
theorem pairs_behind {s : ByteArray} {f t : Int} (hc : canM s f t = true) : (pairSt (behind s f t)).1 + (if jumpM f t then 1 else 0) = (pairSt (byt s)).1 := by
  have hS := (canM_iff s f t).1 hc
  obtain ⟨a, b, rfl, rfl, ha, hb, hne⟩ := canM_in hc
  obtain ⟨_, _, h46, hx⟩ := hS
  have hla : a < (byt s).length := by rw [byt_len]; exact ha
  have hlb : b < (byt s).length := by rw [byt_len]; exact hb
  rw [sgAt_in s b hb] at h46
  have hget : (byt s).getD a 0 = (s[a]'ha) := by rw [List.getD_eq_getElem?_getD, List.getElem?_eq_getElem hla]; rfl
  have e4 : behind s a b = ((byt s).set b (s[a]'ha)).set a 46 := by
    show ((byt s).set b ((byt s).getD a 0)).set a 46 = _
    rw [hget]
  rw [e4, pairSt_prs, pairSt_prs]
  rw [sgAt_in s a ha] at hx
  rcases hx with ⟨hx, h2⟩ | ⟨hx, h2⟩
  · rw [hx]
    rcases h2 with h2 | ⟨h2, h3⟩
    · have hj : jumpM a b = false := by simp [jumpM]; omega
      obtain rfl : b = a + 1 := by omega
      rw [hj]
      exact prs_toad_slide a (byt s) hlb hx h46 0
    · have hj : jumpM a b = true := by simp [jumpM]; omega
      obtain rfl : b = a + 2 := by omega
      rw [hj]
      have hm : a + 1 < s.size := by omega
      have h3' : sgAt s ((a + 1 : Nat) : Int) = 70 := by simpa using h3
      rw [sgAt_in s (a + 1) hm] at h3'
      exact prs_toad_jump a (byt s) hlb hx h3' h46 0
  · rw [hx]
    rcases h2 with h2 | ⟨h2, h3⟩
    · have hj : jumpM a b = false := by simp [jumpM]; omega
      obtain rfl : a = b + 1 := by omega
      rw [hj]
      exact prs_frog_slide b (byt s) hla h46 hx 0
    · have hj : jumpM a b = true := by simp [jumpM]; omega
      obtain rfl : a = b + 2 := by omega
      rw [hj]
      have hm : b + 1 < s.size := by omega
      have h3' : sgAt s ((b + 1 : Nat) : Int) = 84 := by
        have : ((b + 2 : Nat) : Int) + -1 = ((b + 1 : Nat) : Int) := by omega
        rw [this] at h3; exact h3
      rw [sgAt_in s (b + 1) hm] at h3'
      exact prs_frog_jump b (byt s) hla h46 h3' hx 0
end Go.Proofs.YtjadnfnpbacfdaaDoor
