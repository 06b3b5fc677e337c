/- The walks of the laws on all moves of a line. -/
import Derived.Test.YtfiifjcjmnhbnaaDoorMoves
import Derived.Test.YtfiifjcjmnhbnaaDoorPlay
import Derived.Test.YtfiifjcjmnhbnaaDoorMany
namespace Go.Proofs.YtfiifjcjmnhbnaaDoor
open Go.RowKit

theorem kind_all (s : ByteArray) (f t : Int) : kindM true true s f t = canM s f t := by simp [kindM]
theorem can_sign {s : ByteArray} {f t : Int} (h : canM s f t = true) : sgAt s f = 84 ∨ sgAt s f = 70 := by
  obtain ⟨_, _, _, ⟨h, _⟩ | ⟨h, _⟩⟩ := (canM_iff s f t).1 h
  · exact .inl h
  · exact .inr h
theorem kind_toad (s : ByteArray) (f t : Int) : kindM true false s f t = toadM s f t := by
  unfold kindM toadM
  cases h : canM s f t
  · rfl
  · rcases can_sign h with h1 | h1 <;> simp [h1]
theorem kind_frog (s : ByteArray) (f t : Int) : kindM false true s f t = frogM s f t := by
  unfold kindM frogM
  cases h : canM s f t
  · rfl
  · rcases can_sign h with h1 | h1 <;> simp [h1]
theorem mvsTo_eq (a b : Int → Int → Bool) (s : ByteArray) (h : ∀ f t, a f t = b f t) : ∀ k, mvsTo a s k = mvsTo b s k
  | 0 => rfl
  | k + 1 => by rw [mvsTo, mvsTo, mvsTo_eq a b s h k, h]

/-- The answer: a list of moves in memory of the call's own, or none. -/
def MvAns (w : World) (c : Bool) (l : List (Int × Int)) (e : Ending) (w' : World) : Prop :=
  ∃ v, e = .returned (.tuple #[v, .bool c]) ∧ w'.ownsRow w.heap.size 55 2 v l.length (flat l) ∧ Below w.heap.size w w'
def mvsOr (wd : Int → Int → Bool) (s : ByteArray) : List (Int × Int) := if goodL s then mvsTo wd s s.size else []
theorem mvsOr_le (wd : Int → Int → Bool) (s : ByteArray) : (mvsOr wd s).length ≤ 12 := by
  unfold mvsOr
  cases h : goodL s
  · simp
  · have := ((goodL_iff s).1 h).2.1
    have := mvsTo_le wd s s.size
    simp
    omega

set_option maxHeartbeats 1000000 in
theorem movesOf_any (s : ByteArray) (w : World) (hs : s.size ≤ maxLen) :
    Calls Tryd.prog 58 #[.string s] w (MvAns w (goodL s) (mvsOr (canM s) s)) := by
  cases hc : goodL s
  · have hC := Lib.hid hc
    have hR : Hid (mvsOr (canM s) s = []) := by show _ = _; unfold mvsOr; rw [hc]; rfl
    clear hc
    go_enter Tryd.func58, Tryd.ntmps58
    go_wp2_with (first | (go_at_call 69; go_in) | (go_at_call 54; refine (isLine_any _ _ hs).mono ?_; rintro e w' ⟨rfl, rfl⟩; rw [hC.out]))
    go_ret2
    exact ⟨_, rfl, by rw [hR.out]; exact World.ownsRow_nil _ _ _ _, Below.refl _ _⟩
  · have hR : Hid (mvsOr (canM s) s = mvsTo (canM s) s s.size) := by show _ = _; unfold mvsOr; rw [hc]; rfl
    go_enter Tryd.func58, Tryd.ntmps58
    go_wp2_with fail
    refine (movesWhere_can s _ hc hs).mono ?_
    rintro e w1 ⟨v, rfl, ho, hb⟩
    have HO := Lib.hid ho
    clear ho hc
    go_wp2
    go_ret2
    exact ⟨_, rfl, by rw [hR.out]; exact HO.out, hb⟩

end Go.Proofs.YtfiifjcjmnhbnaaDoor
namespace Go.Proofs.YtfiifjcjmnhbnaaDoor
open Go.RowKit

theorem mem_mvs (wd : Int → Int → Bool) (s : ByteArray) : ∀ (n : Nat) (p : Int × Int), p ∈ mvsTo wd s n ↔ ∃ k : Nat, k < n ∧ p = ((k : Int), mvTo s k) ∧ wd k (mvTo s k) = true
  | 0, p => by simp [mvsTo]
  | n + 1, p => by
    rw [mvsTo, List.mem_append, mem_mvs wd s n p]
    constructor
    · rintro (⟨k, h1, h2, h3⟩ | h)
      · exact ⟨k, by omega, h2, h3⟩
      · split at h
        · rename_i hw
          exact ⟨n, by omega, by simpa using h, hw⟩
        · simp at h
    · rintro ⟨k, h1, h2, h3⟩
      by_cases hk : k = n
      · subst hk
        right
        rw [if_pos h3, h2]; simp
      · exact .inl ⟨k, by omega, h2, h3⟩
theorem mem_moves (s : ByteArray) (f t : Int) : (f, t) ∈ mvsTo (canM s) s s.size ↔ canM s f t = true := by
  rw [mem_mvs]
  constructor
  · rintro ⟨k, _, h2, h3⟩
    injection h2 with e1 e2
    rw [e1, e2]; exact h3
  · intro h
    obtain ⟨a, b, rfl, rfl, ha, hb, _⟩ := canM_in h
    have ht : (b : Int) = mvTo s a := by
      have h2 := h
      unfold canM at h2
      rw [Bool.and_eq_true] at h2
      simpa using h2.2
    exact ⟨a, ha, by rw [← ht], by rw [← ht]; exact h⟩
theorem mem_kind (tt ff : Bool) (s : ByteArray) (f t : Int) : (f, t) ∈ mvsTo (kindM tt ff s) s s.size ↔ kindM tt ff s f t = true := by
  rw [mem_mvs]
  constructor
  · rintro ⟨k, _, h2, h3⟩
    injection h2 with e1 e2
    rw [e1, e2]; exact h3
  · intro h
    have hc : canM s f t = true := by
      unfold kindM at h
      rw [Bool.and_eq_true, Bool.and_eq_true] at h
      exact h.1.1
    obtain ⟨k, h1, h2, _⟩ := (mem_mvs _ s _ _).1 ((mem_moves s f t).2 hc)
    injection h2 with e1 e2
    subst e1; subst e2
    exact ⟨k, h1, rfl, h⟩
/-- Each cell has at most one move, and the cells come in order. -/
theorem mvs_below (wd : Int → Int → Bool) (s : ByteArray) (n : Nat) (p : Int × Int) (h : p ∈ mvsTo wd s n) : p.1 < n := by
  obtain ⟨k, h1, rfl, _⟩ := (mem_mvs wd s n p).1 h
  show (k : Int) < n
  omega
theorem mvs_up (wd : Int → Int → Bool) (s : ByteArray) : ∀ (n : Nat) (j : Nat) (h : j + 1 < (mvsTo wd s n).length), (mvsTo wd s n)[j].1 < (mvsTo wd s n)[j + 1].1
  | 0, j, h => by simp [mvsTo] at h
  | n + 1, j, h => by
    by_cases hw : wd n (mvTo s n) = true
    · have e : mvsTo wd s (n + 1) = mvsTo wd s n ++ [((n : Int), mvTo s n)] := by rw [mvsTo, if_pos hw]
      have hl : j + 1 < (mvsTo wd s n).length + 1 := by rw [e] at h; simpa using h
      have e0 : (mvsTo wd s (n + 1))[j] = (mvsTo wd s n)[j] := by simp only [e]; rw [List.getElem_append_left]
      rw [e0]
      by_cases hj : j + 1 < (mvsTo wd s n).length
      · have e1 : (mvsTo wd s (n + 1))[j + 1] = (mvsTo wd s n)[j + 1] := by simp only [e]; rw [List.getElem_append_left hj]
        rw [e1]
        exact mvs_up wd s n j hj
      · have e1 : (mvsTo wd s (n + 1))[j + 1] = ((n : Int), mvTo s n) := by
          simp only [e]
          rw [List.getElem_append_right (by omega)]
          simp
        rw [e1]
        exact mvs_below wd s n _ (List.getElem_mem (by omega))
    · have e : mvsTo wd s (n + 1) = mvsTo wd s n := by rw [mvsTo, if_neg hw, List.append_nil]
      simp only [e] at h ⊢
      exact mvs_up wd s n j h
/-- Moves are those of toads and of frogs. -/
theorem mvs_two (s : ByteArray) : ∀ n, (mvsTo (canM s) s n).length = (mvsTo (kindM true false s) s n).length + (mvsTo (kindM false true s) s n).length
  | 0 => rfl
  | n + 1 => by
    have ih := mvs_two s n
    rw [mvsTo, mvsTo, mvsTo, List.length_append, List.length_append, List.length_append, ih]
    have h : ∀ t, canM s n t = true → (kindM true false s n t = true ∧ kindM false true s n t = false) ∨ (kindM true false s n t = false ∧ kindM false true s n t = true) := by
      intro t hc
      obtain ⟨_, _, _, ⟨h, _⟩ | ⟨h, _⟩⟩ := (canM_iff s n t).1 hc
      · left; simp [kindM, hc, h]
      · right; simp [kindM, hc, h]
    by_cases hc : canM s n (mvTo s n) = true
    · rw [if_pos hc]
      rcases h _ hc with ⟨h1, h2⟩ | ⟨h1, h2⟩
      · rw [h1, h2]; simp; omega
      · rw [h1, h2]; simp; omega
    · have h0 : canM s n (mvTo s n) = false := Bool.eq_false_iff.2 hc
      simp [kindM, h0]
/-- A move is a toad's where it goes right, a frog's where it goes left. -/
theorem kind_side {s : ByteArray} {f t : Int} (hc : canM s f t = true) : kindM true false s f t = decide (f < t) ∧ kindM false true s f t = !decide (f < t) := by
  obtain ⟨_, _, _, ⟨h, h2⟩ | ⟨h, h2⟩⟩ := (canM_iff s f t).1 hc
  · have : f < t := by rcases h2 with h2 | ⟨h2, _⟩ <;> omega
    simp [kindM, hc, h, this]
  · have : ¬ f < t := by rcases h2 with h2 | ⟨h2, _⟩ <;> omega
    simp [kindM, hc, h, this]

/-- The way is never below zero. -/
theorem sum84_le : ∀ (n : Nat) (l : List UInt8), l.length = n → (sumSt 84 l).1 ≤ pl (l.length - cnt 84 l) (cnt 84 l) ∧ pl 0 (cnt 70 l) ≤ (sumSt 70 l).1
  | 0, l, h => by
    obtain rfl : l = [] := by simpa using h
    exact ⟨Nat.zero_le _, Nat.le_refl _⟩
  | n + 1, l, h => by
    have hne : l ≠ [] := by intro e; subst e; simp at h
    obtain ⟨r, c, rfl⟩ : ∃ r c, l = r ++ [c] := ⟨l.dropLast, l.getLast hne, (List.dropLast_concat_getLast hne).symm⟩
    have hr : r.length = n := by simpa using h
    obtain ⟨i1, i2⟩ := sum84_le n r hr
    have l1 := cnt_le 84 r
    have l2 := cnt_le 70 r
    have s1 := (sumSt_le 84 r).1
    have s2 := (sumSt_le 70 r).1
    rw [sumSt_snoc, sumSt_snoc, cnt_snoc, cnt_snoc, List.length_append, List.length_singleton]
    have q : ∀ b m, pl (b + 1) m = pl b m + m := by
      intro b m
      rw [pl_move (b + 1) m, pl_move b m, Nat.add_mul]; omega
    constructor
    · by_cases hc : c = 84
      · rw [sumStep, if_pos hc, if_pos hc, pl, s1]
        have : r.length + 1 - (cnt 84 r + 1) = r.length - cnt 84 r := by omega
        rw [this]
        show (sumSt 84 r).1 + r.length ≤ _
        omega
      · rw [sumStep, if_neg hc, if_neg hc]
        simp only [Nat.add_zero]
        rw [show r.length + 1 - cnt 84 r = r.length - cnt 84 r + 1 by omega, q]
        show (sumSt 84 r).1 ≤ _
        omega
    · by_cases hc : c = 70
      · rw [sumStep, if_pos hc, if_pos hc, pl, s2]
        show _ ≤ (sumSt 70 r).1 + r.length
        omega
      · rw [sumStep, if_neg hc, if_neg hc, Nat.add_zero]
        exact i2
theorem wayL_pos (l : List UInt8) (h : l.all isSign = true) : 0 ≤ wayL l := by
  obtain ⟨a, b⟩ := sum84_le _ l rfl
  unfold wayL
  rw [last84 l h, last70 l]
  omega

/-- Where the animals stand, gathered from any cell on. -/
def sumP (c : UInt8) (i : Nat) : List UInt8 → Nat
  | [] => 0
  | d :: l => (if d = c then i else 0) + sumP c (i + 1) l
theorem fold_sumP (c : UInt8) : ∀ (l : List UInt8) (a i : Nat), l.foldl (sumStep c) (a, i) = (a + sumP c i l, i + l.length)
  | [], a, i => by simp [sumP]
  | d :: l, a, i => by
    rw [List.foldl_cons, sumP]
    by_cases h : d = c
    · rw [sumStep, if_pos h, if_pos h, fold_sumP c l]; simp; omega
    · rw [sumStep, if_neg h, if_neg h, fold_sumP c l]; simp; omega
theorem sumSt_P (c : UInt8) (l : List UInt8) : (sumSt c l).1 = sumP c 0 l := by
  unfold sumSt
  rw [fold_sumP]; simp
theorem sumP_app (c : UInt8) : ∀ (l m : List UInt8) (i : Nat), sumP c i (l ++ m) = sumP c i l + sumP c (i + l.length) m
  | [], m, i => by simp [sumP]
  | d :: l, m, i => by
    rw [List.cons_append, sumP, sumP, sumP_app c l m, List.length_cons, show i + 1 + l.length = i + (l.length + 1) by omega]; omega
theorem sumP_set (c d : UInt8) : ∀ (l : List UInt8) (k i : Nat) (h : k < l.length), sumP c i (l.set k d) + (if l[k] = c then i + k else 0) = sumP c i l + (if d = c then i + k else 0)
  | [], k, i, h => by simp at h
  | e :: r, 0, i, h => by
    rw [List.set_cons_zero, sumP, sumP]
    simp only [List.getElem_cons_zero, Nat.add_zero]
    omega
  | e :: r, k + 1, i, h => by
    have := sumP_set c d r k (i + 1) (by simpa using h)
    rw [List.set_cons_succ, sumP, sumP]
    simp only [List.getElem_cons_succ]
    rw [show i + (k + 1) = i + 1 + k by omega]
    omega
end Go.Proofs.YtfiifjcjmnhbnaaDoor
namespace Go.Proofs.YtfiifjcjmnhbnaaDoor
open Go.RowKit

/-- A move shortens the way by its cells. -/
theorem way_behind {s : ByteArray} {f t : Int} (hg : (byt s).all isSign = true) (hc : canM s f t = true) : wayL (behind s f t) = wayL (byt s) - (if jumpM f t then 2 else 1) := by
  have hall := behind_all hg hc
  have c84 := behind_cnt 84 hc
  have c70 := behind_cnt 70 hc
  have hS := (canM_iff s f t).1 hc
  obtain ⟨a, b, rfl, rfl, ha, hb, hne⟩ := canM_in hc
  obtain ⟨_, _, h46, hx⟩ := hS
  rw [sgAt_in s a ha] at hx
  rw [sgAt_in s b hb] at h46
  have hla : a < (byt s).length := by rw [byt_len]; exact ha
  have hlb : b < (byt s).length := by rw [byt_len]; exact hb
  have hga : (byt s)[a] = (s[a]'ha) := rfl
  have hgb : (byt s)[b] = 46 := h46
  have hget : (byt s).getD a 0 = (s[a]'ha) := by rw [List.getD_eq_getElem?_getD, List.getElem?_eq_getElem hla]; rfl
  have e : ∀ c, sumP c 0 (behind s a b) + (if (s[a]'ha) = c then a else 0) + (if (46 : UInt8) = c then b else 0) = sumP c 0 (byt s) + (if (s[a]'ha) = c then b else 0) + (if (46 : UInt8) = c then a else 0) := by
    intro c
    have e1 := sumP_set c (s[a]'ha) (byt s) b 0 hlb
    have e2 := sumP_set c 46 ((byt s).set b (s[a]'ha)) a 0 (by simpa using hla)
    have e3 : ((byt s).set b (s[a]'ha))[a]'(by simpa using hla) = (s[a]'ha) := (List.getElem_set_ne (by omega) _).trans hga
    rw [e3] at e2
    rw [hgb] at e1
    have e4 : behind s a b = ((byt s).set b (s[a]'ha)).set a 46 := by
      show ((byt s).set b ((byt s).getD a 0)).set a 46 = _
      rw [hget]
    rw [e4]
    simp only [Nat.zero_add] at e1 e2
    omega
  have e84 := e 84
  have e70 := e 70
  have hlen : (behind s a b).length = (byt s).length := by rw [behind_len, byt_len]
  unfold wayL
  rw [last84 _ hall, last70, last84 _ hg, last70, c84, c70, hlen, sumSt_P, sumSt_P, sumSt_P, sumSt_P]
  rcases hx with ⟨hx, h2⟩ | ⟨hx, h2⟩
  · rw [hx] at e84 e70
    simp at e84 e70
    rcases h2 with h2 | ⟨h2, _⟩
    · have : jumpM a b = false := by simp [jumpM]; omega
      rw [this]; simp; omega
    · have : jumpM a b = true := by simp [jumpM]; omega
      rw [this]; simp; omega
  · rw [hx] at e84 e70
    simp at e84 e70
    rcases h2 with h2 | ⟨h2, _⟩
    · have : jumpM a b = false := by simp [jumpM]; omega
      rw [this]; simp; omega
    · have : jumpM a b = true := by simp [jumpM]; omega
      rw [this]; simp; omega

/-- The pairs, gathered behind t toads. -/
def prs (t : Nat) : List UInt8 → Nat
  | [] => 0
  | d :: l => if d = 84 then prs (t + 1) l else if d = 70 then t + prs t l else prs t l
theorem fold_prs : ∀ (l : List UInt8) (c t : Nat), (l.foldl pairStep (c, t)).1 = c + prs t l
  | [], c, t => rfl
  | d :: l, c, t => by
    rw [List.foldl_cons, prs]
    by_cases h : d = 84
    · rw [pairStep, if_pos h, if_pos h, fold_prs l]
    · rw [pairStep, if_neg h, if_neg h]
      by_cases h2 : d = 70
      · rw [if_pos h2, if_pos h2, fold_prs l]; show c + t + prs t l = _; omega
      · rw [if_neg h2, if_neg h2, fold_prs l]
theorem pairSt_prs (l : List UInt8) : (pairSt l).1 = prs 0 l := by
  unfold pairSt
  rw [fold_prs]; omega
theorem prs_cons (d : UInt8) (l m : List UInt8) (k : Nat) (h : ∀ t, prs t m + k = prs t l) : ∀ t, prs t (d :: m) + k = prs t (d :: l) := by
  intro t
  have h1 := h t
  have h2 := h (t + 1)
  rw [prs, prs]
  split
  · exact h2
  · split
    · omega
    · exact h1
theorem prs_toad_slide : ∀ (a : Nat) (l : List UInt8) (h : a + 1 < l.length), l[a] = 84 → l[a + 1] = 46 → ∀ t, prs t ((l.set (a + 1) 84).set a 46) + 0 = prs t l
  | 0, x :: y :: r, _, h1, h2 => by
    simp at h1 h2; subst h1; subst h2
    intro t; simp [prs]
  | a + 1, x :: l, h, h1, h2 => by
    simp only [List.set_cons_succ]
    exact prs_cons x _ _ 0 (prs_toad_slide a l (by simpa using h) (by simpa using h1) (by simpa using h2))
  | 0, [x], h, _, _ => by simp at h
theorem prs_frog_slide : ∀ (a : Nat) (l : List UInt8) (h : a + 1 < l.length), l[a] = 46 → l[a + 1] = 70 → ∀ t, prs t ((l.set a 70).set (a + 1) 46) + 0 = prs t l
  | 0, x :: y :: r, _, h1, h2 => by
    simp at h1 h2; subst h1; subst h2
    intro t; simp [prs]
  | a + 1, x :: l, h, h1, h2 => by
    simp only [List.set_cons_succ]
    exact prs_cons x _ _ 0 (prs_frog_slide a l (by simpa using h) (by simpa using h1) (by simpa using h2))
  | 0, [x], h, _, _ => by simp at h
theorem prs_toad_jump : ∀ (a : Nat) (l : List UInt8) (h : a + 2 < l.length), l[a] = 84 → l[a + 1] = 70 → l[a + 2] = 46 → ∀ t, prs t ((l.set (a + 2) 84).set a 46) + 1 = prs t l
  | 0, x :: y :: z :: r, _, h1, h2, h3 => by
    simp at h1 h2 h3; subst h1; subst h2; subst h3
    intro t; simp [prs]; omega
  | a + 1, x :: l, h, h1, h2, h3 => by
    simp only [List.set_cons_succ]
    exact prs_cons x _ _ 1 (prs_toad_jump a l (by simp at h; omega) (by simpa using h1) (by simpa using h2) (by simpa using h3))
  | 0, [x], h, _, _, _ => by simp at h
  | 0, [x, y], h, _, _, _ => by simp at h
theorem prs_frog_jump : ∀ (a : Nat) (l : List UInt8) (h : a + 2 < l.length), l[a] = 46 → l[a + 1] = 84 → l[a + 2] = 70 → ∀ t, prs t ((l.set a 70).set (a + 2) 46) + 1 = prs t l
  | 0, x :: y :: z :: r, _, h1, h2, h3 => by
    simp at h1 h2 h3; subst h1; subst h2; subst h3
    intro t; simp [prs]; omega
  | a + 1, x :: l, h, h1, h2, h3 => by
    simp only [List.set_cons_succ]
    exact prs_cons x _ _ 1 (prs_frog_jump a l (by simp at h; omega) (by simpa using h1) (by simpa using h2) (by simpa using h3))
  | 0, [x], h, _, _, _ => by simp at h
  | 0, [x, y], h, _, _, _ => by simp at h

/-- A jump passes one pair, a slide none. -/
theorem pairs_behind {s : ByteArray} {f t : Int} (hc : canM s f t = true) : (pairSt (behind s f t)).1 + (if jumpM f t then 1 else 0) = (pairSt (byt s)).1 := by
  have hS := (canM_iff s f t).1 hc
  obtain ⟨a, b, rfl, rfl, ha, hb, hne⟩ := canM_in hc
  obtain ⟨_, _, h46, hx⟩ := hS
  have hla : a < (byt s).length := by rw [byt_len]; exact ha
  have hlb : b < (byt s).length := by rw [byt_len]; exact hb
  rw [sgAt_in s b hb] at h46
  have hget : (byt s).getD a 0 = (s[a]'ha) := by rw [List.getD_eq_getElem?_getD, List.getElem?_eq_getElem hla]; rfl
  have e4 : behind s a b = ((byt s).set b (s[a]'ha)).set a 46 := by
    show ((byt s).set b ((byt s).getD a 0)).set a 46 = _
    rw [hget]
  rw [e4, pairSt_prs, pairSt_prs]
  rw [sgAt_in s a ha] at hx
  rcases hx with ⟨hx, h2⟩ | ⟨hx, h2⟩
  · rw [hx]
    rcases h2 with h2 | ⟨h2, h3⟩
    · have hj : jumpM a b = false := by simp [jumpM]; omega
      obtain rfl : b = a + 1 := by omega
      rw [hj]
      exact prs_toad_slide a (byt s) hlb hx h46 0
    · have hj : jumpM a b = true := by simp [jumpM]; omega
      obtain rfl : b = a + 2 := by omega
      rw [hj]
      have hm : a + 1 < s.size := by omega
      have h3' : sgAt s ((a + 1 : Nat) : Int) = 70 := by simpa using h3
      rw [sgAt_in s (a + 1) hm] at h3'
      exact prs_toad_jump a (byt s) hlb hx h3' h46 0
  · rw [hx]
    rcases h2 with h2 | ⟨h2, h3⟩
    · have hj : jumpM a b = false := by simp [jumpM]; omega
      obtain rfl : a = b + 1 := by omega
      rw [hj]
      exact prs_frog_slide b (byt s) hla h46 hx 0
    · have hj : jumpM a b = true := by simp [jumpM]; omega
      obtain rfl : a = b + 2 := by omega
      rw [hj]
      have hm : b + 1 < s.size := by omega
      have h3' : sgAt s ((b + 1 : Nat) : Int) = 84 := by
        have : ((b + 2 : Nat) : Int) + -1 = ((b + 1 : Nat) : Int) := by omega
        rw [this] at h3; exact h3
      rw [sgAt_in s (b + 1) hm] at h3'
      exact prs_frog_jump b (byt s) hla h46 h3' hx 0
end Go.Proofs.YtfiifjcjmnhbnaaDoor
