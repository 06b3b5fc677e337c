/- Games: moves of one player on texts, who wins; no walk. -/
import Derived.Test.YtjnidfleccbdbaaWalkV
import Derived.Test.YtjnidfleccbdbaaSl
namespace Go.Proofs.Ytjnidfleccbdbaa
open Go.RowKit

theorem can_sgn {s : ByteArray} {f t : Int} (h : canM s f t = true) : sgAt s t = 46 ∧ (sgAt s f = 84 ∨ sgAt s f = 70) := by
  obtain ⟨_, _, h46, hh⟩ := (canM_iff _ _ _).1 h
  rcases hh with ⟨h, _⟩ | ⟨h, _⟩ <;> simp [h46, h]
/-- The sign of a player's animals. -/
def kd (tm : Bool) : UInt8 := if tm then 84 else 70
theorem kd_or (tm : Bool) : kd tm = 84 ∨ kd tm = 70 := by cases tm <;> simp [kd]
/-- The moves of a player. -/
def gmW (tm : Bool) (s : ByteArray) (f t : Int) : Bool := canM s f t && decide (sgAt s f = kd tm)
def gmM (tm : Bool) (s : List UInt8) : List (Int × Int) := mvsTo (gmW tm (str s)) (str s) (str s).size
/-- The texts behind them. -/
def nxG (tm : Bool) (s : List UInt8) : List (List UInt8) := (gmM tm s).map fun m => behind (str s) m.1 m.2
theorem mem_gmM {tm : Bool} {s : List UInt8} {f t : Int} : (f, t) ∈ gmM tm s ↔ canM (str s) f t = true ∧ sgAt (str s) f = kd tm := by
  unfold gmM
  rw [mem_mvs]
  constructor
  · rintro ⟨k, _, h2, h3⟩
    injection h2 with e1 e2
    subst e1
    rw [← e2] at h3
    simpa [gmW] using h3
  · rintro ⟨h1, h2⟩
    obtain ⟨a, b, rfl, e, ha, _, _⟩ := canM_in h1
    have ht := canM_to h1
    exact ⟨a, ha, by rw [← ht], by rw [← ht]; simp [gmW, h1, h2]⟩
theorem mem_nxG {tm : Bool} {s x : List UInt8} : x ∈ nxG tm s ↔ ∃ f t, canM (str s) f t = true ∧ sgAt (str s) f = kd tm ∧ x = behind (str s) f t := by
  unfold nxG
  rw [List.mem_map]
  constructor
  · rintro ⟨⟨f, t⟩, hm, rfl⟩
    obtain ⟨h1, h2⟩ := mem_gmM.1 hm
    exact ⟨f, t, h1, h2, rfl⟩
  · rintro ⟨f, t, h1, h2, rfl⟩
    exact ⟨(f, t), mem_gmM.2 ⟨h1, h2⟩, rfl⟩

/-- A sign's weight at a place: each move takes of it. -/
def wtG (c : UInt8) (i : Nat) : Nat := if c = 84 then 200 - i else if c = 70 then i + 1 else 0
def muG : Nat → List UInt8 → Nat
  | _, [] => 0
  | i, c :: l => wtG c i + muG (i + 1) l
theorem muG_set (x : UInt8) : ∀ (l : List UInt8) (i k : Nat) (h : k < l.length), muG i (l.set k x) + wtG l[k] (i + k) = muG i l + wtG x (i + k)
  | [], _, _, h => by simp at h
  | c :: l, i, 0, _ => by simp [muG]; omega
  | c :: l, i, k + 1, h => by
    have := muG_set x l (i + 1) k (by simpa using h)
    simp only [List.set_cons_succ, muG, List.getElem_cons_succ]
    rw [show i + (k + 1) = i + 1 + k by omega]
    omega
theorem sg_nth {s : List UInt8} {k : Nat} (h : k < s.length) : sgAt (str s) k = s[k] := sgAt_in (str s) k (by rw [str_size]; exact h)
theorem mu_less {tm : Bool} {s x : List UInt8} (hs : s.length ≤ 100) (h : x ∈ nxG tm s) : muG 0 x < muG 0 s ∧ x.length = s.length := by
  obtain ⟨f, t, hc, hk, rfl⟩ := mem_nxG.1 h
  obtain ⟨_, _, h46, hh⟩ := (canM_iff _ _ _).1 hc
  obtain ⟨a, b, rfl, rfl, ha, hb, hne⟩ := canM_in hc
  rw [str_size] at ha hb
  refine ⟨?_, by rw [behind_len, str_size]⟩
  rw [sg_nth hb] at h46
  rw [sg_nth ha] at hk hh
  have hg : (byt (str s)).getD a 0 = s[a] := by rw [byt_str, List.getD_eq_getElem?_getD, List.getElem?_eq_getElem ha]; rfl
  show muG 0 (putL (str s) (a : Int).toNat (b : Int).toNat) < _
  unfold putL
  simp only [Int.toNat_natCast]
  rw [hg, byt_str]
  have h1 := muG_set s[a] s 0 b hb
  have h2 := muG_set 46 (s.set b s[a]) 0 a (by simpa using ha)
  rw [List.getElem_set_ne (by omega)] at h2
  simp only [h46, Nat.zero_add] at h1 h2
  have w46 : ∀ i, wtG 46 i = 0 := fun i => by simp [wtG]
  rw [w46] at h1 h2
  rcases hh with ⟨h84, hh⟩ | ⟨h70, hh⟩
  · have e : ∀ i, wtG s[a] i = 200 - i := fun i => by rw [h84]; simp [wtG]
    rw [e] at h1 h2
    have : a < b := by rcases hh with hh | ⟨hh, _⟩ <;> omega
    omega
  · have e : ∀ i, wtG s[a] i = i + 1 := fun i => by rw [h70]; simp [wtG]
    rw [e] at h1 h2
    have : b < a := by rcases hh with hh | ⟨hh, _⟩ <;> omega
    omega

section
variable {V : Type} (d : V) (R : Bool → List UInt8 → (List UInt8 → V) → V)
/-- What a rule tells of texts, out of what it tells of those behind. -/
def fixF : Nat → Bool → List UInt8 → V
  | 0, _, _ => d
  | n + 1, tm, s => R tm s fun x => fixF n (!tm) x
def fixT (tm : Bool) (s : List UInt8) : V := fixF d R (muG 0 s + 1) tm s
variable {d R}
theorem fixF_same (hR : ∀ tm s f g, (∀ x ∈ nxG tm s, f x = g x) → R tm s f = R tm s g) : ∀ (n m : Nat) (tm : Bool) (s : List UInt8), s.length ≤ 100 → muG 0 s < n → muG 0 s < m → fixF d R n tm s = fixF d R m tm s
  | 0, _, _, _, _, h, _ => by omega
  | _ + 1, 0, _, _, _, _, h => by omega
  | n + 1, m + 1, tm, s, hs, h1, h2 => by
    refine hR tm s _ _ fun x hx => ?_
    obtain ⟨h3, h4⟩ := mu_less hs hx
    exact fixF_same hR n m (!tm) x (by omega) (by omega) (by omega)
theorem fixT_eq (hR : ∀ tm s f g, (∀ x ∈ nxG tm s, f x = g x) → R tm s f = R tm s g) (tm : Bool) {s : List UInt8} (hs : s.length ≤ 100) : fixT d R tm s = R tm s fun x => fixT d R (!tm) x := by
  refine hR tm s _ _ fun x hx => ?_
  obtain ⟨h3, h4⟩ := mu_less hs hx
  exact fixF_same hR _ _ (!tm) x (by omega) (by omega) (by omega)
end
/-- Whether the player who moves wins. -/
def winR (tm : Bool) (s : List UInt8) (f : List UInt8 → Bool) : Bool := (nxG tm s).any fun x => !f x
def Wn (tm : Bool) (s : List UInt8) : Bool := fixT false winR tm s
theorem Wn_eq (tm : Bool) {s : List UInt8} (hs : s.length ≤ 100) : Wn tm s = (nxG tm s).any fun x => !Wn (!tm) x := by
  refine fixT_eq (fun tm s f g h => ?_) tm hs
  show (nxG tm s).any _ = (nxG tm s).any _
  rw [Bool.eq_iff_iff, List.any_eq_true, List.any_eq_true]
  constructor
  · rintro ⟨x, hx, h2⟩; exact ⟨x, hx, by rw [← h x hx]; exact h2⟩
  · rintro ⟨x, hx, h2⟩; exact ⟨x, hx, by rw [h x hx]; exact h2⟩
theorem Wn_true {tm : Bool} {s x : List UInt8} (hs : s.length ≤ 100) (hx : x ∈ nxG tm s) (h : Wn (!tm) x = false) : Wn tm s = true := by
  rw [Wn_eq tm hs, List.any_eq_true]
  exact ⟨x, hx, by simp [h]⟩
theorem Wn_false {tm : Bool} {s : List UInt8} (hs : s.length ≤ 100) (h : ∀ x ∈ nxG tm s, Wn (!tm) x = true) : Wn tm s = false := by
  rw [Wn_eq tm hs, List.any_eq_false]
  intro x hx
  simp [h x hx]

/-- Lines with walls between them. -/
def joinG : List (List UInt8) → List UInt8
  | [] => []
  | [w] => w
  | w :: v :: r => w ++ 47 :: joinG (v :: r)
theorem joinG_cons (w : List UInt8) {r : List (List UInt8)} (h : r ≠ []) : joinG (w :: r) = w ++ 47 :: joinG r := by
  cases r with
  | nil => exact absurd rfl h
  | cons v r => rfl
section
variable (a b : List UInt8)
theorem sg_left {i : Int} (h : i < a.length) : sgAt (str (a ++ 47 :: b)) i = sgAt (str a) i := by
  by_cases h0 : 0 ≤ i
  · obtain ⟨k, rfl⟩ := Int.eq_ofNat_of_zero_le h0
    have hk : k < a.length := by omega
    rw [sg_nth (s := a) hk, sg_nth (by rw [List.length_append]; omega), List.getElem_append_left hk]
  · rw [sgAt_out _ _ (by omega), sgAt_out _ _ (by omega)]
theorem sg_wall : sgAt (str (a ++ 47 :: b)) a.length = 47 := by
  rw [sg_nth (by simp), List.getElem_append_right (Nat.le_refl _)]
  simp
theorem sg_right {i : Int} (h : (a.length : Int) < i) : sgAt (str (a ++ 47 :: b)) i = sgAt (str b) (i - a.length - 1) := by
  by_cases h0 : i < ((a ++ 47 :: b).length : Int)
  · obtain ⟨k, rfl⟩ := Int.eq_ofNat_of_zero_le (show 0 ≤ i by omega)
    have hk : a.length < k := by omega
    have hl : (a ++ 47 :: b).length = a.length + (b.length + 1) := by simp
    obtain ⟨j, rfl⟩ : ∃ j, k = a.length + 1 + j := ⟨k - a.length - 1, by omega⟩
    rw [show (((a.length + 1 + j : Nat) : Int) - a.length - 1) = (j : Int) by omega, sg_nth (s := b) (k := j) (by omega), sg_nth (by omega), List.getElem_append_right (by omega)]
    simp only [show a.length + 1 + j - a.length = j + 1 by omega, List.getElem_cons_succ]
  · have hl : (a ++ 47 :: b).length = a.length + (b.length + 1) := by simp
    rw [sgAt_out _ _ (by rw [str_size]; omega), sgAt_out _ _ (by rw [str_size]; omega)]
theorem can_left {f t : Int} (h : f < a.length) : canM (str (a ++ 47 :: b)) f t = canM (str a) f t := by
  have hl : (a ++ 47 :: b).length = a.length + (b.length + 1) := by simp
  have key : ∀ i : Int, i ≤ a.length → (sgAt (str (a ++ 47 :: b)) i = 46 ↔ sgAt (str a) i = 46) ∧ (sgAt (str (a ++ 47 :: b)) i = 84 ↔ sgAt (str a) i = 84) ∧ (sgAt (str (a ++ 47 :: b)) i = 70 ↔ sgAt (str a) i = 70) := by
    intro i hi
    by_cases e : i = a.length
    · subst e
      rw [sg_wall, sgAt_out (str a) _ (by rw [str_size]; omega)]
      decide
    · rw [sg_left a b (by omega)]
      exact ⟨Iff.rfl, Iff.rfl, Iff.rfl⟩
  have rng : ∀ (c : UInt8) (i : Int), c ≠ 0 → sgAt (str a) i = c → i < a.length := fun c i hc e => by
    have := (sg_range (str a) i (by rw [e]; exact hc)).2
    rwa [str_size] at this
  rw [Bool.eq_iff_iff, canM_iff, canM_iff]
  unfold canS
  rw [str_size, str_size, hl]
  constructor
  · rintro ⟨h1, h2, h3, ⟨h4, h5⟩ | ⟨h4, h5⟩⟩
    · have h4' := (key f (by omega)).2.1.1 h4
      rcases h5 with rfl | ⟨rfl, h6⟩
      · have h3' := (key _ (by omega)).1.1 h3
        have := rng _ _ (by decide) h3'
        exact ⟨by omega, by omega, h3', .inl ⟨h4', .inl rfl⟩⟩
      · have h6' := (key _ (by omega)).2.2.1 h6
        have := rng _ _ (by decide) h6'
        have h3' := (key _ (by omega)).1.1 h3
        have := rng _ _ (by decide) h3'
        exact ⟨by omega, by omega, h3', .inl ⟨h4', .inr ⟨rfl, h6'⟩⟩⟩
    · have h4' := (key f (by omega)).2.2.1 h4
      have h3' : t ≤ a.length := by rcases h5 with rfl | ⟨rfl, _⟩ <;> omega
      have h3'' := (key t h3').1.1 h3
      refine ⟨by omega, ⟨h2.1, by rcases h5 with rfl | ⟨rfl, _⟩ <;> omega⟩, h3'', .inr ⟨h4', ?_⟩⟩
      rcases h5 with rfl | ⟨rfl, h6⟩
      · exact .inl rfl
      · exact .inr ⟨rfl, (key _ (by omega)).2.1.1 h6⟩
  · rintro ⟨h1, h2, h3, h5⟩
    have ha : ∀ i : Int, i ≤ a.length → _ := key
    refine ⟨by omega, by omega, (key t (by omega)).1.2 h3, ?_⟩
    rcases h5 with ⟨h4, h5⟩ | ⟨h4, h5⟩
    · refine .inl ⟨(key f (by omega)).2.1.2 h4, ?_⟩
      rcases h5 with rfl | ⟨rfl, h6⟩
      · exact .inl rfl
      · exact .inr ⟨rfl, (key _ (by omega)).2.2.2 h6⟩
    · refine .inr ⟨(key f (by omega)).2.2.2 h4, ?_⟩
      rcases h5 with rfl | ⟨rfl, h6⟩
      · exact .inl rfl
      · exact .inr ⟨rfl, (key _ (by omega)).2.1.2 h6⟩
theorem can_right {f t : Int} (h : (a.length : Int) < f) : canM (str (a ++ 47 :: b)) f t = canM (str b) (f - a.length - 1) (t - a.length - 1) := by
  have hl : (a ++ 47 :: b).length = a.length + (b.length + 1) := by simp
  have key : ∀ i : Int, (a.length : Int) ≤ i → (sgAt (str (a ++ 47 :: b)) i = 46 ↔ sgAt (str b) (i - a.length - 1) = 46) ∧ (sgAt (str (a ++ 47 :: b)) i = 84 ↔ sgAt (str b) (i - a.length - 1) = 84) ∧ (sgAt (str (a ++ 47 :: b)) i = 70 ↔ sgAt (str b) (i - a.length - 1) = 70) := by
    intro i hi
    by_cases e : i = a.length
    · subst e
      rw [sg_wall, sgAt_out (str b) _ (by rw [str_size]; omega)]
      decide
    · rw [sg_right a b (by omega)]
      exact ⟨Iff.rfl, Iff.rfl, Iff.rfl⟩
  have rng : ∀ (c : UInt8) (i : Int), c ≠ 0 → sgAt (str b) i = c → 0 ≤ i := fun c i hc e => (sg_range (str b) i (by rw [e]; exact hc)).1
  rw [Bool.eq_iff_iff, canM_iff, canM_iff]
  unfold canS
  rw [str_size, str_size, hl]
  constructor
  · rintro ⟨h1, h2, h3, h5⟩
    have hlo : (a.length : Int) ≤ t ∧ (∀ i, i = f + 1 ∨ i = f + -1 → (a.length : Int) ≤ i) := by
      refine ⟨?_, fun i hi => by omega⟩
      rcases h5 with ⟨h4, h5⟩ | ⟨h4, h5⟩
      · omega
      · rcases h5 with h5 | ⟨h5, h6⟩
        · omega
        · have := rng _ _ (by decide) ((key (f + -1) (by omega)).2.1.1 h6)
          omega
    have h3' := (key t hlo.1).1.1 h3
    have := rng _ _ (by decide) h3'
    refine ⟨by omega, by omega, h3', ?_⟩
    rcases h5 with ⟨h4, h5⟩ | ⟨h4, h5⟩
    · refine .inl ⟨(key f (by omega)).2.1.1 h4, ?_⟩
      rcases h5 with h5 | ⟨h5, h6⟩
      · exact .inl (by omega)
      · have h6' := (key (f + 1) (by omega)).2.2.1 h6
        rw [show f + 1 - (a.length : Int) - 1 = f - a.length - 1 + 1 by omega] at h6'
        exact .inr ⟨by omega, h6'⟩
    · refine .inr ⟨(key f (by omega)).2.2.1 h4, ?_⟩
      rcases h5 with h5 | ⟨h5, h6⟩
      · exact .inl (by omega)
      · have h6' := (key (f + -1) (by omega)).2.1.1 h6
        rw [show f + -1 - (a.length : Int) - 1 = f - a.length - 1 + -1 by omega] at h6'
        exact .inr ⟨by omega, h6'⟩
  · rintro ⟨h1, h2, h3, h5⟩
    refine ⟨by omega, by omega, (key t (by omega)).1.2 h3, ?_⟩
    rcases h5 with ⟨h4, h5⟩ | ⟨h4, h5⟩
    · refine .inl ⟨(key f (by omega)).2.1.2 h4, ?_⟩
      rcases h5 with h5 | ⟨h5, h6⟩
      · exact .inl (by omega)
      · rw [show f - (a.length : Int) - 1 + 1 = f + 1 - a.length - 1 by omega] at h6
        exact .inr ⟨by omega, (key _ (by omega)).2.2.2 h6⟩
    · refine .inr ⟨(key f (by omega)).2.2.2 h4, ?_⟩
      rcases h5 with h5 | ⟨h5, h6⟩
      · exact .inl (by omega)
      · rw [show f - (a.length : Int) - 1 + -1 = f + -1 - a.length - 1 by omega] at h6
        exact .inr ⟨by omega, (key _ (by omega)).2.1.2 h6⟩
theorem behind_left {f t : Int} (hc : canM (str a) f t = true) : behind (str (a ++ 47 :: b)) f t = behind (str a) f t ++ 47 :: b := by
  obtain ⟨i, j, rfl, rfl, hi, hj, _⟩ := canM_in hc
  rw [str_size] at hi hj
  unfold behind putL
  simp only [Int.toNat_natCast, byt_str, List.getD_eq_getElem?_getD]
  rw [List.getElem?_append_left hi, List.set_append_left _ _ hj, List.set_append_left _ _ (by simpa using hi)]
theorem behind_right {f t : Int} (hc : canM (str b) f t = true) : behind (str (a ++ 47 :: b)) (f + a.length + 1) (t + a.length + 1) = a ++ 47 :: behind (str b) f t := by
  obtain ⟨i, j, rfl, rfl, hi, hj, _⟩ := canM_in hc
  rw [str_size] at hi hj
  unfold behind putL
  rw [show ((i : Int) + a.length + 1).toNat = a.length + (i + 1) by omega, show ((j : Int) + a.length + 1).toNat = a.length + (j + 1) by omega]
  simp only [Int.toNat_natCast, byt_str, List.getD_eq_getElem?_getD]
  rw [List.getElem?_append_right (by omega), List.set_append_right _ _ (by omega), List.set_append_right _ _ (by omega)]
  simp
/-- The moves on both sides of a wall. -/
theorem nxG_wall (tm : Bool) (x : List UInt8) : x ∈ nxG tm (a ++ 47 :: b) ↔ (∃ y ∈ nxG tm a, x = y ++ 47 :: b) ∨ (∃ z ∈ nxG tm b, x = a ++ 47 :: z) := by
  rw [mem_nxG]
  constructor
  · rintro ⟨f, t, hc, hk, rfl⟩
    rcases Int.lt_trichotomy f a.length with h | h | h
    · rw [can_left a b h] at hc
      rw [sg_left a b h] at hk
      exact .inl ⟨_, mem_nxG.2 ⟨f, t, hc, hk, rfl⟩, behind_left a b hc⟩
    · rw [h, sg_wall] at hk
      rcases kd_or tm with e | e <;> rw [e] at hk <;> exact absurd hk (by decide)
    · rw [can_right a b h] at hc
      rw [sg_right a b h] at hk
      refine .inr ⟨_, mem_nxG.2 ⟨_, _, hc, hk, rfl⟩, ?_⟩
      rw [← behind_right a b hc]
      congr 1 <;> omega
  · rintro (⟨y, hy, rfl⟩ | ⟨z, hz, rfl⟩)
    · obtain ⟨f, t, hc, hk, rfl⟩ := mem_nxG.1 hy
      obtain ⟨i, j, rfl, rfl, hi, hj, _⟩ := canM_in hc
      rw [str_size] at hi
      have h : (i : Int) < a.length := by omega
      exact ⟨_, _, by rw [can_left a b h]; exact hc, by rw [sg_left a b h]; exact hk, (behind_left a b hc).symm⟩
    · obtain ⟨f, t, hc, hk, rfl⟩ := mem_nxG.1 hz
      obtain ⟨i, j, rfl, rfl, hi, hj, _⟩ := canM_in hc
      have h : (a.length : Int) < (i : Int) + a.length + 1 := by omega
      refine ⟨(i : Int) + a.length + 1, (j : Int) + a.length + 1, ?_, ?_, (behind_right a b hc).symm⟩
      · rw [can_right a b h]
        rw [show (i : Int) + a.length + 1 - a.length - 1 = i by omega, show (j : Int) + a.length + 1 - a.length - 1 = j by omega]
        exact hc
      · rw [sg_right a b h, show (i : Int) + a.length + 1 - a.length - 1 = i by omega]
        exact hk
end
/-- The moves on a sum are those on its lines. -/
theorem nxG_join (tm : Bool) : ∀ (ls : List (List UInt8)) (x : List UInt8), x ∈ nxG tm (joinG ls) ↔ ∃ k, ∃ h : k < ls.length, ∃ y ∈ nxG tm ls[k], x = joinG (ls.set k y)
  | [], x => by
    have : nxG tm (joinG []) = [] := by cases tm <;> rfl
    rw [this]
    simp
  | [w], x => by
    constructor
    · intro h; exact ⟨0, by simp, x, h, rfl⟩
    · rintro ⟨k, h, y, hy, rfl⟩
      obtain rfl : k = 0 := by simpa using h
      exact hy
  | w :: v :: r, x => by
    show x ∈ nxG tm (w ++ 47 :: joinG (v :: r)) ↔ _
    rw [nxG_wall]
    constructor
    · rintro (⟨y, hy, rfl⟩ | ⟨z, hz, rfl⟩)
      · exact ⟨0, by simp, y, hy, rfl⟩
      · obtain ⟨k, h, y, hy, rfl⟩ := (nxG_join tm (v :: r) z).1 hz
        refine ⟨k + 1, by simpa using h, y, hy, ?_⟩
        rw [List.set_cons_succ, joinG_cons]
        simp
    · rintro ⟨k, h, y, hy, rfl⟩
      match k with
      | 0 => exact .inl ⟨y, hy, rfl⟩
      | k + 1 =>
        refine .inr ⟨_, (nxG_join tm (v :: r) _).2 ⟨k, by simpa using h, y, hy, rfl⟩, ?_⟩
        rw [List.set_cons_succ, joinG_cons]
        simp
theorem joinG_len (ls : List (List UInt8)) : (joinG ls).length ≤ (ls.map List.length).sum + ls.length
  := by
  induction ls with
  | nil => simp [joinG]
  | cons w r ih =>
    by_cases h : r = []
    · subst h; simp [joinG]
    · rw [joinG_cons w h]
      simp only [List.length_append, List.length_cons, List.map_cons, List.sum_cons]
      omega
end Go.Proofs.Ytjnidfleccbdbaa
namespace Go.Proofs.Ytjnidfleccbdbaa
open Go.RowKit

theorem own_none (w : World) : (w.alloc (Obj.cells #[] 9)).ownsRow w.heap.size 9 1 (.slice (some ⟨w.heap.size, 0, none⟩) 0 0) 0 [] := World.ownsRow_made w #[] 0 (Nat.le_refl _) (by decide) rfl
theorem own_open {w : World} {base n : Nat} {e : TypeId} {v : Value} {vs : List Value} (ho : w.ownsRow base e 1 v n vs) (hn : 0 < n) : ∃ g cap, v = .slice (some ⟨g, 0, none⟩) n cap ∧ base ≤ g ∧ g < w.heap.size ∧ n ≤ cap ∧ cap ≤ maxLen ∧ ∀ k (h : k < vs.length), w.cell? ⟨g, k, none⟩ = some vs[k] := by
  obtain ⟨hlen, h2 | ⟨g, cap, cur, rfl, hb, hg, hle, hm, hs, ht⟩⟩ := ho
  · omega
  · have ho : w.ownsRow base e 1 (.slice (some ⟨g, 0, none⟩) n cap) n vs := ⟨hlen, .inr ⟨g, cap, cur, rfl, hb, hg, hle, hm, hs, ht⟩⟩
    refine ⟨g, cap, rfl, hb, (Array.getElem?_eq_some_iff.1 hg).1, hle, hm, fun k hk => ?_⟩
    have := ho.cells (g := g) rfl k vs[k] (by simp)
    rw [addr_add] at this
    exact this
theorem kind_gm (tm : Bool) (s : ByteArray) (f t : Int) : kindM tm (!tm) s f t = gmW tm s f t := by
  unfold kindM gmW
  cases hc : canM s f t
  · simp
  · rcases (can_sgn hc).2 with h | h <;> cases tm <;> simp [h, kd]
theorem liMoves_kd (tm : Bool) (s : List UInt8) (w : World) (hg : goodL (str s) = true) :
    Calls Try.prog 52 #[.string (str s), .bool tm, .bool (!tm)] w (SpPost w (gmM tm s)) := by
  have e := mvsTo_eq _ _ (str s) (kind_gm tm (str s)) (str s).size
  cases tm
  · have h := liMoves_frog (str s) w hg
    rw [show kindM false true = kindM false (!false) from rfl, e] at h
    exact h
  · have h := liMoves_toad (str s) w hg
    rw [show kindM true false = kindM true (!true) from rfl, e] at h
    exact h
theorem gm_at {tm : Bool} {s : List UInt8} (j : Nat) (h : j < (gmM tm s).length) : ∃ a b : Nat, (gmM tm s)[j].1 = a ∧ (gmM tm s)[j].2 = b ∧ a < s.length ∧ b < s.length ∧ a ≠ b ∧ putL (str s) a b ∈ nxG tm s ∧ putL (str s) a b = behind (str s) (gmM tm s)[j].1 (gmM tm s)[j].2 := by
  have hm : (gmM tm s)[j] ∈ gmM tm s := List.getElem_mem h
  have hc : canM (str s) (gmM tm s)[j].1 (gmM tm s)[j].2 = true ∧ _ := (mem_gmM.1 hm)
  obtain ⟨a, b, e1, e2, ha, hb, hne⟩ := canM_in hc.1
  rw [str_size] at ha hb
  have he : putL (str s) a b = behind (str s) (gmM tm s)[j].1 (gmM tm s)[j].2 := by unfold behind; rw [e1, e2]; rfl
  exact ⟨a, b, e1, e2, ha, hb, hne, by rw [he]; exact List.mem_map.2 ⟨_, hm, rfl⟩, he⟩
theorem gmM_le (tm : Bool) (s : List UInt8) : (gmM tm s).length ≤ s.length := by
  have := mvsTo_le (gmW tm (str s)) (str s) (str s).size
  unfold gmM
  rw [str_size] at this
  rwa [str_size]
theorem nxG_good {tm : Bool} {s x : List UInt8} (hg : goodL (str s) = true) (h : x ∈ nxG tm s) : goodL (str x) = true := by
  obtain ⟨f, t, hc, _, rfl⟩ := mem_nxG.1 h
  exact behind_good hg hc

/-- The cells of a slice's address, wherever it begins, hold a list of texts. -/
def StO (w : World) (A : Option Addr) (l : List (List UInt8)) : Prop :=
  ∀ k (h : k < l.length), ∃ g o, A = some ⟨g, o, none⟩ ∧ g < w.heap.size ∧ w.cell? ⟨g, o + k, none⟩ = some (.string (str l[k]))
theorem StAt.toO {w : World} {A : Option Addr} {l : List (List UInt8)} (h : StAt w A l) : StO w A l := fun k hk => by
  obtain ⟨g, a, b, c⟩ := h k hk
  exact ⟨g, 0, a, b, by rw [Nat.zero_add]; exact c⟩
theorem StO.below {w w' : World} {A : Option Addr} {l : List (List UInt8)} (h : StO w A l) (hb : Below w.heap.size w w') : StO w' A l := by
  intro k hk
  obtain ⟨g, o, a, b, c⟩ := h k hk
  exact ⟨g, o, a, Nat.lt_of_lt_of_le b hb.size, (hb.cell (p := ⟨g, o + k, none⟩) b).trans c⟩
theorem addr_off (g o j : Nat) : (⟨g, o, none⟩ : Addr).add j = ⟨g, o + j, none⟩ := by
  unfold Addr.add
  split
  · simp_all
  · rfl
/-- The text that the model keeps a sum under. -/
def keyG (tm : Bool) (s : List UInt8) : List UInt8 := (if tm then 116 else 102) :: 47 :: s
theorem keyG_inj {tm tm' : Bool} {s s' : List UInt8} (h : keyG tm s = keyG tm' s') : tm = tm' ∧ s = s' := by
  unfold keyG at h
  injection h with h1 h2
  injection h2 with _ h3
  refine ⟨?_, h3⟩
  cases tm <;> cases tm' <;> simp at h1 ⊢
def wallsG (ls : List (List UInt8)) : List UInt8 := ls.flatMap fun w => 47 :: w
theorem wallsG_join : ∀ {ls : List (List UInt8)}, ls ≠ [] → wallsG ls = 47 :: joinG ls
  | [], h => absurd rfl h
  | [w], _ => by simp [wallsG, joinG]
  | w :: v :: r, _ => by
    have ih := wallsG_join (ls := v :: r) (by simp)
    rw [joinG_cons w (by simp)]
    show (47 :: w) ++ wallsG (v :: r) = _
    rw [ih]
    simp
theorem wallsG_take (ls : List (List UInt8)) (k : Nat) (h : k < ls.length) : wallsG (ls.take (k + 1)) = wallsG (ls.take k) ++ 47 :: ls[k] := by
  unfold wallsG
  rw [List.take_succ_eq_append_getElem h, List.flatMap_append]
  simp
theorem wallsG_len {ls : List (List UInt8)} (h : ∀ x ∈ ls, x.length ≤ 12) (k : Nat) : (wallsG (ls.take k)).length ≤ 13 * k := by
  induction k with
  | zero => simp [wallsG]
  | succ k ih =>
    by_cases hk : k < ls.length
    · rw [wallsG_take ls k hk, List.length_append, List.length_cons]
      have := h ls[k] (List.getElem_mem hk)
      omega
    · rw [List.take_of_length_le (by omega)] at ih ⊢
      omega

set_option maxHeartbeats 1000000 in
theorem gaKey_any (tm : Bool) (ls : List (List UInt8)) (A : Option Addr) (cap : Nat) (w : World) (hA : StO w A ls) (hne : ls ≠ []) (hl : ls.length ≤ 3) (h12 : ∀ x ∈ ls, x.length ≤ 12) :
    Calls Try.prog 73 #[.slice A ls.length cap, .bool tm] w fun e w' => e = .returned (.string (str (keyG tm (joinG ls)))) ∧ w = w' := by
  obtain ⟨c, hc⟩ : ∃ c : UInt8, c = if tm then 116 else 102 := ⟨_, rfl⟩
  have hfin : Hid (c :: wallsG (ls.take ls.length) = keyG tm (joinG ls)) := by
    show _ = _
    rw [List.take_length, wallsG_join hne, hc]
    rfl
  have HC := Lib.hid hc
  clear hc
  have HA := Lib.hid hA
  have HT := Lib.hid (wallsG_take ls)
  have HL := Lib.hid (wallsG_len h12)
  have H12 := Lib.hid h12
  clear hA hne h12
  cases tm
  all_goals
    go_enter Try.func73, Try.ntmps73
    go_wp2
    go_loop [5, 11] (fun o i => ∃ k : Nat, k ≤ ls.length ∧ i = .int .i64 k ∧ o = .string (str (c :: wallsG (ls.take k)))) (fun _ i => ls.length - (intOf i).toNat)
    case atStart => exact ⟨0, Nat.zero_le _, rfl, by rw [HC.out]; rfl⟩
    case round =>
      obtain ⟨k, hk, rfl, rfl⟩ := hrel
      by_cases hlt : k < ls.length
      · obtain ⟨g, o, rfl, hg, hcell⟩ := HA.out k hlt
        have hS := Lib.hid (HT.out k hlt)
        have h1 := HL.out k
        have h2 := H12.out _ (List.getElem_mem hlt)
        generalize ls[k] = x at hcell hS h2
        generalize wallsG (ls.take k) = y at h1 hS ⊢
        have z1 : (str x).size ≤ 12 := by rw [str_size]; exact h2
        have z2 : (str (c :: y)).size ≤ 100 := by rw [str_size]; simp; omega
        have i1 : (0 : Int) ≤ (k : Int) := by omega
        have i2 : (k : Int) < (ls.length : Int) := by omega
        go_wp2
        go_round
        case rel =>
          refine ⟨k + 1, by omega, by go_num, ?_⟩
          rw [hS.out, show (⟨#[47]⟩ : ByteArray) = str [47] from rfl, str_app, str_app]
          rfl
        case measure => simp [intOf]; omega
      · go_wp2
        go_ret
        obtain rfl : k = ls.length := by omega
        refine ⟨?_, rfl⟩
        rw [← hfin.out]
        rfl

set_option maxRecDepth 100000 in
set_option maxHeartbeats 1000000 in
theorem l1OwnS_any (ls : List (List UInt8)) (A : Option Addr) (cap : Nat) (w : World) (hA : StO w A ls) (hne : ls ≠ []) (hl : ls.length ≤ 1000) :
    Calls Try.prog 80 #[.slice A ls.length cap] w fun e w' => ∃ v, e = .returned v ∧ w'.ownsRow w.heap.size 9 1 v ls.length (txs ls) ∧ Below w.heap.size w w' := by
  obtain ⟨i0, hi, hz0, hz1, hz2⟩ := info_parts Try.infoS
  have HI := Lib.hid hi
  have HZ0 := Lib.hid hz0
  have HZ1 := Lib.hid hz1
  have HZ2 := Lib.hid hz2
  clear hi hz0 hz1 hz2
  have hlen : 0 < ls.length := List.length_pos_iff.2 hne
  obtain ⟨g, o, rfl, hg, _⟩ := hA 0 hlen
  have hcells : ∀ j u, (txs ls)[j]? = some u → (w.alloc (Obj.cells #[] 9)).cell? ((⟨g, o, none⟩ : Addr).add j) = some u := by
    intro j u hu
    have hj : j < ls.length := by have := (List.getElem?_eq_some_iff.1 hu).1; rwa [txs_len] at this
    obtain ⟨g', o', e1, _, hc⟩ := hA j hj
    injection e1 with e1
    injection e1 with e1 e3
    subst e1
    subst e3
    rw [addr_off]
    have e2 : (txs ls)[j]? = some (.string (str ls[j])) := by simp [txs, hj]
    rw [e2] at hu
    injection hu with hu
    rw [← hu, ← hc]
    rw [World.cell?_alloc_lt]; exact hg
  have HCE := Lib.hid hcells
  clear hcells hA
  go_enter Try.func80, Try.ntmps80
  go_wp2_with (first
    | (at_builtin; refine wpList_append_st _ rfl _ _ 87 rfl w.heap.size 9 i0 (.string ByteArray.empty) 1 16 Try.underlying87 HI.out HZ0.out HZ1.out HZ2.out rfl (by decide) _ 0 [] rfl (own_none w) (some ⟨g, o, none⟩) ls.length cap (txs ls) rfl (fun e => by cases e) (by rw [txs_len, Nat.mul_one]) (fun _ e => by cases e; exact HCE.out) (txs_one _) (by unfold maxLen; omega) (by omega) (by simp) ?_; intro v1 w1 ho1 hg1))
  go_ret
  have b1 := ((Below.refl w.heap.size w).alloc (Nat.le_refl _) (Obj.cells #[] 9)).grown hg1 (by simp) (fun j hj => ((own_none w).lt _ hj).1)
  exact ⟨v1, rfl, by simpa using ho1, b1⟩

set_option maxRecDepth 100000 in
set_option maxHeartbeats 1000000 in
theorem gaWith_any (ls : List (List UInt8)) (k : Nat) (x : List UInt8) (A : Option Addr) (cap : Nat) (w : World) (hA : StO w A ls) (hk : k < ls.length) (hl : ls.length ≤ 1000) :
    Calls Try.prog 74 #[.slice A ls.length cap, .int .i64 k, .string (str x)] w fun e w' => ∃ g c, e = .returned (.slice (some ⟨g, 0, none⟩) ls.length c) ∧ w.heap.size ≤ g ∧ StAt w' (some ⟨g, 0, none⟩) (ls.set k x) ∧ Below w.heap.size w w' := by
  have hne : ls ≠ [] := List.ne_nil_of_length_pos (by omega)
  have HOW := Lib.hid (l1OwnS_any ls A cap w hA hne hl)
  clear hA
  go_enter Try.func74, Try.ntmps74
  go_wp2_with fail
  refine HOW.out.mono ?_
  rintro e w1 ⟨v, rfl, ho1, hb1⟩
  obtain ⟨g, c, rfl, hg, hlt, hle, hm, hcells⟩ := own_open ho1 (by omega)
  have hck := hcells k (by rw [txs_len]; exact hk)
  have hfz := ho1.frozenAt k
  have HO := Lib.hid ho1
  have HB := Lib.hid hb1
  generalize hq : (txs ls)[k]'(by rw [txs_len]; exact hk) = q at hck
  clear ho1 hb1 hcells hq
  have i1 : (0 : Int) ≤ (k : Int) := by omega
  have i2 : (k : Int) < (ls.length : Int) := by omega
  go_wp2
  go_ret
  have h2 := HO.out.stored k (.string (str x))
  refine ⟨g, c, rfl, hg, ?_, HB.out.setCell hg _⟩
  have e : (txs ls).set k (.string (str x)) = txs (ls.set k x) := by simp [txs]
  rw [e] at h2
  intro j hj
  have hj' : j < ls.length := by simpa using hj
  refine ⟨g, rfl, by simpa using hlt, ?_⟩
  rw [h2.1.cellAt j (by omega)]
  unfold txs
  rw [List.getElem?_map, List.getElem?_eq_getElem hj]
  rfl

/-- A line of few cells. -/
def fewB (s : ByteArray) : Bool := goodL s && decide (s.size ≤ 10)
end Go.Proofs.Ytjnidfleccbdbaa
namespace Go.Proofs.Ytjnidfleccbdbaa
open Go.RowKit

/-- Block k is the memory of what lies in box B: the box itself, or a row of one of its fields. -/
def Ex (B : Nat) (W : World) (k : Nat) : Prop := k = B ∨ ∃ o v, W.cell? ⟨B, o, none⟩ = some v ∧ v.ownBlock = some k
/-- All blocks that were there and are no memory of the box lie as they lay. -/
structure KpX (B : Nat) (W W' : World) : Prop where
  os : W'.os = W.os
  tape : W'.tape = W.tape
  output : W'.output = W.output
  size : W.heap.size ≤ W'.heap.size
  keep : ∀ k, k < W.heap.size → ¬ Ex B W k → W'.heap[k]? = W.heap[k]?
  ex : ∀ k, k < W.heap.size → Ex B W' k → Ex B W k
theorem KpX.refl (B : Nat) (W : World) : KpX B W W := ⟨rfl, rfl, rfl, Nat.le_refl _, fun _ _ _ => rfl, fun _ _ h => h⟩
theorem KpX.trans {B : Nat} {a b c : World} (h : KpX B a b) (k : KpX B b c) : KpX B a c :=
  ⟨k.os.trans h.os, k.tape.trans h.tape, k.output.trans h.output, Nat.le_trans h.size k.size,
    fun i hi hn => (k.keep i (Nat.lt_of_lt_of_le hi h.size) fun he => hn (h.ex i hi he)).trans (h.keep i hi hn),
    fun i hi he => h.ex i hi (k.ex i (Nat.lt_of_lt_of_le hi h.size) he)⟩
theorem KpX.below {B : Nat} {W W' : World} (hB : B < W.heap.size) (h : Below W.heap.size W W') : KpX B W W' :=
  ⟨h.os, h.tape, h.output, h.size, fun k hk _ => h.block k hk, fun k _ he => by
    rcases he with he | ⟨o, v, hc, hv⟩
    · exact .inl he
    · exact .inr ⟨o, v, (h.cell (p := ⟨B, o, none⟩) hB).symm.trans hc, hv⟩⟩
theorem KpX.to_below {B : Nat} {W W' : World} (h : KpX B W W') (hB : B ≤ W.heap.size) (he : ∀ k, Ex B W k → B ≤ k) : Below B W W' :=
  ⟨h.os, h.tape, h.output, h.size, fun k hk => h.keep k (by omega) fun e => by have := he k e; omega⟩
theorem StO.kp {B : Nat} {w w' : World} {A : Option Addr} {l : List (List UInt8)} (h : StO w A l) (hf : KpX B w w') (hne : ∀ a, A = some a → ¬ Ex B w a.block) : StO w' A l := by
  intro k hk
  obtain ⟨g, o, a, b, c⟩ := h k hk
  refine ⟨g, o, a, Nat.lt_of_lt_of_le b hf.size, ?_⟩
  rw [← c]
  exact World.cell?_of_block (a := ⟨g, o + k, none⟩) (hf.keep g b (hne _ a))
theorem MvAt.kp {B : Nat} {w w' : World} {A : Option Addr} {l : List (Int × Int)} (h : MvAt w A l) (hf : KpX B w w') (hne : ∀ a, A = some a → ¬ Ex B w a.block) : MvAt w' A l := by
  intro k hk
  obtain ⟨g, a, b, c, d⟩ := h k hk
  have e : ∀ o, w'.cell? ⟨g, o, none⟩ = w.cell? ⟨g, o, none⟩ := fun o => World.cell?_of_block (a := ⟨g, o, none⟩) (hf.keep g b (hne _ a))
  exact ⟨g, a, Nat.lt_of_lt_of_le b hf.size, (e _).trans c, (e _).trans d⟩

/-- The signs of the texts that sums are kept under. -/
def sgsG : List UInt8 := [84, 70, 46, 47, 116, 102]
theorem part_sgs (A : List UInt8) (l : List (List UInt8)) (h : ∀ x ∈ l, ∃ c ∈ A, x.head? = some c) : l.length ≤ (A.map fun c => (l.filter fun x => x.head? == some c).length).sum := by
  induction l with
  | nil => simp
  | cons a l ih =>
    have ih := ih fun x hx => h x (by simp [hx])
    obtain ⟨c, hc, ha⟩ := h a (by simp)
    have key : ∀ (B : List UInt8), (B.map fun c => (l.filter fun x => x.head? == some c).length).sum + (if c ∈ B then 1 else 0) ≤ (B.map fun c => ((a :: l).filter fun x => x.head? == some c).length).sum := by
      intro B
      induction B with
      | nil => simp
      | cons d B ihB =>
        simp only [List.map_cons, List.sum_cons, List.filter_cons, ha]
        by_cases e : c = d
        · subst e
          simp only [List.mem_cons, true_or, if_true, beq_self_eq_true, List.length_cons]
          have : (B.map fun c => (l.filter fun x => x.head? == some c).length).sum ≤ (B.map fun c => ((a :: l).filter fun x => x.head? == some c).length).sum := by
            refine Nat.le_trans (Nat.le_add_right _ _) ihB
          simp only [List.filter_cons, ha] at this
          omega
        · have e2 : (some c == some d) = false := by simp [e]
          have e3 : (c ∈ d :: B) ↔ c ∈ B := by simp [e]
          simp only [e2, e3, Bool.false_eq_true, if_false]
          simp only [List.filter_cons, ha] at ihB
          omega
    have := key A
    rw [if_pos hc] at this
    rw [List.length_cons]
    omega
theorem few_texts (A : List UInt8) : ∀ (n : Nat) (l : List (List UInt8)), l.Nodup → (∀ x ∈ l, x.length = n ∧ ∀ c ∈ x, c ∈ A) → l.length ≤ A.length ^ n
  | 0, l, hn, h => by
    match l with
    | [] => simp
    | [_] => simp
    | a :: b :: r =>
      have ha := List.length_eq_zero_iff.1 (h a (by simp)).1
      have hb := List.length_eq_zero_iff.1 (h b (by simp)).1
      subst ha hb
      simp at hn
  | n + 1, l, hn, h => by
    have one : ∀ c : UInt8, (l.filter fun x => x.head? == some c).length ≤ A.length ^ n := fun c => by
      have := few_texts A n ((l.filter fun x => x.head? == some c).map List.tail) ?_ ?_
      · simpa using this
      · refine List.pairwise_map.2 ((hn.filter _).imp_of_mem fun {a b} ha hb hne e => hne ?_)
        obtain ⟨_, ha⟩ := List.mem_filter.1 ha
        obtain ⟨_, hb⟩ := List.mem_filter.1 hb
        match a, b with
        | [], _ => simp at ha
        | _ :: _, [] => simp at hb
        | x :: a, y :: b =>
          simp at ha hb e
          rw [ha, hb, e]
      · intro x hx
        obtain ⟨y, hy, rfl⟩ := List.mem_map.1 hx
        obtain ⟨h1, h2⟩ := h y (List.mem_filter.1 hy).1
        match y with
        | [] => simp at h1
        | a :: y => exact ⟨by simpa using h1, fun c hc => h2 c (by simp [show c ∈ y from hc])⟩
    have h3 := part_sgs A l fun x hx => by
      obtain ⟨h1, h2⟩ := h x hx
      match x with
      | [] => simp at h1
      | a :: x => exact ⟨a, h2 a (by simp), rfl⟩
    have h4 : ∀ B : List UInt8, (B.map fun c => (l.filter fun x => x.head? == some c).length).sum ≤ B.length * A.length ^ n := by
      intro B
      induction B with
      | nil => simp
      | cons c B ih =>
        simp only [List.map_cons, List.sum_cons, List.length_cons, Nat.add_mul, Nat.one_mul]
        have := one c
        omega
    rw [Nat.pow_succ, Nat.mul_comm]
    exact Nat.le_trans h3 (h4 A)

/-- What is known lies in box B: texts of sums, and whether the player wins. -/
structure KnM (W : World) (B L : Nat) (ks : List (List UInt8)) (bs : List Bool) (vs vw : Value) : Prop where
  box : W.heap[B]? = some (.cells #[vs, vw] 105 (0, 0))
  row1 : W.ownsRow (B + 1) 9 1 vs ks.length (txs ks)
  row2 : W.ownsRow (B + 1) 4 1 vw ks.length (bs.map .bool)
  len : bs.length = ks.length
  val : ∀ i (h : i < ks.length), ∃ tm s, ks[i] = keyG tm s ∧ bs[i]'(by omega) = Wn tm s
  nodup : ks.Nodup
  sig : ∀ x ∈ ks, x.length = L + 2 ∧ ∀ c ∈ x, c ∈ sgsG
def KnW (W : World) (B L : Nat) (ks : List (List UInt8)) : Prop := ∃ bs vs vw, KnM W B L ks bs vs vw
section
variable {W : World} {B L : Nat} {ks : List (List UInt8)} {bs : List Bool} {vs vw : Value}
theorem KnM.lt (h : KnM W B L ks bs vs vw) : B < W.heap.size := (Array.getElem?_eq_some_iff.1 h.box).1
theorem KnM.few (h : KnM W B L ks bs vs vw) (hL : L ≤ 12) : ks.length ≤ 78364164096 := by
  have h1 := few_texts sgsG (L + 2) ks h.nodup h.sig
  have h2 : sgsG.length ^ (L + 2) ≤ 6 ^ 14 := Nat.pow_le_pow_right (by decide) (by omega)
  have h3 : (6 : Nat) ^ 14 = 78364164096 := by decide
  omega
theorem box_cell (hb : W.heap[B]? = some (.cells #[vs, vw] 105 (0, 0))) : W.cell? ⟨B, 0, none⟩ = some vs ∧ W.cell? ⟨B, 1, none⟩ = some vw ∧ ∀ o, 2 ≤ o → W.cell? ⟨B, o, none⟩ = none := by
  refine ⟨by simp [World.cell?, hb], by simp [World.cell?, hb], fun o ho => ?_⟩
  obtain ⟨j, rfl⟩ : ∃ j, o = j + 2 := ⟨o - 2, by omega⟩
  simp [World.cell?, hb]
theorem box_ex (hb : W.heap[B]? = some (.cells #[vs, vw] 105 (0, 0))) (k : Nat) : Ex B W k ↔ k = B ∨ vs.ownBlock = some k ∨ vw.ownBlock = some k := by
  obtain ⟨c0, c1, c2⟩ := box_cell hb
  constructor
  · rintro (h | ⟨o, v, hc, hv⟩)
    · exact .inl h
    · match o with
      | 0 => rw [c0] at hc; injection hc with hc; subst hc; exact .inr (.inl hv)
      | 1 => rw [c1] at hc; injection hc with hc; subst hc; exact .inr (.inr hv)
      | o + 2 => rw [c2 _ (by omega)] at hc; cases hc
  · rintro (h | h | h)
    · exact .inl h
    · exact .inr ⟨0, _, c0, h⟩
    · exact .inr ⟨1, _, c1, h⟩
theorem KnM.ex_in (h : KnM W B L ks bs vs vw) (k : Nat) (he : Ex B W k) : B ≤ k ∧ k < W.heap.size := by
  rcases (box_ex h.box k).1 he with rfl | h1 | h1
  · exact ⟨Nat.le_refl _, h.lt⟩
  · have := h.row1.lt k h1; omega
  · have := h.row2.lt k h1; omega
theorem KnM.below {W' : World} (h : KnM W B L ks bs vs vw) (hb : Below W.heap.size W W') : KnM W' B L ks bs vs vw :=
  ⟨(hb.block B h.lt).trans h.box, own_below h.row1 hb, own_below h.row2 hb, h.len, h.val, h.nodup, h.sig⟩
theorem KnW.below {W' : World} (h : KnW W B L ks) (hb : Below W.heap.size W W') : KnW W' B L ks := by
  obtain ⟨bs, vs, vw, h⟩ := h
  exact ⟨bs, vs, vw, h.below hb⟩
/-- Rows of two kinds lie apart. -/
theorem own_apart {b b' : Nat} {e e' : TypeId} {n n' m m' : Nat} {v v' : Value} {xs xs' : List Value} (h : W.ownsRow b e m v n xs) (h' : W.ownsRow b' e' m' v' n' xs') (hne : e ≠ e') : v.ownBlock = none ∨ v.ownBlock ≠ v'.ownBlock := by
  rcases h.2 with ⟨hv, _⟩ | ⟨g, cap, cur, rfl, _, hg, _⟩
  · subst hv; exact .inl rfl
  · refine .inr fun e2 => ?_
    rcases h'.2 with ⟨hv, _⟩ | ⟨g', cap', cur', rfl, _, hg', _⟩
    · subst hv; cases e2
    · injection e2 with e2
      have e2 : g = g' := e2
      subst e2
      rw [hg] at hg'
      injection hg' with hg'
      injection hg' with _ h3 _
      exact hne h3
/-- Behind a call that touches nothing old, the box's memory is older than the call. -/
theorem KnM.ex_old {W' : World} (h : KnM W B L ks bs vs vw) (hb : Below W.heap.size W W') {k : Nat} (he : Ex B W' k) : k < W.heap.size :=
  (h.ex_in k ((box_ex h.box k).2 ((box_ex (h.below hb).box k).1 he))).2
/-- A new box. -/
theorem KnW.new (W : World) (L : Nat) : KnW (W.alloc (.cells #[.slice none 0 0, .slice none 0 0] 105)) W.heap.size L [] :=
  ⟨[], _, _, heap_alloc_new W _, World.ownsRow_nil _ _ _ _, World.ownsRow_nil _ _ _ _, rfl, fun i h => by simp at h, List.nodup_nil, fun x h => by simp at h⟩
end

section
variable {W w3 w5 : World} {B n m k : Nat} {vs vw v' : Value} {xs ys xs' : List Value} {o : Obj}
theorem box_apart (h1 : W.ownsRow (B + 1) 9 1 vs n xs) : some B ≠ vs.ownBlock := fun e => by have := h1.lt B e.symm; omega
theorem heap_set0 {T : TypeId} {u : Value} (hb : W.heap[B]? = some (.cells #[vs, vw] T (0, 0))) : (W.setCell ⟨B, 0, none⟩ u).heap[B]? = some (.cells #[u, vw] T (0, 0)) := by
  have := heap_setCell_same W B 0 #[vs, vw] T u hb
  simpa using this
theorem heap_set1 {T : TypeId} {u : Value} (hb : W.heap[B]? = some (.cells #[vs, vw] T (0, 0))) : (W.setCell ⟨B, 1, none⟩ u).heap[B]? = some (.cells #[vs, u] T (0, 0)) := by
  have := heap_setCell_same W B 1 #[vs, vw] T u hb
  simpa using this
theorem own_off {e : TypeId} {m : Nat} (h : W.ownsRow (B + 1) e m vs n xs) (i : Nat) (u : Value) : (W.setCell ⟨B, i, none⟩ u).ownsRow (B + 1) e m vs n xs :=
  ownsRow_setCell_other h (fun e2 => by have := h.lt B e2; omega) u
/-- Behind the first row's growing, and the store of its field. -/
theorem memo_one (hb : W.heap[B]? = some (.cells #[vs, vw] 105 (0, 0))) (h1 : W.ownsRow (B + 1) 9 1 vs n xs) (h2 : W.ownsRow (B + 1) 4 1 vw n ys)
    (hg : (W.alloc o).grownBy w3 vs.ownBlock) (h3 : w3.ownsRow (B + 1) 9 1 v' (n + 1) xs') :
    w3.heap[B]? = some (.cells #[vs, vw] 105 (0, 0)) ∧ (w3.setCell ⟨B, 0, none⟩ v').heap[B]? = some (.cells #[v', vw] 105 (0, 0)) ∧
      (w3.setCell ⟨B, 0, none⟩ v').ownsRow (B + 1) 9 1 v' (n + 1) xs' ∧ (w3.setCell ⟨B, 0, none⟩ v').ownsRow (B + 1) 4 1 vw n ys := by
  have hlt := (Array.getElem?_eq_some_iff.1 hb).1
  have b3 : w3.heap[B]? = some (.cells #[vs, vw] 105 (0, 0)) := by
    rw [hg.block B (by simp; omega) (box_apart h1), Below.heap_alloc _ _ _ hlt]; exact hb
  exact ⟨b3, heap_set0 b3, own_off h3 0 v', own_off ((h2.alloc o).kept hg (own_apart h2 h1 (by decide))) 0 v'⟩
/-- Behind the second one's. -/
theorem memo_two (hb : W.heap[B]? = some (.cells #[vs, vw] 105 (0, 0))) (h1 : W.ownsRow (B + 1) 9 1 vs n xs) (h2 : W.ownsRow (B + 1) 4 1 vw m ys)
    (hg : (W.alloc o).grownBy w3 vw.ownBlock) (h3 : w3.ownsRow (B + 1) 4 1 v' k xs') :
    w3.heap[B]? = some (.cells #[vs, vw] 105 (0, 0)) ∧ (w3.setCell ⟨B, 1, none⟩ v').heap[B]? = some (.cells #[vs, v'] 105 (0, 0)) ∧
      (w3.setCell ⟨B, 1, none⟩ v').ownsRow (B + 1) 9 1 vs n xs ∧ (w3.setCell ⟨B, 1, none⟩ v').ownsRow (B + 1) 4 1 v' k xs' := by
  have hlt := (Array.getElem?_eq_some_iff.1 hb).1
  have b3 : w3.heap[B]? = some (.cells #[vs, vw] 105 (0, 0)) := by
    rw [hg.block B (by simp; omega) (fun e => by have := h2.lt B e.symm; omega), Below.heap_alloc _ _ _ hlt]; exact hb
  exact ⟨b3, heap_set1 b3, own_off ((h1.alloc o).kept hg (own_apart h1 h2 (by decide))) 1 v', own_off h3 1 v'⟩
theorem box_hex0 {W W' : World} {u : Value} (hb : W.heap[B]? = some (.cells #[vs, vw] 105 (0, 0))) (hb' : W'.heap[B]? = some (.cells #[u, vw] 105 (0, 0))) : ∀ j v, W'.cell? ⟨B, j, none⟩ = some v → v = u ∨ W.cell? ⟨B, j, none⟩ = some v := by
  intro j v hc
  obtain ⟨c0, c1, c2⟩ := box_cell hb'
  match j with
  | 0 => rw [c0] at hc; injection hc with hc; exact .inl hc.symm
  | 1 => rw [c1] at hc; rw [(box_cell hb).2.1]; exact .inr hc
  | j + 2 => rw [c2 _ (by omega)] at hc; cases hc
theorem box_hex1 {W W' : World} {u : Value} (hb : W.heap[B]? = some (.cells #[vs, vw] 105 (0, 0))) (hb' : W'.heap[B]? = some (.cells #[vs, u] 105 (0, 0))) : ∀ j v, W'.cell? ⟨B, j, none⟩ = some v → v = u ∨ W.cell? ⟨B, j, none⟩ = some v := by
  intro j v hc
  obtain ⟨c0, c1, c2⟩ := box_cell hb'
  match j with
  | 0 => rw [c0] at hc; rw [(box_cell hb).1]; exact .inr hc
  | 1 => rw [c1] at hc; injection hc with hc; exact .inl hc.symm
  | j + 2 => rw [c2 _ (by omega)] at hc; cases hc
/-- A block made, a row grown, a field stored: what it keeps. -/
theorem kp_step {i : Nat} {u u' : Value} (hi : W.cell? ⟨B, i, none⟩ = some u) (hg : (W.alloc o).grownBy w3 u.ownBlock)
    (hat : u'.ownBlock = u.ownBlock ∨ u'.ownBlock = some (W.alloc o).heap.size) (hex : ∀ j v, (w3.setCell ⟨B, i, none⟩ u').cell? ⟨B, j, none⟩ = some v → v = u' ∨ W.cell? ⟨B, j, none⟩ = some v) : KpX B W (w3.setCell ⟨B, i, none⟩ u') := by
  have hs := hg.size
  simp at hs
  refine ⟨hg.os, hg.tape, hg.output, by simp; omega, fun k hk hn => ?_, fun k hk he => ?_⟩
  · have hkB : k ≠ B := fun e => hn (.inl e)
    have hku : some k ≠ u.ownBlock := fun e => hn (.inr ⟨i, u, hi, e.symm⟩)
    rw [Below.heap_setCell _ _ _ _ hkB, hg.block k (by simp; omega) hku, Below.heap_alloc _ _ _ hk]
  · rcases he with he | ⟨j, v, hc, hv⟩
    · exact .inl he
    · rcases hex j v hc with rfl | h
      · rcases hat with h | h
        · exact .inr ⟨i, u, hi, by rw [← h]; exact hv⟩
        · rw [h] at hv; injection hv with hv; simp at hv; omega
      · exact .inr ⟨j, v, h, hv⟩
end
end Go.Proofs.Ytjnidfleccbdbaa
namespace Go.Proofs.Ytjnidfleccbdbaa
open Go.RowKit

theorem Try.infoBo : (Try.prog.info? 4).map (fun i => (i.zero, i.size, i.bytes)) = some (some (.bool false), 1, 1) := by kernel_rfl
/-- A sum of good lines. -/
structure SumG (L : Nat) (ls : List (List UInt8)) : Prop where
  ne : ls ≠ []
  few : ls.length ≤ 3
  good : ∀ x ∈ ls, goodL (str x) = true
  len : (joinG ls).length = L
  le : L ≤ 12
theorem joinG_set : ∀ (ls : List (List UInt8)) (k : Nat) (h : k < ls.length) (x : List UInt8), x.length = ls[k].length → (joinG (ls.set k x)).length = (joinG ls).length
  | [], _, h, _, _ => by simp at h
  | [w], 0, _, x, e => by simpa [joinG] using e
  | [w], _ + 1, h, _, _ => by simp at h
  | w :: v :: r, 0, _, x, e => by
    simp only [List.set_cons_zero, joinG, List.length_append]
    have : x.length = w.length := e
    omega
  | w :: v :: r, k + 1, h, x, e => by
    have ih := joinG_set (v :: r) k (by simpa using h) x e
    rw [List.set_cons_succ, joinG_cons w (by cases k <;> simp), joinG_cons w (by simp)]
    simp only [List.length_append, List.length_cons]
    omega
theorem joinG_sig : ∀ (ls : List (List UInt8)), (∀ x ∈ ls, goodL (str x) = true) → ∀ c ∈ joinG ls, c ∈ sgsG
  | [], _, c, hc => by simp [joinG] at hc
  | [w], h, c, hc => by
    have := ((goodL_iff _).1 (h w (by simp))).2.2
    rw [byt_str, List.all_eq_true] at this
    have := this c hc
    simp [isSign] at this
    rcases this with (h | h) | h <;> subst h <;> decide
  | w :: v :: r, h, c, hc => by
    rw [joinG_cons w (by simp), List.mem_append, List.mem_cons] at hc
    rcases hc with hc | hc | hc
    · have := ((goodL_iff _).1 (h w (by simp))).2.2
      rw [byt_str, List.all_eq_true] at this
      have := this c hc
      simp [isSign] at this
      rcases this with (h | h) | h <;> subst h <;> decide
    · subst hc; decide
    · exact joinG_sig (v :: r) (fun x hx => h x (by simp [show x ∈ v :: r from hx])) c hc
theorem SumG.set {L : Nat} {ls : List (List UInt8)} (h : SumG L ls) {k : Nat} (hk : k < ls.length) {tm : Bool} {x : List UInt8} (hx : x ∈ nxG tm ls[k]) : SumG L (ls.set k x) := by
  have hg := h.good _ (List.getElem_mem hk)
  obtain ⟨_, e⟩ := mu_less (by have := ((goodL_iff _).1 hg).2.1; rw [str_size] at this; omega) hx
  refine ⟨fun e2 => ?_, by simpa using h.few, fun y hy => ?_, by rw [joinG_set ls k hk x e]; exact h.len, h.le⟩
  · have := congrArg List.length e2
    simp at this
    exact h.ne this
  · rcases List.mem_or_eq_of_mem_set hy with hy | rfl
    · exact h.good y hy
    · exact nxG_good hg hx
theorem SumG.key {L : Nat} {ls : List (List UInt8)} (h : SumG L ls) (tm : Bool) : (keyG tm (joinG ls)).length = L + 2 ∧ ∀ c ∈ keyG tm (joinG ls), c ∈ sgsG := by
  refine ⟨by simp [keyG, h.len], fun c hc => ?_⟩
  unfold keyG at hc
  rw [List.mem_cons, List.mem_cons] at hc
  rcases hc with hc | hc | hc
  · subst hc; cases tm <;> decide
  · subst hc; decide
  · exact joinG_sig ls h.good c hc
theorem SumG.len12 {L : Nat} {ls : List (List UInt8)} (h : SumG L ls) : ∀ x ∈ ls, x.length ≤ 12 := fun x hx => by
  have := ((goodL_iff _).1 (h.good x hx)).2.1
  rwa [str_size] at this
/-- How much is left of a text that sums are kept under. -/
def muK (x : List UInt8) : Nat := muG 0 (x.drop 2)
theorem muK_key (tm : Bool) (s : List UInt8) : muK (keyG tm s) = muG 0 s := rfl
/-- What a call of win leaves. -/
def WinP (B L N : Nat) (ks : List (List UInt8)) (W : World) (r : Bool) (e : Ending) (W' : World) : Prop :=
  e = .returned (.bool r) ∧ ∃ ks', KnW W' B L ks' ∧ (∀ x ∈ ks', x ∈ ks ∨ muK x ≤ N) ∧ KpX B W W'

/-- What is known while the moves are tried. -/
structure SoFar (B L N : Nat) (ks : List (List UInt8)) (W wr : World) : Prop where
  kn : ∃ ks', KnW wr B L ks' ∧ ∀ x ∈ ks', x ∈ ks ∨ muK x < N
  kp : KpX B W wr

set_option maxRecDepth 100000 in
set_option maxHeartbeats 4000000 in
theorem win_known (B L : Nat) (tm : Bool) (ls : List (List UInt8)) (A : Option Addr) (cap : Nat) (W : World) (ks : List (List UInt8)) (hs : SumG L ls) (hA : StO W A ls) (hk : KnW W B L ks) (hin : keyG tm (joinG ls) ∈ ks) :
    Calls Try.prog 66 #[.pointer (some ⟨B, 0, none⟩), .slice A ls.length cap, .bool tm] W fun e W' => e = .returned (.bool (Wn tm (joinG ls))) ∧ W' = W := by
  obtain ⟨bs, vs, vw, hM⟩ := hk
  obtain ⟨i0, hi0, hix⟩ := List.getElem_of_mem hin
  have hfew := hM.few hs.le
  obtain ⟨c0, c1, _⟩ := box_cell hM.box
  obtain ⟨g1, p1, rfl, _, hg1, _, _, hr1⟩ := own_open hM.row1 (by omega)
  obtain ⟨g2, p2, rfl, _, hg2, _, _, hr2⟩ := own_open hM.row2 (by omega)
  have HK1 : Hid (∀ j (h : j < ks.length), W.cell? ⟨g1, j, none⟩ = some (.string (str ks[j]))) := Lib.hid fun j h => by
    have := hr1 j (by rw [txs_len]; exact h)
    simpa [txs] using this
  have HK2 : Hid (∀ j (h : j < ks.length), ∃ tm' s', ks[j] = keyG tm' s' ∧ W.cell? ⟨g2, j, none⟩ = some (.bool (Wn tm' s'))) := Lib.hid fun j h => by
    obtain ⟨tm', s', e1, e2⟩ := hM.val j h
    have := hr2 j (by simp [hM.len]; exact h)
    refine ⟨tm', s', e1, ?_⟩
    rw [this]
    simp [e2]
  have HIN := Lib.hid hix
  have HKEY := Lib.hid (gaKey_any tm ls A cap W hA hs.ne hs.few hs.len12)
  clear hr1 hr2 hM hix hA hs hin
  generalize hq : keyG tm (joinG ls) = key at HKEY HIN
  have HQ := Lib.hid hq
  clear hq
  go_enter Try.func66, Try.ntmps66
  go_wp2_with fail
  refine HKEY.out.mono ?_
  rintro e w1 ⟨rfl, rfl⟩
  go_wp2
  go_loop [23] (fun i => ∃ k : Nat, k ≤ ks.length ∧ i = .int .i64 k ∧ k ≤ i0) (fun i => ks.length - (intOf i).toNat)
  case atStart => exact ⟨0, Nat.zero_le _, rfl, Nat.zero_le _⟩
  case round =>
    obtain ⟨k, hk, rfl, hk0⟩ := hrel
    have hlt : k < ks.length := by omega
    have d1 := HK1.out k hlt
    obtain ⟨tm', s', e1, d2⟩ := HK2.out k hlt
    have E1 := Lib.hid e1
    have HS := Lib.hid (same_str ks[k] key)
    have i1 : (0 : Int) ≤ (k : Int) := by omega
    have i2 : (k : Int) < (ks.length : Int) := by omega
    clear e1
    by_cases he : ks[k] = key
    · have hb : ((str ks[k]).toList == (str key).toList) = true := by rw [HS.out]; simp [he]
      have HE := Lib.hid he
      clear he
      go_wp2
      go_ret
      refine ⟨?_, rfl⟩
      have := keyG_inj (E1.out.symm.trans (HE.out.trans HQ.out.symm))
      rw [this.1, this.2]
      rfl
    · have hb : ((str ks[k]).toList == (str key).toList) = false := by rw [HS.out]; simp [he]
      have HE := Lib.hid he
      have hne : k ≠ i0 := fun e => by subst e; exact HE.out HIN.out
      clear he
      go_wp2
      go_round
      case rel => exact ⟨k + 1, by omega, by go_num, by omega⟩
      case measure => simp [intOf]; omega

/-- The two fields grown: what is known then. -/
theorem win_done {B L N : Nat} {tm : Bool} {s : List UInt8} {ks ks' : List (List UInt8)} {bs : List Bool} {W wr wz : World} {vs vw v1 v2 : Value} (hM : KnM wr B L ks' bs vs vw)
    (hk : ∀ x ∈ ks', x ∈ ks ∨ muK x < N) (hmu : muG 0 s = N) (hno : keyG tm s ∉ ks) (hsig : (keyG tm s).length = L + 2 ∧ ∀ c ∈ keyG tm s, c ∈ sgsG) (hkp : KpX B W wz)
    (hb : wz.heap[B]? = some (.cells #[v1, v2] 105 (0, 0))) (h1 : wz.ownsRow (B + 1) 9 1 v1 (ks'.length + 1) (txs ks' ++ [.string (str (keyG tm s))]))
    (h2 : wz.ownsRow (B + 1) 4 1 v2 (ks'.length + 1) (bs.map .bool ++ [.bool (Wn tm s)])) : WinP B L N ks W (Wn tm s) (.returned (.bool (Wn tm s))) wz := by
  refine ⟨rfl, ks' ++ [keyG tm s], ⟨bs ++ [Wn tm s], v1, v2, hb, ?_, ?_, by simp [hM.len], fun i h => ?_, ?_, fun x hx => ?_⟩, fun x hx => ?_, hkp⟩
  · rw [List.length_append, txs_app]; exact h1
  · rw [List.length_append, List.map_append]; exact h2
  · by_cases hi : i < ks'.length
    · obtain ⟨tm', s', e1, e2⟩ := hM.val i hi
      refine ⟨tm', s', by rw [List.getElem_append_left hi]; exact e1, by rw [List.getElem_append_left (by have := hM.len; omega)]; exact e2⟩
    · have hl := hM.len
      obtain rfl : i = ks'.length := by simp at h; omega
      refine ⟨tm, s, by simp, ?_⟩
      rw [List.getElem_append_right (by omega)]
      simp
  · refine List.nodup_append.2 ⟨hM.nodup, by simp, fun x hx y hy e => ?_⟩
    simp at hy
    subst hy
    subst e
    rcases hk _ hx with h | h
    · exact hno h
    · rw [muK_key] at h; omega
  · rw [List.mem_append] at hx
    rcases hx with hx | hx
    · exact hM.sig x hx
    · simp at hx; subst hx; exact hsig
  · rw [List.mem_append] at hx
    rcases hx with hx | hx
    · rcases hk x hx with h | h
      · exact .inl h
      · exact .inr (by omega)
    · simp at hx; subst hx; exact .inr (by rw [muK_key]; omega)

theorem win_fin {B L N : Nat} {tm : Bool} {s : List UInt8} {ks ks' : List (List UInt8)} {bs : List Bool} {W w wa wb : World} {vs vw v1 v2 : Value} {o1 o2 : Obj} (hT : KpX B W w) (hM : KnM w B L ks' bs vs vw)
    (hk : ∀ x ∈ ks', x ∈ ks ∨ muK x < N) (hmu : muG 0 s = N) (hno : keyG tm s ∉ ks) (hsig : (keyG tm s).length = L + 2 ∧ ∀ c ∈ keyG tm s, c ∈ sgsG)
    (hg1 : (w.alloc o1).grownBy wa vs.ownBlock) (ho1 : wa.ownsRow (B + 1) 9 1 v1 (ks'.length + 1) (txs ks' ++ [.string (str (keyG tm s))])) (hat1 : v1.ownBlock = vs.ownBlock ∨ v1.ownBlock = some (w.alloc o1).heap.size)
    (hg2 : ((wa.setCell ⟨B, 0, none⟩ v1).alloc o2).grownBy wb vw.ownBlock) (ho2 : wb.ownsRow (B + 1) 4 1 v2 (ks'.length + 1) (bs.map .bool ++ [.bool (Wn tm s)])) (hat2 : v2.ownBlock = vw.ownBlock ∨ v2.ownBlock = some ((wa.setCell ⟨B, 0, none⟩ v1).alloc o2).heap.size) :
    WinP B L N ks W (Wn tm s) (.returned (.bool (Wn tm s))) (wb.setCell ⟨B, 1, none⟩ v2) := by
  obtain ⟨a1, a2, a3, a4⟩ := memo_one hM.box hM.row1 hM.row2 hg1 ho1
  obtain ⟨b1, b2, b3, b4⟩ := memo_two a2 a3 a4 hg2 ho2
  have k1 : KpX B w (wa.setCell ⟨B, 0, none⟩ v1) := kp_step (box_cell hM.box).1 hg1 hat1 (box_hex0 hM.box a2)
  have k2 : KpX B (wa.setCell ⟨B, 0, none⟩ v1) (wb.setCell ⟨B, 1, none⟩ v2) := kp_step (box_cell a2).2.1 hg2 hat2 (box_hex1 a2 b2)
  exact win_done hM hk hmu hno hsig (hT.trans (k1.trans k2)) b2 b3 b4

set_option maxRecDepth 100000 in
set_option maxHeartbeats 8000000 in
theorem win_any : ∀ (N B L : Nat) (tm : Bool) (ls : List (List UInt8)) (A : Option Addr) (cap : Nat) (W : World) (ks : List (List UInt8)), muG 0 (joinG ls) = N → SumG L ls → StO W A ls → (∀ a, A = some a → ¬ Ex B W a.block) → KnW W B L ks →
    Calls Try.prog 66 #[.pointer (some ⟨B, 0, none⟩), .slice A ls.length cap, .bool tm] W (WinP B L N ks W (Wn tm (joinG ls))) := by
  intro N
  induction N using Nat.strongRecOn with
  | ind N IH =>
  intro B L tm ls A cap W ks hmu hs hA hAx hk
  by_cases hin : keyG tm (joinG ls) ∈ ks
  · refine (win_known B L tm ls A cap W ks hs hA hk hin).mono ?_
    rintro e w' ⟨rfl, rfl⟩
    exact ⟨rfl, ks, hk, fun x hx => .inl hx, KpX.refl _ _⟩
  obtain ⟨iS, hi, hz0, hz1, hz2⟩ := info_parts Try.infoS
  have HI := Lib.hid hi
  have HZ0 := Lib.hid hz0
  have HZ1 := Lib.hid hz1
  have HZ2 := Lib.hid hz2
  clear hi hz0 hz1 hz2
  obtain ⟨iB, hi, hz0, hz1, hz2⟩ := info_parts Try.infoBo
  have BI := Lib.hid hi
  have BZ0 := Lib.hid hz0
  have BZ1 := Lib.hid hz1
  have BZ2 := Lib.hid hz2
  clear hi hz0 hz1 hz2
  have hbox : ∃ bs vs vw, KnM W B L ks bs vs vw := hk
  obtain ⟨bs, vs, vw, hM⟩ := hbox
  have hfew := hM.few hs.le
  obtain ⟨c0, c1, _⟩ := box_cell hM.box
  obtain ⟨A1, p1, hvs, _, _, hA1, _, _⟩ := st_own hM.row1
  have HK1 := Lib.hid hA1
  have HBL := Lib.hid hM.lt
  have hgA : ∃ gA oA, A = some ⟨gA, oA, none⟩ := by
    obtain ⟨gA, oA, hgA, _⟩ := hA 0 (List.length_pos_iff.2 hs.ne)
    exact ⟨gA, oA, hgA⟩
  obtain ⟨gA, oA, rfl⟩ := hgA
  have HKEY := Lib.hid (gaKey_any tm ls _ cap W hA hs.ne hs.few hs.len12)
  have HWIN : Hid (∀ x ∈ nxG tm (joinG ls), Wn (!tm) x = false → Wn tm (joinG ls) = true) := Lib.hid fun x hx h => Wn_true (by have := hs.len; have := hs.le; omega) hx h
  have HLOSE : Hid ((∀ x ∈ nxG tm (joinG ls), Wn (!tm) x = true) → Wn tm (joinG ls) = false) := Lib.hid fun h => Wn_false (by have := hs.len; have := hs.le; omega) h
  have HJOIN := Lib.hid (nxG_join tm ls)
  have HLESS : Hid (∀ x ∈ nxG tm (joinG ls), muG 0 x < N) := Lib.hid fun x hx => by rw [← hmu]; exact (mu_less (by have := hs.len; have := hs.le; omega) hx).1
  have hls3 := hs.few
  have HSIG := Lib.hid (hs.key tm)
  have HNO := Lib.hid hin
  have HMU := Lib.hid hmu
  have HIH := Lib.hid IH
  have HA := Lib.hid hA
  have HAX := Lib.hid hAx
  have HK := Lib.hid hk
  have HS := Lib.hid hs
  subst hvs
  clear IH hA hAx hk hs hin hmu hM hA1
  have H1 : ∀ u ∈ [Value.string (str (keyG tm (joinG ls)))], u.oneCell' = true := fun u hu => by simp at hu; subst hu; rfl
  go_enter Try.func66, Try.ntmps66
  go_wp2_with fail
  refine HKEY.out.mono ?_
  rintro e w1 ⟨rfl, rfl⟩
  go_wp2
  go_loop [23] (fun i => ∃ k : Nat, k ≤ ks.length ∧ i = .int .i64 k) (fun i => ks.length - (intOf i).toNat)
  case atStart => exact ⟨0, Nat.zero_le _, rfl⟩
  case round =>
    obtain ⟨k, hk, rfl⟩ := hrel
    by_cases hlt : k < ks.length
    · obtain ⟨g1, rfl, hg1, d1⟩ := HK1.out k hlt
      have hb : ((str ks[k]).toList == (str (keyG tm (joinG ls))).toList) = false := by
        rw [same_str, decide_eq_false_iff_not]
        intro e
        exact HNO.out (by rw [← e]; exact List.getElem_mem hlt)
      have i1 : (0 : Int) ≤ (k : Int) := by omega
      have i2 : (k : Int) < (ks.length : Int) := by omega
      go_wp2
      go_round
      case rel => exact ⟨k + 1, by omega, by go_num⟩
      case measure => simp [intOf]; omega
    · go_wp2
      go_loopw [10, 41] (fun z i wr => ∃ k : Nat, k ≤ ls.length ∧ i = .int .i64 k ∧ z = .bool false ∧ Hid (∀ j (h : j < ls.length), j < k → ∀ y ∈ nxG tm ls[j], Wn (!tm) (joinG (ls.set j y)) = true) ∧ Hid (SoFar B L N ks W wr)) (fun _ i _ => ls.length - (intOf i).toNat)
      case atStart => exact ⟨0, Nat.zero_le _, rfl, rfl, Lib.hid fun j _ h => by omega, Lib.hid ⟨⟨ks, HK.out, fun x hx => .inl hx⟩, KpX.refl _ _⟩⟩
      case round =>
        obtain ⟨k, hk, rfl, rfl, HW, HT⟩ := hrel
        by_cases hlt : k < ls.length
        · have HX : Hid (StO wr (some ⟨gA, oA, none⟩) ls ∧ ¬ Ex B wr gA ∧ gA < wr.heap.size) := by
            have h1 := HA.out.kp HT.out.kp HAX.out
            obtain ⟨g', o', e1, hlt', _⟩ := HA.out k hlt
            injection e1 with e1
            injection e1 with e1 e3
            subst e1
            subst e3
            exact Lib.hid ⟨h1, fun he => HAX.out _ rfl (HT.out.kp.ex _ hlt' he), Nat.lt_of_lt_of_le hlt' HT.out.kp.size⟩
          obtain ⟨g', o', e1, _, hcell⟩ := HX.out.1 k hlt
          injection e1 with e1
          injection e1 with e1 e3
          subst e1
          subst e3
          have hgood := HS.out.good _ (List.getElem_mem hlt)
          have hx12 := HS.out.len12 _ (List.getElem_mem hlt)
          have HMV := Lib.hid (fun wx => liMoves_kd tm ls[k] wx hgood)
          have HAT := Lib.hid (fun (j : Nat) (h : j < (gmM tm ls[k]).length) => gm_at (tm := tm) (s := ls[k]) j h)
          have hMl := gmM_le tm ls[k]
          have HNX : Hid (∀ y, y ∈ nxG tm ls[k] → ∃ j, ∃ h : j < (gmM tm ls[k]).length, y = behind (str ls[k]) (gmM tm ls[k])[j].1 (gmM tm ls[k])[j].2) := Lib.hid fun y hy => by
            obtain ⟨m, hm, rfl⟩ := List.mem_map.1 hy
            obtain ⟨j, hj, rfl⟩ := List.getElem_of_mem hm
            exact ⟨j, hj, rfl⟩
          have HSET : Hid (∀ y, y ∈ nxG tm ls[k] → SumG L (ls.set k y) ∧ joinG (ls.set k y) ∈ nxG tm (joinG ls)) := Lib.hid fun y hy => ⟨HS.out.set hlt hy, (HJOIN.out _).2 ⟨k, hlt, y, hy, rfl⟩⟩
          have HWK : Hid ((∀ y, y ∈ nxG tm ls[k] → Wn (!tm) (joinG (ls.set k y)) = true) → ∀ j (h : j < ls.length), j < k + 1 → ∀ y ∈ nxG tm ls[j], Wn (!tm) (joinG (ls.set j y)) = true) := Lib.hid fun h j hj hjk y hy => by
            by_cases e : j = k
            · subst e; exact h y hy
            · exact HW.out j hj (by omega) y hy
          generalize hxx : ls[k] = x at hcell hx12 HMV HAT hMl HNX HSET HWK
          clear hgood hxx HW
          generalize hMM : gmM tm x = M at HMV HAT hMl HNX
          clear hMM
          have i1 : (0 : Int) ≤ (k : Int) := by omega
          have i2 : (k : Int) < (ls.length : Int) := by omega
          go_wp2_with fail
          refine (HMV.out _).mono ?_
          rintro e w2 ⟨v2, rfl, ho2, hb2⟩
          obtain ⟨A2, cap2, rfl, AT2⟩ := at_of_own ho2
          have HA2 : Hid (∀ a, A2 = some a → wr.heap.size ≤ a.block ∧ a.block < w2.heap.size) := Lib.hid fun a e => by
            subst e
            exact ho2.lt _ rfl
          have hlt2 := HT.out.kp.size
          have HB2 := Lib.hid hb2
          have HT2 : Hid (SoFar B L N ks W w2) := by
            obtain ⟨⟨ks', hkn, hks⟩, hkp⟩ := HT.out
            obtain ⟨bs', vs', vw', hM'⟩ := hkn
            exact Lib.hid ⟨⟨ks', ⟨bs', vs', vw', hM'.below hb2⟩, hks⟩, hkp.trans (KpX.below hM'.lt hb2)⟩
          have HX2 : Hid (StO w2 (some ⟨gA, oA, none⟩) ls ∧ ¬ Ex B w2 gA ∧ gA < w2.heap.size ∧ ∀ a, A2 = some a → ¬ Ex B w2 a.block) := by
            obtain ⟨⟨ks', hkn, hks⟩, hkp⟩ := HT.out
            obtain ⟨bs', vs', vw', hM'⟩ := hkn
            refine Lib.hid ⟨HX.out.1.below hb2, fun he => HX.out.2.1 ((KpX.below hM'.lt hb2).ex _ HX.out.2.2 he), Nat.lt_of_lt_of_le HX.out.2.2 hb2.size, fun a e he => ?_⟩
            have := hM'.ex_old hb2 he
            have := (HA2.out a e).1
            omega
          have AT := Lib.hid AT2
          clear ho2 hb2 AT2 hcell
          go_wp2
          go_loopw [10, 52] (fun z t wq => ∃ j : Nat, j ≤ M.length ∧ t = .int .i64 j ∧ z = .bool false ∧ Hid (∀ i (h : i < M.length), i < j → Wn (!tm) (joinG (ls.set k (behind (str x) M[i].1 M[i].2))) = true) ∧ Hid (SoFar B L N ks W wq) ∧ Hid (KpX B w2 wq)) (fun _ t _ => M.length - (intOf t).toNat)
          case atStart => exact ⟨0, Nat.zero_le _, rfl, rfl, Lib.hid fun i _ h => by omega, HT2, Lib.hid (KpX.refl _ _)⟩
          case round =>
            obtain ⟨j, hj, rfl, rfl, HWJ, HTQ, HKQ⟩ := hrel
            by_cases hltj : j < M.length
            · obtain ⟨gm, rfl, zz, p1, q1⟩ := (AT.out.kp HKQ.out HX2.out.2.2.2) j hltj
              obtain ⟨a, b, e1, e2, hai, hbi, hneab, hyn, hy⟩ := HAT.out j hltj
              rw [e1] at p1
              rw [e2] at q1
              have HY := Lib.hid hy
              have hset := HSET.out _ hyn
              have HXQ : Hid (StO wr (some ⟨gA, oA, none⟩) ls ∧ ¬ Ex B wr gA ∧ gA < wr.heap.size) := Lib.hid ⟨HX2.out.1.kp HKQ.out (fun a e => by injection e with e; subst e; exact HX2.out.2.1), fun he => HX2.out.2.1 (HKQ.out.ex _ HX2.out.2.2.1 he), Nat.lt_of_lt_of_le HX2.out.2.2.1 HKQ.out.size⟩
              have HMK := Lib.hid (fun wx => liMake_any (str x) a b wx (by rw [str_size]; omega) (by rw [str_size]; exact hai) (by rw [str_size]; exact hbi) hneab)
              have HGW := Lib.hid (fun wx hh => gaWith_any ls k (putL (str x) a b) (some ⟨gA, oA, none⟩) cap wx hh hlt (by omega))
              have HIHY := Lib.hid (fun A c wx kx h1 h2 h3 => HIH.out _ (HLESS.out _ hset.2) B L (!tm) (ls.set k (putL (str x) a b)) A c wx kx rfl hset.1 h1 h2 h3)
              have HMUY := Lib.hid (HLESS.out _ hset.2)
              have HYN := Lib.hid hset.2
              have hlen : (ls.set k (putL (str x) a b)).length = ls.length := List.length_set
              clear e1 e2 hy hset hyn
              have j1 : (0 : Int) ≤ (j : Int) := by omega
              have j2 : (j : Int) < (M.length : Int) := by omega
              go_wp2_with fail
              refine (HMK.out _).mono ?_
              rintro e w3 ⟨rfl, hb3⟩
              have HB3 := Lib.hid (((Below.refl wr.heap.size wr).alloc (Nat.le_refl _) (mvB a b)).trans (hb3.mono (by simp)))
              clear hb3 p1 q1
              go_wp2_with fail
              refine (HGW.out _ (HXQ.out.1.below HB3.out)).mono ?_
              rintro e w4 ⟨g4, c4, rfl, hg4, hst4, hb4⟩
              have HB4 := Lib.hid (HB3.out.trans (hb4.mono HB3.out.size))
              have HST4 := Lib.hid hst4.toO
              have hz4 := HB3.out.size
              clear hb4 hst4
              obtain ⟨⟨kq, hkq, hkqs⟩, hkpq⟩ := HTQ.out
              have HKN : Hid (KnW w4 B L kq ∧ ¬ Ex B w4 g4 ∧ KpX B wr w4) := by
                obtain ⟨bq, vsq, vwr, hMq⟩ := hkq
                refine Lib.hid ⟨⟨bq, vsq, vwr, hMq.below HB4.out⟩, fun he => ?_, KpX.below hMq.lt HB4.out⟩
                have := hMq.ex_old HB4.out he
                omega
              have HKQS := Lib.hid hkqs
              have HKPQ := Lib.hid hkpq
              clear hkq hkqs hkpq
              go_wp2_with fail
              rw [← hlen]
              refine (HIHY.out _ _ _ kq HST4.out (fun a e => by injection e with e; subst e; exact HKN.out.2.1) HKN.out.1).mono ?_
              rintro e w5 ⟨rfl, ky, hky, hkys, hkp5⟩
              rw [hlen]
              have HT5 : Hid (SoFar B L N ks W w5) := Lib.hid ⟨⟨ky, hky, fun z hz => by
                rcases hkys z hz with h | h
                · exact HKQS.out z h
                · have := HMUY.out; exact .inr (by omega)⟩, HKPQ.out.trans (HKN.out.2.2.trans hkp5)⟩
              have HK5' := Lib.hid (HKQ.out.trans (HKN.out.2.2.trans hkp5))
              clear hky hkys hkp5
              cases hr : Wn (!tm) (joinG (ls.set k (putL (str x) a b)))
              · have HBV : Hid (Wn tm (joinG ls) = true) := Lib.hid (HWIN.out _ HYN.out hr)
                clear hr
                obtain ⟨⟨ks5, ⟨bs5, vs5, vw5, hM5⟩, hk5⟩, hkp5⟩ := HT5.out
                have HM5 := Lib.hid hM5
                have HK5 := Lib.hid hk5
                have HKP5 := Lib.hid hkp5
                obtain ⟨c50, c51, _⟩ := box_cell hM5.box
                have hlt5 := hM5.lt
                have hfew5 := hM5.few HS.out.le
                have HR1 := Lib.hid hM5.row1
                have HR2 := Lib.hid hM5.row2
                have HB5 := Lib.hid hM5.box
                clear hM5 hk5 hkp5
                go_wp2_with (first
                  | (at_builtin; refine wpList_append_own_at _ rfl _ _ 87 rfl (B + 1) 9 iS (.string ByteArray.empty) 1 16 Try.underlying87 HI.out HZ0.out HZ1.out HZ2.out rfl (by decide) vs5 ks5.length (txs ks5) rfl (HR1.out.alloc _) ⟨w5.heap.size, 0, none⟩ 1 1 [.string (str (keyG tm (joinG ls)))] rfl rfl (cell_one_new _ _ _) H1 (by unfold maxLen; omega) (by omega) (by simp; omega) ?_; intro v3 w3 ho3 hg3 _ hat3; obtain ⟨g3, q3, rfl, _, _, _, _, _⟩ := own_open ho3 (by omega); have hm3 := memo_one HB5.out HR1.out HR2.out hg3 ho3; obtain ⟨b31, b32, o31, o32⟩ := hm3; obtain ⟨d0, d1, _⟩ := box_cell b31; have f0 : w3.frozen? ⟨B, 0, none⟩ = false := by simp [World.frozen?, b31]
                     have hl3 : B < w3.heap.size := (Array.getElem?_eq_some_iff.1 b31).1; have O31 := Lib.hid o31; have O32 := Lib.hid o32; have B32 := Lib.hid b32; have HO3 := Lib.hid ho3; have HG3 := Lib.hid hg3; have HAT3 := Lib.hid hat3; clear o31 o32 b31 b32 ho3 hg3 hat3)
                  | (at_builtin; refine wpList_append_own_at _ rfl _ _ 103 rfl (B + 1) 4 iB (.bool false) 1 1 Try.underlying103 BI.out BZ0.out BZ1.out BZ2.out rfl (by decide) vw5 ks5.length (bs5.map .bool) rfl (O32.out.alloc _) ⟨w3.heap.size, 0, none⟩ 1 1 [.bool true] rfl rfl (by have h := cell_one_new (w3.setCell ⟨B, 0, none⟩ (.slice (some ⟨g3, 0, none⟩) (ks5.length + 1) q3)) (.bool true) 4; simpa using h) (fun u hu => by simp at hu; subst hu; rfl) (by unfold maxLen; omega) (by omega) (by simp; omega) ?_; intro v4 w4 ho4 hg4 _ hat4; obtain ⟨g4, q4, rfl, _, _, _, _, _⟩ := own_open ho4 (by omega); have hm4 := memo_two B32.out O31.out O32.out hg4 ho4; obtain ⟨b41, _, _, _⟩ := hm4; obtain ⟨e0, e1, _⟩ := box_cell b41; have f1 : w4.frozen? ⟨B, 1, none⟩ = false := by simp [World.frozen?, b41]
                     have HO4 := Lib.hid ho4; have HG4 := Lib.hid hg4; have HAT4 := Lib.hid hat4; clear b41 ho4 hg4 hat4))
                go_ret
                refine cast ?_ (win_fin (tm := tm) (s := joinG ls) HKP5.out HM5.out HK5.out HMU.out HNO.out HSIG.out HG3.out HO3.out HAT3.out HG4.out (by rw [HBV.out]; exact HO4.out) HAT4.out)
                rw [HBV.out]
                rfl
              · have HR := Lib.hid hr
                clear hr
                have HWJ2 : Hid (∀ i (h : i < M.length), i < j + 1 → Wn (!tm) (joinG (ls.set k (behind (str x) M[i].1 M[i].2))) = true) := Lib.hid fun i h hi => by
                  by_cases e : i = j
                  · subst e; rw [← HY.out]; exact HR.out
                  · exact HWJ.out i h (by omega)
                go_wp2
                go_roundw
                case rel => exact ⟨j + 1, by omega, by go_num, rfl, HWJ2, HT5, HK5'⟩
                case measure => simp [intOf]; omega
            · have HWJ2 := Lib.hid (HWK.out fun y hy => by
                obtain ⟨i, hi, rfl⟩ := HNX.out y hy
                exact HWJ.out i hi (by omega))
              go_wp2
              go_roundw
              case rel => exact ⟨k + 1, by omega, by go_num, rfl, HWJ2, HTQ⟩
              case measure => simp [intOf]; omega
        · have HBV : Hid (Wn tm (joinG ls) = false) := Lib.hid (HLOSE.out fun x hx => by
            obtain ⟨j, hj, y, hy, rfl⟩ := (HJOIN.out x).1 hx
            exact HW.out j hj (by omega) y hy)
          obtain ⟨⟨ks5, ⟨bs5, vs5, vw5, hM5⟩, hk5⟩, hkp5⟩ := HT.out
          have HM5 := Lib.hid hM5
          have HK5 := Lib.hid hk5
          have HKP5 := Lib.hid hkp5
          obtain ⟨c50, c51, _⟩ := box_cell hM5.box
          have hlt5 := hM5.lt
          have hfew5 := hM5.few HS.out.le
          have HR1 := Lib.hid hM5.row1
          have HR2 := Lib.hid hM5.row2
          have HB5 := Lib.hid hM5.box
          clear hM5 hk5 hkp5
          go_wp2_with (first
            | (at_builtin; refine wpList_append_own_at _ rfl _ _ 87 rfl (B + 1) 9 iS (.string ByteArray.empty) 1 16 Try.underlying87 HI.out HZ0.out HZ1.out HZ2.out rfl (by decide) vs5 ks5.length (txs ks5) rfl (HR1.out.alloc _) ⟨wr.heap.size, 0, none⟩ 1 1 [.string (str (keyG tm (joinG ls)))] rfl rfl (cell_one_new _ _ _) H1 (by unfold maxLen; omega) (by omega) (by simp; omega) ?_; intro v3 w3 ho3 hg3 _ hat3; obtain ⟨g3, q3, rfl, _, _, _, _, _⟩ := own_open ho3 (by omega); have hm3 := memo_one HB5.out HR1.out HR2.out hg3 ho3; obtain ⟨b31, b32, o31, o32⟩ := hm3; obtain ⟨d0, d1, _⟩ := box_cell b31; have f0 : w3.frozen? ⟨B, 0, none⟩ = false := by simp [World.frozen?, b31]
               have hl3 : B < w3.heap.size := (Array.getElem?_eq_some_iff.1 b31).1; have O31 := Lib.hid o31; have O32 := Lib.hid o32; have B32 := Lib.hid b32; have HO3 := Lib.hid ho3; have HG3 := Lib.hid hg3; have HAT3 := Lib.hid hat3; clear o31 o32 b31 b32 ho3 hg3 hat3)
            | (at_builtin; refine wpList_append_own_at _ rfl _ _ 103 rfl (B + 1) 4 iB (.bool false) 1 1 Try.underlying103 BI.out BZ0.out BZ1.out BZ2.out rfl (by decide) vw5 ks5.length (bs5.map .bool) rfl (O32.out.alloc _) ⟨w3.heap.size, 0, none⟩ 1 1 [.bool false] rfl rfl (by have h := cell_one_new (w3.setCell ⟨B, 0, none⟩ (.slice (some ⟨g3, 0, none⟩) (ks5.length + 1) q3)) (.bool false) 4; simpa using h) (fun u hu => by simp at hu; subst hu; rfl) (by unfold maxLen; omega) (by omega) (by simp; omega) ?_; intro v4 w4 ho4 hg4 _ hat4; obtain ⟨g4, q4, rfl, _, _, _, _, _⟩ := own_open ho4 (by omega); have hm4 := memo_two B32.out O31.out O32.out hg4 ho4; obtain ⟨b41, _, _, _⟩ := hm4; obtain ⟨e0, e1, _⟩ := box_cell b41; have f1 : w4.frozen? ⟨B, 1, none⟩ = false := by simp [World.frozen?, b41]
               have HO4 := Lib.hid ho4; have HG4 := Lib.hid hg4; have HAT4 := Lib.hid hat4; clear b41 ho4 hg4 hat4))
          go_ret
          refine cast ?_ (win_fin (tm := tm) (s := joinG ls) HKP5.out HM5.out HK5.out HMU.out HNO.out HSIG.out HG3.out HO3.out HAT3.out HG4.out (by rw [HBV.out]; exact HO4.out) HAT4.out)
          rw [HBV.out]
          rfl
end Go.Proofs.Ytjnidfleccbdbaa
