/- Games: moves of one player on texts, who wins; no walk. -/
import Derived.Test.YtdcbjbmnkajjcaaWalkV
namespace Go.Proofs.Ytdcbjbmnkajjcaa
open Go.RowKit

theorem can_sgn {s : ByteArray} {f t : Int} (h : canM s f t = true) : sgAt s t = 46 ∧ (sgAt s f = 84 ∨ sgAt s f = 70) := by
  obtain ⟨_, _, h46, hh⟩ := (canM_iff _ _ _).1 h
  rcases hh with ⟨h, _⟩ | ⟨h, _⟩ <;> simp [h46, h]
/-- The sign of a player's animals. -/
def kd (tm : Bool) : UInt8 := if tm then 84 else 70
theorem kd_or (tm : Bool) : kd tm = 84 ∨ kd tm = 70 := by cases tm <;> simp [kd]
/-- The moves of a player. -/
def gmW (tm : Bool) (s : ByteArray) (f t : Int) : Bool := canM s f t && decide (sgAt s f = kd tm)
def gmM (tm : Bool) (s : List UInt8) : List (Int × Int) := mvsTo (gmW tm (str s)) (str s) (str s).size
/-- The texts behind them. -/
def nxG (tm : Bool) (s : List UInt8) : List (List UInt8) := (gmM tm s).map fun m => behind (str s) m.1 m.2
theorem mem_gmM {tm : Bool} {s : List UInt8} {f t : Int} : (f, t) ∈ gmM tm s ↔ canM (str s) f t = true ∧ sgAt (str s) f = kd tm := by
  unfold gmM
  rw [mem_mvs]
  constructor
  · rintro ⟨k, _, h2, h3⟩
    injection h2 with e1 e2
    subst e1
    rw [← e2] at h3
    simpa [gmW] using h3
  · rintro ⟨h1, h2⟩
    obtain ⟨a, b, rfl, e, ha, _, _⟩ := canM_in h1
    have ht := canM_to h1
    exact ⟨a, ha, by rw [← ht], by rw [← ht]; simp [gmW, h1, h2]⟩
theorem mem_nxG {tm : Bool} {s x : List UInt8} : x ∈ nxG tm s ↔ ∃ f t, canM (str s) f t = true ∧ sgAt (str s) f = kd tm ∧ x = behind (str s) f t := by
  unfold nxG
  rw [List.mem_map]
  constructor
  · rintro ⟨⟨f, t⟩, hm, rfl⟩
    obtain ⟨h1, h2⟩ := mem_gmM.1 hm
    exact ⟨f, t, h1, h2, rfl⟩
  · rintro ⟨f, t, h1, h2, rfl⟩
    exact ⟨(f, t), mem_gmM.2 ⟨h1, h2⟩, rfl⟩

/-- A sign's weight at a place: each move takes of it. -/
def wtG (c : UInt8) (i : Nat) : Nat := if c = 84 then 200 - i else if c = 70 then i + 1 else 0
def muG : Nat → List UInt8 → Nat
  | _, [] => 0
  | i, c :: l => wtG c i + muG (i + 1) l
theorem muG_set (x : UInt8) : ∀ (l : List UInt8) (i k : Nat) (h : k < l.length), muG i (l.set k x) + wtG l[k] (i + k) = muG i l + wtG x (i + k)
  | [], _, _, h => by simp at h
  | c :: l, i, 0, _ => by simp [muG]; omega
  | c :: l, i, k + 1, h => by
    have := muG_set x l (i + 1) k (by simpa using h)
    simp only [List.set_cons_succ, muG, List.getElem_cons_succ]
    rw [show i + (k + 1) = i + 1 + k by omega]
    omega
theorem sg_nth {s : List UInt8} {k : Nat} (h : k < s.length) : sgAt (str s) k = s[k] := sgAt_in (str s) k (by rw [str_size]; exact h)
theorem mu_less {tm : Bool} {s x : List UInt8} (hs : s.length ≤ 100) (h : x ∈ nxG tm s) : muG 0 x < muG 0 s ∧ x.length = s.length := by
  obtain ⟨f, t, hc, hk, rfl⟩ := mem_nxG.1 h
  obtain ⟨_, _, h46, hh⟩ := (canM_iff _ _ _).1 hc
  obtain ⟨a, b, rfl, rfl, ha, hb, hne⟩ := canM_in hc
  rw [str_size] at ha hb
  refine ⟨?_, by rw [behind_len, str_size]⟩
  rw [sg_nth hb] at h46
  rw [sg_nth ha] at hk hh
  have hg : (byt (str s)).getD a 0 = s[a] := by rw [byt_str, List.getD_eq_getElem?_getD, List.getElem?_eq_getElem ha]; rfl
  show muG 0 (putL (str s) (a : Int).toNat (b : Int).toNat) < _
  unfold putL
  simp only [Int.toNat_natCast]
  rw [hg, byt_str]
  have h1 := muG_set s[a] s 0 b hb
  have h2 := muG_set 46 (s.set b s[a]) 0 a (by simpa using ha)
  rw [List.getElem_set_ne (by omega)] at h2
  simp only [h46, Nat.zero_add] at h1 h2
  have w46 : ∀ i, wtG 46 i = 0 := fun i => by simp [wtG]
  rw [w46] at h1 h2
  rcases hh with ⟨h84, hh⟩ | ⟨h70, hh⟩
  · have e : ∀ i, wtG s[a] i = 200 - i := fun i => by rw [h84]; simp [wtG]
    rw [e] at h1 h2
    have : a < b := by rcases hh with hh | ⟨hh, _⟩ <;> omega
    omega
  · have e : ∀ i, wtG s[a] i = i + 1 := fun i => by rw [h70]; simp [wtG]
    rw [e] at h1 h2
    have : b < a := by rcases hh with hh | ⟨hh, _⟩ <;> omega
    omega

section
variable {V : Type} (d : V) (R : Bool → List UInt8 → (List UInt8 → V) → V)
/-- What a rule tells of texts, out of what it tells of those behind. -/
def fixF : Nat → Bool → List UInt8 → V
  | 0, _, _ => d
  | n + 1, tm, s => R tm s fun x => fixF n (!tm) x
def fixT (tm : Bool) (s : List UInt8) : V := fixF d R (muG 0 s + 1) tm s
variable {d R}
theorem fixF_same (hR : ∀ tm s f g, (∀ x ∈ nxG tm s, f x = g x) → R tm s f = R tm s g) : ∀ (n m : Nat) (tm : Bool) (s : List UInt8), s.length ≤ 100 → muG 0 s < n → muG 0 s < m → fixF d R n tm s = fixF d R m tm s
  | 0, _, _, _, _, h, _ => by omega
  | _ + 1, 0, _, _, _, _, h => by omega
  | n + 1, m + 1, tm, s, hs, h1, h2 => by
    refine hR tm s _ _ fun x hx => ?_
    obtain ⟨h3, h4⟩ := mu_less hs hx
    exact fixF_same hR n m (!tm) x (by omega) (by omega) (by omega)
theorem fixT_eq (hR : ∀ tm s f g, (∀ x ∈ nxG tm s, f x = g x) → R tm s f = R tm s g) (tm : Bool) {s : List UInt8} (hs : s.length ≤ 100) : fixT d R tm s = R tm s fun x => fixT d R (!tm) x := by
  refine hR tm s _ _ fun x hx => ?_
  obtain ⟨h3, h4⟩ := mu_less hs hx
  exact fixF_same hR _ _ (!tm) x (by omega) (by omega) (by omega)
end
/-- Whether the player who moves wins. -/
def winR (tm : Bool) (s : List UInt8) (f : List UInt8 → Bool) : Bool := (nxG tm s).any fun x => !f x
def Wn (tm : Bool) (s : List UInt8) : Bool := fixT false winR tm s
theorem Wn_eq (tm : Bool) {s : List UInt8} (hs : s.length ≤ 100) : Wn tm s = (nxG tm s).any fun x => !Wn (!tm) x := by
  refine fixT_eq (fun tm s f g h => ?_) tm hs
  show (nxG tm s).any _ = (nxG tm s).any _
  rw [Bool.eq_iff_iff, List.any_eq_true, List.any_eq_true]
  constructor
  · rintro ⟨x, hx, h2⟩; exact ⟨x, hx, by rw [← h x hx]; exact h2⟩
  · rintro ⟨x, hx, h2⟩; exact ⟨x, hx, by rw [h x hx]; exact h2⟩
theorem Wn_true {tm : Bool} {s x : List UInt8} (hs : s.length ≤ 100) (hx : x ∈ nxG tm s) (h : Wn (!tm) x = false) : Wn tm s = true := by
  rw [Wn_eq tm hs, List.any_eq_true]
  exact ⟨x, hx, by simp [h]⟩
theorem Wn_false {tm : Bool} {s : List UInt8} (hs : s.length ≤ 100) (h : ∀ x ∈ nxG tm s, Wn (!tm) x = true) : Wn tm s = false := by
  rw [Wn_eq tm hs, List.any_eq_false]
  intro x hx
  simp [h x hx]

/-- Lines with walls between them. -/
def joinG : List (List UInt8) → List UInt8
  | [] => []
  | [w] => w
  | w :: v :: r => w ++ 47 :: joinG (v :: r)
theorem joinG_cons (w : List UInt8) {r : List (List UInt8)} (h : r ≠ []) : joinG (w :: r) = w ++ 47 :: joinG r := by
  cases r with
  | nil => exact absurd rfl h
  | cons v r => rfl
section
variable (a b : List UInt8)
theorem sg_left {i : Int} (h : i < a.length) : sgAt (str (a ++ 47 :: b)) i = sgAt (str a) i := by
  by_cases h0 : 0 ≤ i
  · obtain ⟨k, rfl⟩ := Int.eq_ofNat_of_zero_le h0
    have hk : k < a.length := by omega
    rw [sg_nth (s := a) hk, sg_nth (by rw [List.length_append]; omega), List.getElem_append_left hk]
  · rw [sgAt_out _ _ (by omega), sgAt_out _ _ (by omega)]
theorem sg_wall : sgAt (str (a ++ 47 :: b)) a.length = 47 := by
  rw [sg_nth (by simp), List.getElem_append_right (Nat.le_refl _)]
  simp
theorem sg_right {i : Int} (h : (a.length : Int) < i) : sgAt (str (a ++ 47 :: b)) i = sgAt (str b) (i - a.length - 1) := by
  by_cases h0 : i < ((a ++ 47 :: b).length : Int)
  · obtain ⟨k, rfl⟩ := Int.eq_ofNat_of_zero_le (show 0 ≤ i by omega)
    have hk : a.length < k := by omega
    have hl : (a ++ 47 :: b).length = a.length + (b.length + 1) := by simp
    obtain ⟨j, rfl⟩ : ∃ j, k = a.length + 1 + j := ⟨k - a.length - 1, by omega⟩
    rw [show (((a.length + 1 + j : Nat) : Int) - a.length - 1) = (j : Int) by omega, sg_nth (s := b) (k := j) (by omega), sg_nth (by omega), List.getElem_append_right (by omega)]
    simp only [show a.length + 1 + j - a.length = j + 1 by omega, List.getElem_cons_succ]
  · have hl : (a ++ 47 :: b).length = a.length + (b.length + 1) := by simp
    rw [sgAt_out _ _ (by rw [str_size]; omega), sgAt_out _ _ (by rw [str_size]; omega)]
theorem can_left {f t : Int} (h : f < a.length) : canM (str (a ++ 47 :: b)) f t = canM (str a) f t := by
  have hl : (a ++ 47 :: b).length = a.length + (b.length + 1) := by simp
  have key : ∀ i : Int, i ≤ a.length → (sgAt (str (a ++ 47 :: b)) i = 46 ↔ sgAt (str a) i = 46) ∧ (sgAt (str (a ++ 47 :: b)) i = 84 ↔ sgAt (str a) i = 84) ∧ (sgAt (str (a ++ 47 :: b)) i = 70 ↔ sgAt (str a) i = 70) := by
    intro i hi
    by_cases e : i = a.length
    · subst e
      rw [sg_wall, sgAt_out (str a) _ (by rw [str_size]; omega)]
      decide
    · rw [sg_left a b (by omega)]
      exact ⟨Iff.rfl, Iff.rfl, Iff.rfl⟩
  have rng : ∀ (c : UInt8) (i : Int), c ≠ 0 → sgAt (str a) i = c → i < a.length := fun c i hc e => by
    have := (sg_range (str a) i (by rw [e]; exact hc)).2
    rwa [str_size] at this
  rw [Bool.eq_iff_iff, canM_iff, canM_iff]
  unfold canS
  rw [str_size, str_size, hl]
  constructor
  · rintro ⟨h1, h2, h3, ⟨h4, h5⟩ | ⟨h4, h5⟩⟩
    · have h4' := (key f (by omega)).2.1.1 h4
      rcases h5 with rfl | ⟨rfl, h6⟩
      · have h3' := (key _ (by omega)).1.1 h3
        have := rng _ _ (by decide) h3'
        exact ⟨by omega, by omega, h3', .inl ⟨h4', .inl rfl⟩⟩
      · have h6' := (key _ (by omega)).2.2.1 h6
        have := rng _ _ (by decide) h6'
        have h3' := (key _ (by omega)).1.1 h3
        have := rng _ _ (by decide) h3'
        exact ⟨by omega, by omega, h3', .inl ⟨h4', .inr ⟨rfl, h6'⟩⟩⟩
    · have h4' := (key f (by omega)).2.2.1 h4
      have h3' : t ≤ a.length := by rcases h5 with rfl | ⟨rfl, _⟩ <;> omega
      have h3'' := (key t h3').1.1 h3
      refine ⟨by omega, ⟨h2.1, by rcases h5 with rfl | ⟨rfl, _⟩ <;> omega⟩, h3'', .inr ⟨h4', ?_⟩⟩
      rcases h5 with rfl | ⟨rfl, h6⟩
      · exact .inl rfl
      · exact .inr ⟨rfl, (key _ (by omega)).2.1.1 h6⟩
  · rintro ⟨h1, h2, h3, h5⟩
    have ha : ∀ i : Int, i ≤ a.length → _ := key
    refine ⟨by omega, by omega, (key t (by omega)).1.2 h3, ?_⟩
    rcases h5 with ⟨h4, h5⟩ | ⟨h4, h5⟩
    · refine .inl ⟨(key f (by omega)).2.1.2 h4, ?_⟩
      rcases h5 with rfl | ⟨rfl, h6⟩
      · exact .inl rfl
      · exact .inr ⟨rfl, (key _ (by omega)).2.2.2 h6⟩
    · refine .inr ⟨(key f (by omega)).2.2.2 h4, ?_⟩
      rcases h5 with rfl | ⟨rfl, h6⟩
      · exact .inl rfl
      · exact .inr ⟨rfl, (key _ (by omega)).2.1.2 h6⟩
theorem can_right {f t : Int} (h : (a.length : Int) < f) : canM (str (a ++ 47 :: b)) f t = canM (str b) (f - a.length - 1) (t - a.length - 1) := by
  have hl : (a ++ 47 :: b).length = a.length + (b.length + 1) := by simp
  have key : ∀ i : Int, (a.length : Int) ≤ i → (sgAt (str (a ++ 47 :: b)) i = 46 ↔ sgAt (str b) (i - a.length - 1) = 46) ∧ (sgAt (str (a ++ 47 :: b)) i = 84 ↔ sgAt (str b) (i - a.length - 1) = 84) ∧ (sgAt (str (a ++ 47 :: b)) i = 70 ↔ sgAt (str b) (i - a.length - 1) = 70) := by
    intro i hi
    by_cases e : i = a.length
    · subst e
      rw [sg_wall, sgAt_out (str b) _ (by rw [str_size]; omega)]
      decide
    · rw [sg_right a b (by omega)]
      exact ⟨Iff.rfl, Iff.rfl, Iff.rfl⟩
  have rng : ∀ (c : UInt8) (i : Int), c ≠ 0 → sgAt (str b) i = c → 0 ≤ i := fun c i hc e => (sg_range (str b) i (by rw [e]; exact hc)).1
  rw [Bool.eq_iff_iff, canM_iff, canM_iff]
  unfold canS
  rw [str_size, str_size, hl]
  constructor
  · rintro ⟨h1, h2, h3, h5⟩
    have hlo : (a.length : Int) ≤ t ∧ (∀ i, i = f + 1 ∨ i = f + -1 → (a.length : Int) ≤ i) := by
      refine ⟨?_, fun i hi => by omega⟩
      rcases h5 with ⟨h4, h5⟩ | ⟨h4, h5⟩
      · omega
      · rcases h5 with h5 | ⟨h5, h6⟩
        · omega
        · have := rng _ _ (by decide) ((key (f + -1) (by omega)).2.1.1 h6)
          omega
    have h3' := (key t hlo.1).1.1 h3
    have := rng _ _ (by decide) h3'
    refine ⟨by omega, by omega, h3', ?_⟩
    rcases h5 with ⟨h4, h5⟩ | ⟨h4, h5⟩
    · refine .inl ⟨(key f (by omega)).2.1.1 h4, ?_⟩
      rcases h5 with h5 | ⟨h5, h6⟩
      · exact .inl (by omega)
      · have h6' := (key (f + 1) (by omega)).2.2.1 h6
        rw [show f + 1 - (a.length : Int) - 1 = f - a.length - 1 + 1 by omega] at h6'
        exact .inr ⟨by omega, h6'⟩
    · refine .inr ⟨(key f (by omega)).2.2.1 h4, ?_⟩
      rcases h5 with h5 | ⟨h5, h6⟩
      · exact .inl (by omega)
      · have h6' := (key (f + -1) (by omega)).2.1.1 h6
        rw [show f + -1 - (a.length : Int) - 1 = f - a.length - 1 + -1 by omega] at h6'
        exact .inr ⟨by omega, h6'⟩
  · rintro ⟨h1, h2, h3, h5⟩
    refine ⟨by omega, by omega, (key t (by omega)).1.2 h3, ?_⟩
    rcases h5 with ⟨h4, h5⟩ | ⟨h4, h5⟩
    · refine .inl ⟨(key f (by omega)).2.1.2 h4, ?_⟩
      rcases h5 with h5 | ⟨h5, h6⟩
      · exact .inl (by omega)
      · rw [show f - (a.length : Int) - 1 + 1 = f + 1 - a.length - 1 by omega] at h6
        exact .inr ⟨by omega, (key _ (by omega)).2.2.2 h6⟩
    · refine .inr ⟨(key f (by omega)).2.2.2 h4, ?_⟩
      rcases h5 with h5 | ⟨h5, h6⟩
      · exact .inl (by omega)
      · rw [show f - (a.length : Int) - 1 + -1 = f + -1 - a.length - 1 by omega] at h6
        exact .inr ⟨by omega, (key _ (by omega)).2.1.2 h6⟩
theorem behind_left {f t : Int} (hc : canM (str a) f t = true) : behind (str (a ++ 47 :: b)) f t = behind (str a) f t ++ 47 :: b := by
  obtain ⟨i, j, rfl, rfl, hi, hj, _⟩ := canM_in hc
  rw [str_size] at hi hj
  unfold behind putL
  simp only [Int.toNat_natCast, byt_str, List.getD_eq_getElem?_getD]
  rw [List.getElem?_append_left hi, List.set_append_left _ _ hj, List.set_append_left _ _ (by simpa using hi)]
theorem behind_right {f t : Int} (hc : canM (str b) f t = true) : behind (str (a ++ 47 :: b)) (f + a.length + 1) (t + a.length + 1) = a ++ 47 :: behind (str b) f t := by
  obtain ⟨i, j, rfl, rfl, hi, hj, _⟩ := canM_in hc
  rw [str_size] at hi hj
  unfold behind putL
  rw [show ((i : Int) + a.length + 1).toNat = a.length + (i + 1) by omega, show ((j : Int) + a.length + 1).toNat = a.length + (j + 1) by omega]
  simp only [Int.toNat_natCast, byt_str, List.getD_eq_getElem?_getD]
  rw [List.getElem?_append_right (by omega), List.set_append_right _ _ (by omega), List.set_append_right _ _ (by omega)]
  simp
/-- The moves on both sides of a wall. -/
theorem nxG_wall (tm : Bool) (x : List UInt8) : x ∈ nxG tm (a ++ 47 :: b) ↔ (∃ y ∈ nxG tm a, x = y ++ 47 :: b) ∨ (∃ z ∈ nxG tm b, x = a ++ 47 :: z) := by
  rw [mem_nxG]
  constructor
  · rintro ⟨f, t, hc, hk, rfl⟩
    rcases Int.lt_trichotomy f a.length with h | h | h
    · rw [can_left a b h] at hc
      rw [sg_left a b h] at hk
      exact .inl ⟨_, mem_nxG.2 ⟨f, t, hc, hk, rfl⟩, behind_left a b hc⟩
    · rw [h, sg_wall] at hk
      rcases kd_or tm with e | e <;> rw [e] at hk <;> exact absurd hk (by decide)
    · rw [can_right a b h] at hc
      rw [sg_right a b h] at hk
      refine .inr ⟨_, mem_nxG.2 ⟨_, _, hc, hk, rfl⟩, ?_⟩
      rw [← behind_right a b hc]
      congr 1 <;> omega
  · rintro (⟨y, hy, rfl⟩ | ⟨z, hz, rfl⟩)
    · obtain ⟨f, t, hc, hk, rfl⟩ := mem_nxG.1 hy
      obtain ⟨i, j, rfl, rfl, hi, hj, _⟩ := canM_in hc
      rw [str_size] at hi
      have h : (i : Int) < a.length := by omega
      exact ⟨_, _, by rw [can_left a b h]; exact hc, by rw [sg_left a b h]; exact hk, (behind_left a b hc).symm⟩
    · obtain ⟨f, t, hc, hk, rfl⟩ := mem_nxG.1 hz
      obtain ⟨i, j, rfl, rfl, hi, hj, _⟩ := canM_in hc
      have h : (a.length : Int) < (i : Int) + a.length + 1 := by omega
      refine ⟨(i : Int) + a.length + 1, (j : Int) + a.length + 1, ?_, ?_, (behind_right a b hc).symm⟩
      · rw [can_right a b h]
        rw [show (i : Int) + a.length + 1 - a.length - 1 = i by omega, show (j : Int) + a.length + 1 - a.length - 1 = j by omega]
        exact hc
      · rw [sg_right a b h, show (i : Int) + a.length + 1 - a.length - 1 = i by omega]
        exact hk
end
/-- The moves on a sum are those on its lines. -/
theorem nxG_join (tm : Bool) : ∀ (ls : List (List UInt8)) (x : List UInt8), x ∈ nxG tm (joinG ls) ↔ ∃ k, ∃ h : k < ls.length, ∃ y ∈ nxG tm ls[k], x = joinG (ls.set k y)
  | [], x => by
    have : nxG tm (joinG []) = [] := by cases tm <;> rfl
    rw [this]
    simp
  | [w], x => by
    constructor
    · intro h; exact ⟨0, by simp, x, h, rfl⟩
    · rintro ⟨k, h, y, hy, rfl⟩
      obtain rfl : k = 0 := by simpa using h
      exact hy
  | w :: v :: r, x => by
    show x ∈ nxG tm (w ++ 47 :: joinG (v :: r)) ↔ _
    rw [nxG_wall]
    constructor
    · rintro (⟨y, hy, rfl⟩ | ⟨z, hz, rfl⟩)
      · exact ⟨0, by simp, y, hy, rfl⟩
      · obtain ⟨k, h, y, hy, rfl⟩ := (nxG_join tm (v :: r) z).1 hz
        refine ⟨k + 1, by simpa using h, y, hy, ?_⟩
        rw [List.set_cons_succ, joinG_cons]
        simp
    · rintro ⟨k, h, y, hy, rfl⟩
      match k with
      | 0 => exact .inl ⟨y, hy, rfl⟩
      | k + 1 =>
        refine .inr ⟨_, (nxG_join tm (v :: r) _).2 ⟨k, by simpa using h, y, hy, rfl⟩, ?_⟩
        rw [List.set_cons_succ, joinG_cons]
        simp
theorem joinG_len (ls : List (List UInt8)) : (joinG ls).length ≤ (ls.map List.length).sum + ls.length
  := by
  induction ls with
  | nil => simp [joinG]
  | cons w r ih =>
    by_cases h : r = []
    · subst h; simp [joinG]
    · rw [joinG_cons w h]
      simp only [List.length_append, List.length_cons, List.map_cons, List.sum_cons]
      omega
end Go.Proofs.Ytdcbjbmnkajjcaa
