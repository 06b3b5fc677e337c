/- Plain facts: the other side's moves and way. -/
import Derived.Test.YticdhapbkfbhjabMadeB
namespace Go.Proofs.Yticdhapbkfbhjab
open Go.RowKit

theorem oSign_twice {c : UInt8} (h : isSign c = true) : oSign (oSign c) = c := by
  rcases sign_cases c with rfl | rfl | rfl | h3
  · rfl
  · rfl
  · rfl
  · rw [h3] at h; cases h
theorem oSign_sign (c : UInt8) : isSign (oSign c) = true := by
  unfold oSign
  split
  · rfl
  · split <;> rfl
theorem otherL_all (l : List UInt8) : (otherL l).all isSign = true := by
  rw [List.all_eq_true]
  intro x hx
  unfold otherL at hx
  rw [List.mem_reverse, List.mem_map] at hx
  obtain ⟨y, _, rfl⟩ := hx
  exact oSign_sign y
theorem otherL_twice (l : List UInt8) (h : l.all isSign = true) : otherL (otherL l) = l := by
  unfold otherL
  rw [List.map_reverse, List.reverse_reverse, List.map_map]
  rw [List.all_eq_true] at h
  have : l.map (oSign ∘ oSign) = l.map id := List.map_congr_left fun x hx => oSign_twice (h x hx)
  rw [this, List.map_id]
theorem other_good {s : ByteArray} (h : goodL s = true) : goodL (str (otherL (byt s))) = true := by
  obtain ⟨h1, h2, h3⟩ := (goodL_iff s).1 h
  refine (goodL_iff _).2 ⟨?_, ?_, ?_⟩
  · rw [str_size, otherL_len, byt_len]; exact h1
  · rw [str_size, otherL_len, byt_len]; exact h2
  · rw [byt_str]; exact otherL_all _
theorem other_size (s : ByteArray) : (str (otherL (byt s))).size = s.size := by rw [str_size, otherL_len, byt_len]

theorem sg_other (s : ByteArray) (i : Int) (h : 0 ≤ i ∧ i < s.size) : sgAt (str (otherL (byt s))) ((s.size : Int) - 1 - i) = oSign (sgAt s i) := by
  obtain ⟨k, rfl⟩ := Int.eq_ofNat_of_zero_le h.1
  have hk : k < s.size := by omega
  have e : (s.size : Int) - 1 - (k : Int) = ((s.size - 1 - k : Nat) : Int) := by omega
  have hs : s.size - 1 - k < (str (otherL (byt s))).size := by rw [other_size]; omega
  rw [e, sgAt_in s k hk, sgAt_in _ _ hs]
  show (otherL (byt s))[s.size - 1 - k]'(by rw [otherL_len, byt_len]; omega) = oSign s[k]
  unfold otherL
  rw [List.getElem_reverse, List.getElem_map]
  have hl : ((byt s).map oSign).length = s.size := by rw [List.length_map, byt_len]
  have e2 : ((byt s).map oSign).length - 1 - (s.size - 1 - k) = k := by omega
  simp only [e2]
  rfl
/-- Moves mirrored are moves of the other side. -/
theorem canS_other {s : ByteArray} {f t : Int} (h : canS s f t) : canS (str (otherL (byt s))) ((s.size : Int) - 1 - f) ((s.size : Int) - 1 - t) := by
  obtain ⟨hf, ht, h46, hx⟩ := h
  refine ⟨by rw [other_size]; omega, by rw [other_size]; omega, ?_, ?_⟩
  · rw [sg_other s t ht, h46]; rfl
  · rw [sg_other s f hf]
    rcases hx with ⟨hx, h2⟩ | ⟨hx, h2⟩
    · refine .inr ⟨by rw [hx]; rfl, ?_⟩
      rcases h2 with h2 | ⟨h2, h3⟩
      · exact .inl (by omega)
      · refine .inr ⟨by omega, ?_⟩
        have e : (s.size : Int) - 1 - f + -1 = (s.size : Int) - 1 - (f + 1) := by omega
        rw [e, sg_other s (f + 1) (by omega), h3]; rfl
    · refine .inl ⟨by rw [hx]; rfl, ?_⟩
      rcases h2 with h2 | ⟨h2, h3⟩
      · exact .inl (by omega)
      · refine .inr ⟨by omega, ?_⟩
        have e : (s.size : Int) - 1 - f + 1 = (s.size : Int) - 1 - (f + -1) := by omega
        rw [e, sg_other s (f + -1) (by omega), h3]; rfl
theorem canM_other {s : ByteArray} (hg : (byt s).all isSign = true) (f t : Int) : canM (str (otherL (byt s))) ((s.size : Int) - 1 - f) ((s.size : Int) - 1 - t) = canM s f t := by
  rw [Bool.eq_iff_iff, canM_iff, canM_iff]
  constructor
  · intro h
    have h2 := canS_other h
    rw [byt_str, otherL_twice _ hg, str_byt, other_size] at h2
    have e1 : (s.size : Int) - 1 - ((s.size : Int) - 1 - f) = f := by omega
    have e2 : (s.size : Int) - 1 - ((s.size : Int) - 1 - t) = t := by omega
    rw [e1, e2] at h2
    exact h2
  · exact canS_other

/-- How many of the first n have it. -/
def howMany (p : Nat → Bool) : Nat → Nat
  | 0 => 0
  | n + 1 => howMany p n + if p n then 1 else 0
theorem howMany_congr (p q : Nat → Bool) : ∀ n, (∀ k, k < n → p k = q k) → howMany p n = howMany q n
  | 0, _ => rfl
  | n + 1, h => by rw [howMany, howMany, howMany_congr p q n (fun k hk => h k (by omega)), h n (by omega)]
theorem howMany_first (p : Nat → Bool) : ∀ n, howMany p (n + 1) = (if p 0 then 1 else 0) + howMany (fun k => p (k + 1)) n
  | 0 => by simp [howMany]
  | n + 1 => by
    rw [howMany, howMany_first p n, howMany]; omega
theorem howMany_back : ∀ (n : Nat) (p : Nat → Bool), howMany (fun k => p (n - 1 - k)) n = howMany p n
  | 0, _ => rfl
  | n + 1, p => by
    rw [howMany_first p n, howMany, ← howMany_back n (fun k => p (k + 1))]
    have e : howMany (fun k => p (n + 1 - 1 - k)) n = howMany (fun k => p (n - 1 - k + 1)) n := howMany_congr _ _ n fun k hk => by
      show p _ = p _
      congr 1; omega
    rw [e]
    simp only [Nat.add_sub_cancel, Nat.sub_self]
    omega
theorem mvs_howMany (wd : Int → Int → Bool) (s : ByteArray) : ∀ n, (mvsTo wd s n).length = howMany (fun k => wd k (mvTo s k)) n
  | 0 => rfl
  | n + 1 => by
    rw [mvsTo, List.length_append, mvs_howMany wd s n, howMany]
    split <;> simp
theorem canM_self {s : ByteArray} {f t : Int} (h : canM s f t = true) : canM s f (mvTo s f) = true := by
  have h2 := h
  unfold canM at h2
  rw [Bool.and_eq_true] at h2
  have : t = mvTo s f := by simpa using h2.2
  rw [← this]; exact h
theorem mvs_other {s : ByteArray} (hg : (byt s).all isSign = true) : (mvsTo (canM (str (otherL (byt s)))) (str (otherL (byt s))) s.size).length = (mvsTo (canM s) s s.size).length := by
  rw [mvs_howMany, mvs_howMany, ← howMany_back s.size (fun k => canM s k (mvTo s k))]
  refine howMany_congr _ _ _ fun k hk => ?_
  show canM (str (otherL (byt s))) k (mvTo (str (otherL (byt s))) k) = canM s ((s.size - 1 - k : Nat) : Int) (mvTo s ((s.size - 1 - k : Nat) : Int))
  have ek : ((s.size - 1 - k : Nat) : Int) = (s.size : Int) - 1 - (k : Int) := by omega
  have ek2 : (k : Int) = (s.size : Int) - 1 - ((s.size - 1 - k : Nat) : Int) := by omega
  rw [Bool.eq_iff_iff]
  constructor
  · intro h
    have h2 := canS_other ((canM_iff _ _ _).1 h)
    rw [byt_str, otherL_twice _ hg, str_byt, other_size, ← ek] at h2
    exact canM_self ((canM_iff _ _ _).2 h2)
  · intro h
    have h2 := canS_other ((canM_iff _ _ _).1 h)
    rw [← ek2] at h2
    exact canM_self ((canM_iff _ _ _).2 h2)

/-- The other side has as far to go. -/
theorem sumP_rev (c : UInt8) (l : List UInt8) : ∀ i, sumP c i l + sumP c i l.reverse = cnt c l * (2 * i + l.length - 1) := by
  induction l with
  | nil => intro i; simp [sumP, cnt]
  | cons d r ih =>
    intro i
    have h1 := ih i
    have h2 := ih (i + 1)
    have e1 : sumP c (i + 1) r = sumP c i r + cnt c r := by
      have q : ∀ (r : List UInt8) i, sumP c (i + 1) r = sumP c i r + cnt c r := by
        intro r
        induction r with
        | nil => intro i; rfl
        | cons x r ih2 =>
          intro i
          rw [sumP, sumP, ih2, cnt_cons]
          split <;> omega
      exact q r i
    have e2 : sumP c i (d :: r).reverse = sumP c i r.reverse + (if d = c then i + r.length else 0) := by
      rw [List.reverse_cons, sumP_app, List.length_reverse]
      simp [sumP]
    rw [sumP, e2, e1, cnt_cons, List.length_cons]
    have e3 : cnt c r * (2 * i + (r.length + 1) - 1) = cnt c r * (2 * i + r.length - 1) + cnt c r := by
      by_cases hz : 2 * i + r.length = 0
      · have hr : r = [] := List.eq_nil_of_length_eq_zero (by omega)
        subst hr; simp [cnt]
      · rw [show 2 * i + (r.length + 1) - 1 = (2 * i + r.length - 1) + 1 by omega, Nat.mul_succ]
    split
    · rw [Nat.add_mul, e3]; omega
    · rw [show (0 + cnt c r) = cnt c r by omega, e3]; omega
theorem sumP_map (c d : UInt8) (hcd : ∀ x, oSign x = c ↔ x = d) : ∀ (l : List UInt8) i, sumP c i (l.map oSign) = sumP d i l
  | [], _ => rfl
  | x :: l, i => by
    rw [List.map_cons, sumP, sumP, sumP_map c d hcd l]
    simp only [hcd]
theorem oSign_84 (x : UInt8) : oSign x = 84 ↔ x = 70 := by
  unfold oSign
  split
  · rename_i h; subst h; decide
  · split
    · rename_i h; subst h; decide
    · rename_i h; exact ⟨fun e => absurd e (by decide), fun e => absurd e h⟩
theorem oSign_70 (x : UInt8) : oSign x = 70 ↔ x = 84 := by
  unfold oSign
  split
  · rename_i h; subst h; decide
  · rename_i h0
    split
    · rename_i h; subst h; decide
    · exact ⟨fun e => absurd e (by decide), fun e => absurd e h0⟩
theorem cnt_other (c d : UInt8) (hcd : ∀ x, oSign x = c ↔ x = d) (l : List UInt8) : cnt c (otherL l) = cnt d l := by
  induction l with
  | nil => rfl
  | cons x l ih => rw [otherL_cons, cnt_snoc, cnt_cons, ih]; simp only [hcd]; omega
theorem pl_twice (n : Nat) : ∀ c, c ≤ n → pl (n - c) c + pl 0 c = c * (n - 1) := by
  intro c hc
  have tri : ∀ c, 2 * pl 0 c = c * (c - 1) := by
    intro c
    induction c with
    | zero => rfl
    | succ c ih =>
      rw [pl, Nat.mul_add, ih, Nat.zero_add, Nat.add_sub_cancel]
      cases c with
      | zero => rfl
      | succ c => rw [Nat.add_sub_cancel, Nat.mul_comm 2, ← Nat.mul_add, Nat.mul_comm (c + 1 + 1)]
  rw [pl_move (n - c) c]
  have h := tri c
  cases c with
  | zero => simp [pl]
  | succ c =>
    have : (n - 1) = (n - (c + 1)) + c := by omega
    rw [this, Nat.mul_add (c + 1), Nat.mul_comm (n - (c + 1)) (c + 1)]
    rw [Nat.add_sub_cancel] at h
    omega
theorem wayL_other (l : List UInt8) (h : l.all isSign = true) : wayL (otherL l) = wayL l := by
  have l84 := cnt_le 84 l
  have l70 := cnt_le 70 l
  have c1 := cnt_other 84 70 oSign_84 l
  have c2 := cnt_other 70 84 oSign_70 l
  have p1 := pl_twice l.length (cnt 84 l) l84
  have p2 := pl_twice l.length (cnt 70 l) l70
  have s1 : sumP 84 0 (otherL l) + sumP 70 0 l = cnt 70 l * (l.length - 1) := by
    have e := sumP_rev 84 (l.map oSign) 0
    have e2 : sumP 84 0 (l.map oSign).reverse = sumP 84 0 (otherL l) := rfl
    have e3 := sumP_map 84 70 oSign_84 l 0
    have e4 : cnt 84 (l.map oSign) = cnt 70 l := by
      rw [← c1]; unfold otherL cnt; rw [List.filter_reverse, List.length_reverse]
    rw [e2, e3, e4, List.length_map] at e
    simp only [Nat.mul_zero, Nat.zero_add] at e
    omega
  have s2 : sumP 70 0 (otherL l) + sumP 84 0 l = cnt 84 l * (l.length - 1) := by
    have e := sumP_rev 70 (l.map oSign) 0
    have e2 : sumP 70 0 (l.map oSign).reverse = sumP 70 0 (otherL l) := rfl
    have e3 := sumP_map 70 84 oSign_70 l 0
    have e4 : cnt 70 (l.map oSign) = cnt 84 l := by
      rw [← c2]; unfold otherL cnt; rw [List.filter_reverse, List.length_reverse]
    rw [e2, e3, e4, List.length_map] at e
    simp only [Nat.mul_zero, Nat.zero_add] at e
    omega
  unfold wayL
  rw [last84 _ (otherL_all l), last70, last84 l h, last70, c1, c2, otherL_len, sumSt_P, sumSt_P, sumSt_P, sumSt_P]
  omega
end Go.Proofs.Yticdhapbkfbhjab
