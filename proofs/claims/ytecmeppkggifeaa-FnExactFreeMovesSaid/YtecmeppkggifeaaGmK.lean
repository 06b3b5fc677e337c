/- Games: moves of one player alone: their order does not matter; no walk. -/
import Derived.Test.YtecmeppkggifeaaGmE
namespace Go.Proofs.Ytecmeppkggifeaa
open Go.RowKit

/-- How many moves one player can make at most. -/
def frF : Nat → Bool → List UInt8 → Nat
  | 0, _, _ => 0
  | n + 1, tm, s => ((nxG tm s).map (frF n tm)).foldl (fun a x => max a (x + 1)) 0
def Fr (tm : Bool) (s : List UInt8) : Nat := frF (muG 0 s + 1) tm s
theorem frF_same (tm : Bool) : ∀ (n m : Nat) (s : List UInt8), s.length ≤ 100 → muG 0 s < n → muG 0 s < m → frF n tm s = frF m tm s
  | 0, _, _, _, h, _ => by omega
  | _ + 1, 0, _, _, _, h => by omega
  | n + 1, m + 1, s, hs, h1, h2 => by
    show ((nxG tm s).map (frF n tm)).foldl _ 0 = ((nxG tm s).map (frF m tm)).foldl _ 0
    rw [List.map_congr_left (g := frF m tm) fun x hx => by
      obtain ⟨h3, h4⟩ := mu_less hs hx
      exact frF_same tm n m x (by omega) (by omega) (by omega)]
theorem Fr_eq (tm : Bool) {s : List UInt8} (hs : s.length ≤ 100) : Fr tm s = ((nxG tm s).map (Fr tm)).foldl (fun a x => max a (x + 1)) 0 := by
  show ((nxG tm s).map (frF (muG 0 s) tm)).foldl _ 0 = _
  rw [List.map_congr_left (g := Fr tm) fun x hx => by
    obtain ⟨h3, h4⟩ := mu_less hs hx
    exact frF_same tm _ _ x (by omega) (by omega) (by omega)]
theorem fold_same {n : Nat} : ∀ (l : List Nat) (a : Nat), (∀ x ∈ l, x = n) → a ≤ n + 1 → l ≠ [] → l.foldl (fun a x => max a (x + 1)) a = n + 1
  | [], _, _, _, h => absurd rfl h
  | x :: l, a, h, ha, _ => by
    have hx := h x (by simp)
    subst hx
    by_cases hl : l = []
    · subst hl; show max a (x + 1) = _; omega
    · exact fold_same l _ (fun y hy => h y (by simp [hy])) (by show max a (x + 1) ≤ _; omega) hl
/-- A cell that a move does not touch. -/
theorem sg_put {s : List UInt8} {a b : Nat} (ha : a < s.length) {i : Int} (h1 : i ≠ a) (h2 : i ≠ b) : sgAt (str (putL (str s) a b)) i = sgAt (str s) i := by
  have hl : (putL (str s) a b).length = s.length := by rw [putL_len, str_size]
  by_cases hr : 0 ≤ i ∧ i < s.length
  · obtain ⟨j, rfl⟩ := Int.eq_ofNat_of_zero_le hr.1
    have hj : j < s.length := by omega
    have h := putL_at (str s) a b j (by rw [str_size]; exact ha) (by rw [str_size]; exact hj)
    rw [if_neg (by omega), if_neg (by omega)] at h
    rw [sg_nth (by omega), sg_nth hj]
    rw [List.getElem?_eq_getElem (by omega)] at h
    injection h
  · rw [sgAt_out _ _ (by rw [str_size, hl]; exact hr), sgAt_out _ _ (by rw [str_size]; exact hr)]
/-- Two moves of one player lie apart. -/
theorem apart {tm : Bool} {s : List UInt8} {f t g u : Int} (hc : canM (str s) f t = true) (hk : sgAt (str s) f = kd tm) (hc' : canM (str s) g u = true) (hk' : sgAt (str s) g = kd tm) (hlt : f < g) : f < g ∧ t < g ∧ f < u ∧ t < u := by
  obtain ⟨_, _, h3, h4⟩ := (canM_iff _ _ _).1 hc
  obtain ⟨_, _, h3', h4'⟩ := (canM_iff _ _ _).1 hc'
  have ne : ∀ i j : Int, sgAt (str s) i ≠ sgAt (str s) j → i ≠ j := fun i j h e => h (by rw [e])
  cases tm
  · have e1 : sgAt (str s) f = 70 := hk
    have e2 : sgAt (str s) g = 70 := hk'
    have n1 := ne u f (by rw [h3', e1]; decide)
    rcases h4 with ⟨h, _⟩ | ⟨_, h⟩
    · rw [e1] at h; exact absurd h (by decide)
    rcases h4' with ⟨h', _⟩ | ⟨_, h'⟩
    · rw [e2] at h'; exact absurd h' (by decide)
    rcases h' with h' | ⟨h', hm⟩
    · rcases h with h | ⟨h, _⟩ <;> omega
    · have n2 := ne (g + -1) f (by rw [hm, e1]; decide)
      rcases h with h | ⟨h, _⟩ <;> omega
  · have e1 : sgAt (str s) f = 84 := hk
    have e2 : sgAt (str s) g = 84 := hk'
    have n1 := ne t g (by rw [h3, e2]; decide)
    rcases h4 with ⟨_, h⟩ | ⟨h, _⟩
    rotate_left
    · rw [e1] at h; exact absurd h (by decide)
    rcases h4' with ⟨_, h'⟩ | ⟨h', _⟩
    rotate_left
    · rw [e2] at h'; exact absurd h' (by decide)
    rcases h with h | ⟨h, hm⟩
    · rcases h' with h' | ⟨h', _⟩ <;> omega
    · have n2 := ne (f + 1) g (by rw [hm, e2]; decide)
      rcases h' with h' | ⟨h', _⟩ <;> omega
/-- A move is as it was behind one that lies apart. -/
theorem can_put {s : List UInt8} {a b : Nat} {g u : Int} (ha : a < s.length) (hc : canM (str s) g u = true) (h1 : ∀ i : Int, (g ≤ i ∧ i ≤ u) ∨ (u ≤ i ∧ i ≤ g) → i ≠ a ∧ i ≠ b) : canM (str (putL (str s) a b)) g u = true ∧ sgAt (str (putL (str s) a b)) g = sgAt (str s) g := by
  have hl : (putL (str s) a b).length = s.length := by rw [putL_len, str_size]
  obtain ⟨r1, r2, h3, h4⟩ := (canM_iff _ _ _).1 hc
  rw [str_size] at r1 r2
  have ey : ∀ i : Int, (g ≤ i ∧ i ≤ u) ∨ (u ≤ i ∧ i ≤ g) → sgAt (str (putL (str s) a b)) i = sgAt (str s) i := fun i hi => sg_put ha (h1 i hi).1 (h1 i hi).2
  have hgu : (g ≤ u) ∨ (u ≤ g) := by omega
  have eg := ey g (by omega)
  have eu := ey u (by omega)
  refine ⟨(canM_iff _ _ _).2 ⟨by rw [str_size, hl]; exact r1, by rw [str_size, hl]; exact r2, by rw [eu]; exact h3, ?_⟩, eg⟩
  rw [eg]
  rcases h4 with ⟨h, h5⟩ | ⟨h, h5⟩
  · refine .inl ⟨h, ?_⟩
    rcases h5 with h5 | ⟨h5, h6⟩
    · exact .inl h5
    · exact .inr ⟨h5, by rw [ey (g + 1) (by omega)]; exact h6⟩
  · refine .inr ⟨h, ?_⟩
    rcases h5 with h5 | ⟨h5, h6⟩
    · exact .inl h5
    · exact .inr ⟨h5, by rw [ey (g + -1) (by omega)]; exact h6⟩
theorem put_comm {s : List UInt8} {a b c d : Nat} (ha : a < s.length) (hb : b < s.length) (hc : c < s.length) (hd : d < s.length) (h1 : a ≠ c) (h2 : a ≠ d) (h3 : b ≠ c) (h4 : b ≠ d) :
    putL (str (putL (str s) a b)) c d = putL (str (putL (str s) c d)) a b := by
  have hl : ∀ x y, (putL (str s) x y).length = s.length := fun x y => by rw [putL_len, str_size]
  have nth : ∀ (l : List UInt8) (j : Nat) (hj : j < l.length), (str l)[j]'(by rw [str_size]; exact hj) = l[j] := fun l j hj => by
    have := sgAt_in (str l) j (by rw [str_size]; exact hj)
    rw [← this, sg_nth hj]
  apply List.ext_getElem?
  intro j
  by_cases hj : j < s.length
  · have q1 := putL_at (str s) a b
    have q2 := putL_at (str s) c d
    rw [putL_at (str (putL (str s) a b)) c d j (by rw [str_size, hl]; exact hc) (by rw [str_size, hl]; exact hj), putL_at (str (putL (str s) c d)) a b j (by rw [str_size, hl]; exact ha) (by rw [str_size, hl]; exact hj)]
    have v1 : ∀ i (hi : i < s.length), (str (putL (str s) a b))[i]'(by rw [str_size, hl]; exact hi) = if i = a then 46 else if i = b then s[a] else s[i] := fun i hi => by
      rw [nth _ i (by rw [hl]; exact hi)]
      have := q1 i (by rw [str_size]; exact ha) (by rw [str_size]; exact hi)
      rw [List.getElem?_eq_getElem (by rw [hl]; exact hi)] at this
      injection this with this
    have v2 : ∀ i (hi : i < s.length), (str (putL (str s) c d))[i]'(by rw [str_size, hl]; exact hi) = if i = c then 46 else if i = d then s[c] else s[i] := fun i hi => by
      rw [nth _ i (by rw [hl]; exact hi)]
      have := q2 i (by rw [str_size]; exact hc) (by rw [str_size]; exact hi)
      rw [List.getElem?_eq_getElem (by rw [hl]; exact hi)] at this
      injection this with this
    rw [v1 c hc, v1 j hj, v2 a ha, v2 j hj]
    by_cases e1 : j = c
    · subst e1
      simp [Ne.symm h1, Ne.symm h3]
    · by_cases e2 : j = d
      · subst e2
        simp [e1, Ne.symm h1, Ne.symm h2, Ne.symm h3, Ne.symm h4]
      · by_cases e3 : j = a
        · subst e3; simp [e1, e2]
        · by_cases e4 : j = b
          · subst e4; simp [e1, e2, e3, h1, h2]
          · simp [e1, e2, e3, e4]
  · rw [List.getElem?_eq_none (by rw [putL_len, str_size, hl]; omega), List.getElem?_eq_none (by rw [putL_len, str_size, hl]; omega)]
/-- Behind two moves of one player, there is a text that is behind both. -/
theorem diamond {tm : Bool} {s x y : List UInt8} (hx : x ∈ nxG tm s) (hy : y ∈ nxG tm s) : x = y ∨ ∃ z, z ∈ nxG tm x ∧ z ∈ nxG tm y := by
  obtain ⟨f, t, hc, hk, rfl⟩ := mem_nxG.1 hx
  obtain ⟨g, u, hc', hk', rfl⟩ := mem_nxG.1 hy
  have go : ∀ (f t g u : Int), canM (str s) f t = true → sgAt (str s) f = kd tm → canM (str s) g u = true → sgAt (str s) g = kd tm → f < g → ∃ z, z ∈ nxG tm (behind (str s) f t) ∧ z ∈ nxG tm (behind (str s) g u) := by
    intro f t g u hc hk hc' hk' hlt
    obtain ⟨_, l1, l2, l3⟩ := apart hc hk hc' hk' hlt
    obtain ⟨a, b, rfl, rfl, ha, hb, hab⟩ := canM_in hc
    obtain ⟨c, d, rfl, rfl, hcc, hd, hcd⟩ := canM_in hc'
    rw [str_size] at ha hb hcc hd
    obtain ⟨p1, p2⟩ := can_put (a := a) (b := b) ha hc' (fun i hi => by omega)
    obtain ⟨q1, q2⟩ := can_put (a := c) (b := d) hcc hc (fun i hi => by omega)
    refine ⟨putL (str (putL (str s) a b)) c d, mem_nxG.2 ⟨c, d, p1, by rw [← hk', ← p2]; rfl, rfl⟩, ?_⟩
    rw [put_comm ha hb hcc hd (by omega) (by omega) (by omega) (by omega)]
    exact mem_nxG.2 ⟨a, b, q1, by rw [← hk, ← q2]; rfl, rfl⟩
  rcases Int.lt_trichotomy f g with h | h | h
  · exact .inr (go f t g u hc hk hc' hk' h)
  · left
    subst h
    rw [canM_to hc, canM_to hc']
  · obtain ⟨z, h1, h2⟩ := go g u f t hc' hk' hc hk h
    exact .inr ⟨z, h2, h1⟩
/-- Whichever move is made first. -/
theorem Fr_step (tm : Bool) : ∀ (n : Nat) (s : List UInt8), s.length ≤ 100 → muG 0 s < n → ∀ x ∈ nxG tm s, Fr tm s = Fr tm x + 1
  | 0, _, _, h, _, _ => by omega
  | n + 1, s, hs, hn, x, hx => by
    have key : ∀ y ∈ nxG tm s, Fr tm y = Fr tm x := fun y hy => by
      have h1 := mu_less hs hx
      have h2 := mu_less hs hy
      rcases diamond hx hy with e | ⟨z, hz1, hz2⟩
      · rw [e]
      · rw [Fr_step tm n x (by omega) (by omega) z hz1, Fr_step tm n y (by omega) (by omega) z hz2]
    rw [Fr_eq tm hs]
    refine fold_same _ 0 (fun v hv => ?_) (Nat.zero_le _) (fun e => ?_)
    · obtain ⟨y, hy, rfl⟩ := List.mem_map.1 hv
      exact key y hy
    · have := List.map_eq_nil_iff.1 e
      rw [this] at hx
      cases hx
theorem Fr_none {tm : Bool} {s : List UInt8} (hs : s.length ≤ 100) (h : nxG tm s = []) : Fr tm s = 0 := by
  rw [Fr_eq tm hs, h]; rfl
theorem Fr_le (tm : Bool) : ∀ (n : Nat) (s : List UInt8), s.length ≤ 100 → muG 0 s < n → Fr tm s ≤ muG 0 s
  | 0, _, _, h => by omega
  | n + 1, s, hs, hn => by
    by_cases h : nxG tm s = []
    · rw [Fr_none hs h]; omega
    · obtain ⟨x, hx⟩ := List.exists_mem_of_ne_nil _ h
      rw [Fr_step tm _ s hs (Nat.lt_succ_self _) x hx]
      have h1 := mu_less hs hx
      have := Fr_le tm n x (by omega) (by omega)
      omega
end Go.Proofs.Ytecmeppkggifeaa
