/- All exchanges from a line, in order (no walk). -/
import Derived.Test.YtfiifjcjmnhbnaaDoorSwF
namespace Go.Proofs.YtfiifjcjmnhbnaaDoor

/-- All plays from a line to the last one, so many moves long, in order. -/
def allF : Nat → List UInt8 → List (List (Int × Int))
  | 0, _ => [[]]
  | k + 1, l => (lvL l).flatMap fun m => (allF k (behind (str l) m.1 m.2)).map (m :: ·)
section
variable {n : Nat} {l : List UInt8}
theorem lv_next (hg : goodT n l) {m : Int × Int} (hm : m ∈ lvL l) : behind (str l) m.1 m.2 ∈ nxL l ∧ 0 < swN (behind (str l) m.1 m.2) ∧ goodT n (behind (str l) m.1 m.2) ∧ msL l = msL (behind (str l) m.1 m.2) + 1 := by
  obtain ⟨h1, h2⟩ := List.mem_filter.1 hm
  have hv := mv_nx h1
  exact ⟨hv, by simpa [lvM] using h2, nx_good hg hv, by have := (steps_line n).one l _ hg hv; omega⟩
theorem lv_nil (hg : goodT n l) (hk : msL l = 0) : lvL l = [] := by
  rw [List.eq_nil_iff_forall_not_mem]
  intro m hm
  obtain ⟨h1, h2, h3, h4⟩ := lv_next hg hm
  have := (live_ms _ _ h3 (Nat.le_refl _) h2).1
  omega
theorem lv_some (hg : goodT n l) (h0 : 0 < swN l) {k : Nat} (hk : msL l = ((k + 1 : Nat) : Int)) : lvL l ≠ [] := by
  have hne : l ≠ lastL l := fun e => by
    have := (live_ms _ l hg (Nat.le_refl _) h0).2.2 e
    omega
  obtain ⟨v, hv, hv0⟩ := live_next hg h0 hne
  rw [nxL_mv] at hv
  obtain ⟨m, hm, rfl⟩ := List.mem_map.1 hv
  intro e
  have : m ∈ lvL l := List.mem_filter.2 ⟨hm, by simpa [lvM] using hv0⟩
  rw [e] at this
  cases this
theorem allF_each : ∀ (k : Nat) (l : List UInt8), ∀ p ∈ allF k l, p.length = k
  | 0, _, p, h => by
    have h : p ∈ [([] : List (Int × Int))] := h
    simp at h
    rw [h]; rfl
  | k + 1, l, p, h => by
    obtain ⟨m, _, h2⟩ := List.mem_flatMap.1 h
    obtain ⟨q, hq, rfl⟩ := List.mem_map.1 h2
    rw [List.length_cons, allF_each k _ q hq]
theorem sum_filter0 {α : Type} (p : α → Bool) (f : α → Nat) : ∀ L : List α, (∀ x ∈ L, p x = false → f x = 0) → ((L.filter p).map f).sum = (L.map f).sum
  | [], _ => rfl
  | x :: L, h => by
    have ih := sum_filter0 p f L fun y hy => h y (by simp [hy])
    cases hp : p x
    · rw [List.filter_cons_of_neg (by rw [hp]; decide), ih, List.map_cons, List.sum_cons, h x (by simp) hp, Nat.zero_add]
    · rw [List.filter_cons_of_pos hp, List.map_cons, List.map_cons, List.sum_cons, List.sum_cons, ih]
theorem allF_len : ∀ (k : Nat) (l : List UInt8), goodT n l → 0 < swN l → msL l = (k : Int) → (allF k l).length = swN l
  | 0, l, hg, h0, hk => by
    have e := (live_ms _ l hg (Nat.le_refl _) h0).2.1 (by omega)
    rw [swN_eq hg, if_pos e]
    rfl
  | k + 1, l, hg, h0, hk => by
    have hne : l ≠ lastL l := fun e => by
      have := (live_ms _ l hg (Nat.le_refl _) h0).2.2 e
      omega
    rw [swN_eq hg, if_neg hne, nxL_mv, List.map_map]
    show ((lvL l).flatMap _).length = _
    rw [List.length_flatMap]
    have e1 : (lvL l).map (fun m => ((allF k (behind (str l) m.1 m.2)).map (m :: ·)).length) = (lvL l).map (swN ∘ fun m => behind (str l) m.1 m.2) := by
      refine List.map_congr_left fun m hm => ?_
      obtain ⟨h1, h2, h3, h4⟩ := lv_next hg hm
      rw [List.length_map, allF_len k _ h3 h2 (by omega)]
      rfl
    rw [e1]
    refine sum_filter0 _ _ _ fun m hm hp => ?_
    show swN (behind (str l) m.1 m.2) = 0
    unfold lvM at hp
    simp at hp
    exact hp
/-- So many of the exchanges begin with the first j moves. -/
def allT (k : Nat) (l : List UInt8) (j : Nat) : List (List (Int × Int)) := ((lvL l).take j).flatMap fun m => (allF k (behind (str l) m.1 m.2)).map (m :: ·)
theorem allT_zero (k : Nat) (l : List UInt8) : allT k l 0 = [] := rfl
theorem allT_all (k : Nat) (l : List UInt8) : allT k l (lvL l).length = allF (k + 1) l := by unfold allT; rw [List.take_length]; rfl
theorem allT_next (k : Nat) (l : List UInt8) (j : Nat) (h : j < (lvL l).length) : allT k l (j + 1) = allT k l j ++ (allF k (behind (str l) (lvL l)[j].1 (lvL l)[j].2)).map ((lvL l)[j] :: ·) := by
  unfold allT
  rw [List.take_succ_eq_append_getElem h, List.flatMap_append]
  simp
theorem allT_le (k : Nat) (l : List UInt8) (j : Nat) : (allT k l j).length ≤ (allF (k + 1) l).length := by
  rw [← allT_all]
  unfold allT
  rw [List.take_length]
  conv => rhs; rw [← List.take_append_drop j (lvL l)]
  rw [List.flatMap_append, List.length_append]
  omega
end
end Go.Proofs.YtfiifjcjmnhbnaaDoor
