/- Exchanges as plays: how many lead from a line to the last line; the lines in turn (no walk). -/
import Derived.Test.YtfiifjcjmnhbnaaDoorRuA
import Derived.Test.YtfiifjcjmnhbnaaDoorBndB
import Derived.Test.YtfiifjcjmnhbnaaDoorPlay
import Derived.Test.YtfiifjcjmnhbnaaDoorMany
namespace Go.Proofs.YtfiifjcjmnhbnaaDoor

/-- How many plays lead from a line to the last one, of at most so many moves. -/
def swF : Nat → List UInt8 → Nat
  | 0, l => if l = lastL l then 1 else 0
  | k + 1, l => if l = lastL l then 1 else ((nxL l).map (swF k)).sum
def swN (l : List UInt8) : Nat := swF (wayL l).toNat l
section
variable {n : Nat} {l u v : List UInt8}
theorem nx_good (h : goodT n u) (hv : v ∈ nxL u) : goodT n v := (steps_line n).keeps u v h hv
theorem nx_way (h : goodT n u) (hv : v ∈ nxL u) : (wayL v).toNat + 1 ≤ (wayL u).toNat := by
  have h1 := (steps_line n).less u v h hv
  have h2 := (steps_line n).pos v (nx_good h hv)
  omega
theorem nx_nil (h : goodT n l) (h0 : (wayL l).toNat = 0) : nxL l = [] := by
  refine List.eq_nil_iff_forall_not_mem.2 fun v hv => ?_
  have := nx_way h hv
  omega
theorem last_nil (h : goodT n l) (e : l = lastL l) : nxL l = [] := nx_nil h (by rw [e, lastL_way]; rfl)
theorem swF_up : ∀ (k : Nat) (l : List UInt8), goodT n l → (wayL l).toNat ≤ k → swF (k + 1) l = swF k l
  | 0, l, h, hk => by
    unfold swF
    rw [nx_nil h (by omega)]
    rfl
  | k + 1, l, h, hk => by
    have ih : (nxL l).map (swF (k + 1)) = (nxL l).map (swF k) := List.map_congr_left fun v hv => swF_up k v (nx_good h hv) (by have := nx_way h hv; omega)
    show (if l = lastL l then 1 else ((nxL l).map (swF (k + 1))).sum) = (if l = lastL l then 1 else ((nxL l).map (swF k)).sum)
    rw [ih]
theorem swF_of (h : goodT n l) : ∀ k, (wayL l).toNat ≤ k → swF k l = swN l := by
  intro k
  induction k with
  | zero => intro hk; unfold swN; rw [show (wayL l).toNat = 0 by omega]
  | succ k ih =>
    intro hk
    by_cases e : (wayL l).toNat = k + 1
    · unfold swN; rw [e]
    · rw [swF_up k l h (by omega), ih (by omega)]
theorem swN_eq (h : goodT n l) : swN l = if l = lastL l then 1 else ((nxL l).map swN).sum := by
  have e : swN l = swF ((wayL l).toNat + 1) l := (swF_of h _ (by omega)).symm
  have e2 : (nxL l).map (swF (wayL l).toNat) = (nxL l).map swN := List.map_congr_left fun v hv => swF_of (nx_good h hv) _ (by have := nx_way h hv; omega)
  rw [e]
  show (if l = lastL l then 1 else ((nxL l).map (swF (wayL l).toNat)).sum) = _
  rw [e2]
theorem swN_two (h : goodT n l) : swN l = (if l = lastL l then 1 else 0) + ((nxL l).map swN).sum := by
  rw [swN_eq h]
  split
  · rename_i e
    rw [last_nil h e]
    rfl
  · omega
theorem sum_map_le {f g : List UInt8 → Nat} : ∀ (L : List (List UInt8)), (∀ x ∈ L, f x ≤ g x) → (L.map f).sum ≤ (L.map g).sum
  | [], _ => Nat.le_refl _
  | x :: L, h => by
    have h1 := h x (by simp)
    have h2 := sum_map_le L fun y hy => h y (by simp [hy])
    simp only [List.map_cons, List.sum_cons]
    omega
theorem swN_le : ∀ (k : Nat) (l : List UInt8), goodT n l → (wayL l).toNat ≤ k → swN l ≤ wt l
  | 0, l, h, hk => by
    rw [swN_eq h, nx_nil h (by omega)]
    have := wt_pos l
    split
    · omega
    · simp
  | k + 1, l, h, hk => by
    rw [swN_eq h]
    have h1 := wt_pos l
    have h2 := wt_step h
    have h3 := sum_map_le (f := swN) (g := wt) (nxL l) fun v hv => swN_le k v (nx_good h hv) (by have := nx_way h hv; omega)
    split
    · omega
    · omega
theorem swN_small (h : goodT n l) : swN l < 9223372036854775808 := Nat.lt_of_le_of_lt (swN_le _ l h (Nat.le_refl _)) (wt_lt l)
theorem sum_take_le (f : List UInt8 → Nat) : ∀ (L : List (List UInt8)) (k : Nat), ((L.take k).map f).sum ≤ (L.map f).sum
  | [], k => by simp
  | x :: L, 0 => by simp
  | x :: L, k + 1 => by
    have := sum_take_le f L k
    simp only [List.take_succ_cons, List.map_cons, List.sum_cons]
    omega
theorem sum_take_next (f : List UInt8 → Nat) (L : List (List UInt8)) (k : Nat) (h : k < L.length) : ((L.take (k + 1)).map f).sum = ((L.take k).map f).sum + f L[k] := by
  rw [List.take_succ_eq_append_getElem h, List.map_append, List.sum_append]
  simp
/-- While the sum is made it stays small. -/
theorem swN_part (h : goodT n l) (k : Nat) : (if l = lastL l then 1 else 0) + (((nxL l).take k).map swN).sum < 9223372036854775808 := by
  have h1 := sum_take_le swN (nxL l) k
  have h2 := swN_two h
  have h3 := swN_small h
  omega
theorem nx_last (hv : v ∈ nxL u) : lastL v = lastL u := by
  obtain ⟨m, hc, rfl⟩ := mem_nxL hv
  unfold lastL
  rw [behind_cnt 70 hc, behind_cnt 46 hc, behind_cnt 84 hc, byt_str]
theorem nx_cnt (c : UInt8) (hv : v ∈ nxL u) : cnt c v = cnt c u := by
  obtain ⟨m, hc, rfl⟩ := mem_nxL hv
  rw [behind_cnt c hc, byt_str]
end
/-! ### The lines in turn -/
/-- All lines that are reached, in the order in which they are found. -/
def swK (w : List UInt8) (k : Nat) : List (List UInt8) := keysF (bfsAt nxL w k)
def swA (w : List UInt8) : List (List UInt8) := swK w 60000
section
variable {n : Nat} {w u v : List UInt8}
theorem swK_found (hw : goodT n w) (k : Nat) : Found (goodT n) (bfsAt nxL w k) k := found_at (fun _ _ hu hv => nx_good hu hv) hw k
theorem swK_few (hw : goodT n w) (k : Nat) : (swK w k).length ≤ 59049 := by
  unfold swK; rw [keysF_len]; exact found_few (swK_found hw k)
theorem swA_few (hw : goodT n w) : (bfsL nxL w).length ≤ 59049 := found_few (swK_found hw 60000)
theorem swA_good (hw : goodT n w) : ∀ x ∈ swA w, goodT n x := (swK_found hw 60000).good
theorem swK_good (hw : goodT n w) (k : Nat) : ∀ x ∈ swK w k, goodT n x := (swK_found hw k).good
theorem swA_nodup (hw : goodT n w) : (swA w).Nodup := (swK_found hw 60000).nodup
theorem swA_is (w : List UInt8) : swA w = keysF (bfsL nxL w) := by unfold swA swK bfsL; rfl
theorem swA_closed (hw : goodT n w) (hu : u ∈ swA w) (hv : v ∈ nxL u) : v ∈ swA w := by
  rw [swA_is] at hu ⊢
  exact bfs_closed (swA_few hw) hu hv
theorem swK_root (w : List UInt8) (K : Nat) : w ∈ swK w K := bfs_root K
theorem swA_root (w : List UInt8) : w ∈ swA w := swK_root w 60000
theorem swK_zero (w : List UInt8) : swK w 0 = [w] := rfl
/-- The search ends where all that is found is looked at. -/
theorem swK_end (hw : goodT n w) {k : Nat} (h : (swK w k).length ≤ k) : swK w k = swA w := by
  unfold swA
  unfold swK at h ⊢
  rw [keysF_len] at h
  have hk := swK_few hw k
  unfold swK at hk
  rw [keysF_len] at hk
  have h2 := bfsAt_stay (nx := nxL) (wl := w) (k := (bfsAt nxL w k).length)
  by_cases hk6 : k ≤ 60000
  · rw [bfsAt_stay h 60000 hk6]
  · have h3 := swK_few hw 60000
    unfold swK at h3
    rw [keysF_len] at h3
    rw [bfsAt_stay (k := 60000) (by omega) k (by omega)]
/-- One line that is looked at: the lines behind it, one after the other. -/
def swIn (L : List (List UInt8)) (xs : List (List UInt8)) : List (List UInt8) := xs.foldl (fun L x => if x ∈ L then L else L ++ [x]) L
theorem keys_one (d : Nat) (L : Fnd) (x : List UInt8) : keysF (bfsOne d L x) = if x ∈ keysF L then keysF L else keysF L ++ [x] := by
  unfold bfsOne
  split
  · rfl
  · rw [keysF_app]; rfl
theorem keys_in (d : Nat) : ∀ (xs : List (List UInt8)) (L : Fnd), keysF (bfsIn d L xs) = swIn (keysF L) xs
  | [], L => rfl
  | x :: xs, L => by
    show keysF (bfsIn d (bfsOne d L x) xs) = swIn (if x ∈ keysF L then keysF L else keysF L ++ [x]) xs
    rw [keys_in d xs, keys_one]
theorem swK_next {k : Nat} (h : k < (swK w k).length) : swK w (k + 1) = swIn (swK w k) (nxL (swK w k)[k]) := by
  have hl : k < (bfsAt nxL w k).length := by unfold swK at h; rwa [keysF_len] at h
  have e : (swK w k)[k] = (bfsAt nxL w k)[k].1 := by simp [swK, keysF]
  rw [e]
  unfold swK
  rw [bfsAt_next hl, keys_in]
theorem swIn_take (L xs : List (List UInt8)) (i : Nat) (h : i < xs.length) : swIn L (xs.take (i + 1)) = if xs[i] ∈ swIn L (xs.take i) then swIn L (xs.take i) else swIn L (xs.take i) ++ [xs[i]] := by
  unfold swIn
  rw [List.take_succ_eq_append_getElem h, List.foldl_append]
  rfl
theorem swIn_pre (xs : List (List UInt8)) : ∀ L, ∃ M, swIn L xs = L ++ M := by
  induction xs with
  | nil => intro L; exact ⟨[], by simp [swIn]⟩
  | cons x xs ih =>
    intro L
    obtain ⟨M, e⟩ := ih (if x ∈ L then L else L ++ [x])
    by_cases h : x ∈ L
    · rw [if_pos h] at e
      exact ⟨M, by show swIn (if x ∈ L then L else L ++ [x]) xs = _; rw [if_pos h, e]⟩
    · rw [if_neg h] at e
      exact ⟨[x] ++ M, by show swIn (if x ∈ L then L else L ++ [x]) xs = _; rw [if_neg h, e, List.append_assoc]⟩
theorem walk_ms (hw : goodT n w) : ∀ (d : Nat) (v : List UInt8), WalkN nxL w d v → goodT n v ∧ msL v = msL w - d
  | 0, v, h => by
    have h : v = w := h
    subst h
    exact ⟨hw, by simp⟩
  | d + 1, v, h => by
    obtain ⟨u, hu, hv⟩ := h
    obtain ⟨h1, h2⟩ := walk_ms hw d u hu
    refine ⟨nx_good h1 hv, ?_⟩
    rw [(steps_line n).one u v h1 hv, h2]
    push_cast
    omega
/-- A line behind another one is found later. -/
theorem swK_order (hw : goodT n w) (K : Nat) {i j : Nat} (hi : i < (swK w K).length) (hj : j < (swK w K).length) (hv : (swK w K)[j] ∈ nxL (swK w K)[i]) : i < j := by
  have hB := bfsI_at (nx := nxL) (wl := w) K
  have hi2 : i < (bfsAt nxL w K).length := by unfold swK at hi; rwa [keysF_len] at hi
  have hj2 : j < (bfsAt nxL w K).length := by unfold swK at hj; rwa [keysF_len] at hj
  have ei : (swK w K)[i] = (bfsAt nxL w K)[i].1 := by simp [swK, keysF]
  have ej : (swK w K)[j] = (bfsAt nxL w K)[j].1 := by simp [swK, keysF]
  rw [ei, ej] at hv
  obtain ⟨g1, m1⟩ := walk_ms hw _ _ (hB.walk _ (List.getElem_mem hi2))
  obtain ⟨g2, m2⟩ := walk_ms hw _ _ (hB.walk _ (List.getElem_mem hj2))
  have h1 := (steps_line n).one _ _ g1 hv
  by_cases hle : j ≤ i
  · have := hB.sorted j i _ _ hle (List.getElem?_eq_getElem hj2) (List.getElem?_eq_getElem hi2)
    omega
  · omega
theorem swA_order (hw : goodT n w) {i j : Nat} (hi : i < (swA w).length) (hj : j < (swA w).length) (hv : (swA w)[j] ∈ nxL (swA w)[i]) : i < j := swK_order hw 60000 hi hj hv
theorem walk_last : ∀ (d : Nat) (v : List UInt8), WalkN nxL w d v → lastL v = lastL w
  | 0, v, h => by
    have h : v = w := h
    rw [h]
  | d + 1, v, h => by
    obtain ⟨u, hu, hv⟩ := h
    rw [nx_last hv, walk_last d u hu]
theorem swK_last (K : Nat) : ∀ x ∈ swK w K, lastL x = lastL w := by
  intro x hx
  obtain ⟨p, hp, rfl⟩ := List.mem_map.1 hx
  exact walk_last _ _ ((bfsI_at (nx := nxL) (wl := w) K).walk _ hp)
theorem swA_last : ∀ x ∈ swA w, lastL x = lastL w := swK_last 60000
end
/-! ### moves and lines behind them -/
/-- The moves of a line. -/
def mvL (l : List UInt8) : List (Int × Int) := mvsTo (canM (str l)) (str l) (str l).size
theorem nxL_mv (l : List UInt8) : nxL l = (mvL l).map fun m => behind (str l) m.1 m.2 := rfl
theorem nxL_mlen (l : List UInt8) : (nxL l).length = (mvL l).length := by rw [nxL_mv, List.length_map]
theorem nxL_mget (l : List UInt8) (k : Nat) (h : k < (mvL l).length) : (nxL l)[k]'(by rw [nxL_mlen]; exact h) = behind (str l) (mvL l)[k].1 (mvL l)[k].2 := by simp [nxL_mv]
theorem mvL_le (l : List UInt8) : (mvL l).length ≤ l.length := by
  have := mvsTo_le (canM (str l)) (str l) (str l).size
  rwa [str_size] at this
theorem mvL_at (l : List UInt8) (k : Nat) (h : k < (mvL l).length) : ∃ a b : Nat, (mvL l)[k].1 = a ∧ (mvL l)[k].2 = b ∧ a < (str l).size ∧ b < (str l).size ∧ a ≠ b ∧ canM (str l) a b = true := by
  have hm : (mvL l)[k] ∈ mvL l := List.getElem_mem h
  have hc : canM (str l) (mvL l)[k].1 (mvL l)[k].2 = true := (mem_moves (str l) _ _).1 hm
  obtain ⟨a, b, e1, e2, h1, h2, h3⟩ := canM_in hc
  exact ⟨a, b, e1, e2, h1, h2, h3, by rw [e1, e2] at hc; exact hc⟩
end Go.Proofs.YtfiifjcjmnhbnaaDoor
