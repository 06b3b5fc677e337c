/- Search in breadth: lines in the order in which they are found, with how many moves lead there; no walk. -/
import Derived.Test.YticdhapbkfbhjaaReachB
import Derived.Test.YticdhapbkfbhjaaRuA
namespace Go.Proofs.Yticdhapbkfbhjaa
abbrev Fnd := List (List UInt8 × Nat)
def keysF (L : Fnd) : List (List UInt8) := L.map (·.1)
theorem keysF_len (L : Fnd) : (keysF L).length = L.length := by simp [keysF]
theorem keysF_app (L M : Fnd) : keysF (L ++ M) = keysF L ++ keysF M := by simp [keysF]
def bfsOne (d : Nat) (L : Fnd) (x : List UInt8) : Fnd := if x ∈ keysF L then L else L ++ [(x, d)]
def bfsIn (d : Nat) (L : Fnd) (xs : List (List UInt8)) : Fnd := xs.foldl (bfsOne d) L
theorem bfsIn_nil (d : Nat) (L : Fnd) : bfsIn d L [] = L := rfl
theorem bfsIn_next (d : Nat) (L : Fnd) (xs : List (List UInt8)) (i : Nat) (h : i < xs.length) : bfsIn d L (xs.take (i + 1)) = bfsOne d (bfsIn d L (xs.take i)) xs[i] := by
  unfold bfsIn
  rw [List.take_succ_eq_append_getElem h, List.foldl_append]
  rfl
theorem mem_bfsOne (d : Nat) (L : Fnd) (x y : List UInt8) : y ∈ keysF (bfsOne d L x) ↔ y ∈ keysF L ∨ y = x := by
  unfold bfsOne
  split
  · rename_i h
    constructor
    · exact fun h => .inl h
    · rintro (h2 | rfl)
      · exact h2
      · exact h
  · rw [keysF_app, List.mem_append]
    simp [keysF]
theorem mem_bfsIn (d : Nat) (xs : List (List UInt8)) : ∀ (L : Fnd) (y : List UInt8), y ∈ keysF (bfsIn d L xs) ↔ y ∈ keysF L ∨ y ∈ xs := by
  induction xs with
  | nil => intro L y; simp [bfsIn_nil]
  | cons x xs ih =>
    intro L y
    show y ∈ keysF (bfsIn d (bfsOne d L x) xs) ↔ _
    rw [ih, mem_bfsOne, List.mem_cons, or_assoc]
theorem pre_bfsOne (d : Nat) (L : Fnd) (x : List UInt8) : ∃ M, bfsOne d L x = L ++ M ∧ ∀ p ∈ M, p.2 = d := by
  unfold bfsOne
  split
  · exact ⟨[], by simp, by simp⟩
  · exact ⟨[(x, d)], rfl, by simp⟩
theorem pre_bfsIn (d : Nat) (xs : List (List UInt8)) : ∀ L : Fnd, ∃ M, bfsIn d L xs = L ++ M ∧ ∀ p ∈ M, p.2 = d := by
  induction xs with
  | nil => intro L; exact ⟨[], by simp [bfsIn_nil], by simp⟩
  | cons x xs ih =>
    intro L
    obtain ⟨M, e, h⟩ := pre_bfsOne d L x
    obtain ⟨M2, e2, h2⟩ := ih (bfsOne d L x)
    refine ⟨M ++ M2, ?_, fun p hp => ?_⟩
    · show bfsIn d (bfsOne d L x) xs = _
      rw [e2, e, List.append_assoc]
    · rcases List.mem_append.1 hp with hp | hp
      · exact h p hp
      · exact h2 p hp
theorem nodup_bfsOne (d : Nat) (L : Fnd) (x : List UInt8) (h : (keysF L).Nodup) : (keysF (bfsOne d L x)).Nodup := by
  unfold bfsOne
  split
  · exact h
  · rename_i hx
    rw [keysF_app, List.nodup_append]
    refine ⟨h, by simp [keysF], fun a ha b hb => ?_⟩
    obtain rfl : b = x := by simpa [keysF] using hb
    exact fun e => hx (e ▸ ha)
theorem nodup_bfsIn (d : Nat) (xs : List (List UInt8)) : ∀ L : Fnd, (keysF L).Nodup → (keysF (bfsIn d L xs)).Nodup := by
  induction xs with
  | nil => intro L h; exact h
  | cons x xs ih => intro L h; exact ih _ (nodup_bfsOne d L x h)
section
variable (nx : List UInt8 → List (List UInt8)) (wl : List UInt8)
def bfsAt : Nat → Fnd
  | 0 => [(wl, 0)]
  | k + 1 => match (bfsAt k)[k]? with
    | none => bfsAt k
    | some p => bfsIn (p.2 + 1) (bfsAt k) (nx p.1)
/-- All that is found. -/
def bfsL : Fnd := bfsAt nx wl 60000
end
section
variable {nx : List UInt8 → List (List UInt8)} {wl : List UInt8}
theorem bfsAt_next {k : Nat} (h : k < (bfsAt nx wl k).length) : bfsAt nx wl (k + 1) = bfsIn ((bfsAt nx wl k)[k].2 + 1) (bfsAt nx wl k) (nx (bfsAt nx wl k)[k].1) := by
  have e : (bfsAt nx wl k)[k]? = some (bfsAt nx wl k)[k] := List.getElem?_eq_getElem h
  rw [bfsAt, e]
theorem bfsAt_stop {k : Nat} (h : (bfsAt nx wl k).length ≤ k) : bfsAt nx wl (k + 1) = bfsAt nx wl k := by
  have e : (bfsAt nx wl k)[k]? = none := List.getElem?_eq_none h
  rw [bfsAt, e]
theorem bfsAt_stay {k : Nat} (h : (bfsAt nx wl k).length ≤ k) : ∀ j, k ≤ j → bfsAt nx wl j = bfsAt nx wl k := by
  intro j hj
  induction j with
  | zero => obtain rfl : k = 0 := by omega
            rfl
  | succ j ih =>
    by_cases e : k = j + 1
    · subst e; rfl
    · have e2 := ih (by omega)
      rw [bfsAt_stop (by rw [e2]; omega), e2]
theorem bfsAt_pre (k : Nat) : ∃ M, bfsAt nx wl (k + 1) = bfsAt nx wl k ++ M := by
  by_cases h : k < (bfsAt nx wl k).length
  · rw [bfsAt_next h]
    obtain ⟨M, e, _⟩ := pre_bfsIn ((bfsAt nx wl k)[k].2 + 1) (nx (bfsAt nx wl k)[k].1) (bfsAt nx wl k)
    exact ⟨M, e⟩
  · rw [bfsAt_stop (by omega)]
    exact ⟨[], by simp⟩
/-- What holds of all that is found. -/
structure Found (G : List UInt8 → Prop) (L : Fnd) (k : Nat) : Prop where
  nodup : (keysF L).Nodup
  good : ∀ x, x ∈ keysF L → G x
  deep : ∀ p, p ∈ L → p.2 ≤ k
theorem found_in {G : List UInt8 → Prop} {L : Fnd} {k d : Nat} (h : Found G L k) (xs : List (List UInt8)) (hx : ∀ x ∈ xs, G x) (hd : d ≤ k + 1) : Found G (bfsIn d L xs) (k + 1) := by
  refine ⟨nodup_bfsIn _ _ _ h.nodup, fun x hx2 => ?_, fun p hp => ?_⟩
  · rcases (mem_bfsIn d xs L x).1 hx2 with h2 | h2
    · exact h.good x h2
    · exact hx x h2
  · obtain ⟨M, e, hM⟩ := pre_bfsIn d xs L
    rw [e] at hp
    rcases List.mem_append.1 hp with hp | hp
    · have := h.deep p hp; omega
    · have := hM p hp; omega
theorem found_at {G : List UInt8 → Prop} (hG : ∀ u v, G u → v ∈ nx u → G v) (hw : G wl) (k : Nat) : Found G (bfsAt nx wl k) k := by
  induction k with
  | zero => exact ⟨by simp [bfsAt, keysF], fun x hx => by obtain rfl : x = wl := by simpa [bfsAt, keysF] using hx
                                                          exact hw, fun p hp => by obtain rfl : p = (wl, 0) := by simpa [bfsAt] using hp
                                                                                   exact Nat.le_refl _⟩
  | succ k ih =>
    by_cases h : k < (bfsAt nx wl k).length
    · rw [bfsAt_next h]
      have hm : (bfsAt nx wl k)[k] ∈ bfsAt nx wl k := List.getElem_mem h
      exact found_in ih _ (fun x hx => hG _ x (ih.good _ (List.mem_map_of_mem hm)) hx) (by have := ih.deep _ hm; omega)
    · rw [bfsAt_stop (by omega)]
      exact ⟨ih.nodup, ih.good, fun p hp => by have := ih.deep p hp; omega⟩
end
/-- The lines behind all moves by a rule. -/
def nxR (o b l : Bool) (u : List UInt8) : List (List UInt8) := (ruTo (str u) o b l (str u).size).map fun m => behind (str u) m.1 m.2
theorem nxR_len (o b l : Bool) (u : List UInt8) : (nxR o b l u).length = (ruTo (str u) o b l (str u).size).length := by simp [nxR]
theorem mem_nxR {o b l : Bool} {u v : List UInt8} (h : v ∈ nxR o b l u) : ∃ f t, ruC (str u) o b l f t = true ∧ v = behind (str u) f t := by
  obtain ⟨m, hm, rfl⟩ := List.mem_map.1 h
  exact ⟨m.1, m.2, ((mem_ruTo _ o b l _ m.1 m.2).1 hm).2.2, rfl⟩
theorem ruC_behind_all {s : ByteArray} {o b l : Bool} {f t : Int} (h : (byt s).all isSign = true) (hc : ruC s o b l f t = true) : (behind s f t).all isSign = true := by
  obtain ⟨a, c, rfl, rfl, ha, hb, _⟩ := ruC_in hc
  show (((byt s).set c ((byt s).getD a 0)).set a 46).all isSign = true
  refine all_set _ _ _ (all_set _ _ _ h ?_) (by decide)
  have hl : a < (byt s).length := by rw [byt_len]; exact ha
  rw [List.getD_eq_getElem?_getD, List.getElem?_eq_getElem hl]
  exact List.all_eq_true.1 h _ (List.getElem_mem hl)
theorem ruC_behind_good {s : ByteArray} {o b l : Bool} {f t : Int} (h : goodL s = true) (hc : ruC s o b l f t = true) : goodL (str (behind s f t)) = true := by
  obtain ⟨h1, h2, h3⟩ := (goodL_iff s).1 h
  refine (goodL_iff _).2 ⟨?_, ?_, ?_⟩
  · rw [str_size, behind_len]; exact h1
  · rw [str_size, behind_len]; exact h2
  · rw [byt_str]; exact ruC_behind_all h3 hc
theorem ruC_behind_cnt {s : ByteArray} {o b l : Bool} {f t : Int} (c : UInt8) (hc : ruC s o b l f t = true) : cnt c (behind s f t) = cnt c (byt s) := by
  have h46 := (ruC_sg hc).2
  obtain ⟨a, d, rfl, rfl, ha, hb, hne⟩ := ruC_in hc
  show cnt c (((byt s).set d ((byt s).getD a 0)).set a 46) = cnt c (byt s)
  have hla : a < (byt s).length := by rw [byt_len]; exact ha
  have hlb : d < (byt s).length := by rw [byt_len]; exact hb
  have hgb : (byt s)[d] = 46 := by rw [sgAt_in s d hb] at h46; exact h46
  have hga : (byt s).getD a 0 = (byt s)[a] := by rw [List.getD_eq_getElem?_getD, List.getElem?_eq_getElem hla]; rfl
  have e1 := cnt_set c ((byt s).getD a 0) (byt s) d hlb
  have e2 := cnt_set c 46 ((byt s).set d ((byt s).getD a 0)) a (by simpa using hla)
  have e3 : ((byt s).set d ((byt s).getD a 0))[a]'(by simpa using hla) = (byt s)[a] := List.getElem_set_ne (by omega) _
  rw [e3] at e2
  rw [hgb] at e1
  rw [hga] at e1 e2 ⊢
  omega
theorem nxR_good {o b l : Bool} {n : Nat} {u v : List UInt8} (hu : goodT n u) (hv : v ∈ nxR o b l u) : goodT n v := by
  obtain ⟨f, t, hc, rfl⟩ := mem_nxR hv
  exact ⟨ruC_behind_good hu.1 hc, by rw [behind_len, str_size, hu.2.1], hu.2.2⟩
theorem found_R {n : Nat} (o b l : Bool) {wl : List UInt8} (hw : goodT n wl) (k : Nat) : Found (goodT n) (bfsAt (nxR o b l) wl k) k :=
  found_at (fun _ _ h1 h2 => nxR_good h1 h2) hw k
theorem found_few {n k : Nat} {L : Fnd} (h : Found (goodT n) L k) : L.length ≤ 59049 := by
  rw [← keysF_len]
  exact few_good h.nodup h.good
theorem bfs_end {n k : Nat} (o b l : Bool) {wl : List UInt8} (hw : goodT n wl) (h1 : (bfsAt (nxR o b l) wl k).length = k) : bfsAt (nxR o b l) wl k = bfsL (nxR o b l) wl := by
  have := found_few (found_R o b l hw k)
  exact (bfsAt_stay (by omega) 60000 (by omega)).symm
theorem found_L {n : Nat} (o b l : Bool) {wl : List UInt8} (hw : goodT n wl) : Found (goodT n) (bfsL (nxR o b l) wl) 60000 := found_R o b l hw 60000
end Go.Proofs.Yticdhapbkfbhjaa
