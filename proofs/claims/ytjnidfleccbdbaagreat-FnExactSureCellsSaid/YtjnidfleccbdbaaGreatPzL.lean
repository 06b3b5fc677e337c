/- All lines of so many cells, in order: the program's. -/
import Derived.Test.YtjnidfleccbdbaaGreatPzK
import Derived.Test.YtjnidfleccbdbaaGreatLns
import Derived.Test.YtjnidfleccbdbaaGreatSrts
namespace Go.Proofs.YtjnidfleccbdbaaGreat
open Go.RowKit Go.Maps Go.Sort

theorem lt_front (l : List UInt8) {a b : UInt8} (h : a < b) (x y : List UInt8) : l ++ a :: x < l ++ b :: y := by
  induction l with
  | nil => exact List.cons_lt_cons_iff.2 (.inl h)
  | cons c l ih => exact List.cons_lt_cons_iff.2 (.inr ⟨rfl, ih⟩)
theorem grow_rising : ∀ (r : Nat) (l : List UInt8), Rising (grow r l)
  | 0, l => by simp [grow, Rising]
  | r + 1, l => by
    rw [grow_next]
    have key : ∀ a b : UInt8, a < b → ∀ x ∈ grow r (l ++ [a]), ∀ y ∈ grow r (l ++ [b]), x < y := fun a b h x hx y hy => by
      obtain ⟨x', rfl, _⟩ := (mem_grow _ _ _).1 hx
      obtain ⟨y', rfl, _⟩ := (mem_grow _ _ _).1 hy
      rw [List.append_assoc, List.append_assoc]
      exact lt_front l h x' y'
    refine List.pairwise_append.2 ⟨grow_rising r _, List.pairwise_append.2 ⟨grow_rising r _, grow_rising r _, key 70 84 (by decide)⟩, fun x hx y hy => ?_⟩
    rcases List.mem_append.1 hy with h | h
    · exact key 46 70 (by decide) x hx y h
    · exact key 46 84 (by decide) x hx y h
theorem mem_all (n : Nat) (x : List UInt8) : x ∈ grow n [] ↔ x.length = n ∧ x.all isSign = true := by
  rw [mem_grow]
  constructor
  · rintro ⟨y, rfl, h1, h2⟩; exact ⟨by simpa using h1, List.all_eq_true.2 (by simpa using h2)⟩
  · rintro ⟨h1, h2⟩; exact ⟨x, by simp, h1, fun c hc => List.all_eq_true.1 h2 c hc⟩
/-- The lines with so many toads and frogs; with so many toads. -/
def hidF (n t f : Nat) : List (List UInt8) := lnsTo (t : Int) ((n : Int) - t - f) (f : Int) (manyK (t : Int) ((n : Int) - t - f) (f : Int))
def hidT (n t k : Nat) : List (List UInt8) := (List.range k).flatMap (hidF n t)
def hidLs (n k : Nat) : List (List UInt8) := (List.range k).flatMap fun t => hidT n t (n - t + 1)
theorem hidT_next (n t k : Nat) : hidT n t (k + 1) = hidT n t k ++ hidF n t k := by unfold hidT; rw [List.range_succ, List.flatMap_append]; simp
theorem hidLs_next (n k : Nat) : hidLs n (k + 1) = hidLs n k ++ hidT n k (n - k + 1) := by unfold hidLs; rw [List.range_succ, List.flatMap_append]; simp
theorem mem_hidF {n t f : Nat} (h12 : n ≤ 12) (h1 : 1 ≤ n) (h : t + f ≤ n) (x : List UInt8) : x ∈ hidF n t f ↔ x.length = n ∧ x.all isSign = true ∧ cnt 84 x = t ∧ cnt 70 x = f := by
  have hc : three (t : Int) ((n : Int) - t - f) (f : Int) = true := by rw [three_iff]; omega
  have hm := manyK_eq hc
  have hn : (t : Int) + ((n : Int) - t - f) + f = (n : Int) := by omega
  unfold hidF lnsTo
  rw [List.mem_map]
  constructor
  · rintro ⟨k, hk, rfl⟩
    have hk' := List.mem_range.1 hk
    obtain ⟨a, b, c, d, _⟩ := rkL_unr n t ((n : Int) - t - f) f k (by omega) (by omega) (by omega) (by omega) h12 (by omega) (by rw [hm]; omega)
    unfold lnk
    rw [hn, Int.toNat_natCast]
    exact ⟨unr_len _ _ _ _ _, a, by omega, by omega⟩
  · rintro ⟨a, b, c, d⟩
    obtain ⟨⟨e1, e2⟩, e3⟩ := unr_rkL x b (by omega)
    have hg : (cnt 46 x : Int) = (n : Int) - t - f := by
      have := cnt_sum x b
      omega
    rw [c, d, hg] at e2 e3
    refine ⟨(rkL x).toNat, List.mem_range.2 (by rw [hm] at e2; omega), ?_⟩
    unfold lnk
    rw [hn, Int.toNat_natCast, Int.toNat_of_nonneg e1, ← a]
    rw [← a] at e3
    exact e3
theorem hidF_nodup {n t f : Nat} (h12 : n ≤ 12) (h1 : 1 ≤ n) (h : t + f ≤ n) : (hidF n t f).Nodup := by
  have hc : three (t : Int) ((n : Int) - t - f) (f : Int) = true := by rw [three_iff]; omega
  have hm := manyK_eq hc
  have hn : (t : Int) + ((n : Int) - t - f) + f = (n : Int) := by omega
  unfold hidF lnsTo
  rw [List.Nodup, List.pairwise_map]
  refine (List.pairwise_lt_range (n := manyK (t : Int) ((n : Int) - t - f) (f : Int))).imp_of_mem fun {a b} ha hb hab e => ?_
  have ha := List.mem_range.1 ha
  have hb := List.mem_range.1 hb
  obtain ⟨_, _, _, _, e1⟩ := rkL_unr n t ((n : Int) - t - f) f a (by omega) (by omega) (by omega) (by omega) h12 (by omega) (by rw [hm]; omega)
  obtain ⟨_, _, _, _, e2⟩ := rkL_unr n t ((n : Int) - t - f) f b (by omega) (by omega) (by omega) (by omega) h12 (by omega) (by rw [hm]; omega)
  unfold lnk at e
  rw [hn, Int.toNat_natCast] at e
  rw [e, e2] at e1
  omega
theorem hid_nodup {n : Nat} (h12 : n ≤ 12) (h1 : 1 ≤ n) : (hidLs n (n + 1)).Nodup := by
  unfold hidLs hidT
  rw [List.Nodup, List.pairwise_flatMap]
  refine ⟨fun t ht => ?_, ?_⟩
  · have ht := List.mem_range.1 ht
    rw [List.pairwise_flatMap]
    refine ⟨fun f hf => hidF_nodup h12 h1 (by have := List.mem_range.1 hf; omega), (List.pairwise_lt_range (n := n - t + 1)).imp_of_mem fun {a b} ha hb hab x hx y hy e => ?_⟩
    have ha := List.mem_range.1 ha
    have hb := List.mem_range.1 hb
    have h3 := ((mem_hidF h12 h1 (by omega) x).1 hx).2.2.2
    have h4 := ((mem_hidF h12 h1 (by omega) y).1 hy).2.2.2
    rw [e] at h3
    omega
  · refine (List.pairwise_lt_range (n := n + 1)).imp_of_mem fun {a b} ha hb hab x hx y hy e => ?_
    have ha := List.mem_range.1 ha
    have hb := List.mem_range.1 hb
    obtain ⟨f, hf, hx⟩ := List.mem_flatMap.1 hx
    obtain ⟨f', hf', hy⟩ := List.mem_flatMap.1 hy
    have hf := List.mem_range.1 hf
    have hf' := List.mem_range.1 hf'
    have h3 := ((mem_hidF h12 h1 (by omega) x).1 hx).2.2.1
    have h4 := ((mem_hidF h12 h1 (by omega) y).1 hy).2.2.1
    rw [e] at h3
    omega
theorem mem_hid {n : Nat} (h12 : n ≤ 12) (h1 : 1 ≤ n) (x : List UInt8) : x ∈ hidLs n (n + 1) ↔ x ∈ grow n [] := by
  rw [mem_all]
  unfold hidLs hidT
  simp only [List.mem_flatMap, List.mem_range]
  constructor
  · rintro ⟨t, ht, f, hf, hx⟩
    obtain ⟨a, b, _⟩ := (mem_hidF h12 h1 (by omega) x).1 hx
    exact ⟨a, b⟩
  · rintro ⟨a, b⟩
    have := cnt_sum x b
    refine ⟨cnt 84 x, by omega, cnt 70 x, by omega, (mem_hidF h12 h1 (by omega) x).2 ⟨a, b, rfl, rfl⟩⟩
theorem sorted_isP {ss l : List (List UInt8)} (hn : ss.Nodup) (hr : Rising l) (hm : ∀ v, v ∈ ss ↔ v ∈ l) : ss.mergeSort (fun x y => decide (x ≤ y)) = l := by
  have tr : ∀ a b c : List UInt8, decide (a ≤ b) = true → decide (b ≤ c) = true → decide (a ≤ c) = true := fun a b c h1 h2 => by simp only [decide_eq_true_eq] at *; exact List.le_trans h1 h2
  have tot : ∀ a b : List UInt8, (decide (a ≤ b) || decide (b ≤ a)) = true := fun a b => by simp only [Bool.or_eq_true, decide_eq_true_eq]; exact List.le_total a b
  have hs := List.pairwise_mergeSort tr tot ss
  have hp := List.mergeSort_perm ss (fun x y => decide (x ≤ y))
  have hn2 : (ss.mergeSort (fun x y => decide (x ≤ y))).Nodup := hp.nodup_iff.2 hn
  refine rising_ext ?_ hr fun v => (hp.mem_iff).trans (hm v)
  refine (hs.and hn2).imp fun {a b} h => ?_
  have h1 : a ≤ b := by simpa using h.1
  by_cases hlt : a < b
  · exact hlt
  · exact absurd (List.le_antisymm h1 (List.not_lt.1 hlt)) h.2
theorem hid_sorted {n : Nat} (h12 : n ≤ 12) (h1 : 1 ≤ n) : (hidLs n (n + 1)).mergeSort (fun x y => decide (x ≤ y)) = grow n [] := sorted_isP (hid_nodup h12 h1) (grow_rising n []) (mem_hid h12 h1)
theorem hid_len {n : Nat} (h12 : n ≤ 12) (h1 : 1 ≤ n) : (hidLs n (n + 1)).length = 3 ^ n := by
  rw [← grow_len n [], ← hid_sorted h12 h1, List.length_mergeSort]
end Go.Proofs.YtjnidfleccbdbaaGreat
