/- There is an exchange if there is a gap or one kind alone; the live lines halfway (no walk). -/
import Derived.Test.YtjadnfnpbacfdaaDoorSwZ
import Derived.Test.YtjadnfnpbacfdaaDoorSwRa
import Derived.Test.YtjadnfnpbacfdaaDoorSwG
namespace Go.Proofs.YtjadnfnpbacfdaaDoor
open Go.RowKit

/-- A play to the last line, looked for in depth. -/
def dfF : Nat → List UInt8 → Bool
  | 0, l => l == lastL l
  | k + 1, l => (l == lastL l) || (nxL l).any (dfF k)
theorem dfF_live {n : Nat} : ∀ (k : Nat) (l : List UInt8), goodT n l → dfF k l = true → 0 < swN l
  | 0, l, h, hd => by
    have e : l = lastL l := eq_of_beq hd
    rw [swN_eq h, if_pos e]
    exact Nat.one_pos
  | k + 1, l, h, hd => by
    unfold dfF at hd
    rw [Bool.or_eq_true] at hd
    rcases hd with hd | hd
    · have e : l = lastL l := eq_of_beq hd
      rw [swN_eq h, if_pos e]
      exact Nat.one_pos
    · obtain ⟨v, hv, hv2⟩ := List.any_eq_true.1 hd
      exact live_of_next h hv (dfF_live k v (nx_good h hv) hv2)
set_option maxRecDepth 100000 in
theorem dfs_all : ((List.range 9).all fun t => (List.range 9).all fun g => (List.range 9).all fun f => !(decide (1 ≤ t + g + f) && decide (t + g + f ≤ 8) && (decide (0 < g) || t == 0 || f == 0)) || dfF 25 (firstL t g f)) = true := by decide +kernel
theorem nx_none {l : List UInt8} (h : cnt 46 l = 0) : nxL l = [] := by
  cases hn : nxL l with
  | nil => rfl
  | cons v r =>
    exfalso
    obtain ⟨m, hc, _⟩ := mem_nxL (u := l) (v := v) (by rw [hn]; simp)
    obtain ⟨a, b, _, e2, _, hb, _⟩ := canM_in hc
    have h46 : sgAt (str l) m.2 = 46 := ((canM_iff (str l) m.1 m.2).1 hc).2.2.1
    rw [e2, sgAt_in _ b hb] at h46
    have hb2 : b < l.length := by rw [str_size] at hb; exact hb
    have h47 : l[b] = 46 := (List.getElem_of_eq (byt_str l).symm hb2).trans h46
    have : 0 < cnt 46 l := List.length_pos_of_mem (List.mem_filter.2 ⟨List.getElem_mem hb2, by rw [h47]; rfl⟩)
    omega
/-- There is an exchange: a gap, or one kind alone. -/
theorem has_ex {t g f : Int} (h : few t g f = true) : hasX t g f = hasEx t g f := by
  have hf := (few_iff t g f).1 h
  have hg := first_goodT h
  unfold hasX
  rw [h, Bool.true_and]
  cases he : hasEx t g f
  · rw [decide_eq_false_iff_not]
    unfold hasEx at he
    simp at he
    obtain ⟨⟨h1, h2⟩, h3⟩ := he
    have hz : cnt 46 (firstL t.toNat g.toNat f.toNat) = 0 := by rw [(firstL_cnt _ _ _).2.1]; omega
    rw [swN_eq hg, nx_none hz]
    have hne : firstL t.toNat g.toNat f.toNat ≠ lastL (firstL t.toNat g.toNat f.toNat) := by
      intro e
      have e2 : lastL (firstL t.toNat g.toNat f.toNat) = List.replicate f.toNat 70 ++ List.replicate g.toNat 46 ++ List.replicate t.toNat 84 := by
        unfold lastL
        rw [(firstL_cnt _ _ _).1, (firstL_cnt _ _ _).2.1, (firstL_cnt _ _ _).2.2]
      rw [e2] at e
      unfold firstL at e
      obtain ⟨a, ha⟩ : ∃ a, t.toNat = a + 1 := ⟨t.toNat - 1, by omega⟩
      obtain ⟨b, hb⟩ : ∃ b, f.toNat = b + 1 := ⟨f.toNat - 1, by omega⟩
      rw [ha, hb] at e
      simp [List.replicate_succ] at e
    rw [if_neg hne]
    simp
  · rw [decide_eq_true_iff]
    have hall := dfs_all
    rw [List.all_eq_true] at hall
    have h1 := hall t.toNat (List.mem_range.2 (by omega))
    rw [List.all_eq_true] at h1
    have h2 := h1 g.toNat (List.mem_range.2 (by omega))
    rw [List.all_eq_true] at h2
    have h3 := h2 f.toNat (List.mem_range.2 (by omega))
    have hc : (decide (1 ≤ t.toNat + g.toNat + f.toNat) && decide (t.toNat + g.toNat + f.toNat ≤ 8) && (decide (0 < g.toNat) || t.toNat == 0 || f.toNat == 0)) = true := by
      rw [decide_eq_true (by omega), decide_eq_true (by omega)]
      unfold hasEx at he
      simp at he ⊢
      omega
    rw [hc] at h3
    exact dfF_live 25 _ hg (by simpa using h3)
/-- How many moves an exchange has. -/
theorem ms_first {t g f : Int} (h : few t g f = true) : msL (firstL t.toNat g.toNat f.toNat) = exLen t g f := by
  have hf := (few_iff t g f).1 h
  have h1 : (pairSt (firstL t.toNat g.toNat f.toNat)).1 = f.toNat * t.toNat := by
    unfold firstL
    rw [pairSt_frogs, pairSt_gaps]
    have h := pairSt_toads [] t.toNat
    rw [List.nil_append] at h
    rw [h]
    show (pairSt []).1 + f.toNat * ((pairSt []).2 + t.toNat) = _
    simp [pairSt]
  have h3 : msL (firstL t.toNat g.toNat f.toNat) = wayL (firstL t.toNat g.toNat f.toNat) - ((pairSt (firstL t.toNat g.toNat f.toNat)).1 : Int) := rfl
  rw [h3, h1, firstL_way]
  unfold exLen
  obtain ⟨a, rfl⟩ : ∃ a : Nat, t = a := ⟨t.toNat, by omega⟩
  obtain ⟨b, rfl⟩ : ∃ b : Nat, g = b := ⟨g.toNat, by omega⟩
  obtain ⟨c, rfl⟩ : ∃ c : Nat, f = c := ⟨f.toNat, by omega⟩
  simp only [Int.toNat_natCast]
  push_cast
  simp only [Int.mul_add, Int.add_mul, Int.mul_comm, Int.add_comm, Int.add_left_comm]
  omega
section
variable {n : Nat} {w x : List UInt8}
theorem ex_walk (hw : goodT n w) (h0 : 0 < swN w) : ∀ k : Nat, (k : Int) ≤ msL w → WalkN nxL w k (exN false k w)
  | 0, _ => rfl
  | k + 1, hk => by
    have h1 := ex_walk hw h0 k (by omega)
    have h2 := exN_live false k w h0
    have h3 := exN_good (n := n) false k w hw
    have h4 := (walk_ms hw k _ h1).2
    have hne : exN false k w ≠ lastL (exN false k w) := fun e => by
      have := (live_ms _ _ h3 (Nat.le_refl _) h2).2.2 e
      omega
    obtain ⟨m, hm⟩ := pick_some false h3 h2 hne
    rw [(exM_snoc false k w).2, hm]
    exact ⟨_, h1, mv_nx (pick_mem hm).1⟩
/-- No layer up to the last move is empty. -/
theorem layW_ne (hw : goodT n w) (h0 : 0 < swN w) {k : Nat} (hk : (k : Int) ≤ msL w) : layW w k ≠ [] := by
  intro e
  have := walk_lay hw k _ (ex_walk hw h0 k hk) (exN_live false k w h0)
  rw [e] at this
  cases this
theorem layW_lt (hw : goodT n w) (h0 : 0 < swN w) {k d : Nat} (hk : (k : Int) ≤ msL w) (hd : layW w d = []) : k < d := by
  by_cases h : k < d
  · exact h
  · exact absurd (layW_nil hd k (by omega)) (layW_ne hw h0 hk)
/-- A layer by numbers of moves. -/
theorem layW_at (hw : goodT n w) (h0 : 0 < swN w) {k : Nat} : x ∈ layW w k ↔ x ∈ swA w ∧ 0 < swN x ∧ msL w - msL x = k := by
  constructor
  · intro h
    have h1 := layW_good hw h0 k x h
    exact ⟨layW_in hw k x h, h1.2.1, by omega⟩
  · rintro ⟨h1, h2, h3⟩
    obtain ⟨j, hj⟩ := (layW_iff hw h0).2 ⟨h1, h2⟩
    have := (layW_good hw h0 j x hj).2.2
    obtain rfl : j = k := by omega
    exact hj
end
end Go.Proofs.YtjadnfnpbacfdaaDoor
