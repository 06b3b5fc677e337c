/- Moves by a rule: what the model asks of one, and what the program looks for; no walk. -/
import Derived.Test.YticdhapbkfbhjaaMoveE
namespace Go.Proofs.Yticdhapbkfbhjaa
open Go.RowKit

def wayR (f t : Int) : Int := if t < f then -1 else 1
/-- A cell may be jumped over. -/
def overB (s : ByteArray) (o : Bool) (f x : Int) : Bool := !(sgAt s x == 46) && (o || !(sgAt s x == sgAt s f))
def oversR (s : ByteArray) (o : Bool) (f way : Int) (n : Nat) : Bool := (List.range n).all fun k => overB s o f (f + ((k : Int) + 1) * way)
/-- The model's test of a move by the rule with these parts. -/
def ruC (s : ByteArray) (o b l : Bool) (f t : Int) : Bool :=
  inR f 0 (s.size - 1) && inR t 0 (s.size - 1) && !(sgAt s f == 46) && (sgAt s t == 46) && (b || ((sgAt s f == 84) == decide (f ≤ t))) && (l || decide ((t - f).natAbs ≤ 2)) && oversR s o f (wayR f t) ((t - f).natAbs - 1)
/-- The moves from one cell, and of the first cells. -/
def ruRow (s : ByteArray) (o b l : Bool) (f : Nat) : List (Int × Int) := ((List.range s.size).filter fun t : Nat => ruC s o b l f t).map fun t : Nat => ((f : Int), (t : Int))
def ruTo (s : ByteArray) (o b l : Bool) : Nat → List (Int × Int)
  | 0 => []
  | k + 1 => ruTo s o b l k ++ ruRow s o b l k
theorem ruRow_le (s : ByteArray) (o b l : Bool) (f : Nat) : (ruRow s o b l f).length ≤ s.size := by
  unfold ruRow
  rw [List.length_map]
  have := List.length_filter_le (fun t : Nat => ruC s o b l f t) (List.range s.size)
  simpa using this
theorem ruTo_le (s : ByteArray) (o b l : Bool) (k : Nat) : (ruTo s o b l k).length ≤ k * s.size := by
  induction k with
  | zero => simp [ruTo]
  | succ k ih =>
    have := ruRow_le s o b l k
    rw [ruTo, List.length_append, Nat.add_mul]
    omega
def isAn (c : UInt8) : Bool := c == 84 || c == 70
/-- Cell after cell on one side has an animal, so many, and then there is none. -/
def RunS (s : ByteArray) (f step : Int) (j : Nat) : Prop := (∀ k : Nat, k < j → isAn (sgAt s (f + ((k : Int) + 1) * step)) = true) ∧ isAn (sgAt s (f + ((j : Int) + 1) * step)) = false
/-- The parts that a rule needs for the move to the gap. -/
def bkR (s : ByteArray) (f step : Int) : Bool := (sgAt s f == 84) != decide (step > 0)
def owR (s : ByteArray) (f step : Int) (j : Nat) : Bool := (List.range j).any fun k => sgAt s (f + ((k : Int) + 1) * step) == sgAt s f
def needL (bk ow lo : Bool) : List Int := (if bk then [1] else []) ++ (if ow then [0] else []) ++ if lo then [2] else []
def needR (s : ByteArray) (f step : Int) (j : Nat) : List Int := needL (bkR s f step) (owR s f step j) (decide (1 < j))
def partB (o b l : Bool) (i : Int) : Bool := if i = 0 then o else if i = 1 then b else l
def hasAll (o b l : Bool) (L : List Int) : Bool := L.all (partB o b l)
theorem hasAll_need (o b l bk ow lo : Bool) : hasAll o b l (needL bk ow lo) = ((!bk || b) && (!ow || o) && (!lo || l)) := by
  cases bk <;> cases ow <;> cases lo <;> cases o <;> cases b <;> cases l <;> rfl

theorem filter_two (n : Nat) (p : Nat → Bool) (a b : Int) (hab : a < b) : ∀ (A B : Bool), (∀ t, t < n → (p t = true ↔ (A = true ∧ (t : Int) = a) ∨ (B = true ∧ (t : Int) = b))) → (A = true → 0 ≤ a ∧ a < n) → (B = true → 0 ≤ b ∧ b < n) →
    ((List.range n).filter p).map (fun t : Nat => (t : Int)) = (if A then [a] else []) ++ (if B then [b] else []) := by
  induction n with
  | zero =>
    intro A B _ ha hb
    have hA : A = false := by cases A with | false => rfl | true => have := ha rfl; omega
    have hB : B = false := by cases B with | false => rfl | true => have := hb rfl; omega
    subst hA; subst hB
    simp
  | succ n ih =>
    intro A B h ha hb
    rw [List.range_succ, List.filter_append, List.map_append]
    have hn := h n (by omega)
    by_cases c1 : A = true ∧ (n : Int) = a
    · obtain ⟨rfl, e⟩ := c1
      have hB : B = false := by cases B with | false => rfl | true => have := hb rfl; omega
      subst hB
      have hp : p n = true := hn.2 (.inl ⟨rfl, e⟩)
      rw [ih false false (fun t ht => by rw [h t (by omega)]; constructor <;> (rintro (⟨_, q⟩ | ⟨q, _⟩) <;> first | omega | cases q)) (by simp) (by simp)]
      simp [hp, e]
    · by_cases c2 : B = true ∧ (n : Int) = b
      · obtain ⟨rfl, e⟩ := c2
        have hp : p n = true := hn.2 (.inr ⟨rfl, e⟩)
        rw [ih A false (fun t ht => by
          rw [h t (by omega)]
          constructor
          · rintro (q | ⟨_, q⟩)
            · exact .inl q
            · omega
          · rintro (q | ⟨q, _⟩)
            · exact .inl q
            · cases q) (fun q => by have := ha q; have : ¬ (n : Int) = a := fun e => c1 ⟨q, e⟩; omega) (by simp)]
        simp [hp, e]
      · have hp : p n = false := by
          rw [Bool.eq_false_iff]
          intro q
          rcases hn.1 q with q | q
          · exact c1 q
          · exact c2 q
        rw [ih A B (fun t ht => h t (by omega)) (fun q => by have := ha q; have : ¬ (n : Int) = a := fun e => c1 ⟨q, e⟩; omega) (fun q => by have := hb q; have : ¬ (n : Int) = b := fun e => c2 ⟨q, e⟩; omega)]
        simp [hp]

theorem ruC_at (s : ByteArray) (o b l : Bool) (f step : Int) (hs : step = 1 ∨ step = -1) (i : Nat) (hi : inR (f + ((i : Int) + 1) * step) 0 (s.size - 1) = true) :
    ruC s o b l f (f + ((i : Int) + 1) * step) = (inR f 0 (s.size - 1) && !(sgAt s f == 46) && (sgAt s (f + ((i : Int) + 1) * step) == 46) && (b || !bkR s f step) && (l || decide (i ≤ 1)) && oversR s o f step i) := by
  have e1 : wayR f (f + ((i : Int) + 1) * step) = step := by unfold wayR; rcases hs with rfl | rfl <;> split <;> omega
  have e2 : (f + ((i : Int) + 1) * step - f).natAbs = i + 1 := by rcases hs with rfl | rfl <;> omega
  have e3 : decide (f ≤ f + ((i : Int) + 1) * step) = decide (step > 0) := by rcases hs with rfl | rfl <;> (rw [decide_eq_decide]; omega)
  have e4 : decide (i + 1 ≤ 2) = decide (i ≤ 1) := by rw [decide_eq_decide]; omega
  unfold ruC
  rw [e1, e2, e3, hi, e4, Nat.add_sub_cancel]
  unfold bkR
  cases (sgAt s f == 84) <;> cases (decide (step > 0)) <;> simp
theorem sg_good {s : ByteArray} (hg : goodL s = true) (x : Int) (h : 0 ≤ x ∧ x < s.size) : isSign (sgAt s x) = true := by
  obtain ⟨k, rfl⟩ := Int.eq_ofNat_of_zero_le h.1
  rw [sgAt_in s k (by omega)]
  exact good_sign hg k (by omega)
theorem an_of {c : UInt8} (h : isSign c = true) (h2 : isAn c = false) : c = 46 := by
  unfold isSign at h
  unfold isAn at h2
  simp only [Bool.or_eq_true, Bool.or_eq_false_iff, beq_iff_eq] at h h2
  rcases h with (h | h) | h
  · rw [h] at h2; simp at h2
  · rw [h] at h2; simp at h2
  · exact h
theorem ruC_run {s : ByteArray} (hg : goodL s = true) (o b l : Bool) {f step : Int} (hs : step = 1 ∨ step = -1) (hf : 0 ≤ f ∧ f < s.size) (hne : sgAt s f ≠ 46) {j : Nat} (hr : RunS s f step j) (i : Nat)
    (hi : 0 ≤ f + ((i : Int) + 1) * step ∧ f + ((i : Int) + 1) * step < s.size) :
    ruC s o b l f (f + ((i : Int) + 1) * step) = true ↔ i = j ∧ sgAt s (f + ((i : Int) + 1) * step) = 46 ∧ hasAll o b l (needR s f step j) = true := by
  rw [ruC_at s o b l f step hs i (by unfold inR; simp; omega)]
  have hin : inR f 0 (s.size - 1) = true := by unfold inR; simp; omega
  have hne2 : (!(sgAt s f == 46)) = true := by simpa using hne
  rw [hin, hne2]
  unfold needR
  rw [hasAll_need]
  simp only [Bool.and_eq_true, Bool.true_and, Bool.and_true, beq_iff_eq]
  constructor
  · rintro ⟨⟨⟨h46, hb⟩, hl⟩, ho⟩
    have hov : ∀ k, k < i → overB s o f (f + ((k : Int) + 1) * step) = true := fun k hk => List.all_eq_true.1 ho k (List.mem_range.2 hk)
    have hij : i = j := by
      rcases Nat.lt_trichotomy i j with h | h | h
      · have := hr.1 i h
        rw [h46] at this
        cases this
      · exact h
      · have h1 := hov j h
        have h2 := an_of (sg_good hg (f + ((j : Int) + 1) * step) (by rcases hs with rfl | rfl <;> omega)) hr.2
        unfold overB at h1
        rw [h2] at h1
        simp at h1
    subst hij
    refine ⟨rfl, h46, ⟨?_, ?_⟩, ?_⟩
    · rw [Bool.or_comm]; exact hb
    · cases hw : owR s f step i
      · simp
      · obtain ⟨k, hk, he⟩ := List.any_eq_true.1 hw
        have h1 := hov k (List.mem_range.1 hk)
        unfold overB at h1
        rw [he] at h1
        simpa using (Bool.and_eq_true_iff.1 h1).2
    · by_cases h1 : 1 < i
      · have : decide (i ≤ 1) = false := by simpa using h1
        rw [this] at hl
        rw [Bool.or_false] at hl
        rw [hl, Bool.or_true]
      · simp [h1]
  · rintro ⟨rfl, h46, ⟨hb, ho⟩, hl⟩
    refine ⟨⟨⟨h46, ?_⟩, ?_⟩, ?_⟩
    · rw [Bool.or_comm]; exact hb
    · by_cases h1 : 1 < i
      · simp [h1] at hl
        simp [hl]
      · have : decide (i ≤ 1) = true := by simp; omega
        simp [this]
    · refine List.all_eq_true.2 fun k hk => ?_
      have h1 := hr.1 k (List.mem_range.1 hk)
      unfold overB
      have h2 : (sgAt s (f + ((k : Int) + 1) * step) == 46) = false := by
        rw [beq_eq_false_iff_ne]
        intro e
        rw [e] at h1
        cases h1
      rw [h2]
      cases o
      · cases hw : owR s f step i
        · have := List.any_eq_false.1 hw k hk
          simpa using this
        · rw [hw] at ho; simp at ho
      · simp
/-- The move to the gap on one side, if it is one by the rule. -/
def okR (s : ByteArray) (o b l : Bool) (f step : Int) (j : Nat) : Bool := !(sgAt s f == 46) && (sgAt s (f + ((j : Int) + 1) * step) == 46) && hasAll o b l (needR s f step j)
def okL (s : ByteArray) (o b l : Bool) (f step : Int) (j : Nat) : List (Int × Int) := if okR s o b l f step j then [(f, f + ((j : Int) + 1) * step)] else []
theorem ruRow_two {s : ByteArray} (hg : goodL s = true) (o b l : Bool) (f : Nat) (hf : f < s.size) {j1 j2 : Nat} (h1 : RunS s f (-1) j1) (h2 : RunS s f 1 j2) :
    ruRow s o b l f = okL s o b l f (-1) j1 ++ okL s o b l f 1 j2 := by
  have key := filter_two s.size (fun t : Nat => ruC s o b l f t) ((f : Int) + ((j1 : Int) + 1) * -1) ((f : Int) + ((j2 : Int) + 1) * 1) (by omega) (okR s o b l f (-1) j1) (okR s o b l f 1 j2)
    (fun t ht => by
      by_cases hne : sgAt s f = 46
      · have e1 : ruC s o b l f t = false := by unfold ruC; rw [hne]; simp
        have e2 : ∀ σ j, okR s o b l f σ j = false := fun σ j => by unfold okR; rw [hne]; simp
        rw [e1, e2, e2]
        simp
      · have hne2 : (!(sgAt s f == 46)) = true := by simpa using hne
        have hok : ∀ σ j, okR s o b l f σ j = true ↔ sgAt s (f + ((j : Int) + 1) * σ) = 46 ∧ hasAll o b l (needR s f σ j) = true := fun σ j => by
          unfold okR; rw [hne2]; simp
        rw [hok, hok]
        rcases Nat.lt_trichotomy t f with h | h | h
        · have e : (t : Int) = f + (((f - t - 1 : Nat) : Int) + 1) * -1 := by omega
          have := ruC_run hg o b l (step := -1) (.inr rfl) (f := f) (by omega) hne h1 (f - t - 1) (by omega)
          rw [← e] at this
          rw [this]
          constructor
          · rintro ⟨a, b, c⟩
            have e2 : (t : Int) = f + ((j1 : Int) + 1) * -1 := by rw [← a]; exact e
            exact .inl ⟨⟨by rw [← e2]; exact b, c⟩, e2⟩
          · rintro (⟨⟨b, c⟩, a⟩ | ⟨_, a⟩)
            · exact ⟨by omega, by rw [a]; exact b, c⟩
            · omega
        · subst h
          have e1 : ruC s o b l t t = false := by
            unfold ruC
            cases h46 : (sgAt s t == 46)
            · simp
            · simp
          rw [e1]
          constructor
          · intro h; cases h
          · rintro (⟨_, a⟩ | ⟨_, a⟩) <;> omega
        · have e : (t : Int) = f + (((t - f - 1 : Nat) : Int) + 1) * 1 := by omega
          have := ruC_run hg o b l (step := 1) (.inl rfl) (f := f) (by omega) hne h2 (t - f - 1) (by omega)
          rw [← e] at this
          rw [this]
          constructor
          · rintro ⟨a, b, c⟩
            have e2 : (t : Int) = f + ((j2 : Int) + 1) * 1 := by rw [← a]; exact e
            exact .inr ⟨⟨by rw [← e2]; exact b, c⟩, e2⟩
          · rintro (⟨_, a⟩ | ⟨⟨b, c⟩, a⟩)
            · omega
            · exact ⟨by omega, by rw [a]; exact b, c⟩)
    (fun h => by
      have : sgAt s (f + ((j1 : Int) + 1) * -1) = 46 := by
        unfold okR at h
        simp only [Bool.and_eq_true, beq_iff_eq] at h
        exact h.1.2
      exact sg_range s _ (by rw [this]; decide))
    (fun h => by
      have : sgAt s (f + ((j2 : Int) + 1) * 1) = 46 := by
        unfold okR at h
        simp only [Bool.and_eq_true, beq_iff_eq] at h
        exact h.1.2
      exact sg_range s _ (by rw [this]; decide))
  have e : ruRow s o b l f = (((List.range s.size).filter fun t : Nat => ruC s o b l f t).map fun t : Nat => (t : Int)).map fun t => ((f : Int), t) := by
    unfold ruRow
    rw [List.map_map]
    rfl
  rw [e, key, List.map_append]
  unfold okL
  cases okR s o b l f (-1) j1 <;> cases okR s o b l f 1 j2 <;> simp
/-- What is known of a move by a rule. -/
theorem ruC_in {s : ByteArray} {o b l : Bool} {f t : Int} (h : ruC s o b l f t = true) : ∃ a c : Nat, f = a ∧ t = c ∧ a < s.size ∧ c < s.size ∧ a ≠ c := by
  unfold ruC at h
  simp only [Bool.and_eq_true] at h
  obtain ⟨⟨⟨⟨⟨⟨h1, h2⟩, h3⟩, h4⟩, _⟩, _⟩, _⟩ := h
  unfold inR at h1 h2
  simp at h1 h2 h3 h4
  obtain ⟨a, rfl⟩ := Int.eq_ofNat_of_zero_le h1.1
  obtain ⟨c, rfl⟩ := Int.eq_ofNat_of_zero_le h2.1
  refine ⟨a, c, rfl, rfl, by omega, by omega, ?_⟩
  rintro rfl
  exact h3 h4
theorem ruC_sg {s : ByteArray} {o b l : Bool} {f t : Int} (h : ruC s o b l f t = true) : sgAt s f ≠ 46 ∧ sgAt s t = 46 := by
  unfold ruC at h
  simp only [Bool.and_eq_true] at h
  obtain ⟨⟨⟨⟨⟨⟨h1, h2⟩, h3⟩, h4⟩, _⟩, _⟩, _⟩ := h
  simp at h3 h4
  exact ⟨h3, h4⟩
theorem mem_ruTo (s : ByteArray) (o b l : Bool) (n : Nat) (f t : Int) : (f, t) ∈ ruTo s o b l n ↔ 0 ≤ f ∧ f < n ∧ ruC s o b l f t = true := by
  induction n with
  | zero => simp [ruTo]; omega
  | succ n ih =>
    rw [ruTo, List.mem_append, ih]
    have hrow : (f, t) ∈ ruRow s o b l n ↔ f = n ∧ ruC s o b l f t = true := by
      unfold ruRow
      rw [List.mem_map]
      constructor
      · rintro ⟨u, hu, e⟩
        rw [List.mem_filter] at hu
        injection e with e1 e2
        subst e1; subst e2
        exact ⟨rfl, hu.2⟩
      · rintro ⟨rfl, h⟩
        obtain ⟨a, c, e1, rfl, _, hc, _⟩ := ruC_in h
        exact ⟨c, List.mem_filter.2 ⟨List.mem_range.2 hc, h⟩, rfl⟩
    rw [hrow]
    constructor
    · rintro (⟨a, b, c⟩ | ⟨a, b⟩)
      · exact ⟨a, by omega, c⟩
      · exact ⟨by omega, by omega, b⟩
    · rintro ⟨a, b, c⟩
      by_cases e : f = n
      · exact .inr ⟨e, c⟩
      · exact .inl ⟨a, by omega, c⟩
end Go.Proofs.Yticdhapbkfbhjaa
