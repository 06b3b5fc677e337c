/- Moves by a rule: what the model asks of one, and what the program looks for; no walk. -/
import Derived.Test.YtfiifjcjmnhbnaaDoorMove
import Derived.Test.YtfiifjcjmnhbnaaDoorReachB
namespace Go.Proofs.YtfiifjcjmnhbnaaDoor
open Go.RowKit

def wayR (f t : Int) : Int := if t < f then -1 else 1
/-- A cell may be jumped over. -/
def overB (s : ByteArray) (o : Bool) (f x : Int) : Bool := !(sgAt s x == 46) && (o || !(sgAt s x == sgAt s f))
def oversR (s : ByteArray) (o : Bool) (f way : Int) (n : Nat) : Bool := (List.range n).all fun k => overB s o f (f + ((k : Int) + 1) * way)
/-- The model's test of a move by the rule with these parts. -/
def ruC (s : ByteArray) (o b l : Bool) (f t : Int) : Bool :=
  inR f 0 (s.size - 1) && inR t 0 (s.size - 1) && !(sgAt s f == 46) && (sgAt s t == 46) && (b || ((sgAt s f == 84) == decide (f ≤ t))) && (l || decide ((t - f).natAbs ≤ 2)) && oversR s o f (wayR f t) ((t - f).natAbs - 1)
/-- The moves from one cell, and of the first cells. -/
def ruRow (s : ByteArray) (o b l : Bool) (f : Nat) : List (Int × Int) := ((List.range s.size).filter fun t : Nat => ruC s o b l f t).map fun t : Nat => ((f : Int), (t : Int))
def ruTo (s : ByteArray) (o b l : Bool) : Nat → List (Int × Int)
  | 0 => []
  | k + 1 => ruTo s o b l k ++ ruRow s o b l k
theorem ruRow_le (s : ByteArray) (o b l : Bool) (f : Nat) : (ruRow s o b l f).length ≤ s.size := by
  unfold ruRow
  rw [List.length_map]
  have := List.length_filter_le (fun t : Nat => ruC s o b l f t) (List.range s.size)
  simpa using this
theorem ruTo_le (s : ByteArray) (o b l : Bool) (k : Nat) : (ruTo s o b l k).length ≤ k * s.size := by
  induction k with
  | zero => simp [ruTo]
  | succ k ih =>
    have := ruRow_le s o b l k
    rw [ruTo, List.length_append, Nat.add_mul]
    omega
def isAn (c : UInt8) : Bool := c == 84 || c == 70
/-- Cell after cell on one side has an animal, so many, and then there is none. -/
def RunS (s : ByteArray) (f step : Int) (j : Nat) : Prop := (∀ k : Nat, k < j → isAn (sgAt s (f + ((k : Int) + 1) * step)) = true) ∧ isAn (sgAt s (f + ((j : Int) + 1) * step)) = false
/-- The parts that a rule needs for the move to the gap. -/
def bkR (s : ByteArray) (f step : Int) : Bool := (sgAt s f == 84) != decide (step > 0)
def owR (s : ByteArray) (f step : Int) (j : Nat) : Bool := (List.range j).any fun k => sgAt s (f + ((k : Int) + 1) * step) == sgAt s f
def needL (bk ow lo : Bool) : List Int := (if bk then [1] else []) ++ (if ow then [0] else []) ++ if lo then [2] else []
def needR (s : ByteArray) (f step : Int) (j : Nat) : List Int := needL (bkR s f step) (owR s f step j) (decide (1 < j))
def partB (o b l : Bool) (i : Int) : Bool := if i = 0 then o else if i = 1 then b else l
def hasAll (o b l : Bool) (L : List Int) : Bool := L.all (partB o b l)
theorem hasAll_need (o b l bk ow lo : Bool) : hasAll o b l (needL bk ow lo) = ((!bk || b) && (!ow || o) && (!lo || l)) := by
  cases bk <;> cases ow <;> cases lo <;> cases o <;> cases b <;> cases l <;> rfl

theorem filter_two (n : Nat) (p : Nat → Bool) (a b : Int) (hab : a < b) : ∀ (A B : Bool), (∀ t, t < n → (p t = true ↔ (A = true ∧ (t : Int) = a) ∨ (B = true ∧ (t : Int) = b))) → (A = true → 0 ≤ a ∧ a < n) → (B = true → 0 ≤ b ∧ b < n) →
    ((List.range n).filter p).map (fun t : Nat => (t : Int)) = (if A then [a] else []) ++ (if B then [b] else []) := by
  induction n with
  | zero =>
    intro A B _ ha hb
    have hA : A = false := by cases A with | false => rfl | true => have := ha rfl; omega
    have hB : B = false := by cases B with | false => rfl | true => have := hb rfl; omega
    subst hA; subst hB
    simp
  | succ n ih =>
    intro A B h ha hb
    rw [List.range_succ, List.filter_append, List.map_append]
    have hn := h n (by omega)
    by_cases c1 : A = true ∧ (n : Int) = a
    · obtain ⟨rfl, e⟩ := c1
      have hB : B = false := by cases B with | false => rfl | true => have := hb rfl; omega
      subst hB
      have hp : p n = true := hn.2 (.inl ⟨rfl, e⟩)
      rw [ih false false (fun t ht => by rw [h t (by omega)]; constructor <;> (rintro (⟨_, q⟩ | ⟨q, _⟩) <;> first | omega | cases q)) (by simp) (by simp)]
      simp [hp, e]
    · by_cases c2 : B = true ∧ (n : Int) = b
      · obtain ⟨rfl, e⟩ := c2
        have hp : p n = true := hn.2 (.inr ⟨rfl, e⟩)
        rw [ih A false (fun t ht => by
          rw [h t (by omega)]
          constructor
          · rintro (q | ⟨_, q⟩)
            · exact .inl q
            · omega
          · rintro (q | ⟨q, _⟩)
            · exact .inl q
            · cases q) (fun q => by have := ha q; have : ¬ (n : Int) = a := fun e => c1 ⟨q, e⟩; omega) (by simp)]
        simp [hp, e]
      · have hp : p n = false := by
          rw [Bool.eq_false_iff]
          intro q
          rcases hn.1 q with q | q
          · exact c1 q
          · exact c2 q
        rw [ih A B (fun t ht => h t (by omega)) (fun q => by have := ha q; have : ¬ (n : Int) = a := fun e => c1 ⟨q, e⟩; omega) (fun q => by have := hb q; have : ¬ (n : Int) = b := fun e => c2 ⟨q, e⟩; omega)]
        simp [hp]

theorem ruC_at (s : ByteArray) (o b l : Bool) (f step : Int) (hs : step = 1 ∨ step = -1) (i : Nat) (hi : inR (f + ((i : Int) + 1) * step) 0 (s.size - 1) = true) :
    ruC s o b l f (f + ((i : Int) + 1) * step) = (inR f 0 (s.size - 1) && !(sgAt s f == 46) && (sgAt s (f + ((i : Int) + 1) * step) == 46) && (b || !bkR s f step) && (l || decide (i ≤ 1)) && oversR s o f step i) := by
  have e1 : wayR f (f + ((i : Int) + 1) * step) = step := by unfold wayR; rcases hs with rfl | rfl <;> split <;> omega
  have e2 : (f + ((i : Int) + 1) * step - f).natAbs = i + 1 := by rcases hs with rfl | rfl <;> omega
  have e3 : decide (f ≤ f + ((i : Int) + 1) * step) = decide (step > 0) := by rcases hs with rfl | rfl <;> (rw [decide_eq_decide]; omega)
  have e4 : decide (i + 1 ≤ 2) = decide (i ≤ 1) := by rw [decide_eq_decide]; omega
  unfold ruC
  rw [e1, e2, e3, hi, e4, Nat.add_sub_cancel]
  unfold bkR
  cases (sgAt s f == 84) <;> cases (decide (step > 0)) <;> simp
theorem sg_good {s : ByteArray} (hg : goodL s = true) (x : Int) (h : 0 ≤ x ∧ x < s.size) : isSign (sgAt s x) = true := by
  obtain ⟨k, rfl⟩ := Int.eq_ofNat_of_zero_le h.1
  rw [sgAt_in s k (by omega)]
  exact good_sign hg k (by omega)
theorem an_of {c : UInt8} (h : isSign c = true) (h2 : isAn c = false) : c = 46 := by
  unfold isSign at h
  unfold isAn at h2
  simp only [Bool.or_eq_true, Bool.or_eq_false_iff, beq_iff_eq] at h h2
  rcases h with (h | h) | h
  · rw [h] at h2; simp at h2
  · rw [h] at h2; simp at h2
  · exact h
theorem ruC_run {s : ByteArray} (hg : goodL s = true) (o b l : Bool) {f step : Int} (hs : step = 1 ∨ step = -1) (hf : 0 ≤ f ∧ f < s.size) (hne : sgAt s f ≠ 46) {j : Nat} (hr : RunS s f step j) (i : Nat)
    (hi : 0 ≤ f + ((i : Int) + 1) * step ∧ f + ((i : Int) + 1) * step < s.size) :
    ruC s o b l f (f + ((i : Int) + 1) * step) = true ↔ i = j ∧ sgAt s (f + ((i : Int) + 1) * step) = 46 ∧ hasAll o b l (needR s f step j) = true := by
  rw [ruC_at s o b l f step hs i (by unfold inR; simp; omega)]
  have hin : inR f 0 (s.size - 1) = true := by unfold inR; simp; omega
  have hne2 : (!(sgAt s f == 46)) = true := by simpa using hne
  rw [hin, hne2]
  unfold needR
  rw [hasAll_need]
  simp only [Bool.and_eq_true, Bool.true_and, Bool.and_true, beq_iff_eq]
  constructor
  · rintro ⟨⟨⟨h46, hb⟩, hl⟩, ho⟩
    have hov : ∀ k, k < i → overB s o f (f + ((k : Int) + 1) * step) = true := fun k hk => List.all_eq_true.1 ho k (List.mem_range.2 hk)
    have hij : i = j := by
      rcases Nat.lt_trichotomy i j with h | h | h
      · have := hr.1 i h
        rw [h46] at this
        cases this
      · exact h
      · have h1 := hov j h
        have h2 := an_of (sg_good hg (f + ((j : Int) + 1) * step) (by rcases hs with rfl | rfl <;> omega)) hr.2
        unfold overB at h1
        rw [h2] at h1
        simp at h1
    subst hij
    refine ⟨rfl, h46, ⟨?_, ?_⟩, ?_⟩
    · rw [Bool.or_comm]; exact hb
    · cases hw : owR s f step i
      · simp
      · obtain ⟨k, hk, he⟩ := List.any_eq_true.1 hw
        have h1 := hov k (List.mem_range.1 hk)
        unfold overB at h1
        rw [he] at h1
        simpa using (Bool.and_eq_true_iff.1 h1).2
    · by_cases h1 : 1 < i
      · have : decide (i ≤ 1) = false := by simpa using h1
        rw [this] at hl
        rw [Bool.or_false] at hl
        rw [hl, Bool.or_true]
      · simp [h1]
  · rintro ⟨rfl, h46, ⟨hb, ho⟩, hl⟩
    refine ⟨⟨⟨h46, ?_⟩, ?_⟩, ?_⟩
    · rw [Bool.or_comm]; exact hb
    · by_cases h1 : 1 < i
      · simp [h1] at hl
        simp [hl]
      · have : decide (i ≤ 1) = true := by simp; omega
        simp [this]
    · refine List.all_eq_true.2 fun k hk => ?_
      have h1 := hr.1 k (List.mem_range.1 hk)
      unfold overB
      have h2 : (sgAt s (f + ((k : Int) + 1) * step) == 46) = false := by
        rw [beq_eq_false_iff_ne]
        intro e
        rw [e] at h1
        cases h1
      rw [h2]
      cases o
      · cases hw : owR s f step i
        · have := List.any_eq_false.1 hw k hk
          simpa using this
        · rw [hw] at ho; simp at ho
      · simp
/-- The move to the gap on one side, if it is one by the rule. -/
def okR (s : ByteArray) (o b l : Bool) (f step : Int) (j : Nat) : Bool := !(sgAt s f == 46) && (sgAt s (f + ((j : Int) + 1) * step) == 46) && hasAll o b l (needR s f step j)
def okL (s : ByteArray) (o b l : Bool) (f step : Int) (j : Nat) : List (Int × Int) := if okR s o b l f step j then [(f, f + ((j : Int) + 1) * step)] else []
theorem ruRow_two {s : ByteArray} (hg : goodL s = true) (o b l : Bool) (f : Nat) (hf : f < s.size) {j1 j2 : Nat} (h1 : RunS s f (-1) j1) (h2 : RunS s f 1 j2) :
    ruRow s o b l f = okL s o b l f (-1) j1 ++ okL s o b l f 1 j2 := by
  have key := filter_two s.size (fun t : Nat => ruC s o b l f t) ((f : Int) + ((j1 : Int) + 1) * -1) ((f : Int) + ((j2 : Int) + 1) * 1) (by omega) (okR s o b l f (-1) j1) (okR s o b l f 1 j2)
    (fun t ht => by
      by_cases hne : sgAt s f = 46
      · have e1 : ruC s o b l f t = false := by unfold ruC; rw [hne]; simp
        have e2 : ∀ σ j, okR s o b l f σ j = false := fun σ j => by unfold okR; rw [hne]; simp
        rw [e1, e2, e2]
        simp
      · have hne2 : (!(sgAt s f == 46)) = true := by simpa using hne
        have hok : ∀ σ j, okR s o b l f σ j = true ↔ sgAt s (f + ((j : Int) + 1) * σ) = 46 ∧ hasAll o b l (needR s f σ j) = true := fun σ j => by
          unfold okR; rw [hne2]; simp
        rw [hok, hok]
        rcases Nat.lt_trichotomy t f with h | h | h
        · have e : (t : Int) = f + (((f - t - 1 : Nat) : Int) + 1) * -1 := by omega
          have := ruC_run hg o b l (step := -1) (.inr rfl) (f := f) (by omega) hne h1 (f - t - 1) (by omega)
          rw [← e] at this
          rw [this]
          constructor
          · rintro ⟨a, b, c⟩
            have e2 : (t : Int) = f + ((j1 : Int) + 1) * -1 := by rw [← a]; exact e
            exact .inl ⟨⟨by rw [← e2]; exact b, c⟩, e2⟩
          · rintro (⟨⟨b, c⟩, a⟩ | ⟨_, a⟩)
            · exact ⟨by omega, by rw [a]; exact b, c⟩
            · omega
        · subst h
          have e1 : ruC s o b l t t = false := by
            unfold ruC
            cases h46 : (sgAt s t == 46)
            · simp
            · simp
          rw [e1]
          constructor
          · intro h; cases h
          · rintro (⟨_, a⟩ | ⟨_, a⟩) <;> omega
        · have e : (t : Int) = f + (((t - f - 1 : Nat) : Int) + 1) * 1 := by omega
          have := ruC_run hg o b l (step := 1) (.inl rfl) (f := f) (by omega) hne h2 (t - f - 1) (by omega)
          rw [← e] at this
          rw [this]
          constructor
          · rintro ⟨a, b, c⟩
            have e2 : (t : Int) = f + ((j2 : Int) + 1) * 1 := by rw [← a]; exact e
            exact .inr ⟨⟨by rw [← e2]; exact b, c⟩, e2⟩
          · rintro (⟨_, a⟩ | ⟨⟨b, c⟩, a⟩)
            · omega
            · exact ⟨by omega, by rw [a]; exact b, c⟩)
    (fun h => by
      have : sgAt s (f + ((j1 : Int) + 1) * -1) = 46 := by
        unfold okR at h
        simp only [Bool.and_eq_true, beq_iff_eq] at h
        exact h.1.2
      exact sg_range s _ (by rw [this]; decide))
    (fun h => by
      have : sgAt s (f + ((j2 : Int) + 1) * 1) = 46 := by
        unfold okR at h
        simp only [Bool.and_eq_true, beq_iff_eq] at h
        exact h.1.2
      exact sg_range s _ (by rw [this]; decide))
  have e : ruRow s o b l f = (((List.range s.size).filter fun t : Nat => ruC s o b l f t).map fun t : Nat => (t : Int)).map fun t => ((f : Int), t) := by
    unfold ruRow
    rw [List.map_map]
    rfl
  rw [e, key, List.map_append]
  unfold okL
  cases okR s o b l f (-1) j1 <;> cases okR s o b l f 1 j2 <;> simp
/-- What is known of a move by a rule. -/
theorem ruC_in {s : ByteArray} {o b l : Bool} {f t : Int} (h : ruC s o b l f t = true) : ∃ a c : Nat, f = a ∧ t = c ∧ a < s.size ∧ c < s.size ∧ a ≠ c := by
  unfold ruC at h
  simp only [Bool.and_eq_true] at h
  obtain ⟨⟨⟨⟨⟨⟨h1, h2⟩, h3⟩, h4⟩, _⟩, _⟩, _⟩ := h
  unfold inR at h1 h2
  simp at h1 h2 h3 h4
  obtain ⟨a, rfl⟩ := Int.eq_ofNat_of_zero_le h1.1
  obtain ⟨c, rfl⟩ := Int.eq_ofNat_of_zero_le h2.1
  refine ⟨a, c, rfl, rfl, by omega, by omega, ?_⟩
  rintro rfl
  exact h3 h4
theorem ruC_sg {s : ByteArray} {o b l : Bool} {f t : Int} (h : ruC s o b l f t = true) : sgAt s f ≠ 46 ∧ sgAt s t = 46 := by
  unfold ruC at h
  simp only [Bool.and_eq_true] at h
  obtain ⟨⟨⟨⟨⟨⟨h1, h2⟩, h3⟩, h4⟩, _⟩, _⟩, _⟩ := h
  simp at h3 h4
  exact ⟨h3, h4⟩
theorem mem_ruTo (s : ByteArray) (o b l : Bool) (n : Nat) (f t : Int) : (f, t) ∈ ruTo s o b l n ↔ 0 ≤ f ∧ f < n ∧ ruC s o b l f t = true := by
  induction n with
  | zero => simp [ruTo]; omega
  | succ n ih =>
    rw [ruTo, List.mem_append, ih]
    have hrow : (f, t) ∈ ruRow s o b l n ↔ f = n ∧ ruC s o b l f t = true := by
      unfold ruRow
      rw [List.mem_map]
      constructor
      · rintro ⟨u, hu, e⟩
        rw [List.mem_filter] at hu
        injection e with e1 e2
        subst e1; subst e2
        exact ⟨rfl, hu.2⟩
      · rintro ⟨rfl, h⟩
        obtain ⟨a, c, e1, rfl, _, hc, _⟩ := ruC_in h
        exact ⟨c, List.mem_filter.2 ⟨List.mem_range.2 hc, h⟩, rfl⟩
    rw [hrow]
    constructor
    · rintro (⟨a, b, c⟩ | ⟨a, b⟩)
      · exact ⟨a, by omega, c⟩
      · exact ⟨by omega, by omega, b⟩
    · rintro ⟨a, b, c⟩
      by_cases e : f = n
      · exact .inr ⟨e, c⟩
      · exact .inl ⟨a, by omega, c⟩
end Go.Proofs.YtfiifjcjmnhbnaaDoor
namespace Go.Proofs.YtfiifjcjmnhbnaaDoor
abbrev Fnd := List (List UInt8 × Nat)
def keysF (L : Fnd) : List (List UInt8) := L.map (·.1)
theorem keysF_len (L : Fnd) : (keysF L).length = L.length := by simp [keysF]
theorem keysF_app (L M : Fnd) : keysF (L ++ M) = keysF L ++ keysF M := by simp [keysF]
def bfsOne (d : Nat) (L : Fnd) (x : List UInt8) : Fnd := if x ∈ keysF L then L else L ++ [(x, d)]
def bfsIn (d : Nat) (L : Fnd) (xs : List (List UInt8)) : Fnd := xs.foldl (bfsOne d) L
theorem bfsIn_nil (d : Nat) (L : Fnd) : bfsIn d L [] = L := rfl
theorem bfsIn_next (d : Nat) (L : Fnd) (xs : List (List UInt8)) (i : Nat) (h : i < xs.length) : bfsIn d L (xs.take (i + 1)) = bfsOne d (bfsIn d L (xs.take i)) xs[i] := by
  unfold bfsIn
  rw [List.take_succ_eq_append_getElem h, List.foldl_append]
  rfl
theorem mem_bfsOne (d : Nat) (L : Fnd) (x y : List UInt8) : y ∈ keysF (bfsOne d L x) ↔ y ∈ keysF L ∨ y = x := by
  unfold bfsOne
  split
  · rename_i h
    constructor
    · exact fun h => .inl h
    · rintro (h2 | rfl)
      · exact h2
      · exact h
  · rw [keysF_app, List.mem_append]
    simp [keysF]
theorem mem_bfsIn (d : Nat) (xs : List (List UInt8)) : ∀ (L : Fnd) (y : List UInt8), y ∈ keysF (bfsIn d L xs) ↔ y ∈ keysF L ∨ y ∈ xs := by
  induction xs with
  | nil => intro L y; simp [bfsIn_nil]
  | cons x xs ih =>
    intro L y
    show y ∈ keysF (bfsIn d (bfsOne d L x) xs) ↔ _
    rw [ih, mem_bfsOne, List.mem_cons, or_assoc]
theorem pre_bfsOne (d : Nat) (L : Fnd) (x : List UInt8) : ∃ M, bfsOne d L x = L ++ M ∧ ∀ p ∈ M, p.2 = d := by
  unfold bfsOne
  split
  · exact ⟨[], by simp, by simp⟩
  · exact ⟨[(x, d)], rfl, by simp⟩
theorem pre_bfsIn (d : Nat) (xs : List (List UInt8)) : ∀ L : Fnd, ∃ M, bfsIn d L xs = L ++ M ∧ ∀ p ∈ M, p.2 = d := by
  induction xs with
  | nil => intro L; exact ⟨[], by simp [bfsIn_nil], by simp⟩
  | cons x xs ih =>
    intro L
    obtain ⟨M, e, h⟩ := pre_bfsOne d L x
    obtain ⟨M2, e2, h2⟩ := ih (bfsOne d L x)
    refine ⟨M ++ M2, ?_, fun p hp => ?_⟩
    · show bfsIn d (bfsOne d L x) xs = _
      rw [e2, e, List.append_assoc]
    · rcases List.mem_append.1 hp with hp | hp
      · exact h p hp
      · exact h2 p hp
theorem nodup_bfsOne (d : Nat) (L : Fnd) (x : List UInt8) (h : (keysF L).Nodup) : (keysF (bfsOne d L x)).Nodup := by
  unfold bfsOne
  split
  · exact h
  · rename_i hx
    rw [keysF_app, List.nodup_append]
    refine ⟨h, by simp [keysF], fun a ha b hb => ?_⟩
    obtain rfl : b = x := by simpa [keysF] using hb
    exact fun e => hx (e ▸ ha)
theorem nodup_bfsIn (d : Nat) (xs : List (List UInt8)) : ∀ L : Fnd, (keysF L).Nodup → (keysF (bfsIn d L xs)).Nodup := by
  induction xs with
  | nil => intro L h; exact h
  | cons x xs ih => intro L h; exact ih _ (nodup_bfsOne d L x h)
section
variable (nx : List UInt8 → List (List UInt8)) (wl : List UInt8)
def bfsAt : Nat → Fnd
  | 0 => [(wl, 0)]
  | k + 1 => match (bfsAt k)[k]? with
    | none => bfsAt k
    | some p => bfsIn (p.2 + 1) (bfsAt k) (nx p.1)
/-- All that is found. -/
def bfsL : Fnd := bfsAt nx wl 60000
end
section
variable {nx : List UInt8 → List (List UInt8)} {wl : List UInt8}
theorem bfsAt_next {k : Nat} (h : k < (bfsAt nx wl k).length) : bfsAt nx wl (k + 1) = bfsIn ((bfsAt nx wl k)[k].2 + 1) (bfsAt nx wl k) (nx (bfsAt nx wl k)[k].1) := by
  have e : (bfsAt nx wl k)[k]? = some (bfsAt nx wl k)[k] := List.getElem?_eq_getElem h
  rw [bfsAt, e]
theorem bfsAt_stop {k : Nat} (h : (bfsAt nx wl k).length ≤ k) : bfsAt nx wl (k + 1) = bfsAt nx wl k := by
  have e : (bfsAt nx wl k)[k]? = none := List.getElem?_eq_none h
  rw [bfsAt, e]
theorem bfsAt_stay {k : Nat} (h : (bfsAt nx wl k).length ≤ k) : ∀ j, k ≤ j → bfsAt nx wl j = bfsAt nx wl k := by
  intro j hj
  induction j with
  | zero => obtain rfl : k = 0 := by omega
            rfl
  | succ j ih =>
    by_cases e : k = j + 1
    · subst e; rfl
    · have e2 := ih (by omega)
      rw [bfsAt_stop (by rw [e2]; omega), e2]
theorem bfsAt_pre (k : Nat) : ∃ M, bfsAt nx wl (k + 1) = bfsAt nx wl k ++ M := by
  by_cases h : k < (bfsAt nx wl k).length
  · rw [bfsAt_next h]
    obtain ⟨M, e, _⟩ := pre_bfsIn ((bfsAt nx wl k)[k].2 + 1) (nx (bfsAt nx wl k)[k].1) (bfsAt nx wl k)
    exact ⟨M, e⟩
  · rw [bfsAt_stop (by omega)]
    exact ⟨[], by simp⟩
/-- What holds of all that is found. -/
structure Found (G : List UInt8 → Prop) (L : Fnd) (k : Nat) : Prop where
  nodup : (keysF L).Nodup
  good : ∀ x, x ∈ keysF L → G x
  deep : ∀ p, p ∈ L → p.2 ≤ k
theorem found_in {G : List UInt8 → Prop} {L : Fnd} {k d : Nat} (h : Found G L k) (xs : List (List UInt8)) (hx : ∀ x ∈ xs, G x) (hd : d ≤ k + 1) : Found G (bfsIn d L xs) (k + 1) := by
  refine ⟨nodup_bfsIn _ _ _ h.nodup, fun x hx2 => ?_, fun p hp => ?_⟩
  · rcases (mem_bfsIn d xs L x).1 hx2 with h2 | h2
    · exact h.good x h2
    · exact hx x h2
  · obtain ⟨M, e, hM⟩ := pre_bfsIn d xs L
    rw [e] at hp
    rcases List.mem_append.1 hp with hp | hp
    · have := h.deep p hp; omega
    · have := hM p hp; omega
theorem found_at {G : List UInt8 → Prop} (hG : ∀ u v, G u → v ∈ nx u → G v) (hw : G wl) (k : Nat) : Found G (bfsAt nx wl k) k := by
  induction k with
  | zero => exact ⟨by simp [bfsAt, keysF], fun x hx => by obtain rfl : x = wl := by simpa [bfsAt, keysF] using hx
                                                          exact hw, fun p hp => by obtain rfl : p = (wl, 0) := by simpa [bfsAt] using hp
                                                                                   exact Nat.le_refl _⟩
  | succ k ih =>
    by_cases h : k < (bfsAt nx wl k).length
    · rw [bfsAt_next h]
      have hm : (bfsAt nx wl k)[k] ∈ bfsAt nx wl k := List.getElem_mem h
      exact found_in ih _ (fun x hx => hG _ x (ih.good _ (List.mem_map_of_mem hm)) hx) (by have := ih.deep _ hm; omega)
    · rw [bfsAt_stop (by omega)]
      exact ⟨ih.nodup, ih.good, fun p hp => by have := ih.deep p hp; omega⟩
end
/-- The lines behind all moves by a rule. -/
def nxR (o b l : Bool) (u : List UInt8) : List (List UInt8) := (ruTo (str u) o b l (str u).size).map fun m => behind (str u) m.1 m.2
theorem nxR_len (o b l : Bool) (u : List UInt8) : (nxR o b l u).length = (ruTo (str u) o b l (str u).size).length := by simp [nxR]
theorem mem_nxR {o b l : Bool} {u v : List UInt8} (h : v ∈ nxR o b l u) : ∃ f t, ruC (str u) o b l f t = true ∧ v = behind (str u) f t := by
  obtain ⟨m, hm, rfl⟩ := List.mem_map.1 h
  exact ⟨m.1, m.2, ((mem_ruTo _ o b l _ m.1 m.2).1 hm).2.2, rfl⟩
theorem ruC_behind_all {s : ByteArray} {o b l : Bool} {f t : Int} (h : (byt s).all isSign = true) (hc : ruC s o b l f t = true) : (behind s f t).all isSign = true := by
  obtain ⟨a, c, rfl, rfl, ha, hb, _⟩ := ruC_in hc
  show (((byt s).set c ((byt s).getD a 0)).set a 46).all isSign = true
  refine all_set _ _ _ (all_set _ _ _ h ?_) (by decide)
  have hl : a < (byt s).length := by rw [byt_len]; exact ha
  rw [List.getD_eq_getElem?_getD, List.getElem?_eq_getElem hl]
  exact List.all_eq_true.1 h _ (List.getElem_mem hl)
theorem ruC_behind_good {s : ByteArray} {o b l : Bool} {f t : Int} (h : goodL s = true) (hc : ruC s o b l f t = true) : goodL (str (behind s f t)) = true := by
  obtain ⟨h1, h2, h3⟩ := (goodL_iff s).1 h
  refine (goodL_iff _).2 ⟨?_, ?_, ?_⟩
  · rw [str_size, behind_len]; exact h1
  · rw [str_size, behind_len]; exact h2
  · rw [byt_str]; exact ruC_behind_all h3 hc
theorem ruC_behind_cnt {s : ByteArray} {o b l : Bool} {f t : Int} (c : UInt8) (hc : ruC s o b l f t = true) : cnt c (behind s f t) = cnt c (byt s) := by
  have h46 := (ruC_sg hc).2
  obtain ⟨a, d, rfl, rfl, ha, hb, hne⟩ := ruC_in hc
  show cnt c (((byt s).set d ((byt s).getD a 0)).set a 46) = cnt c (byt s)
  have hla : a < (byt s).length := by rw [byt_len]; exact ha
  have hlb : d < (byt s).length := by rw [byt_len]; exact hb
  have hgb : (byt s)[d] = 46 := by rw [sgAt_in s d hb] at h46; exact h46
  have hga : (byt s).getD a 0 = (byt s)[a] := by rw [List.getD_eq_getElem?_getD, List.getElem?_eq_getElem hla]; rfl
  have e1 := cnt_set c ((byt s).getD a 0) (byt s) d hlb
  have e2 := cnt_set c 46 ((byt s).set d ((byt s).getD a 0)) a (by simpa using hla)
  have e3 : ((byt s).set d ((byt s).getD a 0))[a]'(by simpa using hla) = (byt s)[a] := List.getElem_set_ne (by omega) _
  rw [e3] at e2
  rw [hgb] at e1
  rw [hga] at e1 e2 ⊢
  omega
theorem nxR_good {o b l : Bool} {n : Nat} {u v : List UInt8} (hu : goodT n u) (hv : v ∈ nxR o b l u) : goodT n v := by
  obtain ⟨f, t, hc, rfl⟩ := mem_nxR hv
  exact ⟨ruC_behind_good hu.1 hc, by rw [behind_len, str_size, hu.2.1], hu.2.2⟩
theorem found_R {n : Nat} (o b l : Bool) {wl : List UInt8} (hw : goodT n wl) (k : Nat) : Found (goodT n) (bfsAt (nxR o b l) wl k) k :=
  found_at (fun _ _ h1 h2 => nxR_good h1 h2) hw k
theorem found_few {n k : Nat} {L : Fnd} (h : Found (goodT n) L k) : L.length ≤ 59049 := by
  rw [← keysF_len]
  exact few_good h.nodup h.good
theorem bfs_end {n k : Nat} (o b l : Bool) {wl : List UInt8} (hw : goodT n wl) (h1 : (bfsAt (nxR o b l) wl k).length = k) : bfsAt (nxR o b l) wl k = bfsL (nxR o b l) wl := by
  have := found_few (found_R o b l hw k)
  exact (bfsAt_stay (by omega) 60000 (by omega)).symm
theorem found_L {n : Nat} (o b l : Bool) {wl : List UInt8} (hw : goodT n wl) : Found (goodT n) (bfsL (nxR o b l) wl) 60000 := found_R o b l hw 60000
end Go.Proofs.YtfiifjcjmnhbnaaDoor
namespace Go.Proofs.YtfiifjcjmnhbnaaDoor
open Go.RowKit

section
variable {nx : List UInt8 → List (List UInt8)} {wl : List UInt8}
theorem closed_at (k : Nat) : ∀ (j : Nat) (p : List UInt8 × Nat), (bfsAt nx wl k)[j]? = some p → j < k → ∀ v ∈ nx p.1, v ∈ keysF (bfsAt nx wl k) := by
  induction k with
  | zero => intro j p _ h; omega
  | succ k ih =>
    intro j p hp hj v hv
    by_cases h : k < (bfsAt nx wl k).length
    · rw [bfsAt_next h] at hp ⊢
      by_cases e : j = k
      · subst e
        obtain ⟨M, eM, _⟩ := pre_bfsIn ((bfsAt nx wl j)[j].2 + 1) (nx (bfsAt nx wl j)[j].1) (bfsAt nx wl j)
        rw [eM, List.getElem?_append_left h, List.getElem?_eq_getElem h] at hp
        injection hp with hp
        exact (mem_bfsIn _ _ _ _).2 (.inr (by rw [hp]; exact hv))
      · obtain ⟨M, eM, _⟩ := pre_bfsIn ((bfsAt nx wl k)[k].2 + 1) (nx (bfsAt nx wl k)[k].1) (bfsAt nx wl k)
        rw [eM, List.getElem?_append_left (by omega)] at hp
        exact (mem_bfsIn _ _ _ _).2 (.inl (ih j p hp (by omega) v hv))
    · rw [bfsAt_stop (by omega)] at hp ⊢
      have hl := (List.getElem?_eq_some_iff.1 hp).1
      exact ih j p hp (by omega) v hv
theorem bfs_closed (hl : (bfsL nx wl).length ≤ 59049) {u v : List UInt8} (hu : u ∈ keysF (bfsL nx wl)) (hv : v ∈ nx u) : v ∈ keysF (bfsL nx wl) := by
  obtain ⟨p, hp, rfl⟩ := List.mem_map.1 hu
  obtain ⟨j, hj, e⟩ := List.getElem_of_mem hp
  exact closed_at 60000 j p (by rw [← e]; exact List.getElem?_eq_getElem hj) (by have : (bfsL nx wl).length ≤ 59049 := hl; omega) v hv
theorem bfs_all {G : List UInt8 → Prop} (hG : ∀ u v, G u → v ∈ nx u → G v) (hw : G wl) : ∀ x, x ∈ keysF (bfsL nx wl) → G x := (found_at hG hw 60000).good
theorem bfs_root (k : Nat) : wl ∈ keysF (bfsAt nx wl k) := by
  induction k with
  | zero => simp [bfsAt, keysF]
  | succ k ih =>
    obtain ⟨M, e⟩ := bfsAt_pre (nx := nx) (wl := wl) k
    rw [e, keysF_app]
    exact List.mem_append.2 (.inl ih)
end
/-- What a line reads behind a move. -/
theorem sg_put (s : ByteArray) (a c : Nat) (ha : a < s.size) (x : Nat) (hx : x < s.size) :
    sgAt (str (putL s a c)) x = if x = a then 46 else if x = c then sgAt s a else sgAt s x := by
  have hz : x < (str (putL s a c)).size := by rw [str_size, putL_len]; exact hx
  have h := putL_at s a c x ha hx
  have e : (str (putL s a c))[x]'hz = (putL s a c)[x]'(by rw [putL_len]; exact hx) := rfl
  rw [sgAt_in _ x hz, e]
  have h2 := (List.getElem?_eq_some_iff.1 h).2
  rw [h2, sgAt_in s a ha, sgAt_in s x hx]
theorem put_back (s : ByteArray) (a c : Nat) (ha : a < s.size) (hc : c < s.size) (hne : a ≠ c) (h : sgAt s c = 46) : putL (str (putL s a c)) c a = byt s := by
  have hz : (str (putL s a c)).size = s.size := by rw [str_size, putL_len]
  refine List.ext_getElem? fun j => ?_
  by_cases hj : j < s.size
  · rw [putL_at _ c a j (by omega) (by omega)]
    have e : ∀ (k : Nat) (hk : k < s.size), (str (putL s a c))[k]'(by omega) = sgAt (str (putL s a c)) k := fun k hk => (sgAt_in _ k (by omega)).symm
    rw [e c hc, e j hj, sg_put s a c ha c hc, sg_put s a c ha j hj]
    have hb : (byt s)[j]? = some s[j] := by
      rw [List.getElem?_eq_getElem (by rw [byt_len]; exact hj)]
      rfl
    rw [hb, ← sgAt_in s j hj]
    by_cases e1 : j = c
    · subst e1
      simp [h]
    · by_cases e2 : j = a
      · subst e2
        simp [e1]
        omega
      · simp [e1, e2]
  · rw [List.getElem?_eq_none (by rw [putL_len]; omega), List.getElem?_eq_none (by rw [byt_len]; omega)]
/-- The line before: a sign at i, a gap at j, and who stands there then moves back by the rule. -/
def bkB (u : List UInt8) (o b l : Bool) (i j : Nat) : Bool := !(sgAt (str u) i == 46) && (sgAt (str u) j == 46) && ruC (str (putL (str u) i j)) o b l j i
def bkRow (o b l : Bool) (u : List UInt8) (i n : Nat) : List (List UInt8) := ((List.range n).filter (bkB u o b l i)).map fun j => putL (str u) i j
def nxB (o b l : Bool) (u : List UInt8) : List (List UInt8) := (List.range u.length).flatMap fun i => bkRow o b l u i u.length
theorem mem_nxB {o b l : Bool} {u v : List UInt8} : v ∈ nxB o b l u ↔ ∃ i j : Nat, i < u.length ∧ j < u.length ∧ bkB u o b l i j = true ∧ v = putL (str u) i j := by
  unfold nxB bkRow
  simp only [List.mem_flatMap, List.mem_range, List.mem_map, List.mem_filter]
  constructor
  · rintro ⟨i, hi, j, ⟨hj, hb⟩, rfl⟩
    exact ⟨i, j, hi, hj, hb, rfl⟩
  · rintro ⟨i, j, hi, hj, hb, rfl⟩
    exact ⟨i, hi, j, ⟨hj, hb⟩, rfl⟩
/-- The lines before are those from which a move leads here. -/
theorem nxB_iff {o b l : Bool} {u v : List UInt8} : u ∈ nxB o b l v ↔ v ∈ nxR o b l u ∧ u.length = v.length := by
  constructor
  · intro h
    obtain ⟨i, j, hi, hj, hb, rfl⟩ := mem_nxB.1 h
    unfold bkB at hb
    simp only [Bool.and_eq_true, Bool.not_eq_true', beq_eq_false_iff_ne, beq_iff_eq] at hb
    obtain ⟨⟨h1, h2⟩, h3⟩ := hb
    have hne : i ≠ j := fun e => h1 (e ▸ h2)
    have hb2 : putL (str (putL (str v) i j)) j i = byt (str v) := put_back (str v) i j (by rw [str_size]; exact hi) (by rw [str_size]; exact hj) hne h2
    rw [byt_str] at hb2
    have hl : (putL (str v) i j).length = v.length := by rw [putL_len, str_size]
    refine ⟨?_, hl⟩
    unfold nxR
    refine List.mem_map.2 ⟨((j : Int), (i : Int)), (mem_ruTo _ _ _ _ _ _ _).2 ⟨by omega, by rw [str_size, hl]; omega, h3⟩, ?_⟩
    show putL (str (putL (str v) i j)) j i = v
    exact hb2
  · rintro ⟨h, hl⟩
    obtain ⟨f, t, hc, e⟩ := mem_nxR h
    have hs := ruC_sg hc
    obtain ⟨a, c, rfl, rfl, ha, hc2, hne⟩ := ruC_in hc
    have e2 : v = putL (str u) a c := e
    have hu : putL (str v) c a = u := by
      rw [e2, put_back (str u) a c ha hc2 hne hs.2, byt_str]
    rw [str_size] at ha hc2
    refine mem_nxB.2 ⟨c, a, by omega, by omega, ?_, hu.symm⟩
    unfold bkB
    rw [hu, hc]
    have h1 : sgAt (str v) c = sgAt (str u) a := by
      rw [e2, sg_put (str u) a c (by rw [str_size]; exact ha) c (by rw [str_size]; exact hc2), if_neg (fun h => hne h.symm), if_pos rfl]
    have h2 : sgAt (str v) a = 46 := by
      rw [e2, sg_put (str u) a c (by rw [str_size]; exact ha) a (by rw [str_size]; exact ha), if_pos rfl]
    rw [h1, h2]
    simp [hs.1]
/-- With Back each move can be undone. -/
theorem ruC_undo {u : List UInt8} {o l : Bool} {f t : Int} (h : ruC (str u) o true l f t = true) : ruC (str (behind (str u) f t)) o true l t f = true := by
  have hs := ruC_sg h
  obtain ⟨a, c, rfl, rfl, ha, hc, hne⟩ := ruC_in h
  have hz : (str (behind (str u) (a : Int) (c : Int))).size = (str u).size := by rw [str_size, behind_len]
  have hv : ∀ x : Nat, x < (str u).size → sgAt (str (behind (str u) (a : Int) (c : Int))) x = if x = a then 46 else if x = c then sgAt (str u) a else sgAt (str u) x := fun x hx => sg_put (str u) a c ha x hx
  have hva := hv a ha
  have hvc := hv c hc
  rw [if_pos rfl] at hva
  rw [if_neg (fun e => hne e.symm), if_pos rfl] at hvc
  unfold ruC at h ⊢
  simp only [Bool.and_eq_true, Bool.or_eq_true, Bool.true_or] at h
  obtain ⟨⟨⟨⟨⟨⟨h1, h2⟩, _⟩, _⟩, _⟩, h4⟩, h5⟩ := h
  rw [hz, h1, h2, hva, hvc]
  have hd : ((a : Int) - c).natAbs = ((c : Int) - a).natAbs := by omega
  rw [hd]
  have hs1 : (!(sgAt (str u) (a : Int) == 46)) = true := by simpa using hs.1
  rw [hs1]
  have h4' : (l || decide (((c : Int) - a).natAbs ≤ 2)) = true := by rw [Bool.or_eq_true]; exact h4
  rw [h4']
  simp only [Bool.true_and, Bool.and_true, Bool.true_or, beq_self_eq_true]
  unfold oversR at h5 ⊢
  rw [List.all_eq_true] at h5 ⊢
  intro k hk
  have hk := List.mem_range.1 hk
  have hw : wayR (c : Int) (a : Int) = -wayR (a : Int) (c : Int) := by
    unfold wayR
    split <;> split <;> omega
  have hcell : (c : Int) + ((k : Int) + 1) * wayR (c : Int) (a : Int) = (a : Int) + (((((c : Int) - a).natAbs - 1 - 1 - k : Nat) : Int) + 1) * wayR (a : Int) (c : Int) := by
    rw [hw]
    unfold wayR
    split <;> omega
  have hb := h5 (((c : Int) - a).natAbs - 1 - 1 - k) (List.mem_range.2 (by omega))
  rw [hcell]
  have hx : ∃ x : Nat, (a : Int) + (((((c : Int) - a).natAbs - 1 - 1 - k : Nat) : Int) + 1) * wayR (a : Int) (c : Int) = x ∧ x < (str u).size ∧ x ≠ a ∧ x ≠ c := by
    refine ⟨((a : Int) + (((((c : Int) - a).natAbs - 1 - 1 - k : Nat) : Int) + 1) * wayR (a : Int) (c : Int)).toNat, ?_, ?_, ?_, ?_⟩
    all_goals
      unfold wayR
      split <;> omega
  obtain ⟨x, e, hx1, hx2, hx3⟩ := hx
  rw [e] at hb ⊢
  unfold overB at hb ⊢
  rw [hvc, hv x hx1, if_neg hx2, if_neg hx3]
  exact hb
theorem nxR_back {o l : Bool} {u v : List UInt8} (h : v ∈ nxR o true l u) : u ∈ nxR o true l v := by
  obtain ⟨f, t, hc, e⟩ := mem_nxR h
  have hu := ruC_undo hc
  have hs := ruC_sg hc
  obtain ⟨a, c, rfl, rfl, ha, hc2, hne⟩ := ruC_in hc
  have e2 : v = putL (str u) a c := e
  rw [← e] at hu
  unfold nxR
  refine List.mem_map.2 ⟨((c : Int), (a : Int)), (mem_ruTo _ _ _ _ _ _ _).2 ⟨by omega, by rw [e, str_size, behind_len]; omega, hu⟩, ?_⟩
  show putL (str v) c a = u
  rw [e2, put_back (str u) a c ha hc2 hne hs.2, byt_str]
/-- How far the animals are from where they go: cells of F less cells of T. -/
def gP (k : Nat) (x : UInt8) : Int := if x = 70 then (k : Int) else if x = 84 then -(k : Int) else 0
def potF : Nat → List UInt8 → Int
  | _, [] => 0
  | k, x :: l => gP k x + potF (k + 1) l
theorem potF_set (x : UInt8) : ∀ (l : List UInt8) (k j : Nat) (h : j < l.length), potF k (l.set j x) = potF k l - gP (k + j) l[j] + gP (k + j) x
  | y :: l, k, 0, _ => by
    simp only [List.set_cons_zero, potF, List.getElem_cons_zero, Nat.add_zero]
    omega
  | y :: l, k, j + 1, h => by
    have := potF_set x l (k + 1) j (by simpa using h)
    simp only [List.set_cons_succ, potF, List.getElem_cons_succ]
    rw [this, show k + 1 + j = k + (j + 1) by omega]
    omega
/-- Without Back each move brings them nearer. -/
theorem pot_less {o l : Bool} {u v : List UInt8} (hg : goodL (str u) = true) (h : v ∈ nxR o false l u) : potF 0 v < potF 0 u := by
  obtain ⟨f, t, hc, rfl⟩ := mem_nxR h
  have hs := ruC_sg hc
  obtain ⟨a, c, rfl, rfl, ha, hc2, hne⟩ := ruC_in hc
  have hsg := good_sign hg a ha
  rw [sgAt_in _ a ha] at hs
  rw [sgAt_in _ c hc2] at hs
  have hway : ((str u)[a] = 84 ↔ a ≤ c) := by
    unfold ruC at hc
    simp only [Bool.and_eq_true, Bool.or_eq_true, Bool.false_or] at hc
    have h4 := hc.1.1.2
    rw [sgAt_in _ a ha] at h4
    simp at h4
    constructor
    · intro e
      rw [e] at h4
      simpa using h4.symm
    · intro e
      rw [decide_eq_true e] at h4
      simpa using h4
  have hlu : (str u).size = u.length := str_size u
  have ha' : a < u.length := by omega
  have hc' : c < u.length := by omega
  have hs1 : u[a] ≠ 46 := hs.1
  have hs2 : u[c] = 46 := hs.2
  have hway : u[a] = 84 ↔ a ≤ c := hway
  have hsg : isSign u[a] = true := hsg
  have hga : u.getD a 0 = u[a] := by rw [List.getD_eq_getElem?_getD, List.getElem?_eq_getElem ha']; rfl
  show potF 0 (((byt (str u)).set c ((byt (str u)).getD a 0)).set a 46) < potF 0 u
  rw [byt_str, hga, potF_set 46 (u.set c u[a]) 0 a (by simpa using ha'), potF_set u[a] u 0 c hc', hs2, List.getElem_set_ne (by omega)]
  simp only [Nat.zero_add]
  have g46 : ∀ k, gP k 46 = 0 := fun k => rfl
  rw [g46, g46]
  unfold isSign at hsg
  simp only [Bool.or_eq_true, beq_iff_eq] at hsg
  rcases hsg with (h84 | h70) | h46
  · have hac := hway.1 h84
    rw [h84]
    show potF 0 u - 0 + -(c : Int) - -(a : Int) + 0 < potF 0 u
    omega
  · have hac : ¬ a ≤ c := fun e => by have := hway.2 e; rw [h70] at this; cases this
    rw [h70]
    show potF 0 u - 0 + (c : Int) - (a : Int) + 0 < potF 0 u
    omega
  · exact absurd h46 hs1
end Go.Proofs.YtfiifjcjmnhbnaaDoor
namespace Go.Proofs.YtfiifjcjmnhbnaaDoor
open Go.RowKit

section
variable (nx : List UInt8 → List (List UInt8)) (wl : List UInt8)
/-- A line is reached with so many steps. -/
def WalkN : Nat → List UInt8 → Prop
  | 0, v => v = wl
  | n + 1, v => ∃ u, WalkN n u ∧ v ∈ nx u
structure BfsI (L : Fnd) (k : Nat) : Prop where
  nodup : (keysF L).Nodup
  sorted : ∀ (i j : Nat) (p q : List UInt8 × Nat), i ≤ j → L[i]? = some p → L[j]? = some q → p.2 ≤ q.2
  near : ∀ (p q : List UInt8 × Nat), p ∈ L → L[k]? = some q → p.2 ≤ q.2 + 1
  walk : ∀ p ∈ L, WalkN nx wl p.2 p.1
  done : ∀ (j : Nat) (p : List UInt8 × Nat), j < k → L[j]? = some p → ∀ v ∈ nx p.1, ∃ d, (v, d) ∈ L ∧ d ≤ p.2 + 1
end
section
variable {nx : List UInt8 → List (List UInt8)} {wl : List UInt8}
theorem BfsI.start : BfsI nx wl [(wl, 0)] 0 := by
  refine ⟨by simp [keysF], fun i j p q hij hp hq => ?_, fun p q hp hq => ?_, fun p hp => ?_, fun j p hj => by omega⟩
  · have hi := List.mem_of_getElem? hp
    obtain rfl : p = (wl, 0) := by simpa using hi
    exact Nat.zero_le _
  · obtain rfl : p = (wl, 0) := by simpa using hp
    exact Nat.zero_le _
  · obtain rfl : p = (wl, 0) := by simpa using hp
    exact rfl
theorem BfsI.step {L : Fnd} {k : Nat} (h : BfsI nx wl L k) {q : List UInt8 × Nat} (hq : L[k]? = some q) : BfsI nx wl (bfsIn (q.2 + 1) L (nx q.1)) (k + 1) := by
  have hnd := nodup_bfsIn (q.2 + 1) (nx q.1) L h.nodup
  have hmem := mem_bfsIn (q.2 + 1) (nx q.1) L
  obtain ⟨M, e, hM⟩ := pre_bfsIn (q.2 + 1) (nx q.1) L
  rw [e] at hnd hmem ⊢
  have hkl := (List.getElem?_eq_some_iff.1 hq).1
  have hqL : q ∈ L := List.mem_of_getElem? hq
  have hnew : ∀ p ∈ M, p.1 ∈ nx q.1 := fun p hp => by
    have h1 : p.1 ∈ keysF (L ++ M) := List.mem_map_of_mem (List.mem_append.2 (.inr hp))
    rcases (hmem p.1).1 h1 with h2 | h2
    · rw [keysF_app] at hnd
      exact absurd rfl ((List.nodup_append.1 hnd).2.2 p.1 h2 p.1 (List.mem_map_of_mem hp))
    · exact h2
  have hle : ∀ p ∈ L ++ M, p.2 ≤ q.2 + 1 := fun p hp => by
    rcases List.mem_append.1 hp with h1 | h1
    · exact h.near p q h1 hq
    · have := hM p h1; omega
  have hsorted : ∀ (i j : Nat) (p r : List UInt8 × Nat), i ≤ j → (L ++ M)[i]? = some p → (L ++ M)[j]? = some r → p.2 ≤ r.2 := fun i j p r hij hp hr => by
    by_cases hj : j < L.length
    · rw [List.getElem?_append_left hj] at hr
      rw [List.getElem?_append_left (by omega)] at hp
      exact h.sorted i j p r hij hp hr
    · rw [List.getElem?_append_right (by omega)] at hr
      have h1 := hM r (List.mem_of_getElem? hr)
      have h2 := hle p (List.mem_of_getElem? hp)
      omega
  refine ⟨hnd, hsorted, fun p r hp hr => ?_, fun p hp => ?_, fun j p hj hp v hv => ?_⟩
  · have h1 := hle p hp
    have h2 := hsorted k (k + 1) q r (by omega) (by rw [List.getElem?_append_left hkl]; exact hq) hr
    omega
  · rcases List.mem_append.1 hp with h1 | h1
    · exact h.walk p h1
    · rw [hM p h1]
      exact ⟨q.1, h.walk q hqL, hnew p h1⟩
  · by_cases hjk : j = k
    · subst hjk
      rw [List.getElem?_append_left hkl, hq] at hp
      injection hp with hp
      subst hp
      obtain ⟨r, hr, e2⟩ := List.mem_map.1 ((hmem v).2 (.inr hv))
      exact ⟨r.2, by rw [← e2]; exact hr, hle r hr⟩
    · rw [List.getElem?_append_left (by omega)] at hp
      obtain ⟨d, hd, hd2⟩ := h.done j p (by omega) hp v hv
      exact ⟨d, List.mem_append.2 (.inl hd), hd2⟩
theorem bfsI_at (k : Nat) : BfsI nx wl (bfsAt nx wl k) k := by
  induction k with
  | zero => exact BfsI.start
  | succ k ih =>
    by_cases h : k < (bfsAt nx wl k).length
    · rw [bfsAt_next h]
      exact ih.step (List.getElem?_eq_getElem h)
    · rw [bfsAt_stop (by omega)]
      refine ⟨ih.nodup, ih.sorted, fun p q _ hq => ?_, ih.walk, fun j p hj hp => ?_⟩
      · have := (List.getElem?_eq_some_iff.1 hq).1
        omega
      · have := (List.getElem?_eq_some_iff.1 hp).1
        exact ih.done j p (by omega) hp
/-- Who is reached is found, with no more steps. -/
theorem bfs_least (hl : (bfsL nx wl).length ≤ 59049) (n : Nat) : ∀ v, WalkN nx wl n v → ∃ d, (v, d) ∈ bfsL nx wl ∧ d ≤ n := by
  have hI : BfsI nx wl (bfsL nx wl) 60000 := bfsI_at 60000
  have hroot : ∀ k, (wl, 0) ∈ bfsAt nx wl k := fun k => by
    induction k with
    | zero => simp [bfsAt]
    | succ k ih =>
      obtain ⟨M, e⟩ := bfsAt_pre (nx := nx) (wl := wl) k
      rw [e]
      exact List.mem_append.2 (.inl ih)
  induction n with
  | zero =>
    intro v hv
    have hv : v = wl := hv
    exact ⟨0, by rw [hv]; exact hroot 60000, Nat.le_refl _⟩
  | succ n ih =>
    rintro v ⟨u, hu, hv⟩
    obtain ⟨d, hd, hdn⟩ := ih u hu
    obtain ⟨j, hj, e⟩ := List.getElem_of_mem hd
    obtain ⟨d2, h1, h2⟩ := hI.done j (u, d) (by omega) (by rw [← e]; exact List.getElem?_eq_getElem hj) v hv
    exact ⟨d2, h1, by have : d2 ≤ d + 1 := h2; omega⟩
theorem bfs_walk {v : List UInt8} {d : Nat} (h : (v, d) ∈ bfsL nx wl) : WalkN nx wl d v := by
  have hI : BfsI nx wl (bfsL nx wl) 60000 := bfsI_at 60000
  exact hI.walk (v, d) h
theorem key_one {L : Fnd} (hn : (keysF L).Nodup) {v : List UInt8} {d d2 : Nat} (h : (v, d) ∈ L) (h1 : (v, d2) ∈ L) : d = d2 := by
  obtain ⟨i, hi, e1⟩ := List.getElem_of_mem h
  obtain ⟨j, hj, e2⟩ := List.getElem_of_mem h1
  have hk : (keysF L)[i]'(by rw [keysF_len]; exact hi) = (keysF L)[j]'(by rw [keysF_len]; exact hj) := by
    simp only [keysF, List.getElem_map, e1, e2]
  have hij : i = j := (List.getElem_inj hn).1 hk
  subst hij
  rw [e1] at e2
  exact congrArg Prod.snd e2
theorem bfs_nodup : (keysF (bfsL nx wl)).Nodup := by
  have hI : BfsI nx wl (bfsL nx wl) 60000 := bfsI_at 60000
  exact hI.nodup
/-- The steps are the least. -/
theorem bfs_dist (hl : (bfsL nx wl).length ≤ 59049) {v : List UInt8} {d n : Nat} (h : (v, d) ∈ bfsL nx wl) (hn : WalkN nx wl n v) : d ≤ n := by
  obtain ⟨d2, h1, h2⟩ := bfs_least hl n v hn
  rw [key_one bfs_nodup h h1]
  exact h2
end
end Go.Proofs.YtfiifjcjmnhbnaaDoor
