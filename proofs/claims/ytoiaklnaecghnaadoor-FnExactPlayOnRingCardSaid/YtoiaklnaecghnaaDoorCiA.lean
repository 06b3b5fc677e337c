/- Rings: what the model asks of a move, and what the program looks for; no walk. -/
import Derived.Test.YtoiaklnaecghnaaDoorMove
namespace Go.Proofs.YtoiaklnaecghnaaDoor
open Go.RowKit

/-- A ring: a line of three to nine cells. -/
def ringB (s : ByteArray) : Bool := goodL s && (decide (3 ≤ s.size) && decide (s.size ≤ 9))
theorem ring_good {s : ByteArray} (h : ringB s = true) : goodL s = true := (Bool.and_eq_true_iff.1 h).1
theorem ring_sz {s : ByteArray} (h : ringB s = true) : 3 ≤ s.size ∧ s.size ≤ 9 := by
  have := (Bool.and_eq_true_iff.1 h).2
  simpa using this
/-- The cell behind one, around, for a toad; for a frog. -/
def nxT (n x : Nat) : Nat := (x + 1) % n
def nxF (n x : Nat) : Nat := (x + (n - 1)) % n
/-- The model's test of a move from a cell to one. -/
def rgC (s : ByteArray) (f t : Nat) : Bool :=
  (sgAt s t == 46) && (((sgAt s f == 84) && (t == nxT s.size f || ((sgAt s (nxT s.size f) == 70) && t == nxT s.size (nxT s.size f)))) ||
    ((sgAt s f == 70) && (t == nxF s.size f || ((sgAt s (nxF s.size f) == 84) && t == nxF s.size (nxF s.size f)))))
theorem rgC_iff (s : ByteArray) (f t : Nat) : rgC s f t = true ↔ sgAt s t = 46 ∧ ((sgAt s f = 84 ∧ (t = nxT s.size f ∨ (sgAt s (nxT s.size f) = 70 ∧ t = nxT s.size (nxT s.size f)))) ∨
    (sgAt s f = 70 ∧ (t = nxF s.size f ∨ (sgAt s (nxF s.size f) = 84 ∧ t = nxF s.size (nxF s.size f))))) := by
  unfold rgC
  simp only [Bool.and_eq_true, Bool.or_eq_true, beq_iff_eq]
theorem rgC_no {s : ByteArray} {f t : Nat} (h : ¬ (sgAt s t = 46 ∧ ((sgAt s f = 84 ∧ (t = nxT s.size f ∨ (sgAt s (nxT s.size f) = 70 ∧ t = nxT s.size (nxT s.size f)))) ∨
    (sgAt s f = 70 ∧ (t = nxF s.size f ∨ (sgAt s (nxF s.size f) = 84 ∧ t = nxF s.size (nxF s.size f))))))) : rgC s f t = false := by
  rw [Bool.eq_false_iff]
  exact fun e => h ((rgC_iff s f t).1 e)
/-- The same, of any numbers. -/
def rgCi (s : ByteArray) (f t : Int) : Bool := inR f 0 (s.size - 1) && (inR t 0 (s.size - 1) && rgC s f.toNat t.toNat)
/-- The line that the program looks at. -/
def rep3 (s : ByteArray) : ByteArray := str (byt s ++ (byt s ++ byt s))
theorem rep3_size (s : ByteArray) : (rep3 s).size = 3 * s.size := by
  unfold rep3
  rw [str_size]
  simp [byt_len]
  omega
theorem sg3 (s : ByteArray) (x : Nat) (hx : x < 3 * s.size) : sgAt (rep3 s) x = sgAt s ((x % s.size : Nat) : Int) := by
  have hn : 0 < s.size := by omega
  have hm := Nat.mod_lt x hn
  rw [sgAt_in _ x (by rw [rep3_size]; exact hx), sgAt_in _ _ hm]
  have hb := byt_len s
  have e1 : (rep3 s)[x]'(by rw [rep3_size]; exact hx) = (byt s ++ (byt s ++ byt s))[x]'(by simp [hb]; omega) := rfl
  have e2 : s[x % s.size]'hm = (byt s)[x % s.size]'(by rw [hb]; exact hm) := rfl
  rw [e1, e2]
  have g : ∀ (L : List UInt8) i (h : i < L.length), L[i]? = some L[i] := fun L i h => List.getElem?_eq_getElem h
  apply Option.some.inj
  rw [← g, ← g]
  by_cases h1 : x < s.size
  · rw [List.getElem?_append_left (by omega), Nat.mod_eq_of_lt h1]
  · rw [List.getElem?_append_right (by omega), hb]
    by_cases h2 : x - s.size < s.size
    · rw [List.getElem?_append_left (by omega)]
      congr 1
      rw [Nat.mod_eq_sub_mod (by omega), Nat.mod_eq_of_lt h2]
    · rw [List.getElem?_append_right (by omega), hb]
      congr 1
      rw [Nat.mod_eq_sub_mod (by omega), Nat.mod_eq_sub_mod (by omega), Nat.mod_eq_of_lt (by omega)]
theorem nxT_lt {n x : Nat} (h : 0 < n) : nxT n x < n := Nat.mod_lt _ h
theorem nxF_lt {n x : Nat} (h : 0 < n) : nxF n x < n := Nat.mod_lt _ h
theorem nxT_1 (n x : Nat) : (n + x + 1) % n = nxT n x := by unfold nxT; rw [Nat.add_assoc, Nat.add_mod_left]
theorem nxT_2 (n x : Nat) : (n + x + 1 + 1) % n = nxT n (nxT n x) := by
  unfold nxT
  rw [Nat.mod_add_mod, Nat.add_assoc, Nat.add_assoc, Nat.add_mod_left, Nat.add_assoc]
theorem nxF_1 (n x : Nat) (h : 1 ≤ n) : (n + x - 1) % n = nxF n x := by unfold nxF; congr 1; omega
theorem nxF_2 (n x : Nat) (h : 2 ≤ n) : (n + x - 1 - 1) % n = nxF n (nxF n x) := by
  unfold nxF
  rw [Nat.mod_add_mod, show x + (n - 1) + (n - 1) = n + (n + x - 1 - 1) by omega, Nat.add_mod_left]
theorem nxT_ne (n x : Nat) (h : 3 ≤ n) (hx : x < n) : nxT n x ≠ x := by
  unfold nxT
  rcases Nat.lt_or_ge (x + 1) n with h1 | h1
  · rw [Nat.mod_eq_of_lt h1]; omega
  · rw [show x + 1 = n by omega, Nat.mod_self]; omega
theorem nxT_val (n x : Nat) (hx : x < n) : nxT n x = if x + 1 < n then x + 1 else 0 := by
  unfold nxT
  split
  · rename_i h; exact Nat.mod_eq_of_lt h
  · rw [show x + 1 = n by omega, Nat.mod_self]
theorem nxF_val (n x : Nat) (hx : x < n) : nxF n x = if 0 < x then x - 1 else n - 1 := by
  unfold nxF
  split
  · rw [show x + (n - 1) = n + (x - 1) by omega, Nat.add_mod_left, Nat.mod_eq_of_lt (by omega)]
  · rw [show x + (n - 1) = n - 1 by omega, Nat.mod_eq_of_lt (by omega)]
/-- Where the animal of a cell goes, on the line told three times: the program's. -/
def rgM (s : ByteArray) (k : Nat) : Int := mvTo (rep3 s) ((s.size + k : Nat) : Int)
/-- A number one less than a cell's. -/
theorem pre1 (m : Nat) (h : 1 ≤ m) : (m : Int) + -1 = ((m - 1 : Nat) : Int) := by omega
/-- What the program finds is what the model asks for. -/
theorem rgM_cases (s : ByteArray) (hr : 3 ≤ s.size) (k : Nat) (hk : k < s.size) :
    (rgM s k = ((s.size + k : Nat) : Int) ∧ ∀ t, t < s.size → rgC s k t = false) ∨
    (∃ m : Nat, rgM s k = (m : Int) ∧ m ≠ s.size + k ∧ m < 3 * s.size ∧ m % s.size ≠ k ∧ ∀ t, t < s.size → (rgC s k t = true ↔ t = m % s.size)) := by
  have h0 : sgAt (rep3 s) ((s.size + k : Nat) : Int) = sgAt s k := by
    rw [sg3 s _ (by omega), Nat.add_mod_left, Nat.mod_eq_of_lt hk]
  have h1 : sgAt (rep3 s) (((s.size + k : Nat) : Int) + 1) = sgAt s (nxT s.size k : Nat) := by
    rw [show ((s.size + k : Nat) : Int) + 1 = ((s.size + k + 1 : Nat) : Int) by omega, sg3 s _ (by omega), nxT_1]
  have h2 : sgAt (rep3 s) (((s.size + k : Nat) : Int) + 1 + 1) = sgAt s (nxT s.size (nxT s.size k) : Nat) := by
    rw [show ((s.size + k : Nat) : Int) + 1 + 1 = ((s.size + k + 1 + 1 : Nat) : Int) by omega, sg3 s _ (by omega), nxT_2]
  have h3 : sgAt (rep3 s) (((s.size + k : Nat) : Int) + -1) = sgAt s (nxF s.size k : Nat) := by
    rw [pre1 _ (by omega), sg3 s _ (by omega), nxF_1 _ _ (by omega)]
  have h4 : sgAt (rep3 s) (((s.size + k : Nat) : Int) + -1 + -1) = sgAt s (nxF s.size (nxF s.size k) : Nat) := by
    rw [pre1 _ (by omega), pre1 _ (by omega), sg3 s _ (by omega), nxF_2 _ _ (by omega)]
  have n1 : nxT s.size k ≠ k := nxT_ne _ _ hr hk
  have n2 : nxT s.size (nxT s.size k) ≠ k := by
    rw [nxT_val _ _ (nxT_lt (by omega)), nxT_val _ _ hk]
    split <;> split <;> omega
  have n3 : nxF s.size k ≠ k := by rw [nxF_val _ _ hk]; split <;> omega
  have n4 : nxF s.size (nxF s.size k) ≠ k := by
    rw [nxF_val _ _ (nxF_lt (by omega)), nxF_val _ _ hk]
    split <;> split <;> omega
  have hM : rgM s k = mvTo (rep3 s) ((s.size + k : Nat) : Int) := rfl
  unfold mvTo at hM
  rw [h0, h1, h2, h3, h4] at hM
  by_cases c1 : sgAt s k = 84
  · rw [if_pos c1] at hM
    by_cases c2 : sgAt s (nxT s.size k : Nat) = 46
    · rw [if_pos c2] at hM
      refine .inr ⟨s.size + k + 1, by rw [hM]; omega, by omega, by omega, by rw [nxT_1]; exact n1, fun t ht => ?_⟩
      rw [nxT_1]
      unfold rgC
      simp only [c1, c2, Bool.and_eq_true, Bool.or_eq_true, beq_iff_eq]
      constructor
      · rintro ⟨_, ⟨_, h | ⟨h, _⟩⟩ | ⟨h, _⟩⟩
        · exact h
        · exact absurd h (by decide)
        · exact absurd h (by decide)
      · intro h
        subst h
        exact ⟨c2, .inl ⟨trivial, .inl rfl⟩⟩
    · rw [if_neg c2] at hM
      by_cases c3 : sgAt s (nxT s.size k : Nat) = 70
      · rw [if_pos c3] at hM
        by_cases c4 : sgAt s (nxT s.size (nxT s.size k) : Nat) = 46
        · rw [if_pos c4] at hM
          refine .inr ⟨s.size + k + 1 + 1, by rw [hM]; omega, by omega, by omega, by rw [nxT_2]; exact n2, fun t ht => ?_⟩
          rw [nxT_2]
          unfold rgC
          simp only [c1, c3, Bool.and_eq_true, Bool.or_eq_true, beq_iff_eq]
          constructor
          · rintro ⟨h46, ⟨_, h | ⟨_, h⟩⟩ | ⟨h, _⟩⟩
            · subst h; exact absurd h46 c2
            · exact h
            · exact absurd h (by decide)
          · intro h
            subst h
            exact ⟨c4, .inl ⟨trivial, .inr ⟨trivial, rfl⟩⟩⟩
        · rw [if_neg c4] at hM
          refine .inl ⟨hM, fun t ht => rgC_no ?_⟩
          rw [c1, c3]
          rintro ⟨h46, ⟨_, h | ⟨_, h⟩⟩ | ⟨h, _⟩⟩
          · subst h; exact c2 h46
          · subst h; exact c4 h46
          · exact absurd h (by decide)
      · rw [if_neg c3] at hM
        refine .inl ⟨hM, fun t ht => rgC_no ?_⟩
        rw [c1]
        rintro ⟨h46, ⟨_, h | ⟨h, _⟩⟩ | ⟨h, _⟩⟩
        · subst h; exact c2 h46
        · exact c3 h
        · exact absurd h (by decide)
  · rw [if_neg c1] at hM
    by_cases c5 : sgAt s k = 70
    · rw [if_pos c5] at hM
      by_cases c2 : sgAt s (nxF s.size k : Nat) = 46
      · rw [if_pos c2] at hM
        refine .inr ⟨s.size + k - 1, by rw [hM]; omega, by omega, by omega, by rw [nxF_1 _ _ (by omega)]; exact n3, fun t ht => ?_⟩
        rw [nxF_1 _ _ (by omega)]
        unfold rgC
        simp only [c5, c2, Bool.and_eq_true, Bool.or_eq_true, beq_iff_eq]
        constructor
        · rintro ⟨_, ⟨h, _⟩ | ⟨_, h | ⟨h, _⟩⟩⟩
          · exact absurd h (by decide)
          · exact h
          · exact absurd h (by decide)
        · intro h
          subst h
          exact ⟨c2, .inr ⟨trivial, .inl rfl⟩⟩
      · rw [if_neg c2] at hM
        by_cases c3 : sgAt s (nxF s.size k : Nat) = 84
        · rw [if_pos c3] at hM
          by_cases c4 : sgAt s (nxF s.size (nxF s.size k) : Nat) = 46
          · rw [if_pos c4] at hM
            refine .inr ⟨s.size + k - 1 - 1, by rw [hM]; omega, by omega, by omega, by rw [nxF_2 _ _ (by omega)]; exact n4, fun t ht => ?_⟩
            rw [nxF_2 _ _ (by omega)]
            unfold rgC
            simp only [c5, c3, Bool.and_eq_true, Bool.or_eq_true, beq_iff_eq]
            constructor
            · rintro ⟨h46, ⟨h, _⟩ | ⟨_, h | ⟨_, h⟩⟩⟩
              · exact absurd h (by decide)
              · subst h; exact absurd h46 c2
              · exact h
            · intro h
              subst h
              exact ⟨c4, .inr ⟨trivial, .inr ⟨trivial, rfl⟩⟩⟩
          · rw [if_neg c4] at hM
            refine .inl ⟨hM, fun t ht => rgC_no ?_⟩
            rw [c5, c3]
            rintro ⟨h46, ⟨h, _⟩ | ⟨_, h | ⟨_, h⟩⟩⟩
            · exact absurd h (by decide)
            · subst h; exact c2 h46
            · subst h; exact c4 h46
        · rw [if_neg c3] at hM
          refine .inl ⟨hM, fun t ht => rgC_no ?_⟩
          rw [c5]
          rintro ⟨h46, ⟨h, _⟩ | ⟨_, h | ⟨h, _⟩⟩⟩
          · exact absurd h (by decide)
          · subst h; exact c2 h46
          · exact c3 h
    · rw [if_neg c5] at hM
      refine .inl ⟨hM, fun t ht => rgC_no ?_⟩
      rintro ⟨_, ⟨h, _⟩ | ⟨h, _⟩⟩
      · exact c1 h
      · exact c5 h
/-- The model's moves from one cell to the first cells; of the first cells. -/
def rgIn (s : ByteArray) (f n : Nat) : List (Int × Int) := ((List.range n).filter fun t : Nat => rgC s f t).map fun t : Nat => ((f : Int), (t : Int))
def rgTo (s : ByteArray) : Nat → List (Int × Int)
  | 0 => []
  | k + 1 => rgTo s k ++ rgIn s k s.size
theorem rgIn_next (s : ByteArray) (f n : Nat) : rgIn s f (n + 1) = rgIn s f n ++ if rgC s f n then [((f : Int), (n : Int))] else [] := by
  unfold rgIn
  rw [List.range_succ, List.filter_append, List.map_append]
  cases h : rgC s f n <;> simp [h]
theorem rgIn_le (s : ByteArray) (f n : Nat) : (rgIn s f n).length ≤ n := by
  unfold rgIn
  rw [List.length_map]
  have := List.length_filter_le (fun t : Nat => rgC s f t) (List.range n)
  simpa using this
theorem rgTo_le (s : ByteArray) (k : Nat) : (rgTo s k).length ≤ k * s.size := by
  induction k with
  | zero => simp [rgTo]
  | succ k ih =>
    have := rgIn_le s k s.size
    rw [rgTo, List.length_append, Nat.add_mul]
    omega
theorem filter_none (p : Nat → Bool) (n : Nat) (h : ∀ t, t < n → p t = false) : (List.range n).filter p = [] := by
  rw [List.filter_eq_nil_iff]
  intro t ht
  rw [h t (List.mem_range.1 ht)]
  decide
theorem filter_one (p : Nat → Bool) (n x : Nat) (hx : x < n) (h : ∀ t, t < n → (p t = true ↔ t = x)) : (List.range n).filter p = [x] := by
  induction n with
  | zero => omega
  | succ n ih =>
    rw [List.range_succ, List.filter_append]
    by_cases e : x = n
    · subst e
      rw [filter_none p x (fun t ht => by
        rw [Bool.eq_false_iff]
        intro h1
        have := (h t (by omega)).1 h1
        omega)]
      have := (h x (by omega)).2 rfl
      simp [this]
    · rw [ih (by omega) (fun t ht => h t (by omega))]
      have : p n = false := by
        rw [Bool.eq_false_iff]
        intro h1
        exact e ((h n (by omega)).1 h1).symm
      simp [this]
theorem rgIn_no (s : ByteArray) (k : Nat) (h : ∀ t, t < s.size → rgC s k t = false) : rgIn s k s.size = [] := by
  unfold rgIn
  rw [filter_none _ _ h]
  rfl
theorem rgIn_one (s : ByteArray) (k x : Nat) (hx : x < s.size) (h : ∀ t, t < s.size → (rgC s k t = true ↔ t = x)) : rgIn s k s.size = [((k : Int), (x : Int))] := by
  unfold rgIn
  rw [filter_one _ _ x hx h]
  rfl
theorem rgIn_le1 (s : ByteArray) (hr : 3 ≤ s.size) (k : Nat) (hk : k < s.size) : (rgIn s k s.size).length ≤ 1 := by
  rcases rgM_cases s hr k hk with ⟨_, h⟩ | ⟨m, _, _, _, _, h⟩
  · rw [rgIn_no s k h]; simp
  · rw [rgIn_one s k _ (Nat.mod_lt _ (by omega)) h]; simp
theorem rgC_sg {s : ByteArray} {f t : Nat} (h : rgC s f t = true) : sgAt s t = 46 ∧ sgAt s f ≠ 46 := by
  unfold rgC at h
  simp only [Bool.and_eq_true, Bool.or_eq_true, beq_iff_eq] at h
  refine ⟨h.1, fun e => ?_⟩
  rw [e] at h
  rcases h.2 with ⟨h, _⟩ | ⟨h, _⟩ <;> exact absurd h (by decide)
/-- What is known of a move on a ring. -/
theorem rgCi_in {s : ByteArray} {f t : Int} (h : rgCi s f t = true) : ∃ a c : Nat, f = a ∧ t = c ∧ a < s.size ∧ c < s.size ∧ a ≠ c ∧ rgC s a c = true := by
  unfold rgCi at h
  simp only [Bool.and_eq_true] at h
  obtain ⟨h1, h2, h3⟩ := h
  unfold inR at h1 h2
  simp at h1 h2
  obtain ⟨a, rfl⟩ := Int.eq_ofNat_of_zero_le h1.1
  obtain ⟨c, rfl⟩ := Int.eq_ofNat_of_zero_le h2.1
  have h4 : rgC s a c = true := h3
  refine ⟨a, c, rfl, rfl, by omega, by omega, ?_, h4⟩
  rintro rfl
  have := rgC_sg h4
  exact this.2 this.1
theorem rgCi_nat (s : ByteArray) (a c : Nat) (ha : a < s.size) (hc : c < s.size) : rgCi s a c = rgC s a c := by
  unfold rgCi inR
  have h1 : decide ((a : Int) ≤ s.size - 1) = true := by simp; omega
  have h2 : decide ((c : Int) ≤ s.size - 1) = true := by simp; omega
  rw [h1, h2]
  simp
theorem mem_rgTo (s : ByteArray) (n : Nat) (hn : n ≤ s.size) (f t : Int) : (f, t) ∈ rgTo s n ↔ 0 ≤ f ∧ f < n ∧ rgCi s f t = true := by
  induction n with
  | zero => simp [rgTo]; omega
  | succ n ih =>
    rw [rgTo, List.mem_append, ih (by omega)]
    have hrow : (f, t) ∈ rgIn s n s.size ↔ f = n ∧ rgCi s f t = true := by
      unfold rgIn
      rw [List.mem_map]
      constructor
      · rintro ⟨u, hu, e⟩
        rw [List.mem_filter] at hu
        injection e with e1 e2
        subst e1; subst e2
        exact ⟨rfl, by rw [rgCi_nat s n u (by omega) (List.mem_range.1 hu.1)]; exact hu.2⟩
      · rintro ⟨rfl, h⟩
        obtain ⟨a, c, e1, rfl, _, hc, _, h4⟩ := rgCi_in h
        obtain rfl : a = n := by omega
        exact ⟨c, List.mem_filter.2 ⟨List.mem_range.2 hc, h4⟩, rfl⟩
    rw [hrow]
    constructor
    · rintro (⟨a, b, c⟩ | ⟨a, b⟩)
      · exact ⟨a, by omega, c⟩
      · exact ⟨by omega, by omega, b⟩
    · rintro ⟨a, b, c⟩
      by_cases e : f = n
      · exact .inr ⟨e, c⟩
      · exact .inl ⟨a, by omega, c⟩
end Go.Proofs.YtoiaklnaecghnaaDoor
