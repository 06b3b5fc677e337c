/- Rings: what the model asks of a move, and what the program looks for; no walk. -/
import Derived.Test.YtdcbjbmnkajjcaaDoorMove
import Derived.Test.YtdcbjbmnkajjcaaDoorPlain
import Derived.Lib.SplitLaws
import Derived.Lib.Join
import Derived.Test.YtdcbjbmnkajjcaaDoorImp
namespace Go.Proofs.YtdcbjbmnkajjcaaDoor
open Go.RowKit

/-- A ring: a line of three to nine cells. -/
def ringB (s : ByteArray) : Bool := goodL s && (decide (3 ≤ s.size) && decide (s.size ≤ 9))
theorem ring_good {s : ByteArray} (h : ringB s = true) : goodL s = true := (Bool.and_eq_true_iff.1 h).1
theorem ring_sz {s : ByteArray} (h : ringB s = true) : 3 ≤ s.size ∧ s.size ≤ 9 := by
  have := (Bool.and_eq_true_iff.1 h).2
  simpa using this
/-- The cell behind one, around, for a toad; for a frog. -/
def nxT (n x : Nat) : Nat := (x + 1) % n
def nxF (n x : Nat) : Nat := (x + (n - 1)) % n
/-- The model's test of a move from a cell to one. -/
def rgC (s : ByteArray) (f t : Nat) : Bool :=
  (sgAt s t == 46) && (((sgAt s f == 84) && (t == nxT s.size f || ((sgAt s (nxT s.size f) == 70) && t == nxT s.size (nxT s.size f)))) ||
    ((sgAt s f == 70) && (t == nxF s.size f || ((sgAt s (nxF s.size f) == 84) && t == nxF s.size (nxF s.size f)))))
theorem rgC_iff (s : ByteArray) (f t : Nat) : rgC s f t = true ↔ sgAt s t = 46 ∧ ((sgAt s f = 84 ∧ (t = nxT s.size f ∨ (sgAt s (nxT s.size f) = 70 ∧ t = nxT s.size (nxT s.size f)))) ∨
    (sgAt s f = 70 ∧ (t = nxF s.size f ∨ (sgAt s (nxF s.size f) = 84 ∧ t = nxF s.size (nxF s.size f))))) := by
  unfold rgC
  simp only [Bool.and_eq_true, Bool.or_eq_true, beq_iff_eq]
theorem rgC_no {s : ByteArray} {f t : Nat} (h : ¬ (sgAt s t = 46 ∧ ((sgAt s f = 84 ∧ (t = nxT s.size f ∨ (sgAt s (nxT s.size f) = 70 ∧ t = nxT s.size (nxT s.size f)))) ∨
    (sgAt s f = 70 ∧ (t = nxF s.size f ∨ (sgAt s (nxF s.size f) = 84 ∧ t = nxF s.size (nxF s.size f))))))) : rgC s f t = false := by
  rw [Bool.eq_false_iff]
  exact fun e => h ((rgC_iff s f t).1 e)
/-- The same, of any numbers. -/
def rgCi (s : ByteArray) (f t : Int) : Bool := inR f 0 (s.size - 1) && (inR t 0 (s.size - 1) && rgC s f.toNat t.toNat)
/-- The line that the program looks at. -/
def rep3 (s : ByteArray) : ByteArray := str (byt s ++ (byt s ++ byt s))
theorem rep3_size (s : ByteArray) : (rep3 s).size = 3 * s.size := by
  unfold rep3
  rw [str_size]
  simp [byt_len]
  omega
theorem sg3 (s : ByteArray) (x : Nat) (hx : x < 3 * s.size) : sgAt (rep3 s) x = sgAt s ((x % s.size : Nat) : Int) := by
  have hn : 0 < s.size := by omega
  have hm := Nat.mod_lt x hn
  rw [sgAt_in _ x (by rw [rep3_size]; exact hx), sgAt_in _ _ hm]
  have hb := byt_len s
  have e1 : (rep3 s)[x]'(by rw [rep3_size]; exact hx) = (byt s ++ (byt s ++ byt s))[x]'(by simp [hb]; omega) := rfl
  have e2 : s[x % s.size]'hm = (byt s)[x % s.size]'(by rw [hb]; exact hm) := rfl
  rw [e1, e2]
  have g : ∀ (L : List UInt8) i (h : i < L.length), L[i]? = some L[i] := fun L i h => List.getElem?_eq_getElem h
  apply Option.some.inj
  rw [← g, ← g]
  by_cases h1 : x < s.size
  · rw [List.getElem?_append_left (by omega), Nat.mod_eq_of_lt h1]
  · rw [List.getElem?_append_right (by omega), hb]
    by_cases h2 : x - s.size < s.size
    · rw [List.getElem?_append_left (by omega)]
      congr 1
      rw [Nat.mod_eq_sub_mod (by omega), Nat.mod_eq_of_lt h2]
    · rw [List.getElem?_append_right (by omega), hb]
      congr 1
      rw [Nat.mod_eq_sub_mod (by omega), Nat.mod_eq_sub_mod (by omega), Nat.mod_eq_of_lt (by omega)]
theorem nxT_lt {n x : Nat} (h : 0 < n) : nxT n x < n := Nat.mod_lt _ h
theorem nxF_lt {n x : Nat} (h : 0 < n) : nxF n x < n := Nat.mod_lt _ h
theorem nxT_1 (n x : Nat) : (n + x + 1) % n = nxT n x := by unfold nxT; rw [Nat.add_assoc, Nat.add_mod_left]
theorem nxT_2 (n x : Nat) : (n + x + 1 + 1) % n = nxT n (nxT n x) := by
  unfold nxT
  rw [Nat.mod_add_mod, Nat.add_assoc, Nat.add_assoc, Nat.add_mod_left, Nat.add_assoc]
theorem nxF_1 (n x : Nat) (h : 1 ≤ n) : (n + x - 1) % n = nxF n x := by unfold nxF; congr 1; omega
theorem nxF_2 (n x : Nat) (h : 2 ≤ n) : (n + x - 1 - 1) % n = nxF n (nxF n x) := by
  unfold nxF
  rw [Nat.mod_add_mod, show x + (n - 1) + (n - 1) = n + (n + x - 1 - 1) by omega, Nat.add_mod_left]
theorem nxT_ne (n x : Nat) (h : 3 ≤ n) (hx : x < n) : nxT n x ≠ x := by
  unfold nxT
  rcases Nat.lt_or_ge (x + 1) n with h1 | h1
  · rw [Nat.mod_eq_of_lt h1]; omega
  · rw [show x + 1 = n by omega, Nat.mod_self]; omega
theorem nxT_val (n x : Nat) (hx : x < n) : nxT n x = if x + 1 < n then x + 1 else 0 := by
  unfold nxT
  split
  · rename_i h; exact Nat.mod_eq_of_lt h
  · rw [show x + 1 = n by omega, Nat.mod_self]
theorem nxF_val (n x : Nat) (hx : x < n) : nxF n x = if 0 < x then x - 1 else n - 1 := by
  unfold nxF
  split
  · rw [show x + (n - 1) = n + (x - 1) by omega, Nat.add_mod_left, Nat.mod_eq_of_lt (by omega)]
  · rw [show x + (n - 1) = n - 1 by omega, Nat.mod_eq_of_lt (by omega)]
/-- Where the animal of a cell goes, on the line told three times: the program's. -/
def rgM (s : ByteArray) (k : Nat) : Int := mvTo (rep3 s) ((s.size + k : Nat) : Int)
/-- A number one less than a cell's. -/
theorem pre1 (m : Nat) (h : 1 ≤ m) : (m : Int) + -1 = ((m - 1 : Nat) : Int) := by omega
/-- What the program finds is what the model asks for. -/
theorem rgM_cases (s : ByteArray) (hr : 3 ≤ s.size) (k : Nat) (hk : k < s.size) :
    (rgM s k = ((s.size + k : Nat) : Int) ∧ ∀ t, t < s.size → rgC s k t = false) ∨
    (∃ m : Nat, rgM s k = (m : Int) ∧ m ≠ s.size + k ∧ m < 3 * s.size ∧ m % s.size ≠ k ∧ ∀ t, t < s.size → (rgC s k t = true ↔ t = m % s.size)) := by
  have h0 : sgAt (rep3 s) ((s.size + k : Nat) : Int) = sgAt s k := by
    rw [sg3 s _ (by omega), Nat.add_mod_left, Nat.mod_eq_of_lt hk]
  have h1 : sgAt (rep3 s) (((s.size + k : Nat) : Int) + 1) = sgAt s (nxT s.size k : Nat) := by
    rw [show ((s.size + k : Nat) : Int) + 1 = ((s.size + k + 1 : Nat) : Int) by omega, sg3 s _ (by omega), nxT_1]
  have h2 : sgAt (rep3 s) (((s.size + k : Nat) : Int) + 1 + 1) = sgAt s (nxT s.size (nxT s.size k) : Nat) := by
    rw [show ((s.size + k : Nat) : Int) + 1 + 1 = ((s.size + k + 1 + 1 : Nat) : Int) by omega, sg3 s _ (by omega), nxT_2]
  have h3 : sgAt (rep3 s) (((s.size + k : Nat) : Int) + -1) = sgAt s (nxF s.size k : Nat) := by
    rw [pre1 _ (by omega), sg3 s _ (by omega), nxF_1 _ _ (by omega)]
  have h4 : sgAt (rep3 s) (((s.size + k : Nat) : Int) + -1 + -1) = sgAt s (nxF s.size (nxF s.size k) : Nat) := by
    rw [pre1 _ (by omega), pre1 _ (by omega), sg3 s _ (by omega), nxF_2 _ _ (by omega)]
  have n1 : nxT s.size k ≠ k := nxT_ne _ _ hr hk
  have n2 : nxT s.size (nxT s.size k) ≠ k := by
    rw [nxT_val _ _ (nxT_lt (by omega)), nxT_val _ _ hk]
    split <;> split <;> omega
  have n3 : nxF s.size k ≠ k := by rw [nxF_val _ _ hk]; split <;> omega
  have n4 : nxF s.size (nxF s.size k) ≠ k := by
    rw [nxF_val _ _ (nxF_lt (by omega)), nxF_val _ _ hk]
    split <;> split <;> omega
  have hM : rgM s k = mvTo (rep3 s) ((s.size + k : Nat) : Int) := rfl
  unfold mvTo at hM
  rw [h0, h1, h2, h3, h4] at hM
  by_cases c1 : sgAt s k = 84
  · rw [if_pos c1] at hM
    by_cases c2 : sgAt s (nxT s.size k : Nat) = 46
    · rw [if_pos c2] at hM
      refine .inr ⟨s.size + k + 1, by rw [hM]; omega, by omega, by omega, by rw [nxT_1]; exact n1, fun t ht => ?_⟩
      rw [nxT_1]
      unfold rgC
      simp only [c1, c2, Bool.and_eq_true, Bool.or_eq_true, beq_iff_eq]
      constructor
      · rintro ⟨_, ⟨_, h | ⟨h, _⟩⟩ | ⟨h, _⟩⟩
        · exact h
        · exact absurd h (by decide)
        · exact absurd h (by decide)
      · intro h
        subst h
        exact ⟨c2, .inl ⟨trivial, .inl rfl⟩⟩
    · rw [if_neg c2] at hM
      by_cases c3 : sgAt s (nxT s.size k : Nat) = 70
      · rw [if_pos c3] at hM
        by_cases c4 : sgAt s (nxT s.size (nxT s.size k) : Nat) = 46
        · rw [if_pos c4] at hM
          refine .inr ⟨s.size + k + 1 + 1, by rw [hM]; omega, by omega, by omega, by rw [nxT_2]; exact n2, fun t ht => ?_⟩
          rw [nxT_2]
          unfold rgC
          simp only [c1, c3, Bool.and_eq_true, Bool.or_eq_true, beq_iff_eq]
          constructor
          · rintro ⟨h46, ⟨_, h | ⟨_, h⟩⟩ | ⟨h, _⟩⟩
            · subst h; exact absurd h46 c2
            · exact h
            · exact absurd h (by decide)
          · intro h
            subst h
            exact ⟨c4, .inl ⟨trivial, .inr ⟨trivial, rfl⟩⟩⟩
        · rw [if_neg c4] at hM
          refine .inl ⟨hM, fun t ht => rgC_no ?_⟩
          rw [c1, c3]
          rintro ⟨h46, ⟨_, h | ⟨_, h⟩⟩ | ⟨h, _⟩⟩
          · subst h; exact c2 h46
          · subst h; exact c4 h46
          · exact absurd h (by decide)
      · rw [if_neg c3] at hM
        refine .inl ⟨hM, fun t ht => rgC_no ?_⟩
        rw [c1]
        rintro ⟨h46, ⟨_, h | ⟨h, _⟩⟩ | ⟨h, _⟩⟩
        · subst h; exact c2 h46
        · exact c3 h
        · exact absurd h (by decide)
  · rw [if_neg c1] at hM
    by_cases c5 : sgAt s k = 70
    · rw [if_pos c5] at hM
      by_cases c2 : sgAt s (nxF s.size k : Nat) = 46
      · rw [if_pos c2] at hM
        refine .inr ⟨s.size + k - 1, by rw [hM]; omega, by omega, by omega, by rw [nxF_1 _ _ (by omega)]; exact n3, fun t ht => ?_⟩
        rw [nxF_1 _ _ (by omega)]
        unfold rgC
        simp only [c5, c2, Bool.and_eq_true, Bool.or_eq_true, beq_iff_eq]
        constructor
        · rintro ⟨_, ⟨h, _⟩ | ⟨_, h | ⟨h, _⟩⟩⟩
          · exact absurd h (by decide)
          · exact h
          · exact absurd h (by decide)
        · intro h
          subst h
          exact ⟨c2, .inr ⟨trivial, .inl rfl⟩⟩
      · rw [if_neg c2] at hM
        by_cases c3 : sgAt s (nxF s.size k : Nat) = 84
        · rw [if_pos c3] at hM
          by_cases c4 : sgAt s (nxF s.size (nxF s.size k) : Nat) = 46
          · rw [if_pos c4] at hM
            refine .inr ⟨s.size + k - 1 - 1, by rw [hM]; omega, by omega, by omega, by rw [nxF_2 _ _ (by omega)]; exact n4, fun t ht => ?_⟩
            rw [nxF_2 _ _ (by omega)]
            unfold rgC
            simp only [c5, c3, Bool.and_eq_true, Bool.or_eq_true, beq_iff_eq]
            constructor
            · rintro ⟨h46, ⟨h, _⟩ | ⟨_, h | ⟨_, h⟩⟩⟩
              · exact absurd h (by decide)
              · subst h; exact absurd h46 c2
              · exact h
            · intro h
              subst h
              exact ⟨c4, .inr ⟨trivial, .inr ⟨trivial, rfl⟩⟩⟩
          · rw [if_neg c4] at hM
            refine .inl ⟨hM, fun t ht => rgC_no ?_⟩
            rw [c5, c3]
            rintro ⟨h46, ⟨h, _⟩ | ⟨_, h | ⟨_, h⟩⟩⟩
            · exact absurd h (by decide)
            · subst h; exact c2 h46
            · subst h; exact c4 h46
        · rw [if_neg c3] at hM
          refine .inl ⟨hM, fun t ht => rgC_no ?_⟩
          rw [c5]
          rintro ⟨h46, ⟨h, _⟩ | ⟨_, h | ⟨h, _⟩⟩⟩
          · exact absurd h (by decide)
          · subst h; exact c2 h46
          · exact c3 h
    · rw [if_neg c5] at hM
      refine .inl ⟨hM, fun t ht => rgC_no ?_⟩
      rintro ⟨_, ⟨h, _⟩ | ⟨h, _⟩⟩
      · exact c1 h
      · exact c5 h
/-- The model's moves from one cell to the first cells; of the first cells. -/
def rgIn (s : ByteArray) (f n : Nat) : List (Int × Int) := ((List.range n).filter fun t : Nat => rgC s f t).map fun t : Nat => ((f : Int), (t : Int))
def rgTo (s : ByteArray) : Nat → List (Int × Int)
  | 0 => []
  | k + 1 => rgTo s k ++ rgIn s k s.size
theorem rgIn_next (s : ByteArray) (f n : Nat) : rgIn s f (n + 1) = rgIn s f n ++ if rgC s f n then [((f : Int), (n : Int))] else [] := by
  unfold rgIn
  rw [List.range_succ, List.filter_append, List.map_append]
  cases h : rgC s f n <;> simp [h]
theorem rgIn_le (s : ByteArray) (f n : Nat) : (rgIn s f n).length ≤ n := by
  unfold rgIn
  rw [List.length_map]
  have := List.length_filter_le (fun t : Nat => rgC s f t) (List.range n)
  simpa using this
theorem rgTo_le (s : ByteArray) (k : Nat) : (rgTo s k).length ≤ k * s.size := by
  induction k with
  | zero => simp [rgTo]
  | succ k ih =>
    have := rgIn_le s k s.size
    rw [rgTo, List.length_append, Nat.add_mul]
    omega
theorem filter_none (p : Nat → Bool) (n : Nat) (h : ∀ t, t < n → p t = false) : (List.range n).filter p = [] := by
  rw [List.filter_eq_nil_iff]
  intro t ht
  rw [h t (List.mem_range.1 ht)]
  decide
theorem filter_one (p : Nat → Bool) (n x : Nat) (hx : x < n) (h : ∀ t, t < n → (p t = true ↔ t = x)) : (List.range n).filter p = [x] := by
  induction n with
  | zero => omega
  | succ n ih =>
    rw [List.range_succ, List.filter_append]
    by_cases e : x = n
    · subst e
      rw [filter_none p x (fun t ht => by
        rw [Bool.eq_false_iff]
        intro h1
        have := (h t (by omega)).1 h1
        omega)]
      have := (h x (by omega)).2 rfl
      simp [this]
    · rw [ih (by omega) (fun t ht => h t (by omega))]
      have : p n = false := by
        rw [Bool.eq_false_iff]
        intro h1
        exact e ((h n (by omega)).1 h1).symm
      simp [this]
theorem rgIn_no (s : ByteArray) (k : Nat) (h : ∀ t, t < s.size → rgC s k t = false) : rgIn s k s.size = [] := by
  unfold rgIn
  rw [filter_none _ _ h]
  rfl
theorem rgIn_one (s : ByteArray) (k x : Nat) (hx : x < s.size) (h : ∀ t, t < s.size → (rgC s k t = true ↔ t = x)) : rgIn s k s.size = [((k : Int), (x : Int))] := by
  unfold rgIn
  rw [filter_one _ _ x hx h]
  rfl
theorem rgIn_le1 (s : ByteArray) (hr : 3 ≤ s.size) (k : Nat) (hk : k < s.size) : (rgIn s k s.size).length ≤ 1 := by
  rcases rgM_cases s hr k hk with ⟨_, h⟩ | ⟨m, _, _, _, _, h⟩
  · rw [rgIn_no s k h]; simp
  · rw [rgIn_one s k _ (Nat.mod_lt _ (by omega)) h]; simp
theorem rgC_sg {s : ByteArray} {f t : Nat} (h : rgC s f t = true) : sgAt s t = 46 ∧ sgAt s f ≠ 46 := by
  unfold rgC at h
  simp only [Bool.and_eq_true, Bool.or_eq_true, beq_iff_eq] at h
  refine ⟨h.1, fun e => ?_⟩
  rw [e] at h
  rcases h.2 with ⟨h, _⟩ | ⟨h, _⟩ <;> exact absurd h (by decide)
/-- What is known of a move on a ring. -/
theorem rgCi_in {s : ByteArray} {f t : Int} (h : rgCi s f t = true) : ∃ a c : Nat, f = a ∧ t = c ∧ a < s.size ∧ c < s.size ∧ a ≠ c ∧ rgC s a c = true := by
  unfold rgCi at h
  simp only [Bool.and_eq_true] at h
  obtain ⟨h1, h2, h3⟩ := h
  unfold inR at h1 h2
  simp at h1 h2
  obtain ⟨a, rfl⟩ := Int.eq_ofNat_of_zero_le h1.1
  obtain ⟨c, rfl⟩ := Int.eq_ofNat_of_zero_le h2.1
  have h4 : rgC s a c = true := h3
  refine ⟨a, c, rfl, rfl, by omega, by omega, ?_, h4⟩
  rintro rfl
  have := rgC_sg h4
  exact this.2 this.1
theorem rgCi_nat (s : ByteArray) (a c : Nat) (ha : a < s.size) (hc : c < s.size) : rgCi s a c = rgC s a c := by
  unfold rgCi inR
  have h1 : decide ((a : Int) ≤ s.size - 1) = true := by simp; omega
  have h2 : decide ((c : Int) ≤ s.size - 1) = true := by simp; omega
  rw [h1, h2]
  simp
theorem mem_rgTo (s : ByteArray) (n : Nat) (hn : n ≤ s.size) (f t : Int) : (f, t) ∈ rgTo s n ↔ 0 ≤ f ∧ f < n ∧ rgCi s f t = true := by
  induction n with
  | zero => simp [rgTo]; omega
  | succ n ih =>
    rw [rgTo, List.mem_append, ih (by omega)]
    have hrow : (f, t) ∈ rgIn s n s.size ↔ f = n ∧ rgCi s f t = true := by
      unfold rgIn
      rw [List.mem_map]
      constructor
      · rintro ⟨u, hu, e⟩
        rw [List.mem_filter] at hu
        injection e with e1 e2
        subst e1; subst e2
        exact ⟨rfl, by rw [rgCi_nat s n u (by omega) (List.mem_range.1 hu.1)]; exact hu.2⟩
      · rintro ⟨rfl, h⟩
        obtain ⟨a, c, e1, rfl, _, hc, _, h4⟩ := rgCi_in h
        obtain rfl : a = n := by omega
        exact ⟨c, List.mem_filter.2 ⟨List.mem_range.2 hc, h4⟩, rfl⟩
    rw [hrow]
    constructor
    · rintro (⟨a, b, c⟩ | ⟨a, b⟩)
      · exact ⟨a, by omega, c⟩
      · exact ⟨by omega, by omega, b⟩
    · rintro ⟨a, b, c⟩
      by_cases e : f = n
      · exact .inr ⟨e, c⟩
      · exact .inl ⟨a, by omega, c⟩
end Go.Proofs.YtdcbjbmnkajjcaaDoor
namespace Go.Proofs.YtdcbjbmnkajjcaaDoor
open Go.RowKit

/-- What stands in cell j after i exchanges from both ends. -/
def revAt (l : List UInt8) (i j : Nat) : UInt8 := if j < i ∨ l.length < j + 1 + i then l.getD (l.length - 1 - j) 0 else l.getD j 0
theorem revAt_zero (l : List UInt8) (j : Nat) (h : j < l.length) : revAt l 0 j = l[j] := by
  unfold revAt
  rw [if_neg (by omega)]
  simp [List.getD_eq_getElem?_getD, h]
theorem revAt_end (l : List UInt8) (i j : Nat) (h : j < l.length) (hi : l.length ≤ i + i + 1) : revAt l i j = l.reverse.getD j 0 := by
  have e : l.reverse.getD j 0 = l.getD (l.length - 1 - j) 0 := by
    rw [List.getD_eq_getElem?_getD, List.getD_eq_getElem?_getD, List.getElem?_reverse h]
  rw [e]
  unfold revAt
  split
  · rfl
  · have : l.length - 1 - j = j := by omega
    rw [this]
theorem revAt_next (l : List UInt8) (i k j : Nat) (hik : i + k + 1 = l.length) (hlt : i < k) (h : j < l.length) :
    revAt l (i + 1) j = if j = k then revAt l i i else if j = i then revAt l i k else revAt l i j := by
  unfold revAt
  by_cases e1 : j = k
  · subst e1
    rw [if_pos rfl, if_pos (by omega), if_neg (by omega)]
    congr 1; omega
  · rw [if_neg e1]
    by_cases e2 : j = i
    · subst e2
      rw [if_pos rfl, if_pos (by omega), if_neg (by omega)]
      congr 1; omega
    · rw [if_neg e2]
      by_cases e3 : j < i ∨ l.length < j + 1 + i
      · rw [if_pos e3, if_pos (by omega)]
      · rw [if_neg e3, if_neg (by omega)]
/-- The cells of a block, after i exchanges. -/
def RvAt (w : World) (g : Nat) (l : List UInt8) (i : Nat) : Prop := ∀ j, j < l.length → w.cell? ⟨g, j, none⟩ = some (.int .u8 (revAt l i j).toNat) ∧ w.frozen? ⟨g, j, none⟩ = false

end Go.Proofs.YtdcbjbmnkajjcaaDoor
namespace Go.Proofs.YtdcbjbmnkajjcaaDoor

/-- One byte more: pieces that are done, and the one at hand. -/
def splStep (p : List (List UInt8) × List UInt8) (c : UInt8) : List (List UInt8) × List UInt8 := if c = 47 then (p.1 ++ [p.2], []) else (p.1, p.2 ++ [c])
def splSt (l : List UInt8) : List (List UInt8) × List UInt8 := l.foldl splStep ([], [])
/-- The pieces of a text between walls. -/
def spl (l : List UInt8) : List (List UInt8) := (splSt l).1 ++ [(splSt l).2]
theorem splSt_snoc (l : List UInt8) (c : UInt8) : splSt (l ++ [c]) = splStep (splSt l) c := by simp [splSt, List.foldl_append]
theorem spl_ne (l : List UInt8) : spl l ≠ [] := by simp [spl]
theorem step_wall (o : List (List UInt8)) (x : List UInt8) : splStep (o, x) 47 = (o ++ [x], []) := by simp [splStep]
theorem step_sign (o : List (List UInt8)) (x : List UInt8) {c : UInt8} (h : c ≠ 47) : splStep (o, x) c = (o, x ++ [c]) := by simp [splStep, h]
theorem splFold (l : List UInt8) : ∀ (o : List (List UInt8)) (c : List UInt8), l.foldl splStep (o, c) = (o ++ (l.foldl splStep ([], c)).1, (l.foldl splStep ([], c)).2) := by
  induction l with
  | nil => intro o c; simp
  | cons d l ih =>
    intro o c
    simp only [List.foldl_cons]
    by_cases h : d = 47
    · subst h
      rw [step_wall, step_wall, ih (o ++ [c]) [], ih ([] ++ [c]) []]
      simp
    · rw [step_sign o c h, step_sign [] c h]
      exact ih o (c ++ [d])
theorem splHas (l : List UInt8) (h : (47 : UInt8) ∉ l) : ∀ (o : List (List UInt8)) (c : List UInt8), l.foldl splStep (o, c) = (o, c ++ l) := by
  induction l with
  | nil => intro o c; simp
  | cons d l ih =>
    intro o c
    have h1 : d ≠ 47 := fun e => h (by simp [e])
    have h2 : (47 : UInt8) ∉ l := fun e => h (by simp [e])
    rw [List.foldl_cons, step_sign o c h1, ih h2 o (c ++ [d])]
    simp
theorem spl_whole {l : List UInt8} (h : (47 : UInt8) ∉ l) : spl l = [l] := by
  unfold spl splSt
  rw [splHas l h]
  rfl
theorem spl_wall (a b : List UInt8) (h : (47 : UInt8) ∉ a) : spl (a ++ 47 :: b) = a :: spl b := by
  unfold spl splSt
  rw [List.foldl_append, splHas a h, List.foldl_cons]
  show (List.foldl splStep (splStep ([], [] ++ a) 47) b).1 ++ [(List.foldl splStep (splStep ([], [] ++ a) 47) b).2] = _
  have e : splStep ([], [] ++ a) 47 = ([a], []) := by unfold splStep; simp
  rw [e, splFold b [a] []]
  simp
/-- With walls between them the pieces are the text. -/
theorem spl_join (l : List UInt8) : Lib.join (spl l) [47] = l := by
  suffices h : ∀ r : List UInt8, Lib.join (spl r.reverse) [47] = r.reverse by
    have := h l.reverse
    simpa using this
  intro r
  induction r with
  | nil => rfl
  | cons c r ih =>
    rw [List.reverse_cons]
    generalize r.reverse = s at ih
    unfold spl at ih ⊢
    rw [splSt_snoc]
    generalize splSt s = p at ih
    obtain ⟨o, x⟩ := p
    have snoc : ∀ (o : List (List UInt8)) (x y : List UInt8), Lib.join (o ++ [x ++ y]) [47] = Lib.join (o ++ [x]) [47] ++ y := by
      intro o x y
      cases o with
      | nil => simp [Lib.join_one]
      | cons a o => simp [Lib.join_cons, Lib.joinTail]
    have wall : ∀ (o : List (List UInt8)) (x : List UInt8), Lib.join (o ++ [x] ++ [[]]) [47] = Lib.join (o ++ [x]) [47] ++ [47] := by
      intro o x
      cases o with
      | nil => simp [Lib.join_cons, Lib.joinTail]
      | cons a o => simp [Lib.join_cons, Lib.joinTail]
    by_cases h : c = 47
    · subst h
      rw [step_wall, wall]
      exact congrArg (· ++ [47]) ih
    · rw [step_sign o x h, snoc]
      exact congrArg (· ++ [c]) ih
/-- The library's pieces are these. -/
theorem index_wall : ∀ l : List UInt8, (Lib.index l [47] = -1 ∧ (47 : UInt8) ∉ l) ∨ ∃ a b, l = a ++ 47 :: b ∧ (47 : UInt8) ∉ a ∧ Lib.index l [47] = (a.length : Int)
  | [] => .inl ⟨by simp [Lib.index], by simp⟩
  | c :: l => by
    by_cases h : c = 47
    · subst h
      exact .inr ⟨[], l, rfl, by simp, by rw [Lib.index]; simp [List.isPrefixOf]⟩
    · have hp : ([47] : List UInt8).isPrefixOf (c :: l) = false := by simp [List.isPrefixOf, Ne.symm h]
      have hix : Lib.index (c :: l) [47] = if Lib.index l [47] == -1 then -1 else Lib.index l [47] + 1 := by rw [Lib.index, hp]; simp
      rcases index_wall l with ⟨h1, h2⟩ | ⟨a, b, rfl, h1, h2⟩
      · exact .inl ⟨by rw [hix, h1]; rfl, by simp [Ne.symm h, h2]⟩
      · refine .inr ⟨c :: a, b, rfl, by simp [Ne.symm h, h1], ?_⟩
        rw [hix, h2]
        have e : (((a.length : Nat) : Int) == -1) = false := by rw [beq_eq_false_iff_ne]; omega
        rw [e]
        simp
theorem splitK_spl : ∀ (n : Nat) (l : List UInt8), l.length ≤ n → ∀ k, Lib.count l [47] = k → Lib.splitK [47] 0 k l = spl l := by
  intro n
  induction n with
  | zero =>
    intro l hl k hk
    obtain rfl : l = [] := List.eq_nil_of_length_eq_zero (by omega)
    obtain rfl : k = 0 := by rw [← hk]; rfl
    rfl
  | succ n ih =>
    intro l hl k hk
    rcases index_wall l with ⟨h1, h2⟩ | ⟨a, b, rfl, h1, h2⟩
    · rw [Lib.count_one, List.count_eq_zero.2 h2] at hk
      subst hk
      rw [spl_whole h2]
      rfl
    · have hc : Lib.count (a ++ 47 :: b) [47] = Lib.count b [47] + 1 := by
        rw [Lib.count_one, Lib.count_one, List.count_append, List.count_eq_zero.2 h1, List.count_cons_self]
        omega
      obtain rfl : k = Lib.count b [47] + 1 := by omega
      rw [spl_wall a b h1, ← ih b (by simp at hl; omega) _ rfl]
      have e1 : ((a.length : Int) == -1) = false := by rw [beq_eq_false_iff_ne]; omega
      rw [Lib.splitK, h2, e1]
      simp
theorem splitB_spl (s : ByteArray) : (Lib.splitB ⟨#[47]⟩ 0 (Lib.countB s ⟨#[47]⟩) s).map (·.data.toList) = spl (byt s) := by
  rw [Lib.splitB_data]
  exact splitK_spl _ (byt s) (Nat.le_refl _) _ rfl
/-- As values. -/
theorem splitB_vals (s : ByteArray) : (Lib.splitB ⟨#[47]⟩ 0 (Lib.countB s ⟨#[47]⟩) s) = (spl (byt s)).map str := by
  rw [← splitB_spl, List.map_map]
  have e : (str ∘ fun x : ByteArray => x.data.toList) = id := by funext x; exact str_byt x
  rw [e, List.map_id]
theorem spl_count (s : ByteArray) : (spl (byt s)).length = Lib.countB s ⟨#[47]⟩ + 1 := by
  have h := congrArg List.length (splitB_vals s)
  rw [List.length_map, Lib.splitB_all _ (by decide) 0 _ s rfl] at h
  exact h.symm
/-- A row of a board. -/
def rowOk (w : Nat) (r : List UInt8) : Bool := goodL (str r) && decide (r.length ≤ 5) && decide (r.length = w)
/-- Rows of a board. -/
def boOk (R : List (List UInt8)) : Bool := decide (R.length ≤ 5) && R.all (rowOk (R.headD []).length)
def goodB (l : List UInt8) : Bool := boOk (spl l)
theorem rowOk_iff (w : Nat) (r : List UInt8) : rowOk w r = true ↔ goodL (str r) = true ∧ r.length ≤ 5 ∧ r.length = w := by
  unfold rowOk
  rw [Bool.and_eq_true, Bool.and_eq_true, decide_eq_true_iff, decide_eq_true_iff, and_assoc]
theorem boOk_iff (R : List (List UInt8)) : boOk R = true ↔ R.length ≤ 5 ∧ ∀ r ∈ R, goodL (str r) = true ∧ r.length ≤ 5 ∧ r.length = (R.headD []).length := by
  unfold boOk
  rw [Bool.and_eq_true, decide_eq_true_iff, List.all_eq_true]
  constructor
  · rintro ⟨h1, h2⟩; exact ⟨h1, fun r hr => (rowOk_iff _ _).1 (h2 r hr)⟩
  · rintro ⟨h1, h2⟩; exact ⟨h1, fun r hr => (rowOk_iff _ _).2 (h2 r hr)⟩
theorem flat_le (R : List (List UInt8)) (n : Nat) (h : ∀ r ∈ R, r.length ≤ n) : R.flatten.length ≤ R.length * n := by
  induction R with
  | nil => simp
  | cons r R ih =>
    have h1 := h r (by simp)
    have h2 := ih fun x hx => h x (by simp [hx])
    simp only [List.flatten_cons, List.length_append, List.length_cons, Nat.add_mul]
    omega
theorem flat_eq (R : List (List UInt8)) (n : Nat) (h : ∀ r ∈ R, r.length = n) : R.flatten.length = R.length * n := by
  induction R with
  | nil => simp
  | cons r R ih =>
    have h1 := h r (by simp)
    have h2 := ih fun x hx => h x (by simp [hx])
    simp only [List.flatten_cons, List.length_append, List.length_cons, Nat.add_mul]
    omega
theorem join_len (R : List (List UInt8)) (n : Nat) (h : ∀ r ∈ R, r.length ≤ n) : (Lib.join R [47]).length ≤ R.length * (n + 1) := by
  cases R with
  | nil => simp [Lib.join_nil]
  | cons r R =>
    rw [Lib.join_length]
    have h1 : Lib.lens (r :: R) ≤ (r :: R).length * n := by
      have := flat_le (r :: R) n h
      have e : Lib.lens (r :: R) = (r :: R).flatten.length := by unfold Lib.lens; rw [List.length_flatten]
      omega
    rw [Nat.mul_add]
    have e1 : ([47] : List UInt8).length * R.length = R.length := by simp
    have e2 : (r :: R).length = R.length + 1 := rfl
    omega
/-- A board has at most thirty bytes. -/
theorem goodB_len {l : List UInt8} (h : goodB l = true) : l.length ≤ 30 := by
  obtain ⟨h1, h2⟩ := (boOk_iff _).1 h
  have := join_len (spl l) 5 fun r hr => (h2 r hr).2.1
  rw [spl_join] at this
  have : (spl l).length * (5 + 1) ≤ 5 * 6 := Nat.mul_le_mul_right 6 h1
  omega
/-- A piece is no longer than the text. -/
theorem lens_mem (R : List (List UInt8)) (r : List UInt8) (h : r ∈ R) : r.length ≤ Lib.lens R := by
  induction R with
  | nil => cases h
  | cons a R ih =>
    have e : Lib.lens (a :: R) = a.length + Lib.lens R := by simp [Lib.lens]
    rcases List.mem_cons.1 h with rfl | h
    · omega
    · have := ih h; omega
theorem spl_le (l : List UInt8) (r : List UInt8) (h : r ∈ spl l) : r.length ≤ l.length := by
  have h1 := lens_mem _ _ h
  have h2 : Lib.lens (spl l) ≤ (Lib.join (spl l) [47]).length := by
    cases hR : spl l with
    | nil => simp [Lib.lens]
    | cons a R => rw [Lib.join_length]; omega
  rw [spl_join] at h2
  omega
theorem spl_few (l : List UInt8) : (spl l).length ≤ l.length + 1 := by
  have h2 : (spl l).length ≤ (Lib.join (spl l) [47]).length + 1 := by
    cases hR : spl l with
    | nil => simp
    | cons a R =>
      rw [Lib.join_length]
      have e1 : ([47] : List UInt8).length * R.length = R.length := by simp
      have e2 : (a :: R).length = R.length + 1 := rfl
      omega
  rw [spl_join] at h2
  omega
theorem good_len5 {r : List UInt8} (h : goodL (str r) = true) : 1 ≤ r.length ∧ r.length ≤ 12 := by
  obtain ⟨a, b, _⟩ := (goodL_iff _).1 h
  rw [str_size] at a b
  exact ⟨a, b⟩
/-- Exchanged signs, all else kept. -/
def oSg (c : UInt8) : UInt8 := if c = 84 then 70 else if c = 70 then 84 else c
theorem oSg_sign {c : UInt8} (h : isSign c = true) : oSg c = oSign c := by
  rcases sign_cases c with rfl | rfl | rfl | e
  · rfl
  · rfl
  · rfl
  · rw [e] at h; cases h
end Go.Proofs.YtdcbjbmnkajjcaaDoor
namespace Go.Proofs.YtdcbjbmnkajjcaaDoor
open Go.RowKit

/-- The cells of a block, after k of them were turned. -/
def OgAt (w : World) (g : Nat) (s : ByteArray) (k : Nat) : Prop := ∀ j (h : j < s.size), w.cell? ⟨g, j, none⟩ = some (.int .u8 (if j < k then oSg s[j] else s[j]).toNat) ∧ w.frozen? ⟨g, j, none⟩ = false

end Go.Proofs.YtdcbjbmnkajjcaaDoor
namespace Go.Proofs.YtdcbjbmnkajjcaaDoor
open Go.RowKit

theorem map_oSg {l : List UInt8} (h : l.all isSign = true) : l.map oSg = l.map oSign :=
  List.map_congr_left fun c hc => oSg_sign (List.all_eq_true.1 h c hc)
end Go.Proofs.YtdcbjbmnkajjcaaDoor
namespace Go.Proofs.YtdcbjbmnkajjcaaDoor
open Go.RowKit

theorem ring_in (s : ByteArray) (h : goodL s = true) : ringB s = inR (s.size : Int) 3 9 := by
  unfold ringB inR
  rw [h, Bool.true_and]
  congr 1 <;> (rw [decide_eq_decide]; omega)
theorem ring_no {s : ByteArray} (h : goodL s = false) : ringB s = false := by unfold ringB; rw [h]; rfl

set_option maxHeartbeats 400000 in
theorem ciGood_any (s : ByteArray) (w : World) (hs : s.size ≤ maxLen) :
    Calls Tryd.prog 24 #[.string s] w fun e w' => e = .returned (.bool (ringB s)) ∧ w = w' := by
  cases hc : goodL s
  · have hR := Lib.hid (ring_no hc)
    have hC := Lib.hid hc
    clear hc
    go_enter Tryd.func24, Tryd.ntmps24
    go_wp2_with (go_at_call 38; refine (liGood_any _ _ hs).mono ?_; rintro e w' ⟨rfl, rfl⟩; rw [hC.out])
    go_ret
    exact ⟨congrArg (fun b => Ending.returned (.bool b)) hR.out.symm, rfl⟩
  · have hR := Lib.hid (ring_in s hc)
    have hC := Lib.hid hc
    clear hc
    go_enter Tryd.func24, Tryd.ntmps24
    go_wp2_with fail
    refine (liGood_any _ _ hs).mono ?_; rintro e w' ⟨rfl, rfl⟩; rw [hC.out]
    go_wp2_with fail
    refine (l1In_any _ _ _ _).mono ?_; rintro e w' ⟨rfl, rfl⟩
    go_wp2
    go_ret
    exact ⟨congrArg (fun b => Ending.returned (.bool b)) hR.out.symm, rfl⟩

set_option maxHeartbeats 400000 in
theorem isRing_any (s : ByteArray) (w : World) (hs : s.size ≤ maxLen) :
    Calls Tryd.prog 27 #[.string s] w fun e w' => e = .returned (.bool (ringB s)) ∧ w = w' := by
  cases hc : goodL s
  · have hR := Lib.hid (ring_no hc)
    have hC := Lib.hid hc
    clear hc
    go_enter Tryd.func27, Tryd.ntmps27
    go_wp2_with (go_at_call 43; refine (isLine_any _ _ hs).mono ?_; rintro e w' ⟨rfl, rfl⟩; rw [hC.out])
    go_ret
    exact ⟨congrArg (fun b => Ending.returned (.bool b)) hR.out.symm, rfl⟩
  · have hR := Lib.hid (ring_in s hc)
    have hC := Lib.hid hc
    clear hc
    by_cases h3 : (3 : Int) ≤ (s.size : Int)
    · have hR2 : Hid (ringB s = decide ((s.size : Int) ≤ 9)) := Lib.hid (by rw [hR.out]; unfold inR; simp [h3])
      go_enter Tryd.func27, Tryd.ntmps27
      go_wp2_with (go_at_call 43; refine (isLine_any _ _ hs).mono ?_; rintro e w' ⟨rfl, rfl⟩; rw [hC.out])
      go_ret
      exact ⟨congrArg (fun b => Ending.returned (.bool b)) hR2.out.symm, rfl⟩
    · have hR2 : Hid (ringB s = false) := Lib.hid (by rw [hR.out]; unfold inR; simp [h3])
      go_enter Tryd.func27, Tryd.ntmps27
      go_wp2_with (go_at_call 43; refine (isLine_any _ _ hs).mono ?_; rintro e w' ⟨rfl, rfl⟩; rw [hC.out])
      go_ret
      exact ⟨congrArg (fun b => Ending.returned (.bool b)) hR2.out.symm, rfl⟩

/-- A ring by so many cells farther on. -/
def turnB (s : ByteArray) (k : Nat) : ByteArray := s.extract (s.size - k) s.size ++ s.extract 0 (s.size - k)
def turnL (l : List UInt8) (k : Nat) : List UInt8 := l.drop (l.length - k) ++ l.take (l.length - k)
theorem byt_app (a b : ByteArray) : byt (a ++ b) = byt a ++ byt b := by
  have : a ++ b = str (byt a ++ byt b) := by rw [← str_app, str_byt, str_byt]
  rw [this, byt_str]
theorem byt_inj {a b : ByteArray} (h : byt a = byt b) : a = b := by rw [← str_byt a, h, str_byt]
theorem byt_extract (s : ByteArray) (i j : Nat) : byt (s.extract i j) = ((byt s).take j).drop i := by
  unfold byt
  rw [ByteArray.data_extract]
  simp [List.take_drop]
  by_cases h : i ≤ j
  · rw [show i + (j - i) = j by omega]
  · rw [List.drop_of_length_le (by simp; omega), List.drop_of_length_le (by simp; omega)]
theorem turnB_byt (s : ByteArray) (k : Nat) : byt (turnB s k) = turnL (byt s) k := by
  unfold turnB turnL
  rw [byt_app, byt_extract, byt_extract, byt_len]
  simp [take_all]
  
theorem turnB_str (s : ByteArray) (k : Nat) : turnB s k = str (turnL (byt s) k) := by rw [← turnB_byt, str_byt]
theorem turnL_len (l : List UInt8) (k : Nat) : (turnL l k).length = l.length := by simp [turnL]

/-- The answer on a turned ring. -/
def turnV (s : ByteArray) (k : Int) : Value := strOr (ringB s && inR k 0 (s.size - 1)) (turnL (byt s) k.toNat)

/-- The first of the rings turned by less than so many cells. -/
def leastTo (l : List UInt8) : Nat → List UInt8
  | 0 => l
  | k + 1 => if turnL l k < leastTo l k then turnL l k else leastTo l k
theorem leastTo_len (l : List UInt8) (k : Nat) : (leastTo l k).length = l.length := by
  induction k with
  | zero => rfl
  | succ k ih =>
    unfold leastTo
    split
    · exact turnL_len l k
    · exact ih
def leastL (l : List UInt8) : List UInt8 := leastTo l l.length
end Go.Proofs.YtdcbjbmnkajjcaaDoor
