/- Rising lists of texts, and layers of what is reached by steps; no Go in sight. -/
import Derived.Lib.Hide
namespace Go.Proofs.YtfiifjcjmnhbnaaDoor
/-- Put into a rising list, unless it is there. -/
def ins (x : List UInt8) : List (List UInt8) → List (List UInt8)
  | [] => [x]
  | y :: l => if y < x then y :: ins x l else if y = x then y :: l else x :: y :: l
abbrev Rising (l : List (List UInt8)) : Prop := l.Pairwise (· < ·)
theorem lt_tri (a b : List UInt8) (h : ¬ a < b) (hne : a ≠ b) : b < a := by
  by_cases h2 : b < a
  · exact h2
  · exact absurd (List.le_antisymm (List.not_lt.1 h2) (List.not_lt.1 h)) hne
theorem mem_ins (x y : List UInt8) : ∀ l, y ∈ ins x l ↔ y = x ∨ y ∈ l
  | [] => by simp [ins]
  | z :: l => by
    have ih := mem_ins x y l
    unfold ins
    split
    · simp only [List.mem_cons, ih]
      constructor
      · rintro (h | h | h)
        · exact .inr (.inl h)
        · exact .inl h
        · exact .inr (.inr h)
      · rintro (h | h | h)
        · exact .inr (.inl h)
        · exact .inl h
        · exact .inr (.inr h)
    · split
      · rename_i e
        simp only [List.mem_cons]
        constructor
        · exact fun h => .inr h
        · rintro (h | h)
          · exact .inl (h.trans e.symm)
          · exact h
      · simp only [List.mem_cons]
theorem ins_rising (x : List UInt8) : ∀ l, Rising l → Rising (ins x l)
  | [], _ => by simp [ins, Rising]
  | z :: l, h => by
    obtain ⟨h1, h2⟩ := List.pairwise_cons.1 h
    unfold ins
    split
    · rename_i hz
      refine List.pairwise_cons.2 ⟨fun y hy => ?_, ins_rising x l h2⟩
      rcases (mem_ins x y l).1 hy with rfl | hy'
      · exact hz
      · exact h1 y hy'
    · rename_i hz
      split
      · exact h
      · rename_i hne
        have hx := lt_tri z x hz hne
        refine List.pairwise_cons.2 ⟨fun y hy => ?_, h⟩
        rcases List.mem_cons.1 hy with rfl | hy'
        · exact hx
        · exact List.lt_trans hx (h1 y hy')
theorem ins_at (x : List UInt8) : ∀ (l : List (List UInt8)) (i : Nat), i ≤ l.length → (∀ j (h : j < l.length), j < i → l[j] < x) → (∀ h : i < l.length, ¬ l[i] < x) →
    ins x l = if l[i]? = some x then l else l.take i ++ x :: l.drop i
  | [], 0, _, _, _ => by simp [ins]
  | [], _ + 1, h, _, _ => by simp at h
  | y :: l, 0, _, _, h2 => by
    have hy : ¬ y < x := h2 (by simp)
    unfold ins
    rw [if_neg hy]
    by_cases e : y = x <;> simp [e]
  | y :: l, i + 1, hi, h1, h2 => by
    have hy : y < x := h1 0 (by simp) (by omega)
    have ih := ins_at x l i (by simpa using hi) (fun j h hj => h1 (j + 1) (by simpa using h) (by omega)) (fun h => h2 (by simpa using h))
    unfold ins
    rw [if_pos hy, ih]
    simp only [List.getElem?_cons_succ, List.take_succ_cons, List.drop_succ_cons]
    split <;> simp
theorem ins_len (x : List UInt8) : ∀ l, (ins x l).length ≤ l.length + 1
  | [] => by simp [ins]
  | z :: l => by
    have := ins_len x l
    unfold ins
    split
    · simp; omega
    · split <;> simp
theorem rising_nodup {l : List (List UInt8)} (h : Rising l) : l.Nodup := h.imp fun {a b} hab e => by
  subst e; exact List.lt_irrefl a hab
theorem rising_ext {l m : List (List UInt8)} (h1 : Rising l) (h2 : Rising m) (h : ∀ x, x ∈ l ↔ x ∈ m) : l = m := by
  have hp := (List.perm_ext_iff_of_nodup (rising_nodup h1) (rising_nodup h2)).2 h
  exact List.Perm.eq_of_pairwise (le := fun a b => a < b) (fun a b _ _ h1 h2 => absurd (List.lt_trans h1 h2) (List.lt_irrefl a)) h1 h2 hp
/-- All put in. -/
def insAll (xs a : List (List UInt8)) : List (List UInt8) := xs.foldl (fun a x => ins x a) a
theorem insAll_app (xs ys a : List (List UInt8)) : insAll (xs ++ ys) a = insAll ys (insAll xs a) := by simp [insAll]
theorem insAll_snoc (xs : List (List UInt8)) (y : List UInt8) (a : List (List UInt8)) : insAll (xs ++ [y]) a = ins y (insAll xs a) := by simp [insAll]
theorem mem_insAll (y : List UInt8) : ∀ xs a, y ∈ insAll xs a ↔ y ∈ xs ∨ y ∈ a
  | [], a => by simp [insAll]
  | x :: xs, a => by
    have := mem_insAll y xs (ins x a)
    show y ∈ insAll xs (ins x a) ↔ _
    rw [this, mem_ins, List.mem_cons]
    constructor
    · rintro (h | h | h)
      · exact .inl (.inr h)
      · exact .inl (.inl h)
      · exact .inr h
    · rintro ((h | h) | h)
      · exact .inr (.inl h)
      · exact .inl h
      · exact .inr (.inr h)
theorem rising_insAll : ∀ xs a, Rising a → Rising (insAll xs a)
  | [], _, h => h
  | x :: xs, a, h => rising_insAll xs (ins x a) (ins_rising x a h)
theorem insAll_ne {xs : List (List UInt8)} (h : xs ≠ []) (a : List (List UInt8)) : insAll xs a ≠ [] := by
  obtain ⟨x, xs', rfl⟩ := List.exists_cons_of_ne_nil h
  intro e
  have := (mem_insAll x (x :: xs') a).2 (.inl (by simp))
  rw [e] at this
  simp at this

/-- What is reached by so many steps, and in how many ways. -/
def lay (nx : List UInt8 → List (List UInt8)) (w : List UInt8) : Nat → List (List UInt8)
  | 0 => [w]
  | k + 1 => insAll ((lay nx w k).flatMap nx) []
def pc (nx : List UInt8 → List (List UInt8)) (w : List UInt8) : Nat → List UInt8 → Nat
  | 0, v => if v = w then 1 else 0
  | k + 1, v => ((lay nx w k).map fun u => (nx u).count v * pc nx w k u).sum
/-- There are just n layers. -/
def IsDep (nx : List UInt8 → List (List UInt8)) (w : List UInt8) (n : Nat) : Prop := 1 ≤ n ∧ lay nx w n = [] ∧ ∀ j, j < n → lay nx w j ≠ []
/-- All that is reached, in order. -/
def allL (nx : List UInt8 → List (List UInt8)) (w : List UInt8) (n : Nat) : List (List UInt8) := insAll ((List.range n).flatMap (lay nx w)) []
section
variable {nx : List UInt8 → List (List UInt8)} {w : List UInt8}
theorem lay_rising : ∀ k, Rising (lay nx w k)
  | 0 => by simp [lay, Rising]
  | k + 1 => rising_insAll _ _ (by simp [Rising])
theorem mem_lay_next (k : Nat) (v : List UInt8) : v ∈ lay nx w (k + 1) ↔ ∃ u, u ∈ lay nx w k ∧ v ∈ nx u := by
  show v ∈ insAll _ [] ↔ _
  rw [mem_insAll]
  simp [List.mem_flatMap]
theorem lay_nil {k : Nat} (h : lay nx w k = []) : ∀ j, k ≤ j → lay nx w j = [] := by
  intro j hj
  induction j with
  | zero => obtain rfl : k = 0 := by omega
            exact h
  | succ j ih =>
    by_cases e : k = j + 1
    · subst e; exact h
    · show insAll _ [] = []
      rw [ih (by omega)]
      rfl
theorem allL_rising (n : Nat) : Rising (allL nx w n) := rising_insAll _ _ (by simp [Rising])
theorem mem_allL (n : Nat) (v : List UInt8) : v ∈ allL nx w n ↔ ∃ k, k < n ∧ v ∈ lay nx w k := by
  unfold allL
  rw [mem_insAll]
  simp [List.mem_flatMap]
theorem pc_none : ∀ (k : Nat) (v : List UInt8), v ∉ lay nx w k → pc nx w k v = 0
  | 0, v, h => by
    have : v ≠ w := by simpa [lay] using h
    simp [pc, this]
  | k + 1, v, h => by
    have h1 : ∀ u ∈ lay nx w k, (nx u).count v = 0 := fun u hu => List.count_eq_zero.2 fun hv => h ((mem_lay_next k v).2 ⟨u, hu, hv⟩)
    show ((lay nx w k).map fun u => (nx u).count v * pc nx w k u).sum = 0
    have : (lay nx w k).map (fun u => (nx u).count v * pc nx w k u) = (lay nx w k).map fun _ => 0 := List.map_congr_left fun u hu => by rw [h1 u hu]; simp
    rw [this]
    clear this h1 h
    induction lay nx w k with
    | nil => rfl
    | cons a l ih => simpa using ih
variable {good : List UInt8 → Prop} {ms wy : List UInt8 → Int}
/-- Each step leads on, by one of a measure. -/
structure Steps (nx : List UInt8 → List (List UInt8)) (good : List UInt8 → Prop) (ms wy : List UInt8 → Int) : Prop where
  keeps : ∀ u v, good u → v ∈ nx u → good v
  one : ∀ u v, good u → v ∈ nx u → ms v = ms u - 1
  less : ∀ u v, good u → v ∈ nx u → wy v ≤ wy u - 1
  pos : ∀ u, good u → 0 ≤ wy u
theorem lay_good (S : Steps nx good ms wy) (hw : good w) : ∀ k v, v ∈ lay nx w k → good v ∧ ms v = ms w - k ∧ wy v ≤ wy w - k
  | 0, v, h => by
    have : v = w := by simpa [lay] using h
    subst this
    exact ⟨hw, by simp, by simp⟩
  | k + 1, v, h => by
    obtain ⟨u, hu, hv⟩ := (mem_lay_next k v).1 h
    obtain ⟨a, b, c⟩ := lay_good S hw k u hu
    have := S.one u v a hv
    have := S.less u v a hv
    exact ⟨S.keeps u v a hv, by omega, by omega⟩
theorem lay_end (S : Steps nx good ms wy) (hw : good w) (k : Nat) (hk : wy w < k) : lay nx w k = [] := by
  rw [List.eq_nil_iff_forall_not_mem]
  intro v hv
  obtain ⟨a, _, c⟩ := lay_good S hw k v hv
  have := S.pos v a
  omega
theorem lay_apart (S : Steps nx good ms wy) (hw : good w) {j k : Nat} {v : List UInt8} (h1 : v ∈ lay nx w j) (h2 : v ∈ lay nx w k) : j = k := by
  have := (lay_good S hw j v h1).2.1
  have := (lay_good S hw k v h2).2.1
  omega
theorem dep_exists (S : Steps nx good ms wy) (hw : good w) : ∃ n, IsDep nx w n ∧ (n : Int) ≤ wy w + 1 := by
  have hp := S.pos w hw
  have h0 : lay nx w ((wy w).toNat + 1) = [] := lay_end S hw _ (by omega)
  have : ∀ m, lay nx w m = [] → ∃ n, n ≤ m ∧ lay nx w n = [] ∧ ∀ j, j < n → lay nx w j ≠ [] := by
    intro m
    induction m with
    | zero => intro h; exact ⟨0, Nat.le_refl _, h, fun j hj => by omega⟩
    | succ m ih =>
      intro h
      by_cases e : lay nx w m = []
      · obtain ⟨n, h1, h2, h3⟩ := ih e
        exact ⟨n, by omega, h2, h3⟩
      · refine ⟨m + 1, Nat.le_refl _, h, fun j hj e2 => e (lay_nil e2 m (by omega))⟩
  obtain ⟨n, h1, h2, h3⟩ := this _ h0
  refine ⟨n, ⟨?_, h2, h3⟩, by omega⟩
  by_cases e : n = 0
  · subst e; simp [lay] at h2
  · omega
end
end Go.Proofs.YtfiifjcjmnhbnaaDoor
