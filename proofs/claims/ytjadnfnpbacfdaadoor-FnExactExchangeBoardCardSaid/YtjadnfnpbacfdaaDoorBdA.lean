/- Boards as texts: cut at walls, rows, good boards; no walk. -/
import Derived.Test.YtjadnfnpbacfdaaDoorPlain
import Derived.Lib.SplitLaws
import Derived.Lib.Join
namespace Go.Proofs.YtjadnfnpbacfdaaDoor

/-- One byte more: pieces that are done, and the one at hand. -/
def splStep (p : List (List UInt8) × List UInt8) (c : UInt8) : List (List UInt8) × List UInt8 := if c = 47 then (p.1 ++ [p.2], []) else (p.1, p.2 ++ [c])
def splSt (l : List UInt8) : List (List UInt8) × List UInt8 := l.foldl splStep ([], [])
/-- The pieces of a text between walls. -/
def spl (l : List UInt8) : List (List UInt8) := (splSt l).1 ++ [(splSt l).2]
theorem splSt_snoc (l : List UInt8) (c : UInt8) : splSt (l ++ [c]) = splStep (splSt l) c := by simp [splSt, List.foldl_append]
theorem spl_ne (l : List UInt8) : spl l ≠ [] := by simp [spl]
theorem step_wall (o : List (List UInt8)) (x : List UInt8) : splStep (o, x) 47 = (o ++ [x], []) := by simp [splStep]
theorem step_sign (o : List (List UInt8)) (x : List UInt8) {c : UInt8} (h : c ≠ 47) : splStep (o, x) c = (o, x ++ [c]) := by simp [splStep, h]
theorem splFold (l : List UInt8) : ∀ (o : List (List UInt8)) (c : List UInt8), l.foldl splStep (o, c) = (o ++ (l.foldl splStep ([], c)).1, (l.foldl splStep ([], c)).2) := by
  induction l with
  | nil => intro o c; simp
  | cons d l ih =>
    intro o c
    simp only [List.foldl_cons]
    by_cases h : d = 47
    · subst h
      rw [step_wall, step_wall, ih (o ++ [c]) [], ih ([] ++ [c]) []]
      simp
    · rw [step_sign o c h, step_sign [] c h]
      exact ih o (c ++ [d])
theorem splHas (l : List UInt8) (h : (47 : UInt8) ∉ l) : ∀ (o : List (List UInt8)) (c : List UInt8), l.foldl splStep (o, c) = (o, c ++ l) := by
  induction l with
  | nil => intro o c; simp
  | cons d l ih =>
    intro o c
    have h1 : d ≠ 47 := fun e => h (by simp [e])
    have h2 : (47 : UInt8) ∉ l := fun e => h (by simp [e])
    rw [List.foldl_cons, step_sign o c h1, ih h2 o (c ++ [d])]
    simp
theorem spl_whole {l : List UInt8} (h : (47 : UInt8) ∉ l) : spl l = [l] := by
  unfold spl splSt
  rw [splHas l h]
  rfl
theorem spl_wall (a b : List UInt8) (h : (47 : UInt8) ∉ a) : spl (a ++ 47 :: b) = a :: spl b := by
  unfold spl splSt
  rw [List.foldl_append, splHas a h, List.foldl_cons]
  show (List.foldl splStep (splStep ([], [] ++ a) 47) b).1 ++ [(List.foldl splStep (splStep ([], [] ++ a) 47) b).2] = _
  have e : splStep ([], [] ++ a) 47 = ([a], []) := by unfold splStep; simp
  rw [e, splFold b [a] []]
  simp
/-- With walls between them the pieces are the text. -/
theorem spl_join (l : List UInt8) : Lib.join (spl l) [47] = l := by
  suffices h : ∀ r : List UInt8, Lib.join (spl r.reverse) [47] = r.reverse by
    have := h l.reverse
    simpa using this
  intro r
  induction r with
  | nil => rfl
  | cons c r ih =>
    rw [List.reverse_cons]
    generalize r.reverse = s at ih
    unfold spl at ih ⊢
    rw [splSt_snoc]
    generalize splSt s = p at ih
    obtain ⟨o, x⟩ := p
    have snoc : ∀ (o : List (List UInt8)) (x y : List UInt8), Lib.join (o ++ [x ++ y]) [47] = Lib.join (o ++ [x]) [47] ++ y := by
      intro o x y
      cases o with
      | nil => simp [Lib.join_one]
      | cons a o => simp [Lib.join_cons, Lib.joinTail]
    have wall : ∀ (o : List (List UInt8)) (x : List UInt8), Lib.join (o ++ [x] ++ [[]]) [47] = Lib.join (o ++ [x]) [47] ++ [47] := by
      intro o x
      cases o with
      | nil => simp [Lib.join_cons, Lib.joinTail]
      | cons a o => simp [Lib.join_cons, Lib.joinTail]
    by_cases h : c = 47
    · subst h
      rw [step_wall, wall]
      exact congrArg (· ++ [47]) ih
    · rw [step_sign o x h, snoc]
      exact congrArg (· ++ [c]) ih
/-- The library's pieces are these. -/
theorem index_wall : ∀ l : List UInt8, (Lib.index l [47] = -1 ∧ (47 : UInt8) ∉ l) ∨ ∃ a b, l = a ++ 47 :: b ∧ (47 : UInt8) ∉ a ∧ Lib.index l [47] = (a.length : Int)
  | [] => .inl ⟨by simp [Lib.index], by simp⟩
  | c :: l => by
    by_cases h : c = 47
    · subst h
      exact .inr ⟨[], l, rfl, by simp, by rw [Lib.index]; simp [List.isPrefixOf]⟩
    · have hp : ([47] : List UInt8).isPrefixOf (c :: l) = false := by simp [List.isPrefixOf, Ne.symm h]
      have hix : Lib.index (c :: l) [47] = if Lib.index l [47] == -1 then -1 else Lib.index l [47] + 1 := by rw [Lib.index, hp]; simp
      rcases index_wall l with ⟨h1, h2⟩ | ⟨a, b, rfl, h1, h2⟩
      · exact .inl ⟨by rw [hix, h1]; rfl, by simp [Ne.symm h, h2]⟩
      · refine .inr ⟨c :: a, b, rfl, by simp [Ne.symm h, h1], ?_⟩
        rw [hix, h2]
        have e : (((a.length : Nat) : Int) == -1) = false := by rw [beq_eq_false_iff_ne]; omega
        rw [e]
        simp
theorem splitK_spl : ∀ (n : Nat) (l : List UInt8), l.length ≤ n → ∀ k, Lib.count l [47] = k → Lib.splitK [47] 0 k l = spl l := by
  intro n
  induction n with
  | zero =>
    intro l hl k hk
    obtain rfl : l = [] := List.eq_nil_of_length_eq_zero (by omega)
    obtain rfl : k = 0 := by rw [← hk]; rfl
    rfl
  | succ n ih =>
    intro l hl k hk
    rcases index_wall l with ⟨h1, h2⟩ | ⟨a, b, rfl, h1, h2⟩
    · rw [Lib.count_one, List.count_eq_zero.2 h2] at hk
      subst hk
      rw [spl_whole h2]
      rfl
    · have hc : Lib.count (a ++ 47 :: b) [47] = Lib.count b [47] + 1 := by
        rw [Lib.count_one, Lib.count_one, List.count_append, List.count_eq_zero.2 h1, List.count_cons_self]
        omega
      obtain rfl : k = Lib.count b [47] + 1 := by omega
      rw [spl_wall a b h1, ← ih b (by simp at hl; omega) _ rfl]
      have e1 : ((a.length : Int) == -1) = false := by rw [beq_eq_false_iff_ne]; omega
      rw [Lib.splitK, h2, e1]
      simp
theorem splitB_spl (s : ByteArray) : (Lib.splitB ⟨#[47]⟩ 0 (Lib.countB s ⟨#[47]⟩) s).map (·.data.toList) = spl (byt s) := by
  rw [Lib.splitB_data]
  exact splitK_spl _ (byt s) (Nat.le_refl _) _ rfl
/-- As values. -/
theorem splitB_vals (s : ByteArray) : (Lib.splitB ⟨#[47]⟩ 0 (Lib.countB s ⟨#[47]⟩) s) = (spl (byt s)).map str := by
  rw [← splitB_spl, List.map_map]
  have e : (str ∘ fun x : ByteArray => x.data.toList) = id := by funext x; exact str_byt x
  rw [e, List.map_id]
theorem spl_count (s : ByteArray) : (spl (byt s)).length = Lib.countB s ⟨#[47]⟩ + 1 := by
  have h := congrArg List.length (splitB_vals s)
  rw [List.length_map, Lib.splitB_all _ (by decide) 0 _ s rfl] at h
  exact h.symm
/-- A row of a board. -/
def rowOk (w : Nat) (r : List UInt8) : Bool := goodL (str r) && decide (r.length ≤ 5) && decide (r.length = w)
/-- Rows of a board. -/
def boOk (R : List (List UInt8)) : Bool := decide (R.length ≤ 5) && R.all (rowOk (R.headD []).length)
def goodB (l : List UInt8) : Bool := boOk (spl l)
theorem rowOk_iff (w : Nat) (r : List UInt8) : rowOk w r = true ↔ goodL (str r) = true ∧ r.length ≤ 5 ∧ r.length = w := by
  unfold rowOk
  rw [Bool.and_eq_true, Bool.and_eq_true, decide_eq_true_iff, decide_eq_true_iff, and_assoc]
theorem boOk_iff (R : List (List UInt8)) : boOk R = true ↔ R.length ≤ 5 ∧ ∀ r ∈ R, goodL (str r) = true ∧ r.length ≤ 5 ∧ r.length = (R.headD []).length := by
  unfold boOk
  rw [Bool.and_eq_true, decide_eq_true_iff, List.all_eq_true]
  constructor
  · rintro ⟨h1, h2⟩; exact ⟨h1, fun r hr => (rowOk_iff _ _).1 (h2 r hr)⟩
  · rintro ⟨h1, h2⟩; exact ⟨h1, fun r hr => (rowOk_iff _ _).2 (h2 r hr)⟩
theorem flat_le (R : List (List UInt8)) (n : Nat) (h : ∀ r ∈ R, r.length ≤ n) : R.flatten.length ≤ R.length * n := by
  induction R with
  | nil => simp
  | cons r R ih =>
    have h1 := h r (by simp)
    have h2 := ih fun x hx => h x (by simp [hx])
    simp only [List.flatten_cons, List.length_append, List.length_cons, Nat.add_mul]
    omega
theorem flat_eq (R : List (List UInt8)) (n : Nat) (h : ∀ r ∈ R, r.length = n) : R.flatten.length = R.length * n := by
  induction R with
  | nil => simp
  | cons r R ih =>
    have h1 := h r (by simp)
    have h2 := ih fun x hx => h x (by simp [hx])
    simp only [List.flatten_cons, List.length_append, List.length_cons, Nat.add_mul]
    omega
theorem join_len (R : List (List UInt8)) (n : Nat) (h : ∀ r ∈ R, r.length ≤ n) : (Lib.join R [47]).length ≤ R.length * (n + 1) := by
  cases R with
  | nil => simp [Lib.join_nil]
  | cons r R =>
    rw [Lib.join_length]
    have h1 : Lib.lens (r :: R) ≤ (r :: R).length * n := by
      have := flat_le (r :: R) n h
      have e : Lib.lens (r :: R) = (r :: R).flatten.length := by unfold Lib.lens; rw [List.length_flatten]
      omega
    rw [Nat.mul_add]
    have e1 : ([47] : List UInt8).length * R.length = R.length := by simp
    have e2 : (r :: R).length = R.length + 1 := rfl
    omega
/-- A board has at most thirty bytes. -/
theorem goodB_len {l : List UInt8} (h : goodB l = true) : l.length ≤ 30 := by
  obtain ⟨h1, h2⟩ := (boOk_iff _).1 h
  have := join_len (spl l) 5 fun r hr => (h2 r hr).2.1
  rw [spl_join] at this
  have : (spl l).length * (5 + 1) ≤ 5 * 6 := Nat.mul_le_mul_right 6 h1
  omega
/-- A piece is no longer than the text. -/
theorem lens_mem (R : List (List UInt8)) (r : List UInt8) (h : r ∈ R) : r.length ≤ Lib.lens R := by
  induction R with
  | nil => cases h
  | cons a R ih =>
    have e : Lib.lens (a :: R) = a.length + Lib.lens R := by simp [Lib.lens]
    rcases List.mem_cons.1 h with rfl | h
    · omega
    · have := ih h; omega
theorem spl_le (l : List UInt8) (r : List UInt8) (h : r ∈ spl l) : r.length ≤ l.length := by
  have h1 := lens_mem _ _ h
  have h2 : Lib.lens (spl l) ≤ (Lib.join (spl l) [47]).length := by
    cases hR : spl l with
    | nil => simp [Lib.lens]
    | cons a R => rw [Lib.join_length]; omega
  rw [spl_join] at h2
  omega
theorem spl_few (l : List UInt8) : (spl l).length ≤ l.length + 1 := by
  have h2 : (spl l).length ≤ (Lib.join (spl l) [47]).length + 1 := by
    cases hR : spl l with
    | nil => simp
    | cons a R =>
      rw [Lib.join_length]
      have e1 : ([47] : List UInt8).length * R.length = R.length := by simp
      have e2 : (a :: R).length = R.length + 1 := rfl
      omega
  rw [spl_join] at h2
  omega
theorem good_len5 {r : List UInt8} (h : goodL (str r) = true) : 1 ≤ r.length ∧ r.length ≤ 12 := by
  obtain ⟨a, b, _⟩ := (goodL_iff _).1 h
  rw [str_size] at a b
  exact ⟨a, b⟩
/-- Exchanged signs, all else kept. -/
def oSg (c : UInt8) : UInt8 := if c = 84 then 70 else if c = 70 then 84 else c
theorem oSg_sign {c : UInt8} (h : isSign c = true) : oSg c = oSign c := by
  rcases sign_cases c with rfl | rfl | rfl | e
  · rfl
  · rfl
  · rfl
  · rw [e] at h; cases h
end Go.Proofs.YtjadnfnpbacfdaaDoor
