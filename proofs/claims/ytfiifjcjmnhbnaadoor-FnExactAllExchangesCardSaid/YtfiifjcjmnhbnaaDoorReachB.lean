/- The lines behind one move: a step that leads on; how many lines there are at most. -/
import Derived.Test.YtfiifjcjmnhbnaaDoorReachA
import Derived.Test.YtfiifjcjmnhbnaaDoorWalkV
namespace Go.Proofs.YtfiifjcjmnhbnaaDoor
/-- The lines behind all moves, in the order of the moves. -/
def nxL (l : List UInt8) : List (List UInt8) := (mvsTo (canM (str l)) (str l) (str l).size).map fun m => behind (str l) m.1 m.2
/-- A line of at most ten cells. -/
def goodT (n : Nat) (l : List UInt8) : Prop := goodL (str l) = true ∧ l.length = n ∧ n ≤ 10
def msL (l : List UInt8) : Int := wayL l - ((pairSt l).1 : Int)
theorem mem_nxL {u v : List UInt8} (h : v ∈ nxL u) : ∃ m : Int × Int, canM (str u) m.1 m.2 = true ∧ v = behind (str u) m.1 m.2 := by
  obtain ⟨m, hm, rfl⟩ := List.mem_map.1 h
  exact ⟨m, (mem_moves (str u) m.1 m.2).1 hm, rfl⟩
theorem steps_line (n : Nat) : Steps nxL (goodT n) msL wayL where
  keeps u v hu hv := by
    obtain ⟨m, hc, rfl⟩ := mem_nxL hv
    refine ⟨behind_good hu.1 hc, ?_, hu.2.2⟩
    rw [behind_len, str_size, hu.2.1]
  one u v hu hv := by
    obtain ⟨m, hc, rfl⟩ := mem_nxL hv
    have h1 := way_behind ((goodL_iff _).1 hu.1).2.2 hc
    have h2 := pairs_behind hc
    rw [byt_str] at h1 h2
    unfold msL
    cases hj : jumpM m.1 m.2 <;> simp [hj] at h1 h2 <;> omega
  less u v hu hv := by
    obtain ⟨m, hc, rfl⟩ := mem_nxL hv
    have h1 := way_behind ((goodL_iff _).1 hu.1).2.2 hc
    rw [byt_str] at h1
    cases hj : jumpM m.1 m.2 <;> simp [hj] at h1 <;> omega
  pos u hu := by
    have := wayL_pos (byt (str u)) ((goodL_iff _).1 hu.1).2.2
    rwa [byt_str] at this
theorem nxL_len (l : List UInt8) : (nxL l).length ≤ l.length := by
  unfold nxL
  rw [List.length_map]
  have := mvsTo_le (canM (str l)) (str l) (str l).size
  rwa [str_size] at this ⊢
theorem part3 {l : List (List UInt8)} (p q r : List UInt8 → Bool) (h : ∀ x ∈ l, p x = true ∨ q x = true ∨ r x = true) : l.length ≤ (l.filter p).length + (l.filter q).length + (l.filter r).length := by
  induction l with
  | nil => simp
  | cons a l ih =>
    have ih := ih fun x hx => h x (by simp [hx])
    have ha := h a (by simp)
    simp only [List.filter_cons, List.length_cons]
    rcases ha with ha | ha | ha
    · simp only [ha, if_true, List.length_cons]; split <;> split <;> simp <;> omega
    · simp only [ha, if_true, List.length_cons]; split <;> split <;> simp <;> omega
    · simp only [ha, if_true, List.length_cons]; split <;> split <;> simp <;> omega
theorem few_lines : ∀ (n : Nat) (l : List (List UInt8)), l.Nodup → (∀ x ∈ l, x.length = n ∧ x.all isSign = true) → l.length ≤ 3 ^ n
  | 0, l, hn, h => by
    match l with
    | [] => simp
    | [_] => simp
    | a :: b :: r =>
      have ha := List.length_eq_zero_iff.1 (h a (by simp)).1
      have hb := List.length_eq_zero_iff.1 (h b (by simp)).1
      subst ha hb
      simp at hn
  | n + 1, l, hn, h => by
    have one : ∀ c : UInt8, (l.filter fun x => x.head? == some c).length ≤ 3 ^ n := fun c => by
      have := few_lines n ((l.filter fun x => x.head? == some c).map List.tail) ?_ ?_
      · simpa using this
      · refine List.pairwise_map.2 ((hn.filter _).imp_of_mem fun {a b} ha hb hne e => hne ?_)
        obtain ⟨_, ha⟩ := List.mem_filter.1 ha
        obtain ⟨_, hb⟩ := List.mem_filter.1 hb
        match a, b with
        | [], _ => simp at ha
        | _ :: _, [] => simp at hb
        | x :: a, y :: b =>
          simp at ha hb e
          rw [ha, hb, e]
      · intro x hx
        obtain ⟨y, hy, rfl⟩ := List.mem_map.1 hx
        obtain ⟨h1, h2⟩ := h y (List.mem_filter.1 hy).1
        match y with
        | [] => simp at h1
        | a :: y =>
          rw [List.all_cons, Bool.and_eq_true] at h2
          exact ⟨by simpa using h1, h2.2⟩
    have h3 := part3 (l := l) (fun x => x.head? == some 84) (fun x => x.head? == some 70) (fun x => x.head? == some 46) fun x hx => by
      obtain ⟨h1, h2⟩ := h x hx
      match x with
      | [] => simp at h1
      | a :: x =>
        rw [List.all_cons, Bool.and_eq_true] at h2
        rcases sign_cases a with rfl | rfl | rfl | h4
        · simp
        · simp
        · simp
        · rw [h4] at h2; simp at h2
    have := one 84
    have := one 70
    have := one 46
    rw [Nat.pow_succ]
    omega
theorem few_good {n : Nat} {l : List (List UInt8)} (hn : l.Nodup) (h : ∀ x ∈ l, goodT n x) : l.length ≤ 59049 := by
  cases l with
  | nil => simp
  | cons a r =>
    have h10 := (h a (by simp)).2.2
    refine Nat.le_trans (few_lines n (a :: r) hn fun x hx => ⟨(h x hx).2.1, ?_⟩) (Nat.le_trans (Nat.pow_le_pow_right (by omega) h10) (by decide))
    have := ((goodL_iff _).1 (h x hx).1).2.2
    rwa [byt_str] at this
theorem wayL_le {n : Nat} {l : List UInt8} (h : goodT n l) : wayL l ≤ 50000 := by
  have h1 := (goodL_iff _).1 h.1
  rw [byt_str] at h1
  have := wayAt_all l h1.2.2
  have := wayAt_small (l.length - cnt 84 l) l (by have := h.2.1; have := h.2.2; omega) (by have := h.2.1; have := h.2.2; omega)
  omega
end Go.Proofs.YtfiifjcjmnhbnaaDoor
