/- How many plays there are at most, on: fewer than 2^63 for a line of at most ten cells. -/
import Derived.Test.YtfiifjcjmnhbnaaDoorBnd
import Derived.Test.YtfiifjcjmnhbnaaDoorWalkV
namespace Go.Proofs.YtfiifjcjmnhbnaaDoor
theorem mvs_apart (s : ByteArray) : ∀ k, (mvsTo (canM s) s k).Pairwise fun a b => a.1 < b.1
  | 0 => by simp [mvsTo]
  | k + 1 => by
    show (mvsTo (canM s) s k ++ _).Pairwise _
    rw [List.pairwise_append]
    refine ⟨mvs_apart s k, by split <;> simp, fun a ha b hb => ?_⟩
    obtain ⟨j, hj, h2, _⟩ := (mem_mvs (canM s) s k a).1 ha
    split at hb
    · simp at hb; subst hb
      subst h2
      show (j : Int) < (k : Int)
      omega
    · simp at hb
theorem behind_at {u : List UInt8} {f t : Int} (h : canM (str u) f t = true) (j : Nat) (hj : j < u.length) :
    (behind (str u) f t)[j]? = some (if j = f.toNat then 46 else if j = t.toNat then sgAt (str u) f else u[j]) := by
  obtain ⟨a, b, rfl, rfl, ha, hb, _⟩ := canM_in h
  unfold behind
  rw [putL_at (str u) _ _ j (by simpa using ha) (by rw [str_size]; exact hj)]
  rw [sgAt_in (str u) a ha]
  rfl
theorem can_sg {s : ByteArray} {f t : Int} (h : canM s f t = true) : sgAt s t = 46 ∧ (sgAt s f = 84 ∨ sgAt s f = 70) := by
  obtain ⟨_, _, h46, hh⟩ := (canM_iff _ _ _).1 h
  rcases hh with ⟨h, _⟩ | ⟨h, _⟩ <;> simp [h46, h]
theorem behind_ne {u : List UInt8} {f t g r : Int} (h : canM (str u) f t = true) (h' : canM (str u) g r = true) (hne : f ≠ g) : (behind (str u) f t).map dec ≠ (behind (str u) g r).map dec := by
  intro e
  obtain ⟨a, b, rfl, rfl, ha, hb, _⟩ := canM_in h
  obtain ⟨c, d, rfl, rfl, hc, hd, _⟩ := canM_in h'
  rw [str_size] at ha hb hc hd
  have h1 := behind_at h a ha
  have h2 := behind_at h' a ha
  have ua : sgAt (str u) a = u[a] := sgAt_in (str u) a (by rw [str_size]; exact ha)
  have e1 := congrArg (fun l => l[a]?) e
  simp only [List.getElem?_map, h1, h2] at e1
  have hac : a ≠ c := by omega
  simp only [Int.toNat_natCast, if_true, if_neg hac, Option.map_some, dec_e, Option.some.injEq] at e1
  have k1 := (can_sg h).2
  have k2 := (can_sg h').2
  split at e1
  · rcases k2 with k | k <;> rw [k] at e1 <;> simp [dec] at e1
  · rw [ua] at k1
    rcases k1 with k | k <;> rw [k] at e1 <;> simp [dec] at e1
/-- No line stands twice behind a line, not even in signs. -/
theorem nxL_dec_nodup (u : List UInt8) : ((nxL u).map (List.map dec)).Nodup := by
  unfold nxL
  rw [List.map_map]
  refine List.pairwise_map.2 ((mvs_apart (str u) _).imp_of_mem fun {a b} ha hb hlt => ?_)
  exact behind_ne ((mem_moves _ a.1 a.2).1 ha) ((mem_moves _ b.1 b.2).1 hb) (by omega)
theorem nxL_nodup (u : List UInt8) : (nxL u).Nodup := by
  have h := nxL_dec_nodup u
  exact (List.pairwise_map.1 h).imp fun {a b} hab e => hab (by rw [e])
theorem sum_sub {α : Type} (g : α → Nat) : ∀ (l m : List α), l.Nodup → (∀ x ∈ l, x ∈ m) → (l.map g).sum ≤ (m.map g).sum
  | [], m, _, _ => by simp
  | a :: l, m, hn, h => by
    obtain ⟨s, t, rfl⟩ := List.append_of_mem (h a (by simp))
    have hn' := List.nodup_cons.1 hn
    have := sum_sub g l (s ++ t) hn'.2 fun x hx => by
      have := h x (by simp [hx])
      have hne : x ≠ a := fun e => hn'.1 (by rw [← e]; exact hx)
      simpa [hne] using this
    simp at this ⊢
    omega
/-- The weight of a line of at most ten cells. -/
def wt (u : List UInt8) : Nat := wgt (List.replicate (10 - u.length) .f ++ u.map dec)
theorem wt_pos (u : List UInt8) : 1 ≤ wt u := uU_pos _ _
theorem wt_lt (u : List UInt8) : wt u < 9223372036854775808 := uU_lt _ _
theorem wt_step {n : Nat} {u : List UInt8} (h : goodT n u) : ((nxL u).map wt).sum ≤ wt u := by
  have hu : u.length ≤ 10 := by have := h.2.1; have := h.2.2; omega
  have hlen : ∀ v ∈ nxL u, v.length = u.length := fun v hv => by
    obtain ⟨m, hc, rfl⟩ := mem_nxL hv
    rw [behind_len, str_size]
  have e : (nxL u).map wt = ((nxL u).map (List.map dec)).map fun z => wgt (List.replicate (10 - u.length) .f ++ z) := by
    rw [List.map_map]
    exact List.map_congr_left fun v hv => by
      show wgt _ = wgt _
      rw [hlen v hv]
  rw [e]
  refine Nat.le_trans (sum_sub _ _ (nS (u.map dec)) (nxL_dec_nodup u) fun x hx => ?_) ?_
  · obtain ⟨v, hv, rfl⟩ := List.mem_map.1 hx
    obtain ⟨m, hc, rfl⟩ := mem_nxL hv
    exact behind_dec hc
  · rw [← nS_pad]
    exact wgt_step _ (by simp; omega)
section
variable {nx : List UInt8 → List (List UInt8)} {w : List UInt8}
theorem count_sum (g : List UInt8 → Nat) (L : List (List UInt8)) (hn : L.Nodup) (xs : List (List UInt8)) : (L.map fun v => xs.count v * g v).sum ≤ (xs.map g).sum := by
  induction xs with
  | nil =>
    simp only [List.count_nil, Nat.zero_mul, List.map_nil, List.sum_nil]
    induction L with
    | nil => simp
    | cons a L ih => simpa using ih (List.nodup_cons.1 hn).2
  | cons x xs ih =>
    have one : ∀ L : List (List UInt8), L.Nodup → (L.map fun v => (if x = v then 1 else 0) * g v).sum ≤ g x := by
      intro L
      induction L with
      | nil => simp
      | cons a L ih =>
        intro hn
        have hn' := List.nodup_cons.1 hn
        by_cases e : x = a
        · subst e
          have : (L.map fun v => (if x = v then 1 else 0) * g v) = L.map fun _ => 0 := List.map_congr_left fun v hv => by
            have : ¬ x = v := fun e => hn'.1 (by rw [e]; exact hv)
            simp [this]
          have z : ∀ M : List (List UInt8), (M.map fun _ => 0).sum = 0 := fun M => by
            induction M with
            | nil => rfl
            | cons a M ih => simpa using ih
          simp only [List.map_cons, List.sum_cons, if_true, this, z]
          omega
        · simp only [List.map_cons, List.sum_cons, if_neg e]
          have := ih hn'.2
          omega
    have split : ∀ L : List (List UInt8), (L.map fun v => (x :: xs).count v * g v).sum = (L.map fun v => xs.count v * g v).sum + (L.map fun v => (if x = v then 1 else 0) * g v).sum := by
      intro L
      induction L with
      | nil => rfl
      | cons a L ih =>
        simp only [List.map_cons, List.sum_cons]
        rw [ih, List.count_cons]
        simp only [beq_iff_eq, Nat.add_mul]
        omega
    have := one L hn
    rw [split, List.map_cons, List.sum_cons]
    omega
theorem sum_le_of (f g : List UInt8 → Nat) : ∀ L : List (List UInt8), (∀ v ∈ L, f v ≤ g v) → (L.map f).sum ≤ (L.map g).sum
  | [], _ => by simp
  | a :: L, h => by
    have := sum_le_of f g L fun v hv => h v (by simp [hv])
    have := h a (by simp)
    simp only [List.map_cons, List.sum_cons]
    omega
theorem sum_add (c p q : List UInt8 → Nat) (z : Nat) : ∀ M : List (List UInt8), (M.map fun u => c u * p u).sum * z + (M.map fun u => p u * q u).sum = (M.map fun u => p u * (c u * z + q u)).sum
  | [] => by simp
  | b :: M => by
    have ih := sum_add c p q z M
    simp only [List.map_cons, List.sum_cons, Nat.add_mul, Nat.mul_add] at ih ⊢
    have : c b * p b * z = p b * (c b * z) := by rw [Nat.mul_comm (c b) (p b), Nat.mul_assoc]
    omega
theorem sum_flip (c : List UInt8 → List UInt8 → Nat) (g p : List UInt8 → Nat) (M : List (List UInt8)) : ∀ L : List (List UInt8),
    (L.map fun v => (M.map fun u => c u v * p u).sum * g v).sum = (M.map fun u => p u * (L.map fun v => c u v * g v).sum).sum
  | [] => by
    simp only [List.map_nil, List.sum_nil, Nat.mul_zero]
    induction M with
    | nil => rfl
    | cons a M ih => simpa using ih
  | a :: L => by
    simp only [List.map_cons, List.sum_cons, sum_flip c g p M L]
    exact sum_add (fun u => c u a) p _ (g a) M
theorem pc_weight (hh : List UInt8 → Nat) {good : List UInt8 → Prop} {ms wy : List UInt8 → Int} (S : Steps nx good ms wy) (hw : good w) (hs : ∀ u, good u → ((nx u).map hh).sum ≤ hh u) :
    ∀ k, ((lay nx w k).map fun v => pc nx w k v * hh v).sum ≤ hh w
  | 0 => by simp [lay, pc]
  | k + 1 => by
    refine Nat.le_trans ?_ (pc_weight hh S hw hs k)
    show ((lay nx w (k + 1)).map fun v => ((lay nx w k).map fun u => (nx u).count v * pc nx w k u).sum * hh v).sum ≤ _
    rw [sum_flip (fun u v => (nx u).count v)]
    refine sum_le_of _ _ _ fun u hu => Nat.mul_le_mul_left _ ?_
    exact Nat.le_trans (count_sum hh _ (rising_nodup (lay_rising _)) (nx u)) (hs u (lay_good S hw k u hu).1)
theorem mem_le_sum (g : List UInt8 → Nat) {L : List (List UInt8)} {v : List UInt8} (h : v ∈ L) : g v ≤ (L.map g).sum := by
  obtain ⟨s, t, rfl⟩ := List.append_of_mem h
  simp
  omega
theorem pc_pos : ∀ (k : Nat) (v : List UInt8), v ∈ lay nx w k → 1 ≤ pc nx w k v
  | 0, v, h => by
    have : v = w := by simpa [lay] using h
    simp [pc, this]
  | k + 1, v, h => by
    obtain ⟨u, hu, hv⟩ := (mem_lay_next k v).1 h
    refine Nat.le_trans ?_ (mem_le_sum (fun u => (nx u).count v * pc nx w k u) hu)
    exact Nat.mul_pos (List.count_pos_iff.2 hv) (pc_pos k u hu)
end
/-- Fewer than 2^63 plays lead to a line. -/
theorem pc_small {n : Nat} {w v : List UInt8} (hw : goodT n w) (k : Nat) : pc nxL w k v < 9223372036854775808 := by
  by_cases hv : v ∈ lay nxL w k
  · have h1 := pc_weight wt (steps_line n) hw (fun u hu => wt_step hu) k
    have h2 := mem_le_sum (fun v => pc nxL w k v * wt v) hv
    have h3 := Nat.mul_le_mul_left (pc nxL w k v) (wt_pos v)
    have h4 := wt_lt w
    omega
  · rw [pc_none k v hv]; decide
theorem wr_pc {n : Nat} {w v : List UInt8} (hw : goodT n w) (k : Nat) : wr (pc nxL w k v) = pc nxL w k v := wr_small _ (pc_small hw k)
end Go.Proofs.YtfiifjcjmnhbnaaDoor
