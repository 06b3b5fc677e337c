/- Search in breadth that keeps the play to each: the plays kept are the first of the shortest ones; plays as lists of places among the moves; no walk. -/
import Derived.Lib.Hide
namespace Go.Proofs.YtdcbjbmnkajjcaaDoor

/-- Plays of one length, in order. -/
def lxP : List Nat → List Nat → Prop
  | [], [] => True
  | i :: p, j :: q => i < j ∨ (i = j ∧ lxP p q)
  | _, _ => False
/-- Shorter first, and in order among those of one length. -/
def slP (p q : List Nat) : Prop := p.length < q.length ∨ (p.length = q.length ∧ lxP p q)
theorem lxP.refl : ∀ p, lxP p p
  | [] => trivial
  | _ :: p => .inr ⟨rfl, lxP.refl p⟩
theorem lxP.trans : ∀ {p q r : List Nat}, lxP p q → lxP q r → lxP p r
  | [], [], [], _, _ => trivial
  | i :: p, j :: q, k :: r, h, h' => by
    rcases h with h | ⟨rfl, h⟩ <;> rcases h' with h' | ⟨rfl, h'⟩
    · exact .inl (by omega)
    · exact .inl h
    · exact .inl h'
    · exact .inr ⟨rfl, h.trans h'⟩
theorem lxP.one : ∀ {p q : List Nat}, lxP p q → lxP q p → p = q
  | [], [], _, _ => rfl
  | i :: p, j :: q, h, h' => by
    rcases h with h | ⟨rfl, h⟩ <;> rcases h' with h' | ⟨e, h'⟩
    · omega
    · omega
    · omega
    · rw [h.one h']
theorem lxP.snoc : ∀ {p q : List Nat} (a b : Nat), p.length = q.length → lxP p q → (p ≠ q ∨ a ≤ b) → lxP (p ++ [a]) (q ++ [b])
  | [], [], a, b, _, _, h => by
    rcases h with h | h
    · exact absurd rfl h
    · rcases Nat.lt_or_ge a b with h2 | h2
      · exact .inl h2
      · exact .inr ⟨by omega, trivial⟩
  | i :: p, j :: q, a, b, hl, hx, h => by
    rcases hx with hx | ⟨rfl, hx⟩
    · exact .inl hx
    · refine .inr ⟨rfl, hx.snoc a b (by simpa using hl) ?_⟩
      rcases h with h | h
      · exact .inl fun e => h (by rw [e])
      · exact .inr h
theorem slP.refl (p : List Nat) : slP p p := .inr ⟨rfl, lxP.refl p⟩
theorem slP.trans {p q r : List Nat} (h : slP p q) (h' : slP q r) : slP p r := by
  rcases h with h | ⟨e, h⟩ <;> rcases h' with h' | ⟨e', h'⟩
  · exact .inl (by omega)
  · exact .inl (by omega)
  · exact .inl (by omega)
  · exact .inr ⟨by omega, h.trans h'⟩
theorem slP.one {p q : List Nat} (h : slP p q) (h' : slP q p) : p = q := by
  rcases h with h | ⟨e, h⟩ <;> rcases h' with h' | ⟨e', h'⟩
  · omega
  · omega
  · omega
  · exact h.one h'
theorem slP.snoc {p q : List Nat} (h : slP p q) (a b : Nat) (h2 : p ≠ q ∨ a ≤ b) : slP (p ++ [a]) (q ++ [b]) := by
  rcases h with h | ⟨e, h⟩
  · exact .inl (by simp; omega)
  · exact .inr ⟨by simp; omega, h.snoc a b e h2⟩
theorem slP.len {p q : List Nat} (h : slP p q) : p.length ≤ q.length := by
  rcases h with h | ⟨e, _⟩ <;> omega

section
variable {α : Type} (nx : α → List α) (r : α)
abbrev EntP (α : Type) := α × List Nat
def kP (D : List (EntP α)) : List α := D.map (·.1)
/-- All that are to be looked at, in their order. -/
def qP (D : List (EntP α)) : List (EntP α) := (r, []) :: D
/-- Where a play leads. -/
def runP : α → List Nat → Option α
  | u, [] => some u
  | u, i :: q => match (nx u)[i]? with
    | some x => runP x q
    | none => none
end
section
variable {α : Type} {nx : α → List α} {r : α}
theorem runP_app (p : List Nat) : ∀ (u : α) (q : List Nat), runP nx u (p ++ q) = (runP nx u p).bind fun x => runP nx x q := by
  induction p with
  | nil => intro u q; rfl
  | cons i p ih =>
    intro u q
    show (match (nx u)[i]? with | some x => runP nx x (p ++ q) | none => none) = Option.bind (match (nx u)[i]? with | some x => runP nx x p | none => none) _
    cases (nx u)[i]? with
    | none => rfl
    | some x => exact ih x q
theorem runP_one (u : α) (i : Nat) : runP nx u [i] = (nx u)[i]? := by
  show (match (nx u)[i]? with | some x => some x | none => none) = _
  cases (nx u)[i]? <;> rfl
theorem runP_snoc (u : α) (p : List Nat) (i : Nat) : runP nx u (p ++ [i]) = (runP nx u p).bind fun x => (nx x)[i]? := by
  rw [runP_app]
  congr 1
  funext x
  exact runP_one x i
/-- What holds of all that is found, behind k entries and the first j moves of the next one. -/
structure BfP (nx : α → List α) (r : α) (D : List (EntP α)) (k j : Nat) : Prop where
  nodup : (kP D).Nodup
  val : ∀ e ∈ D, runP nx r e.2 = some e.1
  src : ∀ e ∈ D, ∃ (a : Nat) (u : EntP α) (i : Nat), (a < k ∨ (a = k ∧ i < j)) ∧ (qP r D)[a]? = some u ∧ e.2 = u.2 ++ [i] ∧ (nx u.1)[i]? = some e.1
  sorted : ∀ (a b : Nat) (x y : EntP α), a ≤ b → (qP r D)[a]? = some x → (qP r D)[b]? = some y → slP x.2 y.2
  done : ∀ (a : Nat) (u : EntP α) (i : Nat) (x : α), (a < k ∨ (a = k ∧ i < j)) → (qP r D)[a]? = some u → (nx u.1)[i]? = some x → ∃ e ∈ D, e.1 = x ∧ slP e.2 (u.2 ++ [i])
theorem BfP.start : BfP nx r [] 0 0 := by
  refine ⟨by simp [kP], fun e h => (by cases h), fun e h => (by cases h), fun a b x y hab hx hy => ?_, fun a u i x h => by omega⟩
  have hb : b = 0 := by
    have := (List.getElem?_eq_some_iff.1 hy).1
    simp [qP] at this
    exact this
  subst hb
  obtain rfl : a = 0 := by omega
  rw [hx] at hy
  injection hy with hy
  rw [hy]
  exact slP.refl _
theorem BfP.ne {D : List (EntP α)} {k j : Nat} (h : BfP nx r D k j) {e : EntP α} (he : e ∈ D) : e.2 ≠ [] := by
  obtain ⟨_, u, i, _, _, h2, _⟩ := h.src e he
  rw [h2]
  simp
/-- Entries at different places have different plays. -/
theorem BfP.apart {D : List (EntP α)} {k j : Nat} (h : BfP nx r D k j) {a b : Nat} {x y : EntP α} (hab : a < b) (hx : (qP r D)[a]? = some x) (hy : (qP r D)[b]? = some y) : x.2 ≠ y.2 := by
  intro e
  obtain ⟨b, rfl⟩ : ∃ c, b = c + 1 := ⟨b - 1, by omega⟩
  have hy : D[b]? = some y := hy
  have hyD := List.mem_of_getElem? hy
  match a, hx with
  | 0, hx =>
    have : x = (r, []) := by have h0 : some (r, ([] : List Nat)) = some x := hx; injection h0 with h0; exact h0.symm
    rw [this] at e
    exact h.ne hyD e.symm
  | a + 1, hx =>
    have hx : D[a]? = some x := hx
    have hxD := List.mem_of_getElem? hx
    have h1 := h.val x hxD
    have h2 := h.val y hyD
    rw [e, h2] at h1
    injection h1 with h1
    have hka : (kP D)[a]? = some x.1 := by unfold kP; rw [List.getElem?_map, hx]; rfl
    have hkb : (kP D)[b]? = some y.1 := by unfold kP; rw [List.getElem?_map, hy]; rfl
    rw [h1] at hkb
    have hla := (List.getElem?_eq_some_iff.1 hka)
    have hlb := (List.getElem?_eq_some_iff.1 hkb)
    have := (List.getElem_inj h.nodup (i := a) (j := b) (h₀ := hla.1) (h₁ := hlb.1)).1 (hla.2.trans hlb.2.symm)
    omega
/-- Whoever is found comes no later than a move from the entry that is looked at. -/
theorem BfP.near {D : List (EntP α)} {k j : Nat} (h : BfP nx r D k j) {u : EntP α} (hu : (qP r D)[k]? = some u) {e : EntP α} (he : e ∈ D) : slP e.2 (u.2 ++ [j]) := by
  obtain ⟨a, v, i, hc, hv, h2, _⟩ := h.src e he
  rw [h2]
  rcases hc with hc | ⟨rfl, hc⟩
  · exact (h.sorted a k v u (by omega) hv hu).snoc i j (.inl (h.apart hc hv hu))
  · rw [hu] at hv
    injection hv with hv
    rw [← hv]
    exact (slP.refl u.2).snoc i j (.inr (by omega))
theorem qP_app (D : List (EntP α)) (e : EntP α) (a : Nat) (x : EntP α) (h : (qP r D)[a]? = some x) : (qP r (D ++ [e]))[a]? = some x := by
  have hl := (List.getElem?_eq_some_iff.1 h).1
  show ((r, []) :: (D ++ [e]))[a]? = some x
  rw [← List.cons_append, List.getElem?_append_left (by exact hl)]
  exact h
theorem BfP.over {D : List (EntP α)} {k j : Nat} (h : BfP nx r D k j) {u : EntP α} (hu : (qP r D)[k]? = some u) (hj : (nx u.1).length ≤ j) : BfP nx r D (k + 1) 0 := by
  refine ⟨h.nodup, h.val, fun e he => ?_, h.sorted, fun a v i y hc hv hy => ?_⟩
  · obtain ⟨a, v, i, hc, hv, h2, h3⟩ := h.src e he
    exact ⟨a, v, i, by omega, hv, h2, h3⟩
  · by_cases ha : a = k
    · subst ha
      rw [hu] at hv
      injection hv with hv
      rw [← hv] at hy ⊢
      have := (List.getElem?_eq_some_iff.1 hy).1
      exact h.done a u i y (by omega) hu hy
    · exact h.done a v i y (by omega) hv hy
theorem BfP.valQ {D : List (EntP α)} {k j : Nat} (h : BfP nx r D k j) {a : Nat} {u : EntP α} (hu : (qP r D)[a]? = some u) : runP nx r u.2 = some u.1 := by
  match a, hu with
  | 0, hu =>
    have : u = (r, []) := by have h0 : some (r, ([] : List Nat)) = some u := hu; injection h0 with h0; exact h0.symm
    rw [this]; rfl
  | a + 1, hu => exact h.val u (List.mem_of_getElem? (show D[a]? = some u from hu))
theorem qP_pre {D M : List (EntP α)} {a : Nat} {u : EntP α} (h : (qP r D)[a]? = some u) : (qP r (D ++ M))[a]? = some u := by
  have hl := (List.getElem?_eq_some_iff.1 h).1
  show ((r, []) :: (D ++ M))[a]? = some u
  rw [← List.cons_append, List.getElem?_append_left (by exact hl)]
  exact h
/-- Behind the last entry: each play is led by one that is kept. -/
theorem BfP.all {D : List (EntP α)} {k : Nat} (h : BfP nx r D k 0) (hk : (qP r D).length ≤ k) : ∀ (n : Nat) (q : List Nat) (v : α), q.length = n + 1 → runP nx r q = some v → ∃ e ∈ D, e.1 = v ∧ slP e.2 q := by
  intro n
  induction n with
  | zero =>
    intro q v hq hv
    match q, hq with
    | [i], _ =>
      rw [runP_one] at hv
      exact h.done 0 (r, []) i v (by have : (qP r D).length = D.length + 1 := by simp [qP]
                                     omega) rfl hv
  | succ n ih =>
    intro q v hq hv
    have hne : q ≠ [] := by intro e; rw [e] at hq; simp at hq
    obtain ⟨q', i, rfl⟩ : ∃ q' i, q = q' ++ [i] := ⟨q.dropLast, q.getLast hne, (List.dropLast_concat_getLast hne).symm⟩
    rw [runP_snoc] at hv
    cases hu : runP nx r q' with
    | none => rw [hu] at hv; cases hv
    | some u =>
      rw [hu] at hv
      obtain ⟨e, he, rfl, hsl⟩ := ih q' u (by simpa using hq) hu
      obtain ⟨b, hb, hbe⟩ := List.getElem_of_mem he
      have hbq : (qP r D)[b + 1]? = some e := by show D[b]? = some e; rw [List.getElem?_eq_getElem hb, hbe]
      have hl : (qP r D).length = D.length + 1 := by simp [qP]
      obtain ⟨f, hf, f1, f2⟩ := h.done (b + 1) e i v (by omega) hbq hv
      exact ⟨f, hf, f1, f2.trans (hsl.snoc i i (.inr (Nat.le_refl _)))⟩
end
section
variable {α : Type} [DecidableEq α] (nx : α → List α) (r : α)
def onP (p : List Nat) (D : List (EntP α)) (x : α) (i : Nat) : List (EntP α) := if x ∈ kP D then D else D ++ [(x, p ++ [i])]
/-- The first places of a list of moves looked at. -/
def inP (p : List Nat) (D : List (EntP α)) (xs : List α) : Nat → List (EntP α)
  | 0 => D
  | k + 1 => match xs[k]? with
    | some x => onP p (inP p D xs k) x k
    | none => inP p D xs k
def atP : Nat → List (EntP α)
  | 0 => []
  | k + 1 => match (qP r (atP k))[k]? with
    | none => atP k
    | some e => inP e.2 (atP k) (nx e.1) (nx e.1).length
end
section
variable {α : Type} [DecidableEq α] {nx : α → List α} {r : α}
theorem BfP.step {D : List (EntP α)} {k j : Nat} (h : BfP nx r D k j) {u : EntP α} (hu : (qP r D)[k]? = some u) {x : α} (hx : (nx u.1)[j]? = some x) (hval : runP nx r u.2 = some u.1) : BfP nx r (onP u.2 D x j) k (j + 1) := by
  unfold onP
  split
  · rename_i hm
    obtain ⟨e, he, e1⟩ := List.mem_map.1 hm
    refine ⟨h.nodup, h.val, fun e he => ?_, h.sorted, fun a v i y hc hv hy => ?_⟩
    · obtain ⟨a, v, i, hc, hv, h2, h3⟩ := h.src e he
      exact ⟨a, v, i, by omega, hv, h2, h3⟩
    · by_cases hk : a = k ∧ i = j
      · obtain ⟨rfl, rfl⟩ := hk
        rw [hu] at hv
        injection hv with hv
        rw [← hv] at hy ⊢
        rw [hx] at hy
        injection hy with hy
        exact ⟨e, he, by rw [e1, hy], h.near hu he⟩
      · exact h.done a v i y (by omega) hv hy
  · rename_i hm
    have hql : ∀ (a : Nat) (y : EntP α), (qP r (D ++ [(x, u.2 ++ [j])]))[a]? = some y → (qP r D)[a]? = some y ∨ (a = D.length + 1 ∧ y = (x, u.2 ++ [j])) := fun a y hy => by
      by_cases ha : a < (qP r D).length
      · left
        have hy : ((r, []) :: (D ++ [(x, u.2 ++ [j])]))[a]? = some y := hy
        rw [← List.cons_append, List.getElem?_append_left (by exact ha)] at hy
        exact hy
      · right
        have hl := (List.getElem?_eq_some_iff.1 hy).1
        have hlen : (qP r (D ++ [(x, u.2 ++ [j])])).length = D.length + 2 := by simp [qP]
        have hlen2 : (qP r D).length = D.length + 1 := by simp [qP]
        have ea : a = D.length + 1 := by omega
        subst ea
        refine ⟨rfl, ?_⟩
        have hy : (D ++ [(x, u.2 ++ [j])])[D.length]? = some y := hy
        rw [List.getElem?_append_right (Nat.le_refl _), Nat.sub_self] at hy
        injection hy with hy
        exact hy.symm
    have hnear : ∀ (a : Nat) (y : EntP α), (qP r D)[a]? = some y → slP y.2 (u.2 ++ [j]) := fun a y hy => by
      match a, hy with
      | 0, hy =>
        have : y = (r, []) := by have h0 : some (r, ([] : List Nat)) = some y := hy; injection h0 with h0; exact h0.symm
        rw [this]
        exact .inl (by simp)
      | a + 1, hy => exact h.near hu (List.mem_of_getElem? (show D[a]? = some y from hy))
    refine ⟨?_, fun e he => ?_, fun e he => ?_, fun a b y z hab hy hz => ?_, fun a v i y hc hv hy => ?_⟩
    · show (List.map _ (D ++ [(x, u.2 ++ [j])])).Nodup
      rw [List.map_append, List.nodup_append]
      refine ⟨h.nodup, by simp, fun a ha b hb => ?_⟩
      obtain rfl : b = x := by simpa using hb
      exact fun e => hm (e ▸ ha)
    · rcases List.mem_append.1 he with he | he
      · exact h.val e he
      · obtain rfl : e = (x, u.2 ++ [j]) := by simpa using he
        rw [runP_snoc, hval]
        exact hx
    · rcases List.mem_append.1 he with he | he
      · obtain ⟨a, v, i, hc, hv, h2, h3⟩ := h.src e he
        exact ⟨a, v, i, by omega, qP_app D _ a v hv, h2, h3⟩
      · obtain rfl : e = (x, u.2 ++ [j]) := by simpa using he
        exact ⟨k, u, j, by omega, qP_app D _ k u hu, rfl, hx⟩
    · rcases hql b z hz with hz | ⟨rfl, rfl⟩
      · rcases hql a y hy with hy | ⟨rfl, rfl⟩
        · exact h.sorted a b y z hab hy hz
        · have := (List.getElem?_eq_some_iff.1 hz).1
          have hlen2 : (qP r D).length = D.length + 1 := by simp [qP]
          omega
      · rcases hql a y hy with hy | ⟨rfl, rfl⟩
        · exact hnear a y hy
        · exact slP.refl _
    · rcases hql a v hv with hv2 | ⟨rfl, rfl⟩
      · clear hv
        have hv := hv2
        by_cases hk : a = k ∧ i = j
        · obtain ⟨rfl, rfl⟩ := hk
          rw [hu] at hv
          injection hv with hv
          rw [← hv] at hy ⊢
          rw [hx] at hy
          injection hy with hy
          exact ⟨(x, u.2 ++ [i]), List.mem_append.2 (.inr (by simp)), hy, slP.refl _⟩
        · obtain ⟨e, he, e1, e2⟩ := h.done a v i y (by omega) hv hy
          exact ⟨e, List.mem_append.2 (.inl he), e1, e2⟩
      · exfalso
        have := (List.getElem?_eq_some_iff.1 hu).1
        have hlen2 : (qP r D).length = D.length + 1 := by simp [qP]
        omega
theorem inP_pre (p : List Nat) (xs : List α) (D : List (EntP α)) : ∀ j, ∃ M, inP p D xs j = D ++ M
  | 0 => ⟨[], by simp [inP]⟩
  | j + 1 => by
    obtain ⟨M, e⟩ := inP_pre p xs D j
    rw [inP]
    cases xs[j]? with
    | none => exact ⟨M, e⟩
    | some x =>
      show ∃ M, onP p (inP p D xs j) x j = D ++ M
      unfold onP
      split
      · exact ⟨M, e⟩
      · exact ⟨M ++ [(x, p ++ [j])], by rw [e, List.append_assoc]⟩
theorem BfP.inP {D : List (EntP α)} {k : Nat} (h : BfP nx r D k 0) {u : EntP α} (hu : (qP r D)[k]? = some u) : ∀ j, j ≤ (nx u.1).length → BfP nx r (inP u.2 D (nx u.1) j) k j
  | 0, _ => h
  | j + 1, hj => by
    have ih := h.inP hu j (by omega)
    have hx : (nx u.1)[j]? = some (nx u.1)[j] := List.getElem?_eq_getElem (by omega)
    obtain ⟨M, e⟩ := inP_pre u.2 (nx u.1) D j
    have hu2 : (qP r (YtdcbjbmnkajjcaaDoor.inP u.2 D (nx u.1) j))[k]? = some u := by rw [e]; exact qP_pre hu
    show BfP nx r (match (nx u.1)[j]? with | some x => onP u.2 (YtdcbjbmnkajjcaaDoor.inP u.2 D (nx u.1) j) x j | none => YtdcbjbmnkajjcaaDoor.inP u.2 D (nx u.1) j) k (j + 1)
    rw [hx]
    exact ih.step hu2 hx (h.valQ hu)
theorem bfP_at (k : Nat) (hk : k ≤ (qP r (atP nx r k)).length) : BfP nx r (atP nx r k) k 0 := by
  induction k with
  | zero => exact BfP.start
  | succ k ih =>
    by_cases h : k < (qP r (atP nx r k)).length
    · have hu : (qP r (atP nx r k))[k]? = some (qP r (atP nx r k))[k] := List.getElem?_eq_getElem h
      have ih := ih (by omega)
      rw [atP, hu]
      have h2 := ih.inP hu _ (Nat.le_refl _)
      obtain ⟨M, e⟩ := inP_pre (qP r (atP nx r k))[k].2 (nx (qP r (atP nx r k))[k].1) (atP nx r k) (nx (qP r (atP nx r k))[k].1).length
      exact h2.over (by rw [e]; exact qP_pre hu) (Nat.le_refl _)
    · exfalso
      rw [atP, List.getElem?_eq_none (by omega)] at hk
      simp only at hk
      omega
end
end Go.Proofs.YtdcbjbmnkajjcaaDoor
