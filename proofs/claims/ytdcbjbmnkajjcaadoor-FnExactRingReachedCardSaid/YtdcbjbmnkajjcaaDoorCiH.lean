/- How far each place of a graph is from one: passes, one for each number of moves; the play that goes down first is the first shortest one; no walk. -/
import Derived.Test.YtdcbjbmnkajjcaaDoorBfP
import Derived.Test.YtdcbjbmnkajjcaaDoorCiW
namespace Go.Proofs.YtdcbjbmnkajjcaaDoor

/-- From a place, that many moves lead to v. -/
def rchN (NX : List (List Nat)) (v : Nat) : Nat → Nat → Prop
  | 0, i => i = v
  | d + 1, i => ∃ k, k ∈ NX.getD i [] ∧ rchN NX v d k
/-- The least number of moves. -/
def dstN (NX : List (List Nat)) (v d i : Nat) : Prop := rchN NX v d i ∧ ∀ d', d' < d → ¬ rchN NX v d' i
theorem dst_one {NX : List (List Nat)} {v d d' i : Nat} (h : dstN NX v d i) (h' : dstN NX v d' i) : d = d' := by
  rcases Nat.lt_trichotomy d d' with h1 | h1 | h1
  · exact absurd h.1 (h'.2 d h1)
  · exact h1
  · exact absurd h'.1 (h.2 d' h1)
theorem dst_of {NX : List (List Nat)} {v i : Nat} : ∀ d, rchN NX v d i → ∃ d', d' ≤ d ∧ dstN NX v d' i := by
  intro d
  induction d using Nat.strongRecOn with
  | _ d ih =>
    intro h
    by_cases hh : ∃ d', d' < d ∧ rchN NX v d' i
    · obtain ⟨d', h1, h2⟩ := hh
      obtain ⟨d2, h3, h4⟩ := ih d' h1 h2
      exact ⟨d2, by omega, h4⟩
    · exact ⟨d, Nat.le_refl _, h, fun d' h1 h2 => hh ⟨d', h1, h2⟩⟩
/-- One move nearer. -/
theorem dst_next {NX : List (List Nat)} {v d i : Nat} : dstN NX v (d + 1) i ↔ (∀ d', d' < d + 1 → ¬ rchN NX v d' i) ∧ ∃ k, k ∈ NX.getD i [] ∧ dstN NX v d k := by
  constructor
  · rintro ⟨⟨k, hk, hr⟩, h2⟩
    exact ⟨h2, k, hk, hr, fun d' h3 h4 => h2 (d' + 1) (by omega) ⟨k, hk, h4⟩⟩
  · rintro ⟨h2, k, hk, hr, _⟩
    exact ⟨⟨k, hk, hr⟩, h2⟩
/-- What the list tells of a place, behind all passes below m. -/
def farI (NX : List (List Nat)) (v m : Nat) (x : Int) (i : Nat) : Prop := (x = -1 ∧ ∀ d, d < m → ¬ rchN NX v d i) ∨ ∃ d : Nat, d < m ∧ x = d ∧ dstN NX v d i
theorem farI_start (NX : List (List Nat)) (v i : Nat) : farI NX v 1 (if i = v then 0 else -1) i := by
  by_cases h : i = v
  · rw [if_pos h]
    exact .inr ⟨0, by omega, rfl, h, fun d' hd => by omega⟩
  · rw [if_neg h]
    refine .inl ⟨rfl, fun d hd hr => ?_⟩
    obtain rfl : d = 0 := by omega
    exact h hr
theorem farI_ge {NX : List (List Nat)} {v m i : Nat} {x : Int} (h : farI NX v m x i) : 0 ≤ x ↔ ∃ d : Nat, d < m ∧ x = d ∧ dstN NX v d i := by
  rcases h with ⟨h1, h2⟩ | ⟨d, h1, h2, h3⟩
  · constructor
    · intro h; omega
    · rintro ⟨d, _, h, _⟩; omega
  · exact ⟨fun _ => ⟨d, h1, h2, h3⟩, fun _ => by omega⟩
/-- The value of the pass before tells that distance, in either state of the pass. -/
theorem farI_prev {NX : List (List Nat)} {v m m' i : Nat} {x : Int} (hm : m' = m + 1 ∨ m' = m + 2) (h : farI NX v m' x i) : x = (m : Int) ↔ dstN NX v m i := by
  rcases h with ⟨h1, h2⟩ | ⟨d, h1, h2, h3⟩
  · constructor
    · intro h; omega
    · intro h; exact absurd h.1 (h2 m (by omega))
  · constructor
    · intro h
      have : d = m := by omega
      rw [← this]; exact h3
    · intro h
      have := dst_one h h3
      omega
theorem farI_keep {NX : List (List Nat)} {v m i : Nat} {x : Int} (h : farI NX v m x i) (hx : 0 ≤ x) : farI NX v (m + 1) x i := by
  obtain ⟨d, h1, h2, h3⟩ := (farI_ge h).1 hx
  exact .inr ⟨d, by omega, h2, h3⟩
theorem farI_new {NX : List (List Nat)} {v m i : Nat} {x : Int} (h : farI NX v (m + 1) x i) (hx : x < 0) (hk : ∃ k, k ∈ NX.getD i [] ∧ dstN NX v m k) : farI NX v (m + 2) ((m + 1 : Nat) : Int) i := by
  rcases h with ⟨h1, h2⟩ | ⟨d, h1, h2, h3⟩
  · exact .inr ⟨m + 1, by omega, rfl, dst_next.2 ⟨h2, hk⟩⟩
  · omega
theorem farI_none {NX : List (List Nat)} {v m i : Nat} {x : Int} (h : farI NX v (m + 1) x i) (hx : x < 0) (hk : ¬ ∃ k, k ∈ NX.getD i [] ∧ dstN NX v m k) : farI NX v (m + 2) x i ∧ ¬ dstN NX v (m + 1) i := by
  rcases h with ⟨h1, h2⟩ | ⟨d, h1, h2, h3⟩
  · have hn : ¬ dstN NX v (m + 1) i := fun h => hk (dst_next.1 h).2
    refine ⟨.inl ⟨h1, fun d hd hr => ?_⟩, hn⟩
    by_cases e : d < m + 1
    · exact h2 d e hr
    · obtain rfl : d = m + 1 := by omega
      exact hn ⟨hr, h2⟩
  · omega
/-- Behind a pass without anything new there is nothing farther. -/
theorem far_end {NX : List (List Nat)} {v m : Nat} (hin : ∀ i k, k ∈ NX.getD i [] → k < NX.length) (h : ∀ i, i < NX.length → ¬ dstN NX v m i) : ∀ d, m ≤ d → ∀ i, i < NX.length → ¬ dstN NX v d i := by
  intro d
  induction d with
  | zero => intro hm i hi; obtain rfl : m = 0 := by omega
            exact h i hi
  | succ d ih =>
    intro hm i hi hd
    by_cases e : m = d + 1
    · rw [e] at h; exact h i hi hd
    · obtain ⟨_, k, hk, hd2⟩ := dst_next.1 hd
      exact ih (by omega) k (hin i k hk) hd2
/-- What the list tells in the end. -/
def farF (NX : List (List Nat)) (v : Nat) (x : Int) (i : Nat) : Prop := (x = -1 ∧ ∀ d, ¬ rchN NX v d i) ∨ ∃ d : Nat, x = d ∧ dstN NX v d i
theorem farF_of {NX : List (List Nat)} {v m i : Nat} {x : Int} (hin : ∀ i k, k ∈ NX.getD i [] → k < NX.length) (hi : i < NX.length) (h : farI NX v (m + 1) x i) (he : ∀ i, i < NX.length → ¬ dstN NX v m i) : farF NX v x i := by
  rcases h with ⟨h1, h2⟩ | ⟨d, h1, h2, h3⟩
  · refine .inl ⟨h1, fun d hr => ?_⟩
    obtain ⟨d', _, h4⟩ := dst_of d hr
    by_cases e : d' < m + 1
    · exact h2 d' e h4.1
    · exact far_end hin he d' (by omega) i hi h4
  · exact .inr ⟨d, h2, h3⟩
theorem farF_val {NX : List (List Nat)} {v d i : Nat} {x : Int} (h : farF NX v x i) : x = (d : Int) ↔ dstN NX v d i := by
  rcases h with ⟨h1, h2⟩ | ⟨d', h1, h2⟩
  · constructor
    · intro e; omega
    · intro e; exact absurd e.1 (h2 d)
  · constructor
    · intro e
      have : d' = d := by omega
      rw [← this]; exact h2
    · intro e
      rw [h1, dst_one e h2]
/-- A play over places. -/
def runN (NX : List (List Nat)) : Nat → List Nat → Option Nat := runP fun i => NX.getD i []
theorem runN_cons (NX : List (List Nat)) (i j : Nat) (q : List Nat) : runN NX i (j :: q) = ((NX.getD i [])[j]?).bind fun x => runN NX x q := by
  unfold runN
  rw [runP]
  cases (NX.getD i [])[j]? <;> rfl
theorem runN_rch {NX : List (List Nat)} {v : Nat} : ∀ (q : List Nat) (i : Nat), runN NX i q = some v → rchN NX v q.length i
  | [], i, h => by
    have h : some i = some v := h
    injection h
  | j :: q, i, h => by
    rw [runN_cons] at h
    cases hk : (NX.getD i [])[j]? with
    | none => rw [hk] at h; cases h
    | some k =>
      rw [hk] at h
      exact ⟨k, List.mem_of_getElem? hk, runN_rch q k h⟩
/-- The play that goes to the first place that is nearer, each time. -/
def DownP (NX : List (List Nat)) (v : Nat) : Nat → List Nat → Prop
  | i, [] => dstN NX v 0 i
  | i, j :: q => ∃ k, (NX.getD i [])[j]? = some k ∧ dstN NX v q.length k ∧ dstN NX v (q.length + 1) i ∧ (∀ j' k', j' < j → (NX.getD i [])[j']? = some k' → ¬ dstN NX v q.length k') ∧ DownP NX v k q
theorem down_run {NX : List (List Nat)} {v : Nat} : ∀ (q : List Nat) (i : Nat), DownP NX v i q → runN NX i q = some v ∧ dstN NX v q.length i
  | [], i, h => ⟨by show some i = some v; rw [h.1], h⟩
  | j :: q, i, ⟨k, h1, h2, h3, h4, h5⟩ => ⟨by
      rw [runN_cons, h1]
      exact (down_run q k h5).1, h3⟩
theorem down_least {NX : List (List Nat)} {v : Nat} : ∀ (q : List Nat) (i : Nat), DownP NX v i q → ∀ q', runN NX i q' = some v → slP q q' := by
  have lx : ∀ (q : List Nat) (i : Nat), DownP NX v i q → ∀ q', q'.length = q.length → runN NX i q' = some v → lxP q q' := by
    intro q
    induction q with
    | nil => intro i _ q' hl _; match q', hl with | [], _ => exact trivial
    | cons j q ih =>
      intro i hd q' hl hr
      obtain ⟨k, h1, h2, h3, h4, h5⟩ := hd
      match q', hl with
      | j' :: q', hl0 =>
        have hl : q'.length = q.length := by simpa using hl0
        rw [runN_cons] at hr
        cases hk : (NX.getD i [])[j']? with
        | none => rw [hk] at hr; cases hr
        | some k' =>
          rw [hk] at hr
          have hr : runN NX k' q' = some v := hr
          rcases Nat.lt_trichotomy j j' with e | e | e
          · exact .inl e
          · subst e
            rw [h1] at hk
            injection hk with hk
            subst hk
            exact .inr ⟨rfl, ih k h5 q' hl hr⟩
          · exfalso
            have hrc := runN_rch q' k' hr
            rw [hl] at hrc
            exact h4 j' k' e hk ⟨hrc, fun d' hd' hr' => h3.2 (d' + 1) (by omega) ⟨k', List.mem_of_getElem? hk, hr'⟩⟩
  intro q i hd q' hr
  have h1 := (down_run q i hd).2
  have h2 := runN_rch q' i hr
  rcases Nat.lt_trichotomy q.length q'.length with e | e | e
  · exact .inl e
  · exact .inr ⟨e, lx q i hd q' e.symm hr⟩
  · exact absurd h2 (h1.2 _ e)
end Go.Proofs.YtdcbjbmnkajjcaaDoor
namespace Go.Proofs.YtdcbjbmnkajjcaaDoor

/-- The graph of all rings that a ring reaches. -/
structure GrOk (s : ByteArray) (R : List ByteArray) (NX : List (List Nat)) : Prop where
  nd : R.Nodup
  len : NX.length = R.length
  first : R[0]? = some s
  cnt : ∀ a x, R[a]? = some x → (NX.getD a []).length = (nxC x).length
  nx : ∀ (a : Nat) (x : ByteArray) (j i : Nat), R[a]? = some x → (NX.getD a [])[j]? = some i → ∃ y, (nxC x)[j]? = some y ∧ R[i]? = some y
  got : ∀ x ∈ R, ∃ q, runP nxC s q = some x
section
variable {s : ByteArray} {R : List ByteArray} {NX : List (List Nat)}
theorem GrOk.run (h : GrOk s R NX) : ∀ (q : List Nat) (a : Nat) (x : ByteArray), R[a]? = some x → ∀ y, runP nxC x q = some y ↔ ∃ b, runN NX a q = some b ∧ R[b]? = some y := by
  intro q
  induction q with
  | nil =>
    intro a x hx y
    constructor
    · intro e
      have e : some x = some y := e
      injection e with e
      exact ⟨a, rfl, by rw [hx, e]⟩
    · rintro ⟨b, hb, hy⟩
      have hb : some a = some b := hb
      injection hb with hb
      rw [← hb, hx] at hy
      exact hy
  | cons j q ih =>
    intro a x hx y
    rw [runP_cons, runN_cons]
    cases hj : (NX.getD a [])[j]? with
    | none =>
      have h1 := h.cnt a x hx
      have h2 : (nxC x)[j]? = none := by
        rw [List.getElem?_eq_none_iff] at hj ⊢
        omega
      rw [h2]
      constructor
      · intro e; cases e
      · rintro ⟨b, hb, _⟩; cases hb
    | some i =>
      obtain ⟨z, h1, h2⟩ := h.nx a x j i hx hj
      rw [h1]
      exact ih i z h2 y
theorem GrOk.place (h : GrOk s R NX) {a b : Nat} {x : ByteArray} (ha : R[a]? = some x) (hb : R[b]? = some x) : a = b := by
  have hla := List.getElem?_eq_some_iff.1 ha
  have hlb := List.getElem?_eq_some_iff.1 hb
  exact (List.getElem_inj h.nd (i := a) (j := b) (h₀ := hla.1) (h₁ := hlb.1)).1 (hla.2.trans hlb.2.symm)
theorem GrOk.runTo (h : GrOk s R NX) {q : List Nat} {a b : Nat} {x v : ByteArray} (ha : R[a]? = some x) (hv : R[b]? = some v) : runP nxC x q = some v ↔ runN NX a q = some b := by
  rw [h.run q a x ha v]
  constructor
  · rintro ⟨c, h1, h2⟩
    rw [h.place h2 hv] at h1
    exact h1
  · intro e
    exact ⟨b, e, hv⟩
theorem GrOk.inR (h : GrOk s R NX) : ∀ i k, k ∈ NX.getD i [] → k < NX.length := fun i k hk => by
  obtain ⟨j, hj, e⟩ := List.getElem_of_mem hk
  have hi : i < R.length := by
    rw [← h.len]
    rcases Nat.lt_or_ge i NX.length with h1 | h1
    · exact h1
    · rw [List.getD_eq_getElem?_getD, List.getElem?_eq_none h1] at hk
      simp at hk
  obtain ⟨y, _, h2⟩ := h.nx i R[i] j k (List.getElem?_eq_getElem hi) (by rw [List.getElem?_eq_getElem hj, e])
  rw [h.len]
  exact (List.getElem?_eq_some_iff.1 h2).1
/-- The play that goes down is the first shortest one. -/
theorem GrOk.path (h : GrOk s R NX) {b : Nat} {v : ByteArray} (hv : R[b]? = some v) {q : List Nat} (hq : DownP NX b 0 q) : PathIs s v (some q) :=
  ⟨(h.runTo h.first hv).2 (down_run q 0 hq).1, fun q' e => down_least q 0 hq q' ((h.runTo h.first hv).1 e)⟩
theorem GrOk.none (h : GrOk s R NX) {v : ByteArray} (hv : v ∉ R) : PathIs s v none := fun q e => by
  obtain ⟨b, _, hb⟩ := (h.run q 0 s h.first v).1 e
  exact hv (List.mem_of_getElem? hb)
/-- Each ring reached from the first comes to it or not: the list of distances tells. -/
theorem GrOk.dist (h : GrOk s R NX) {b : Nat} {v : ByteArray} (hv : R[b]? = some v) {q : List Nat} (hq : PathIs s v (some q)) : dstN NX b q.length 0 := by
  have h1 := runN_rch q 0 ((h.runTo h.first hv).1 hq.1)
  refine ⟨h1, fun d hd hr => ?_⟩
  have back : ∀ (d i : Nat), rchN NX b d i → ∃ q', q'.length = d ∧ runN NX i q' = some b := by
    intro d
    induction d with
    | zero => intro i e; exact ⟨[], rfl, by show some i = some b; rw [e]⟩
    | succ d ih =>
      rintro i ⟨k, hk, hr⟩
      obtain ⟨q', h1, h2⟩ := ih k hr
      obtain ⟨j, hj, e⟩ := List.getElem_of_mem hk
      refine ⟨j :: q', by rw [List.length_cons, h1], ?_⟩
      rw [runN_cons, List.getElem?_eq_getElem hj, e]
      exact h2
  obtain ⟨q', h2, h3⟩ := back d 0 hr
  have := (hq.2 q' ((h.runTo h.first hv).2 h3)).len
  omega
theorem dst_down {NX : List (List Nat)} {v : Nat} (hin : ∀ i k, k ∈ NX.getD i [] → k < NX.length) : ∀ (m i : Nat), i < NX.length → dstN NX v m i → ∀ d, d ≤ m → ∃ k, k < NX.length ∧ dstN NX v d k := by
  intro m
  induction m with
  | zero => intro i hi h d hd; obtain rfl : d = 0 := by omega
            exact ⟨i, hi, h⟩
  | succ m ih =>
    intro i hi h d hd
    by_cases e : d = m + 1
    · rw [e]; exact ⟨i, hi, h⟩
    · obtain ⟨_, k, hk, h2⟩ := dst_next.1 h
      exact ih k (hin i k hk) h2 d (by omega)
open Classical in
/-- No place is farther than there are places. -/
theorem dst_lt {NX : List (List Nat)} {v m i : Nat} (hin : ∀ i k, k ∈ NX.getD i [] → k < NX.length) (hi : i < NX.length) (h : dstN NX v m i) : m < NX.length := by
  have := sub_len (m + 1) ((List.range NX.length).map fun i => if h : ∃ d, dstN NX v d i then Classical.choose h else 0) fun d hd => by
    obtain ⟨k, hk, h2⟩ := dst_down hin m i hi h d (by omega)
    refine List.mem_map.2 ⟨k, List.mem_range.2 hk, ?_⟩
    have he : ∃ d, dstN NX v d k := ⟨d, h2⟩
    rw [dif_pos he]
    exact dst_one (Classical.choose_spec he) h2
  rw [List.length_map, List.length_range] at this
  omega
/-- How many moves a first round has. -/
theorem round_len {q : List Nat} {n : Nat} (h : RoundIs s s (some q)) (h1 : ∃ q', q' ≠ [] ∧ runP nxC s q' = some s ∧ q'.length = n) (h2 : ∀ q', q' ≠ [] → runP nxC s q' = some s → n ≤ q'.length) : q.length = n := by
  obtain ⟨q', a, b, c⟩ := h1
  have := (h.2 q' a b).len
  have := h2 q h.1.1 h.1.2
  omega
end
end Go.Proofs.YtdcbjbmnkajjcaaDoor
