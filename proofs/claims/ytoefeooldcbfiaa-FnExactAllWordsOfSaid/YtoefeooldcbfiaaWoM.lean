/- Words as plays: all words of so many steps that end well, in order; a search that keeps what leads on; no Go in sight. -/
import Derived.Test.YtoefeooldcbfiaaReachA
import Derived.Test.YtoefeooldcbfiaaWalkV
import Derived.Test.YtoefeooldcbfiaaPlay
import Derived.Test.YtoefeooldcbfiaaBefW
namespace Go.Proofs.Ytoefeooldcbfiaa
section
variable (sg : UInt8 → List UInt8 → Option (List UInt8))
/-- Where a frog's, then a toad's move leads. -/
def stepW (x : List UInt8) : List (UInt8 × List UInt8) := ([70, 84] : List UInt8).filterMap fun c => (sg c x).map fun y => (c, y)
/-- The line behind a word. -/
def runW : List UInt8 → List UInt8 → Option (List UInt8)
  | x, [] => some x
  | x, c :: u => (sg c x).bind fun y => runW y u
/-- All words of so many steps that end well, in order. -/
def wl (P : List UInt8 → Bool) : Nat → List UInt8 → List (List UInt8)
  | 0, x => if P x then [[]] else []
  | n + 1, x => (stepW sg x).flatMap fun p => (wl P n p.2).map (p.1 :: ·)
/-- One step of the search: what leads on is kept. -/
def nxtB (lead : List UInt8 → Bool) (B : List (List UInt8 × List UInt8)) : List (List UInt8 × List UInt8) :=
  B.flatMap fun b => ((stepW sg b.2).filter fun p => lead p.2).map fun p => (b.1 ++ [p.1], p.2)
def itB (lead : List UInt8 → Bool) (x : List UInt8) : Nat → List (List UInt8 × List UInt8)
  | 0 => [([], x)]
  | k + 1 => nxtB sg lead (itB lead x k)
variable {sg}
theorem mem_stepW {x : List UInt8} {c : UInt8} {y : List UInt8} : (c, y) ∈ stepW sg x ↔ (c = 70 ∨ c = 84) ∧ sg c x = some y := by
  unfold stepW
  rw [List.mem_filterMap]
  constructor
  · rintro ⟨a, ha, h⟩
    rw [Option.map_eq_some_iff] at h
    obtain ⟨z, hz, e⟩ := h
    injection e with e1 e2
    subst e1; subst e2
    exact ⟨by simpa using ha, hz⟩
  · rintro ⟨hc, h⟩
    exact ⟨c, by simpa using hc, by rw [h]; rfl⟩
theorem stepW_le (x : List UInt8) : (stepW sg x).length ≤ 2 := List.length_filterMap_le _ _
theorem runW_app (u : List UInt8) : ∀ (x v : List UInt8), runW sg x (u ++ v) = (runW sg x u).bind fun y => runW sg y v := by
  induction u with
  | nil => intro x v; rfl
  | cons c u ih =>
    intro x v
    show (sg c x).bind _ = ((sg c x).bind _).bind _
    cases h : sg c x with
    | none => rfl
    | some y => exact ih y v
theorem mem_wl (hTF : ∀ c x y, sg c x = some y → c = 70 ∨ c = 84) (P : List UInt8 → Bool) : ∀ (n : Nat) (x u : List UInt8), u ∈ wl sg P n x ↔ u.length = n ∧ ∃ y, runW sg x u = some y ∧ P y = true
  | 0, x, u => by
    unfold wl
    constructor
    · intro h
      split at h
      · rename_i hp
        have : u = [] := by simpa using h
        subst this
        exact ⟨rfl, x, rfl, hp⟩
      · simp at h
    · rintro ⟨h0, y, hy, hp⟩
      have : u = [] := List.eq_nil_of_length_eq_zero h0
      subst this
      injection hy with hy
      subst hy
      rw [if_pos hp]
      simp
  | n + 1, x, u => by
    unfold wl
    rw [List.mem_flatMap]
    constructor
    · rintro ⟨⟨c, y⟩, hp, hu⟩
      rw [List.mem_map] at hu
      obtain ⟨v, hv, rfl⟩ := hu
      obtain ⟨hl, z, hz, hP⟩ := (mem_wl hTF P n y v).1 hv
      refine ⟨by simp [hl], z, ?_, hP⟩
      show (sg c x).bind _ = _
      rw [(mem_stepW.1 hp).2]
      exact hz
    · rintro ⟨hl, z, hz, hP⟩
      match u, hl, hz with
      | c :: v, hl, hz =>
        have hz : ((sg c x).bind fun y => runW sg y v) = some z := hz
        cases h : sg c x with
        | none => rw [h] at hz; cases hz
        | some y =>
          rw [h] at hz
          refine ⟨(c, y), mem_stepW.2 ⟨hTF c x y h, h⟩, ?_⟩
          rw [List.mem_map]
          exact ⟨v, (mem_wl hTF P n y v).2 ⟨by simpa using hl, z, hz, hP⟩, rfl⟩
theorem cons_lt (c : UInt8) {u v : List UInt8} (h : u < v) : c :: u < c :: v := List.Lex.cons h
theorem rising_cons (c : UInt8) {l : List (List UInt8)} (h : Rising l) : Rising (l.map (c :: ·)) := by
  unfold Rising at h ⊢
  rw [List.pairwise_map]
  exact h.imp fun hab => cons_lt c hab
/-- They come in order. -/
theorem wl_rising (P : List UInt8 → Bool) : ∀ (n : Nat) (x : List UInt8), Rising (wl sg P n x)
  | 0, x => by
    unfold wl
    split <;> simp [Rising]
  | n + 1, x => by
    have e : wl sg P (n + 1) x = (match sg 70 x with | some y => (wl sg P n y).map (70 :: ·) | none => []) ++ (match sg 84 x with | some y => (wl sg P n y).map (84 :: ·) | none => []) := by
      show (stepW sg x).flatMap _ = _
      unfold stepW
      cases h1 : sg 70 x <;> cases h2 : sg 84 x <;> simp [h1, h2]
    rw [e]
    unfold Rising
    rw [List.pairwise_append]
    refine ⟨?_, ?_, ?_⟩
    · split
      · exact rising_cons 70 (wl_rising P n _)
      · exact List.Pairwise.nil
    · split
      · exact rising_cons 84 (wl_rising P n _)
      · exact List.Pairwise.nil
    · intro a ha b hb
      split at ha
      · split at hb
        · obtain ⟨u, _, rfl⟩ := List.mem_map.1 ha
          obtain ⟨v, _, rfl⟩ := List.mem_map.1 hb
          exact List.Lex.rel (by decide)
        · cases hb
      · cases ha
theorem wl_none (P : List UInt8 → Bool) (hTF : ∀ c x y, sg c x = some y → c = 70 ∨ c = 84) (x : List UInt8) (h : ∀ u y, runW sg x u = some y → P y = false) (n : Nat) : wl sg P n x = [] := by
  apply List.eq_nil_iff_forall_not_mem.2
  intro u hu
  obtain ⟨_, y, hy, hp⟩ := (mem_wl hTF P n x u).1 hu
  rw [h u y hy] at hp
  cases hp
theorem wl_congr {P Q : List UInt8 → Bool} (hTF : ∀ c x y, sg c x = some y → c = 70 ∨ c = 84) (n : Nat) (x : List UInt8) (h : ∀ u y, u.length = n → runW sg x u = some y → P y = Q y) : wl sg P n x = wl sg Q n x := by
  refine rising_ext (wl_rising P n x) (wl_rising Q n x) fun u => ?_
  rw [mem_wl hTF, mem_wl hTF]
  constructor
  · rintro ⟨hl, y, hy, hp⟩
    exact ⟨hl, y, hy, by rw [← h u y hl hy]; exact hp⟩
  · rintro ⟨hl, y, hy, hp⟩
    exact ⟨hl, y, hy, by rw [h u y hl hy]; exact hp⟩
theorem it_run (lead : List UInt8 → Bool) (x : List UInt8) : ∀ (k : Nat), ∀ b ∈ itB sg lead x k, runW sg x b.1 = some b.2 ∧ b.1.length = k ∧ (0 < k → lead b.2 = true)
  | 0, b, hb => by
    have : b = ([], x) := by simpa [itB] using hb
    subst this
    exact ⟨rfl, rfl, fun h => absurd h (Nat.lt_irrefl _)⟩
  | k + 1, b, hb => by
    have hb : b ∈ nxtB sg lead (itB sg lead x k) := hb
    unfold nxtB at hb
    rw [List.mem_flatMap] at hb
    obtain ⟨a, ha, hb⟩ := hb
    rw [List.mem_map] at hb
    obtain ⟨⟨c, y⟩, hp, rfl⟩ := hb
    rw [List.mem_filter] at hp
    obtain ⟨h1, h2, _⟩ := it_run lead x k a ha
    refine ⟨?_, by simp [h2], fun _ => hp.2⟩
    show runW sg x (a.1 ++ [c]) = some y
    rw [runW_app, h1]
    show (sg c a.2).bind _ = _
    rw [(mem_stepW.1 hp.1).2]
    rfl
theorem flat_flat {α β γ : Type} (l : List α) (f : α → List β) (g : β → List γ) : (l.flatMap f).flatMap g = l.flatMap fun a => (f a).flatMap g := by
  induction l with
  | nil => rfl
  | cons a l ih => simp [List.flatMap_cons, List.flatMap_append, ih]
theorem it_wl (P lead : List UInt8 → Bool) (hl : ∀ y, lead y = false → ∀ m, wl sg P m y = []) (x : List UInt8) : ∀ (k m : Nat), (itB sg lead x k).flatMap (fun b => (wl sg P m b.2).map (b.1 ++ ·)) = wl sg P (k + m) x
  | 0, m => by simp [itB]
  | k + 1, m => by
    rw [show k + 1 + m = k + (m + 1) by omega, ← it_wl P lead hl x k (m + 1)]
    show (nxtB sg lead (itB sg lead x k)).flatMap _ = _
    unfold nxtB
    rw [flat_flat]
    congr 1
    funext b
    show _ = ((stepW sg b.2).flatMap fun p => (wl sg P m p.2).map (p.1 :: ·)).map (b.1 ++ ·)
    generalize stepW sg b.2 = l
    induction l with
    | nil => rfl
    | cons p l ih =>
      rw [List.flatMap_cons, List.map_append, ← ih, List.filter_cons]
      cases h : lead p.2
      · simp [hl p.2 h m]
      · simp [List.map_map, List.flatMap_cons]
theorem it_words (P lead : List UInt8 → Bool) (hl : ∀ y, lead y = false → ∀ m, wl sg P m y = []) (x : List UInt8) (n : Nat) (hp : ∀ b ∈ itB sg lead x n, P b.2 = true) : (itB sg lead x n).map (·.1) = wl sg P n x := by
  rw [show wl sg P n x = wl sg P (n + 0) x from rfl, ← it_wl P lead hl x n 0]
  generalize itB sg lead x n = B at hp
  induction B with
  | nil => rfl
  | cons b B ih =>
    rw [List.map_cons, List.flatMap_cons, ← ih fun a ha => hp a (List.mem_cons_of_mem _ ha)]
    have : wl sg P 0 b.2 = [[]] := by unfold wl; rw [if_pos (hp b (List.mem_cons_self ..))]
    rw [this]
    simp
theorem nxtB_le (lead : List UInt8 → Bool) (B : List (List UInt8 × List UInt8)) : (nxtB sg lead B).length ≤ 2 * B.length := by
  induction B with
  | nil => simp [nxtB]
  | cons b B ih =>
    have e : nxtB sg lead (b :: B) = (((stepW sg b.2).filter fun p => lead p.2).map fun p => (b.1 ++ [p.1], p.2)) ++ nxtB sg lead B := by simp [nxtB, List.flatMap_cons]
    rw [e, List.length_append, List.length_map, List.length_cons]
    have h1 := List.length_filter_le (fun p : UInt8 × List UInt8 => lead p.2) (stepW sg b.2)
    have h2 := stepW_le (sg := sg) b.2
    omega
theorem itB_le (lead : List UInt8 → Bool) (x : List UInt8) : ∀ k, (itB sg lead x k).length ≤ 2 ^ k
  | 0 => by simp [itB]
  | k + 1 => by
    have h1 := nxtB_le (sg := sg) lead (itB sg lead x k)
    have h2 := itB_le lead x k
    show (nxtB sg lead (itB sg lead x k)).length ≤ _
    rw [Nat.pow_succ]
    omega
theorem wl_le (P : List UInt8 → Bool) : ∀ (n : Nat) (x : List UInt8), (wl sg P n x).length ≤ 2 ^ n
  | 0, x => by unfold wl; split <;> simp
  | n + 1, x => by
    show ((stepW sg x).flatMap fun p => (wl sg P n p.2).map (p.1 :: ·)).length ≤ _
    have h2 := stepW_le (sg := sg) x
    have : ∀ l : List (UInt8 × List UInt8), (l.flatMap fun p => (wl sg P n p.2).map (p.1 :: ·)).length ≤ l.length * 2 ^ n := by
      intro l
      induction l with
      | nil => simp
      | cons p l ih =>
        rw [List.flatMap_cons, List.length_append, List.length_map, List.length_cons, Nat.succ_mul]
        have := wl_le P n p.2
        omega
    have h3 := this (stepW sg x)
    have h4 : (stepW sg x).length * 2 ^ n ≤ 2 * 2 ^ n := Nat.mul_le_mul_right _ h2
    rw [Nat.pow_succ]
    omega
end
end Go.Proofs.Ytoefeooldcbfiaa
namespace Go.Proofs.Ytoefeooldcbfiaa
/-- The first move of a kind. -/
def mvW (c : UInt8) (x : List UInt8) : Option (Int × Int) := (mvsTo (canM (str x)) (str x) (str x).size).find? fun m => decide (sgAt (str x) m.1 = c)
/-- The line behind it. -/
def sgW (c : UInt8) (x : List UInt8) : Option (List UInt8) := if c = 70 ∨ c = 84 then (mvW c x).map fun m => behind (str x) m.1 m.2 else none
theorem sgW_tf : ∀ c x y, sgW c x = some y → c = 70 ∨ c = 84 := by
  intro c x y h
  unfold sgW at h
  split at h
  · assumption
  · cases h
theorem mvW_can {c : UInt8} {x : List UInt8} {m : Int × Int} (h : mvW c x = some m) : canM (str x) m.1 m.2 = true ∧ sgAt (str x) m.1 = c := by
  unfold mvW at h
  have h1 := List.find?_some h
  have h2 := List.mem_of_find?_eq_some h
  exact ⟨(mem_moves (str x) m.1 m.2).1 h2, of_decide_eq_true h1⟩
theorem sgW_mv {c : UInt8} {x y : List UInt8} (h : sgW c x = some y) : ∃ m, mvW c x = some m ∧ y = behind (str x) m.1 m.2 := by
  unfold sgW at h
  split at h
  · cases hm : mvW c x with
    | none => rw [hm] at h; cases h
    | some m =>
      rw [hm] at h
      injection h with h
      exact ⟨m, rfl, h.symm⟩
  · cases h
theorem sgW_nx {c : UInt8} {x y : List UInt8} (h : sgW c x = some y) : y ∈ nxL x := by
  obtain ⟨m, hm, rfl⟩ := sgW_mv h
  exact List.mem_map.2 ⟨m, (mem_moves (str x) m.1 m.2).2 (mvW_can hm).1, rfl⟩
/-- One gap. -/
abbrev oneL (x : List UInt8) : Prop := cnt 46 x = 1
theorem cntW_app (c : UInt8) (a b : List UInt8) : cnt c (a ++ b) = cnt c a + cnt c b := by simp [cnt, List.filter_append]
theorem cnt_has (c : UInt8) : ∀ (l : List UInt8) (i : Nat) (h : i < l.length), l[i] = c → 1 ≤ cnt c l
  | [], i, h, _ => by simp at h
  | d :: l, 0, _, e => by
    rw [cnt_cons]
    have : d = c := e
    rw [if_pos this]; omega
  | d :: l, i + 1, h, e => by
    rw [cnt_cons]
    have := cnt_has c l i (by simpa using h) (by simpa using e)
    omega
theorem one_at (c : UInt8) (l : List UInt8) (h1 : cnt c l = 1) (i j : Nat) (hij : i < j) (hj : j < l.length) (ei : l[i]'(by omega) = c) (ej : l[j] = c) : False := by
  have e := List.take_append_drop (i + 1) l
  have h := cntW_app c (l.take (i + 1)) (l.drop (i + 1))
  rw [e, h1] at h
  have a := cnt_has c (l.take (i + 1)) i (by rw [List.length_take]; omega) (by rw [List.getElem_take]; exact ei)
  have b := cnt_has c (l.drop (i + 1)) (j - (i + 1)) (by rw [List.length_drop]; omega) (by rw [List.getElem_drop]; simp only [show i + 1 + (j - (i + 1)) = j by omega]; exact ej)
  omega
theorem one_gap {x : List UInt8} (h1 : oneL x) {t r : Int} (ht : sgAt (str x) t = 46) (hr : sgAt (str x) r = 46) : t = r := by
  have it := sg_range (str x) t (by rw [ht]; decide)
  have ir := sg_range (str x) r (by rw [hr]; decide)
  obtain ⟨a, rfl⟩ := Int.eq_ofNat_of_zero_le it.1
  obtain ⟨b, rfl⟩ := Int.eq_ofNat_of_zero_le ir.1
  have ha : a < (str x).size := by omega
  have hb : b < (str x).size := by omega
  rw [sgAt_in _ a ha] at ht
  rw [sgAt_in _ b hb] at hr
  have la : a < x.length := by rw [← str_size x]; exact ha
  have lb : b < x.length := by rw [← str_size x]; exact hb
  have ea : x[a] = 46 := ht
  have eb : x[b] = 46 := hr
  rcases Nat.lt_trichotomy a b with h | h | h
  · exact (one_at 46 x h1 a b h lb ea eb).elim
  · rw [h]
  · exact (one_at 46 x h1 b a h la eb ea).elim
/-- With one gap, a kind has one move at most. -/
theorem same_move {x : List UInt8} (h1 : oneL x) {f t g r : Int} (h : canM (str x) f t = true) (h' : canM (str x) g r = true) (hs : sgAt (str x) f = sgAt (str x) g) : f = g ∧ t = r := by
  obtain ⟨_, _, e46, hk⟩ := (canM_iff _ _ _).1 h
  obtain ⟨_, _, e46', hk'⟩ := (canM_iff _ _ _).1 h'
  have e := one_gap h1 e46 e46'
  subst e
  refine ⟨?_, rfl⟩
  rcases hk with ⟨k84, hk⟩ | ⟨k70, hk⟩
  · rcases hk' with ⟨_, hk'⟩ | ⟨k70', _⟩
    · rcases hk with e1 | ⟨e1, b1⟩ <;> rcases hk' with e2 | ⟨e2, b2⟩
      · omega
      · have : g + 1 = f := by omega
        rw [this, k84] at b2
        exact absurd b2 (by decide)
      · have : f + 1 = g := by omega
        rw [this, ← hs, k84] at b1
        exact absurd b1 (by decide)
      · omega
    · rw [k84, k70'] at hs; exact absurd hs (by decide)
  · rcases hk' with ⟨k84', _⟩ | ⟨_, hk'⟩
    · rw [k70, k84'] at hs; exact absurd hs (by decide)
    · rcases hk with e1 | ⟨e1, b1⟩ <;> rcases hk' with e2 | ⟨e2, b2⟩
      · omega
      · have : g + -1 = f := by omega
        rw [this, k70] at b2
        exact absurd b2 (by decide)
      · have : f + -1 = g := by omega
        rw [this, ← hs, k70] at b1
        exact absurd b1 (by decide)
      · omega
theorem mvW_of {x : List UInt8} (h1 : oneL x) {m : Int × Int} (h : canM (str x) m.1 m.2 = true) : mvW (sgAt (str x) m.1) x = some m := by
  cases hm : mvW (sgAt (str x) m.1) x with
  | none =>
    unfold mvW at hm
    rw [List.find?_eq_none] at hm
    exact absurd (by simp) (hm m ((mem_moves (str x) m.1 m.2).2 h))
  | some r =>
    obtain ⟨hc, hs⟩ := mvW_can hm
    obtain ⟨e1, e2⟩ := same_move h1 hc h hs
    exact congrArg some (Prod.ext e1 e2)
theorem can_tf {s : ByteArray} {f t : Int} (h : canM s f t = true) : sgAt s f = 70 ∨ sgAt s f = 84 := by
  rcases ((canM_iff _ _ _).1 h).2.2.2 with ⟨h, _⟩ | ⟨h, _⟩
  · exact .inr h
  · exact .inl h
theorem nx_sg {x y : List UInt8} (h1 : oneL x) (h : y ∈ nxL x) : ∃ c, sgW c x = some y := by
  obtain ⟨m, hc, rfl⟩ := mem_nxL h
  refine ⟨sgAt (str x) m.1, ?_⟩
  unfold sgW
  rw [if_pos (can_tf hc), mvW_of h1 hc]
  rfl
theorem nx_one {x y : List UInt8} (h1 : oneL x) (h : y ∈ nxL x) : oneL y := by
  obtain ⟨m, hc, rfl⟩ := mem_nxL h
  have := behind_cnt 46 hc
  rw [byt_str] at this
  unfold oneL
  rw [this]; exact h1
theorem lay_one {x : List UInt8} (h1 : oneL x) : ∀ (k : Nat) (y : List UInt8), y ∈ lay nxL x k → oneL y
  | 0, y, h => by
    have : y = x := by simpa [lay] using h
    rw [this]; exact h1
  | k + 1, y, h => by
    obtain ⟨u, hu, hy⟩ := (mem_lay_next k y).1 h
    exact nx_one (lay_one h1 k u hu) hy
/-- What is reached by moves is reached by words. -/
theorem lay_run {x : List UInt8} (h1 : oneL x) : ∀ (k : Nat) (y : List UInt8), y ∈ lay nxL x k ↔ ∃ u, u.length = k ∧ runW sgW x u = some y
  | 0, y => by
    constructor
    · intro h
      have : y = x := by simpa [lay] using h
      exact ⟨[], rfl, by rw [this]; rfl⟩
    · rintro ⟨u, hu, hr⟩
      have : u = [] := List.eq_nil_of_length_eq_zero hu
      subst this
      injection hr with hr
      subst hr
      simp [lay]
  | k + 1, y => by
    rw [mem_lay_next]
    constructor
    · rintro ⟨z, hz, hy⟩
      obtain ⟨u, hu, hr⟩ := (lay_run h1 k z).1 hz
      obtain ⟨c, hc⟩ := nx_sg (lay_one h1 k z hz) hy
      refine ⟨u ++ [c], by simp [hu], ?_⟩
      rw [runW_app, hr]
      show (sgW c z).bind _ = _
      rw [hc]
      rfl
    · rintro ⟨u, hu, hr⟩
      rcases List.eq_nil_or_concat u with rfl | ⟨v, c, rfl⟩
      · simp at hu
      · rw [List.concat_eq_append, runW_app] at hr
        cases hz : runW sgW x v with
        | none => rw [hz] at hr; cases hr
        | some z =>
          rw [hz] at hr
          have hr : (sgW c z).bind (fun y => runW sgW y []) = some y := hr
          cases hc : sgW c z with
          | none => rw [hc] at hr; cases hr
          | some y' =>
            rw [hc] at hr
            injection hr with hr
            have hr : y' = y := hr
            subst hr
            exact ⟨z, (lay_run h1 k z).2 ⟨v, by simpa using hu, hz⟩, sgW_nx hc⟩
end Go.Proofs.Ytoefeooldcbfiaa
namespace Go.Proofs.Ytoefeooldcbfiaa
theorem mem_bef (u l : List UInt8) : u ∈ befL l ↔ l ∈ nxL u := by
  show u ∈ upB (str l) (str l).size 0 ↔ _
  rw [up_iff]
theorem bef_few (l : List UInt8) : (befL l).length ≤ l.length := by
  have h := bef_sorted l
  have h2 := congrArg List.length h
  rw [List.length_mergeSort, List.length_map] at h2
  have := nxL_len l.reverse
  rw [List.length_reverse] at this
  omega
theorem good_rev {n : Nat} {l : List UInt8} (h : goodT n l) : goodT n l.reverse := by
  obtain ⟨h1, h2, h3⟩ := h
  obtain ⟨a, b, c⟩ := (goodL_iff _).1 h1
  rw [str_size] at a b
  rw [byt_str] at c
  exact ⟨(goodL_iff _).2 ⟨by rw [str_size, List.length_reverse]; exact a, by rw [str_size, List.length_reverse]; exact b, by rw [byt_str, List.all_reverse]; exact c⟩, by rw [List.length_reverse]; exact h2, h3⟩
theorem bef_good {n : Nat} {l u : List UInt8} (h : goodT n l) (hu : u ∈ befL l) : goodT n u := by
  rw [mem_bef, nx_rev] at hu
  have := good_rev ((steps_line n).keeps _ _ (good_rev h) hu)
  rwa [List.reverse_reverse] at this
theorem lay_first (y e : List UInt8) : ∀ m, e ∈ lay nxL y (m + 1) ↔ ∃ z ∈ nxL y, e ∈ lay nxL z m
  | 0 => by
    rw [mem_lay_next]
    constructor
    · rintro ⟨u, hu, h⟩
      have : u = y := by simpa [lay] using hu
      subst this
      exact ⟨e, h, by simp [lay]⟩
    · rintro ⟨z, hz, h⟩
      have : e = z := by simpa [lay] using h
      subst this
      exact ⟨y, by simp [lay], hz⟩
  | m + 1 => by
    rw [mem_lay_next]
    constructor
    · rintro ⟨u, hu, h⟩
      obtain ⟨z, hz, hz2⟩ := (lay_first y u m).1 hu
      exact ⟨z, hz, (mem_lay_next m e).2 ⟨u, hz2, h⟩⟩
    · rintro ⟨z, hz, h⟩
      obtain ⟨u, hu, h2⟩ := (mem_lay_next m e).1 h
      exact ⟨u, (lay_first y u m).2 ⟨z, hz, hu⟩, h2⟩
/-- A line from which one of some ends is reached. -/
def Ld (ends : List (List UInt8)) (y : List UInt8) : Prop := ∃ e ∈ ends, ∃ m, e ∈ lay nxL y m
theorem Ld.end_ {ends : List (List UInt8)} {y : List UInt8} (h : y ∈ ends) : Ld ends y := ⟨y, h, 0, by simp [lay]⟩
theorem Ld.step {ends : List (List UInt8)} {y z : List UInt8} (h : Ld ends z) (hz : z ∈ nxL y) : Ld ends y := by
  obtain ⟨e, he, m, hm⟩ := h
  exact ⟨e, he, m + 1, (lay_first y e m).2 ⟨z, hz, hm⟩⟩
/-- What the search holds. -/
structure LdI (n : Nat) (ends : List (List UInt8)) (k : Nat) (Q M : List (List UInt8)) : Prop where
  pre : ∀ e ∈ ends, e ∈ Q
  done : ∀ j (h : j < Q.length), j < k → Q[j] ∈ M
  sub : ∀ v ∈ M, v ∈ Q
  clo : ∀ v ∈ M, ∀ u ∈ befL v, u ∈ Q
  ld : ∀ q ∈ Q, Ld ends q
  gd : ∀ q ∈ Q, goodT n q
  nd : M.Nodup
  len : Q.length ≤ ends.length + 10 * M.length
  kle : k ≤ Q.length
theorem LdI.start {n : Nat} {ends : List (List UInt8)} (hg : ∀ e ∈ ends, goodT n e) : LdI n ends 0 ends [] :=
  ⟨fun _ h => h, fun j _ h => absurd h (Nat.not_lt_zero j), fun v h => (by cases h), fun v h => (by cases h), fun _ h => Ld.end_ h, hg, List.nodup_nil, by omega, Nat.zero_le _⟩
theorem LdI.few {n k : Nat} {ends Q M : List (List UInt8)} (h : LdI n ends k Q M) : M.length ≤ 59049 := few_good h.nd fun v hv => h.gd v (h.sub v hv)
theorem LdI.old {n k : Nat} {ends Q M : List (List UInt8)} (h : LdI n ends k Q M) (hk : k < Q.length) (hx : Q[k] ∈ M) : LdI n ends (k + 1) Q M :=
  { h with
    done := fun j hj hjk => by
      by_cases e : j = k
      · subst e; exact hx
      · exact h.done j hj (by omega)
    kle := hk }
theorem LdI.new {n k : Nat} {ends Q M : List (List UInt8)} (h : LdI n ends k Q M) (hk : k < Q.length) (hx : Q[k] ∉ M) : LdI n ends (k + 1) (Q ++ befL Q[k]) (M ++ [Q[k]]) where
  pre e he := List.mem_append.2 (.inl (h.pre e he))
  done j hj hjk := by
    by_cases e : j = k
    · subst e
      rw [List.getElem_append_left hk]
      simp
    · have hj2 : j < Q.length := by omega
      rw [List.getElem_append_left hj2]
      exact List.mem_append.2 (.inl (h.done j hj2 (by omega)))
  sub v hv := by
    rcases List.mem_append.1 hv with hv | hv
    · exact List.mem_append.2 (.inl (h.sub v hv))
    · have : v = Q[k] := by simpa using hv
      rw [this]
      exact List.mem_append.2 (.inl (List.getElem_mem hk))
  clo v hv u hu := by
    rcases List.mem_append.1 hv with hv | hv
    · exact List.mem_append.2 (.inl (h.clo v hv u hu))
    · have : v = Q[k] := by simpa using hv
      rw [this] at hu
      exact List.mem_append.2 (.inr hu)
  ld q hq := by
    rcases List.mem_append.1 hq with hq | hq
    · exact h.ld q hq
    · exact (h.ld _ (List.getElem_mem hk)).step ((mem_bef _ _).1 hq)
  gd q hq := by
    rcases List.mem_append.1 hq with hq | hq
    · exact h.gd q hq
    · exact bef_good (h.gd _ (List.getElem_mem hk)) hq
  nd := List.nodup_append.2 ⟨h.nd, by simp, fun a ha b hb e => hx (by
    have : b = Q[k] := by simpa using hb
    rw [← this, ← e]; exact ha)⟩
  len := by
    have h1 := h.len
    have h2 := bef_few Q[k]
    have h3 := (h.gd _ (List.getElem_mem hk)).2
    rw [List.length_append, List.length_append, List.length_singleton]
    omega
  kle := by rw [List.length_append]; omega
theorem LdI.fin {n : Nat} {ends Q M : List (List UInt8)} (h : LdI n ends Q.length Q M) (v : List UInt8) : v ∈ M ↔ Ld ends v := by
  have all : ∀ q ∈ Q, q ∈ M := fun q hq => by
    obtain ⟨j, hj, rfl⟩ := List.mem_iff_getElem.1 hq
    exact h.done j hj hj
  constructor
  · exact fun hv => h.ld v (h.sub v hv)
  · rintro ⟨e, he, m, hm⟩
    induction m generalizing v with
    | zero =>
      have : e = v := by simpa [lay] using hm
      subst this
      exact all e (h.pre e he)
    | succ m ih =>
      obtain ⟨z, hz, hm⟩ := (lay_first v e m).1 hm
      exact all v (h.clo z (ih z hm) v ((mem_bef v z).2 hz))
end Go.Proofs.Ytoefeooldcbfiaa
namespace Go.Proofs.Ytoefeooldcbfiaa
/-- Ways told by pairs: of the signs so far. -/
theorem way_pairs (b : Nat) (l : List UInt8) (h : l.all isSign = true) : ∃ ft gt gf tg : Nat,
    wayAt b l = (b * cnt 84 l : Nat) - ft - gt + (pairSt l).1 + gf ∧ cnt 84 l * cnt 70 l = (pairSt l).1 + ft ∧ cnt 84 l * cnt 46 l = gt + tg ∧ gf ≤ cnt 46 l * cnt 70 l ∧ (pairSt l).2 = cnt 84 l := by
  suffices H : ∀ r : List UInt8, r.reverse.all isSign = true → ∃ ft gt gf tg : Nat,
      wayAt b r.reverse = (b * cnt 84 r.reverse : Nat) - ft - gt + (pairSt r.reverse).1 + gf ∧ cnt 84 r.reverse * cnt 70 r.reverse = (pairSt r.reverse).1 + ft ∧ cnt 84 r.reverse * cnt 46 r.reverse = gt + tg ∧ gf ≤ cnt 46 r.reverse * cnt 70 r.reverse ∧ (pairSt r.reverse).2 = cnt 84 r.reverse by
    have := H l.reverse (by rwa [List.reverse_reverse])
    rwa [List.reverse_reverse] at this
  intro r
  induction r with
  | nil =>
    intro _
    exact ⟨0, 0, 0, 0, by simp [wayAt, pl, cnt, sumSt, pairSt], by simp [cnt, pairSt], by simp [cnt], by simp [cnt], by simp [cnt, pairSt]⟩
  | cons c r ih =>
    intro h
    rw [List.reverse_cons, List.all_append, Bool.and_eq_true] at h
    obtain ⟨ft, gt, gf, tg, e1, e2, e3, e4, e5⟩ := ih h.1
    have hsum := cnt_sum r.reverse h.1
    have hc : isSign c = true := by simpa using h.2
    rw [List.reverse_cons]
    generalize r.reverse = p at *
    have hp := pairSt_snoc p c
    unfold pairStep at hp
    rcases sign_cases c with rfl | rfl | rfl | h3
    · have w1 := wayAt_snoc b p 84
      rw [if_pos rfl] at w1
      rw [if_pos rfl] at hp
      refine ⟨ft + cnt 70 p, gt + cnt 46 p, gf, tg, ?_, ?_, ?_, ?_, ?_⟩
      · rw [w1, e1, hp, cnt_snoc, if_pos rfl, Nat.mul_succ]
        show _ = _ - _ - _ + (((pairSt p).1 : Nat) : Int) + _
        push_cast
        omega
      · rw [hp, cnt_snoc, cnt_snoc, if_pos rfl, if_neg (by decide), Nat.succ_mul, Nat.add_zero]
        show _ = (pairSt p).1 + _
        omega
      · rw [cnt_snoc, cnt_snoc, if_pos rfl, if_neg (by decide), Nat.succ_mul, Nat.add_zero]
        omega
      · rw [cnt_snoc, cnt_snoc, if_neg (by decide), if_neg (by decide), Nat.add_zero, Nat.add_zero]
        exact e4
      · rw [hp, cnt_snoc, if_pos rfl]
        show (pairSt p).2 + 1 = _
        rw [e5]
    · have w1 := wayAt_snoc b p 70
      rw [if_neg (by decide), if_pos rfl] at w1
      rw [if_neg (by decide), if_pos rfl] at hp
      refine ⟨ft, gt, gf + cnt 46 p, tg, ?_, ?_, ?_, ?_, ?_⟩
      · rw [w1, e1, hp, cnt_snoc, if_neg (by decide), Nat.add_zero]
        show _ = _ - _ - _ + (((pairSt p).1 + (pairSt p).2 : Nat) : Int) + _
        rw [e5]
        push_cast
        omega
      · rw [hp, cnt_snoc, cnt_snoc, if_neg (by decide), if_pos rfl, Nat.mul_succ, Nat.add_zero]
        show _ = (pairSt p).1 + (pairSt p).2 + _
        rw [e5]
        omega
      · rw [cnt_snoc, cnt_snoc, if_neg (by decide), if_neg (by decide), Nat.add_zero, Nat.add_zero]
        exact e3
      · rw [cnt_snoc, cnt_snoc, if_neg (by decide), if_pos rfl, Nat.mul_succ, Nat.add_zero]
        omega
      · rw [hp, cnt_snoc, if_neg (by decide)]
        exact e5
    · have w1 := wayAt_snoc b p 46
      rw [if_neg (by decide), if_neg (by decide)] at w1
      rw [if_neg (by decide), if_neg (by decide)] at hp
      refine ⟨ft, gt, gf, tg + cnt 84 p, ?_, ?_, ?_, ?_, ?_⟩
      · rw [w1, e1, hp, cnt_snoc, if_neg (by decide), Nat.add_zero]
        omega
      · rw [hp, cnt_snoc, cnt_snoc, if_neg (by decide), if_neg (by decide), Nat.add_zero, Nat.add_zero]
        exact e2
      · rw [cnt_snoc, cnt_snoc, if_neg (by decide), if_pos rfl, Nat.mul_succ, Nat.add_zero]
        omega
      · rw [cnt_snoc, cnt_snoc, if_pos rfl, if_neg (by decide), Nat.succ_mul, Nat.add_zero]
        omega
      · rw [hp, cnt_snoc, if_neg (by decide)]
        exact e5
    · rw [h3] at hc; cases hc
theorem prod_few : ∀ t f : Nat, t + f ≤ 9 → t * f ≤ 20 := by
  have h : ∀ t, t < 10 → t * (9 - t) ≤ 20 := by decide
  intro t f hf
  exact Nat.le_trans (Nat.mul_le_mul_left t (show f ≤ 9 - t by omega)) (h t (by omega))
theorem ms_bounds {n : Nat} {l : List UInt8} (h : goodT n l) (h1 : oneL l) : 0 ≤ msL l ∧ msL l ≤ 29 := by
  have hall : l.all isSign = true := by have := ((goodL_iff _).1 h.1).2.2; rwa [byt_str] at this
  have hs := cnt_sum l hall
  obtain ⟨ft, gt, gf, tg, e1, e2, e3, e4, _⟩ := way_pairs (l.length - cnt 84 l) l hall
  rw [wayAt_all l hall] at e1
  have hb : l.length - cnt 84 l = cnt 46 l + cnt 70 l := by omega
  have hn := h.2
  have hp := prod_few (cnt 84 l) (cnt 70 l) (by have : cnt 46 l = 1 := h1; omega)
  have h1 : cnt 46 l = 1 := h1
  rw [hb, Nat.add_mul, h1, Nat.mul_comm (cnt 70 l)] at e1
  rw [h1] at e3 e4
  unfold msL
  rw [e1]
  push_cast at *
  omega
theorem lay_few {n : Nat} {x v : List UInt8} (hx : goodT n x) (h1 : oneL x) {k : Nat} (hv : v ∈ lay nxL x k) : k ≤ 29 := by
  obtain ⟨a, b, _⟩ := lay_good (steps_line n) hx k v hv
  have c := (ms_bounds hx h1).2
  have d := (ms_bounds a (lay_one h1 k v hv)).1
  omega
end Go.Proofs.Ytoefeooldcbfiaa
