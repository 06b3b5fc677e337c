/- FirstShortest: moves by a rule told backwards; which play it makes; no walk. -/
import Derived.Test.YtdcbjbmnkajjcaaRuW
import Derived.Test.YtdcbjbmnkajjcaaRuA
namespace Go.Proofs.Ytdcbjbmnkajjcaa
open Go.RowKit

theorem good_revF {n : Nat} {l : List UInt8} (h : goodT n l) : goodT n l.reverse := by
  obtain ⟨h1, h2, h3⟩ := (goodL_iff _).1 h.1
  rw [str_size] at h1 h2
  rw [byt_str] at h3
  refine ⟨(goodL_iff _).2 ⟨by rw [str_size, List.length_reverse]; exact h1, by rw [str_size, List.length_reverse]; exact h2, ?_⟩, by rw [List.length_reverse]; exact h.2.1, h.2.2⟩
  rw [byt_str, List.all_eq_true]
  rw [List.all_eq_true] at h3
  exact fun x hx => h3 x (List.mem_reverse.1 hx)
theorem sg_rev (u : List UInt8) (x y : Nat) (h : x + y + 1 = u.length) : sgAt (str u.reverse) x = sgAt (str u) y := by
  rw [sgAt_in _ x (by rw [str_size, List.length_reverse]; omega), sgAt_in _ y (by rw [str_size]; omega)]
  show u.reverse[x]'(by rw [List.length_reverse]; omega) = u[y]'(by omega)
  rw [List.getElem_reverse]
  congr 1
  omega
/-- A move told backwards goes by the same rule. -/
theorem ruC_rev {u : List UInt8} {o b l : Bool} {a c a' c' : Nat} (hA : a' + a + 1 = u.length) (hC : c' + c + 1 = u.length) (hne : a ≠ c) (h : ruC (str u) o b l a c = true) :
    ruC (str (putL (str u) a c).reverse) o b l c' a' = true := by
  have hs := ruC_sg h
  have hu : (str u).size = u.length := str_size u
  have hz : (str (putL (str u) a c).reverse).size = (str u).size := by rw [str_size, List.length_reverse, putL_len]
  have hl : (putL (str u) a c).length = u.length := by rw [putL_len, str_size]
  have hv : ∀ x y : Nat, x + y + 1 = u.length → sgAt (str (putL (str u) a c).reverse) x = if y = a then 46 else if y = c then sgAt (str u) a else sgAt (str u) y := fun x y hxy => by
    rw [sg_rev _ x y (by rw [hl]; exact hxy)]
    exact sg_put (str u) a c (by omega) y (by omega)
  have hva := hv a' a hA
  have hvc := hv c' c hC
  rw [if_pos rfl] at hva
  rw [if_neg (fun e => hne e.symm), if_pos rfl] at hvc
  have hdec : decide ((c' : Int) ≤ a') = decide ((a : Int) ≤ c) := by rw [decide_eq_decide]; omega
  have hw : wayR (c' : Int) (a' : Int) = wayR (a : Int) (c : Int) := by
    unfold wayR
    split <;> split <;> omega
  have hd : ((a' : Int) - c').natAbs = ((c : Int) - a).natAbs := by omega
  have i1 : inR (c' : Int) 0 ((str u).size - 1) = true := by unfold inR; simp; omega
  have i2 : inR (a' : Int) 0 ((str u).size - 1) = true := by unfold inR; simp; omega
  unfold ruC at h ⊢
  simp only [Bool.and_eq_true] at h
  obtain ⟨⟨⟨⟨⟨⟨h1, h2⟩, h3⟩, h3'⟩, h3''⟩, h4⟩, h5⟩ := h
  rw [hz, i1, i2, hva, hvc, hd, hw, hdec, h3, h3'', h4]
  simp only [Bool.true_and, Bool.and_true, beq_self_eq_true]
  unfold oversR at h5 ⊢
  rw [List.all_eq_true] at h5 ⊢
  intro k hk
  have hk := List.mem_range.1 hk
  have hb := h5 (((c : Int) - a).natAbs - 1 - 1 - k) (List.mem_range.2 (by omega))
  have hx : ∃ x y : Nat, (a : Int) + (((((c : Int) - a).natAbs - 1 - 1 - k : Nat) : Int) + 1) * wayR (a : Int) (c : Int) = y ∧ (c' : Int) + ((k : Int) + 1) * wayR (a : Int) (c : Int) = x ∧ x + y + 1 = u.length ∧ y ≠ a ∧ y ≠ c := by
    refine ⟨((c' : Int) + ((k : Int) + 1) * wayR (a : Int) (c : Int)).toNat, ((a : Int) + (((((c : Int) - a).natAbs - 1 - 1 - k : Nat) : Int) + 1) * wayR (a : Int) (c : Int)).toNat, ?_, ?_, ?_, ?_, ?_⟩
    all_goals
      unfold wayR
      split <;> omega
  obtain ⟨x, y, e1, e2, hxy, n1, n2⟩ := hx
  rw [e1] at hb
  rw [e2]
  unfold overB at hb ⊢
  rw [hvc, hv x y hxy, if_neg n1, if_neg n2]
  exact hb
theorem put_rev {u : List UInt8} {a c a' c' : Nat} (hA : a' + a + 1 = u.length) (hC : c' + c + 1 = u.length) (hne : a ≠ c) (h : sgAt (str u) c = 46) :
    putL (str (putL (str u) a c).reverse) c' a' = u.reverse := by
  have hu : (str u).size = u.length := str_size u
  have hl : (putL (str u) a c).length = u.length := by rw [putL_len, str_size]
  have hz : (str (putL (str u) a c).reverse).size = u.length := by rw [str_size, List.length_reverse, hl]
  refine List.ext_getElem? fun j => ?_
  by_cases hj : j < u.length
  · rw [putL_at _ c' a' j (by omega) (by omega), List.getElem?_eq_getElem (by rw [List.length_reverse]; exact hj)]
    congr 1
    have hx : ∀ (k y : Nat) (hk : k + y + 1 = u.length), (str (putL (str u) a c).reverse)[k]'(by omega) = if y = a then 46 else if y = c then sgAt (str u) a else sgAt (str u) y := fun k y hk => by
      rw [← sgAt_in _ k (by omega), sg_rev _ k y (by rw [hl]; exact hk)]
      exact sg_put (str u) a c (by omega) y (by omega)
    have hy : u.reverse[j]'(by rw [List.length_reverse]; exact hj) = sgAt (str u) ((u.length - 1 - j : Nat) : Int) := by
      rw [sgAt_in _ _ (by omega), List.getElem_reverse]
      rfl
    rw [hx c' c hC, hx j (u.length - 1 - j) (by omega), hy]
    by_cases e1 : j = c'
    · have : u.length - 1 - j = c := by omega
      rw [if_pos e1, this, h]
    · rw [if_neg e1]
      by_cases e2 : j = a'
      · have : u.length - 1 - j = a := by omega
        rw [if_pos e2, if_neg (fun e => hne e.symm), if_pos rfl, this]
      · rw [if_neg e2, if_neg (by omega), if_neg (by omega)]
  · rw [List.getElem?_eq_none (by rw [putL_len]; omega), List.getElem?_eq_none (by rw [List.length_reverse]; omega)]
theorem nxR_rev {o b l : Bool} {u v : List UInt8} (h : v ∈ nxR o b l u) : u.reverse ∈ nxR o b l v.reverse := by
  obtain ⟨f, t, hc, e⟩ := mem_nxR h
  have hs := ruC_sg hc
  obtain ⟨a, c, rfl, rfl, ha, hc2, hne⟩ := ruC_in hc
  have e2 : v = putL (str u) a c := e
  rw [str_size] at ha hc2
  have hA : (u.length - 1 - a) + a + 1 = u.length := by omega
  have hC : (u.length - 1 - c) + c + 1 = u.length := by omega
  have h1 := ruC_rev hA hC hne hc
  have h2 := put_rev hA hC hne hs.2
  rw [← e2] at h1 h2
  unfold nxR
  have hvl : v.length = u.length := by rw [e2, putL_len, str_size]
  refine List.mem_map.2 ⟨(((u.length - 1 - c : Nat) : Int), ((u.length - 1 - a : Nat) : Int)), (mem_ruTo _ _ _ _ _ _ _).2 ⟨by omega, by rw [str_size, List.length_reverse, hvl]; omega, h1⟩, ?_⟩
  exact h2
/-- The lines before, told backwards, are the lines behind. -/
theorem nxB_rev {o b l : Bool} {x u : List UInt8} : x ∈ nxB o b l u ↔ x.reverse ∈ nxR o b l u.reverse := by
  rw [nxB_iff]
  constructor
  · exact fun h => nxR_rev h.1
  · intro h
    have h2 := nxR_rev h
    rw [List.reverse_reverse, List.reverse_reverse] at h2
    exact ⟨h2, (nxR_length h2).symm⟩
theorem walkN_rev {o b l : Bool} {v : List UInt8} (k : Nat) : ∀ x, WalkN (nxB o b l) v k x ↔ WalkN (nxR o b l) v.reverse k x.reverse := by
  induction k with
  | zero =>
    intro x
    show x = v ↔ x.reverse = v.reverse
    exact List.reverse_inj.symm
  | succ k ih =>
    intro x
    show (∃ u, WalkN (nxB o b l) v k u ∧ x ∈ nxB o b l u) ↔ ∃ u, WalkN (nxR o b l) v.reverse k u ∧ x.reverse ∈ nxR o b l u
    constructor
    · rintro ⟨u, h1, h2⟩
      exact ⟨u.reverse, (ih u).1 h1, nxB_rev.1 h2⟩
    · rintro ⟨u, h1, h2⟩
      refine ⟨u.reverse, (ih u.reverse).2 (by rw [List.reverse_reverse]; exact h1), nxB_rev.2 (by rw [List.reverse_reverse]; exact h2)⟩
/-- How many moves are left to the end, or none. -/
def dstB (o b l : Bool) (v x : List UInt8) : Option Nat := stF (bfsL (nxB o b l) v) x
theorem dstB_some {o b l : Bool} {n : Nat} {v x : List UInt8} (hg : goodT n v) {d : Nat} : dstB o b l v x = some d ↔ (x, d) ∈ bfsL (nxB o b l) v := by
  have hn := (found_B o b l hg).nodup
  constructor
  · intro h
    rcases stF_cases _ hn x with ⟨d2, h1, _, h3⟩ | ⟨_, h3⟩
    · unfold dstB at h
      rw [h3] at h
      injection h with h
      rw [← h]; exact h1
    · unfold dstB at h
      rw [h3] at h
      cases h
  · exact fun h => stF_some hn h
theorem dstB_walk {o b l : Bool} {n : Nat} {v x : List UInt8} (hg : goodT n v) {d : Nat} (h : dstB o b l v x = some d) : WalkN (nxB o b l) v d x := bfs_walk ((dstB_some hg).1 h)
theorem dstB_le {o b l : Bool} {n : Nat} {v x : List UInt8} (hg : goodT n v) {k : Nat} (h : WalkN (nxB o b l) v k x) : ∃ d, dstB o b l v x = some d ∧ d ≤ k := by
  obtain ⟨d, h1, h2⟩ := bfs_least (found_few (found_B o b l hg)) k x h
  exact ⟨d, (dstB_some hg).2 h1, h2⟩
/-- Both searches tell the same. -/
theorem dst_rev {o b l : Bool} {n : Nat} {v : List UInt8} (hg : goodT n v) (x : List UInt8) : stF (bfsL (nxR o b l) v.reverse) x.reverse = dstB o b l v x := by
  have hgr := good_revF hg
  have hnR := (found_L o b l hgr).nodup
  have hlR : (bfsL (nxR o b l) v.reverse).length ≤ 59049 := found_few (found_L o b l hgr)
  cases hd : dstB o b l v x with
  | some d =>
    have h1 := (walkN_rev d x).1 (dstB_walk hg hd)
    obtain ⟨d2, h2, h3⟩ := bfs_least hlR d _ h1
    have h4 := (walkN_rev d2 x).2 (bfs_walk h2)
    obtain ⟨d3, h5, h6⟩ := dstB_le hg h4
    rw [hd] at h5
    have h5 := Option.some.inj h5
    have e : d2 = d := Nat.le_antisymm h3 (by rw [h5]; exact h6)
    rw [e] at h2
    exact stF_some hnR h2
  | none =>
    refine stF_none fun h => ?_
    obtain ⟨p, hp, e⟩ := List.mem_map.1 h
    have h2 : (x.reverse, p.2) ∈ bfsL (nxR o b l) v.reverse := by rw [← e]; exact hp
    obtain ⟨d3, h5, _⟩ := dstB_le hg ((walkN_rev p.2 x).2 (bfs_walk h2))
    rw [hd] at h5
    cases h5
theorem dst_zero {o b l : Bool} {n : Nat} {v x : List UInt8} (hg : goodT n v) (h : dstB o b l v x = some 0) : x = v := dstB_walk hg h
/-- A move leads at most one nearer. -/
theorem dst_near {o b l : Bool} {n : Nat} {v x y : List UInt8} {d e : Nat} (hg : goodT n v) (h : dstB o b l v x = some d) (hy : y ∈ nxR o b l x) (he : dstB o b l v y = some e) : d ≤ e + 1 := by
  obtain ⟨d2, h1, h2⟩ := dstB_le (k := e + 1) (x := x) hg ⟨y, dstB_walk hg he, nxB_iff.2 ⟨hy, (nxR_length hy).symm⟩⟩
  rw [h] at h1
  injection h1 with h1
  omega
/-- And one does. -/
theorem dst_down {o b l : Bool} {n : Nat} {v x : List UInt8} {d : Nat} (hg : goodT n v) (h : dstB o b l v x = some (d + 1)) : ∃ y ∈ nxR o b l x, dstB o b l v y = some d := by
  obtain ⟨y, h1, h2⟩ := (dstB_walk hg h : ∃ u, WalkN (nxB o b l) v d u ∧ x ∈ nxB o b l u)
  have hy := (nxB_iff.1 h2).1
  obtain ⟨e, h3, h4⟩ := dstB_le hg h1
  have := dst_near hg h hy h3
  obtain rfl : e = d := by omega
  exact ⟨y, hy, h3⟩
/-- All moves by the rule. -/
abbrev ruM (o b l : Bool) (x : List UInt8) : List (Int × Int) := ruTo (str x) o b l (str x).size
/-- The line behind the j-th move leads one nearer. -/
def leadB (o b l : Bool) (v x : List UInt8) (d j : Nat) : Bool := dstB o b l v (behind (str x) ((ruM o b l x).getD j (0, 0)).1 ((ruM o b l x).getD j (0, 0)).2) == some d
theorem leadB_at {o b l : Bool} {v x : List UInt8} {d j : Nat} (h : j < (ruM o b l x).length) : leadB o b l v x d j = (dstB o b l v (behind (str x) (ruM o b l x)[j].1 (ruM o b l x)[j].2) == some d) := by
  unfold leadB
  rw [List.getD_eq_getElem?_getD, List.getElem?_eq_getElem h]
  rfl
def firstB (o b l : Bool) (v x : List UInt8) (d : Nat) : Int × Int := (ruM o b l x).getD ((List.range (ruM o b l x).length).findIdx (leadB o b l v x d)) (0, 0)
theorem findIdx_is (p : Nat → Bool) (N j : Nat) (hj : j < N) (h1 : p j = true) (h2 : ∀ i, i < j → p i = false) : (List.range N).findIdx p = j := by
  rw [List.findIdx_eq (by simpa using hj)]
  exact ⟨by simpa using h1, fun i hi => by simpa using h2 i hi⟩
theorem firstB_at {o b l : Bool} {v x : List UInt8} {d j : Nat} (hj : j < (ruM o b l x).length) (h1 : leadB o b l v x d j = true) (h2 : ∀ i, i < j → leadB o b l v x d i = false) : firstB o b l v x d = (ruM o b l x)[j] := by
  unfold firstB
  rw [findIdx_is _ _ j hj h1 h2, List.getD_eq_getElem?_getD, List.getElem?_eq_getElem hj]
  rfl
/-- The first shortest play. -/
def fsL (o b l : Bool) (v : List UInt8) : Nat → List UInt8 → List (Int × Int)
  | 0, _ => []
  | d + 1, x => firstB o b l v x d :: fsL o b l v d (behind (str x) (firstB o b l v x d).1 (firstB o b l v x d).2)
theorem fsL_len (o b l : Bool) (v : List UInt8) : ∀ (d : Nat) (x : List UInt8), (fsL o b l v d x).length = d
  | 0, _ => rfl
  | d + 1, x => by
    show (fsL o b l v d _).length + 1 = d + 1
    rw [fsL_len]
/-- One leads on. -/
theorem lead_ex {o b l : Bool} {n : Nat} {v x : List UInt8} {d : Nat} (hg : goodT n v) (h : dstB o b l v x = some (d + 1)) : ∃ j, j < (ruM o b l x).length ∧ leadB o b l v x d j = true := by
  obtain ⟨y, hy, hd⟩ := dst_down hg h
  obtain ⟨m, hm, rfl⟩ := List.mem_map.1 hy
  obtain ⟨j, hj, e⟩ := List.getElem_of_mem hm
  refine ⟨j, hj, ?_⟩
  rw [leadB_at hj, e, hd]
  simp
def ltO (q : Option Nat) (d : Nat) : Bool := match q with
  | some e => decide (e < d + 1)
  | none => false
/-- Fewer moves left: one fewer. -/
theorem lead_lt {o b l : Bool} {n : Nat} {v x : List UInt8} {d j : Nat} (hg : goodT n v) (h : dstB o b l v x = some (d + 1)) (hj : j < (ruM o b l x).length) : ltO (dstB o b l v (behind (str x) (ruM o b l x)[j].1 (ruM o b l x)[j].2)) d = leadB o b l v x d j := by
  rw [leadB_at hj]
  have hm : behind (str x) (ruM o b l x)[j].1 (ruM o b l x)[j].2 ∈ nxR o b l x := List.mem_map.2 ⟨_, List.getElem_mem hj, rfl⟩
  generalize behind (str x) (ruM o b l x)[j].1 (ruM o b l x)[j].2 = y at hm ⊢
  cases he : dstB o b l v y with
  | none => rfl
  | some e =>
    have h1 := dst_near hg h hm he
    show decide (e < d + 1) = (some e == some d)
    by_cases h2 : e = d
    · rw [h2]; simp
    · rw [decide_eq_false (by omega)]
      simp [h2]
/-- Where the play stands: so many moves are left from here. -/
structure FsI (o b l : Bool) (n : Nat) (v w0 : List UInt8) (d0 : Nat) (x : List UInt8) (d : Nat) (made : List (Int × Int)) : Prop where
  good : goodT n x
  dst : dstB o b l v x = some d
  all : made ++ fsL o b l v d x = fsL o b l v d0 w0
theorem FsI.start {o b l : Bool} {n : Nat} {v w0 : List UInt8} {d0 : Nat} (hg : goodT n w0) (h : dstB o b l v w0 = some d0) : FsI o b l n v w0 d0 w0 d0 [] := ⟨hg, h, rfl⟩
theorem FsI.len {o b l : Bool} {n : Nat} {v w0 x : List UInt8} {d0 d : Nat} {made : List (Int × Int)} (h : FsI o b l n v w0 d0 x d made) : made.length + d = d0 := by
  have := congrArg List.length h.all
  rw [List.length_append, fsL_len, fsL_len] at this
  exact this
theorem FsI.fin {o b l : Bool} {n : Nat} {v w0 x : List UInt8} {d0 : Nat} {made : List (Int × Int)} (h : FsI o b l n v w0 d0 x 0 made) : made = fsL o b l v d0 w0 := by
  have := h.all
  rwa [show fsL o b l v 0 x = [] from rfl, List.append_nil] at this
theorem FsI.next {o b l : Bool} {n : Nat} {v w0 x : List UInt8} {d0 d j : Nat} {made : List (Int × Int)} (h : FsI o b l n v w0 d0 x (d + 1) made) (hj : j < (ruM o b l x).length)
    (h1 : leadB o b l v x d j = true) (h2 : ∀ i, i < j → leadB o b l v x d i = false) : FsI o b l n v w0 d0 (behind (str x) (ruM o b l x)[j].1 (ruM o b l x)[j].2) d (made ++ [(ruM o b l x)[j]]) := by
  have hm : behind (str x) (ruM o b l x)[j].1 (ruM o b l x)[j].2 ∈ nxR o b l x := List.mem_map.2 ⟨_, List.getElem_mem hj, rfl⟩
  refine ⟨nxR_good h.good hm, ?_, ?_⟩
  · rw [leadB_at hj] at h1
    exact eq_of_beq h1
  · rw [← h.all]
    show _ = made ++ (firstB o b l v x d :: fsL o b l v d (behind (str x) (firstB o b l v x d).1 (firstB o b l v x d).2))
    rw [firstB_at hj h1 h2, List.append_assoc]
    rfl
end Go.Proofs.Ytdcbjbmnkajjcaa
