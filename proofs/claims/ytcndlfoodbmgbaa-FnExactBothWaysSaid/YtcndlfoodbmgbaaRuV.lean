/- Search in breadth ends closed; moves by a rule told back, undone, and on which side they bring the animals; no walk. -/
import Derived.Test.YtcndlfoodbmgbaaRuB
namespace Go.Proofs.Ytcndlfoodbmgbaa
open Go.RowKit

section
variable {nx : List UInt8 → List (List UInt8)} {wl : List UInt8}
theorem closed_at (k : Nat) : ∀ (j : Nat) (p : List UInt8 × Nat), (bfsAt nx wl k)[j]? = some p → j < k → ∀ v ∈ nx p.1, v ∈ keysF (bfsAt nx wl k) := by
  induction k with
  | zero => intro j p _ h; omega
  | succ k ih =>
    intro j p hp hj v hv
    by_cases h : k < (bfsAt nx wl k).length
    · rw [bfsAt_next h] at hp ⊢
      by_cases e : j = k
      · subst e
        obtain ⟨M, eM, _⟩ := pre_bfsIn ((bfsAt nx wl j)[j].2 + 1) (nx (bfsAt nx wl j)[j].1) (bfsAt nx wl j)
        rw [eM, List.getElem?_append_left h, List.getElem?_eq_getElem h] at hp
        injection hp with hp
        exact (mem_bfsIn _ _ _ _).2 (.inr (by rw [hp]; exact hv))
      · obtain ⟨M, eM, _⟩ := pre_bfsIn ((bfsAt nx wl k)[k].2 + 1) (nx (bfsAt nx wl k)[k].1) (bfsAt nx wl k)
        rw [eM, List.getElem?_append_left (by omega)] at hp
        exact (mem_bfsIn _ _ _ _).2 (.inl (ih j p hp (by omega) v hv))
    · rw [bfsAt_stop (by omega)] at hp ⊢
      have hl := (List.getElem?_eq_some_iff.1 hp).1
      exact ih j p hp (by omega) v hv
theorem bfs_closed (hl : (bfsL nx wl).length ≤ 59049) {u v : List UInt8} (hu : u ∈ keysF (bfsL nx wl)) (hv : v ∈ nx u) : v ∈ keysF (bfsL nx wl) := by
  obtain ⟨p, hp, rfl⟩ := List.mem_map.1 hu
  obtain ⟨j, hj, e⟩ := List.getElem_of_mem hp
  exact closed_at 60000 j p (by rw [← e]; exact List.getElem?_eq_getElem hj) (by have : (bfsL nx wl).length ≤ 59049 := hl; omega) v hv
theorem bfs_all {G : List UInt8 → Prop} (hG : ∀ u v, G u → v ∈ nx u → G v) (hw : G wl) : ∀ x, x ∈ keysF (bfsL nx wl) → G x := (found_at hG hw 60000).good
theorem bfs_root (k : Nat) : wl ∈ keysF (bfsAt nx wl k) := by
  induction k with
  | zero => simp [bfsAt, keysF]
  | succ k ih =>
    obtain ⟨M, e⟩ := bfsAt_pre (nx := nx) (wl := wl) k
    rw [e, keysF_app]
    exact List.mem_append.2 (.inl ih)
end
/-- What a line reads behind a move. -/
theorem sg_put (s : ByteArray) (a c : Nat) (ha : a < s.size) (x : Nat) (hx : x < s.size) :
    sgAt (str (putL s a c)) x = if x = a then 46 else if x = c then sgAt s a else sgAt s x := by
  have hz : x < (str (putL s a c)).size := by rw [str_size, putL_len]; exact hx
  have h := putL_at s a c x ha hx
  have e : (str (putL s a c))[x]'hz = (putL s a c)[x]'(by rw [putL_len]; exact hx) := rfl
  rw [sgAt_in _ x hz, e]
  have h2 := (List.getElem?_eq_some_iff.1 h).2
  rw [h2, sgAt_in s a ha, sgAt_in s x hx]
theorem put_back (s : ByteArray) (a c : Nat) (ha : a < s.size) (hc : c < s.size) (hne : a ≠ c) (h : sgAt s c = 46) : putL (str (putL s a c)) c a = byt s := by
  have hz : (str (putL s a c)).size = s.size := by rw [str_size, putL_len]
  refine List.ext_getElem? fun j => ?_
  by_cases hj : j < s.size
  · rw [putL_at _ c a j (by omega) (by omega)]
    have e : ∀ (k : Nat) (hk : k < s.size), (str (putL s a c))[k]'(by omega) = sgAt (str (putL s a c)) k := fun k hk => (sgAt_in _ k (by omega)).symm
    rw [e c hc, e j hj, sg_put s a c ha c hc, sg_put s a c ha j hj]
    have hb : (byt s)[j]? = some s[j] := by
      rw [List.getElem?_eq_getElem (by rw [byt_len]; exact hj)]
      rfl
    rw [hb, ← sgAt_in s j hj]
    by_cases e1 : j = c
    · subst e1
      simp [h]
    · by_cases e2 : j = a
      · subst e2
        simp [e1]
        omega
      · simp [e1, e2]
  · rw [List.getElem?_eq_none (by rw [putL_len]; omega), List.getElem?_eq_none (by rw [byt_len]; omega)]
/-- The line before: a sign at i, a gap at j, and who stands there then moves back by the rule. -/
def bkB (u : List UInt8) (o b l : Bool) (i j : Nat) : Bool := !(sgAt (str u) i == 46) && (sgAt (str u) j == 46) && ruC (str (putL (str u) i j)) o b l j i
def bkRow (o b l : Bool) (u : List UInt8) (i n : Nat) : List (List UInt8) := ((List.range n).filter (bkB u o b l i)).map fun j => putL (str u) i j
def nxB (o b l : Bool) (u : List UInt8) : List (List UInt8) := (List.range u.length).flatMap fun i => bkRow o b l u i u.length
theorem mem_nxB {o b l : Bool} {u v : List UInt8} : v ∈ nxB o b l u ↔ ∃ i j : Nat, i < u.length ∧ j < u.length ∧ bkB u o b l i j = true ∧ v = putL (str u) i j := by
  unfold nxB bkRow
  simp only [List.mem_flatMap, List.mem_range, List.mem_map, List.mem_filter]
  constructor
  · rintro ⟨i, hi, j, ⟨hj, hb⟩, rfl⟩
    exact ⟨i, j, hi, hj, hb, rfl⟩
  · rintro ⟨i, j, hi, hj, hb, rfl⟩
    exact ⟨i, hi, j, ⟨hj, hb⟩, rfl⟩
/-- The lines before are those from which a move leads here. -/
theorem nxB_iff {o b l : Bool} {u v : List UInt8} : u ∈ nxB o b l v ↔ v ∈ nxR o b l u ∧ u.length = v.length := by
  constructor
  · intro h
    obtain ⟨i, j, hi, hj, hb, rfl⟩ := mem_nxB.1 h
    unfold bkB at hb
    simp only [Bool.and_eq_true, Bool.not_eq_true', beq_eq_false_iff_ne, beq_iff_eq] at hb
    obtain ⟨⟨h1, h2⟩, h3⟩ := hb
    have hne : i ≠ j := fun e => h1 (e ▸ h2)
    have hb2 : putL (str (putL (str v) i j)) j i = byt (str v) := put_back (str v) i j (by rw [str_size]; exact hi) (by rw [str_size]; exact hj) hne h2
    rw [byt_str] at hb2
    have hl : (putL (str v) i j).length = v.length := by rw [putL_len, str_size]
    refine ⟨?_, hl⟩
    unfold nxR
    refine List.mem_map.2 ⟨((j : Int), (i : Int)), (mem_ruTo _ _ _ _ _ _ _).2 ⟨by omega, by rw [str_size, hl]; omega, h3⟩, ?_⟩
    show putL (str (putL (str v) i j)) j i = v
    exact hb2
  · rintro ⟨h, hl⟩
    obtain ⟨f, t, hc, e⟩ := mem_nxR h
    have hs := ruC_sg hc
    obtain ⟨a, c, rfl, rfl, ha, hc2, hne⟩ := ruC_in hc
    have e2 : v = putL (str u) a c := e
    have hu : putL (str v) c a = u := by
      rw [e2, put_back (str u) a c ha hc2 hne hs.2, byt_str]
    rw [str_size] at ha hc2
    refine mem_nxB.2 ⟨c, a, by omega, by omega, ?_, hu.symm⟩
    unfold bkB
    rw [hu, hc]
    have h1 : sgAt (str v) c = sgAt (str u) a := by
      rw [e2, sg_put (str u) a c (by rw [str_size]; exact ha) c (by rw [str_size]; exact hc2), if_neg (fun h => hne h.symm), if_pos rfl]
    have h2 : sgAt (str v) a = 46 := by
      rw [e2, sg_put (str u) a c (by rw [str_size]; exact ha) a (by rw [str_size]; exact ha), if_pos rfl]
    rw [h1, h2]
    simp [hs.1]
/-- With Back each move can be undone. -/
theorem ruC_undo {u : List UInt8} {o l : Bool} {f t : Int} (h : ruC (str u) o true l f t = true) : ruC (str (behind (str u) f t)) o true l t f = true := by
  have hs := ruC_sg h
  obtain ⟨a, c, rfl, rfl, ha, hc, hne⟩ := ruC_in h
  have hz : (str (behind (str u) (a : Int) (c : Int))).size = (str u).size := by rw [str_size, behind_len]
  have hv : ∀ x : Nat, x < (str u).size → sgAt (str (behind (str u) (a : Int) (c : Int))) x = if x = a then 46 else if x = c then sgAt (str u) a else sgAt (str u) x := fun x hx => sg_put (str u) a c ha x hx
  have hva := hv a ha
  have hvc := hv c hc
  rw [if_pos rfl] at hva
  rw [if_neg (fun e => hne e.symm), if_pos rfl] at hvc
  unfold ruC at h ⊢
  simp only [Bool.and_eq_true, Bool.or_eq_true, Bool.true_or] at h
  obtain ⟨⟨⟨⟨⟨⟨h1, h2⟩, _⟩, _⟩, _⟩, h4⟩, h5⟩ := h
  rw [hz, h1, h2, hva, hvc]
  have hd : ((a : Int) - c).natAbs = ((c : Int) - a).natAbs := by omega
  rw [hd]
  have hs1 : (!(sgAt (str u) (a : Int) == 46)) = true := by simpa using hs.1
  rw [hs1]
  have h4' : (l || decide (((c : Int) - a).natAbs ≤ 2)) = true := by rw [Bool.or_eq_true]; exact h4
  rw [h4']
  simp only [Bool.true_and, Bool.and_true, Bool.true_or, beq_self_eq_true]
  unfold oversR at h5 ⊢
  rw [List.all_eq_true] at h5 ⊢
  intro k hk
  have hk := List.mem_range.1 hk
  have hw : wayR (c : Int) (a : Int) = -wayR (a : Int) (c : Int) := by
    unfold wayR
    split <;> split <;> omega
  have hcell : (c : Int) + ((k : Int) + 1) * wayR (c : Int) (a : Int) = (a : Int) + (((((c : Int) - a).natAbs - 1 - 1 - k : Nat) : Int) + 1) * wayR (a : Int) (c : Int) := by
    rw [hw]
    unfold wayR
    split <;> omega
  have hb := h5 (((c : Int) - a).natAbs - 1 - 1 - k) (List.mem_range.2 (by omega))
  rw [hcell]
  have hx : ∃ x : Nat, (a : Int) + (((((c : Int) - a).natAbs - 1 - 1 - k : Nat) : Int) + 1) * wayR (a : Int) (c : Int) = x ∧ x < (str u).size ∧ x ≠ a ∧ x ≠ c := by
    refine ⟨((a : Int) + (((((c : Int) - a).natAbs - 1 - 1 - k : Nat) : Int) + 1) * wayR (a : Int) (c : Int)).toNat, ?_, ?_, ?_, ?_⟩
    all_goals
      unfold wayR
      split <;> omega
  obtain ⟨x, e, hx1, hx2, hx3⟩ := hx
  rw [e] at hb ⊢
  unfold overB at hb ⊢
  rw [hvc, hv x hx1, if_neg hx2, if_neg hx3]
  exact hb
theorem nxR_back {o l : Bool} {u v : List UInt8} (h : v ∈ nxR o true l u) : u ∈ nxR o true l v := by
  obtain ⟨f, t, hc, e⟩ := mem_nxR h
  have hu := ruC_undo hc
  have hs := ruC_sg hc
  obtain ⟨a, c, rfl, rfl, ha, hc2, hne⟩ := ruC_in hc
  have e2 : v = putL (str u) a c := e
  rw [← e] at hu
  unfold nxR
  refine List.mem_map.2 ⟨((c : Int), (a : Int)), (mem_ruTo _ _ _ _ _ _ _).2 ⟨by omega, by rw [e, str_size, behind_len]; omega, hu⟩, ?_⟩
  show putL (str v) c a = u
  rw [e2, put_back (str u) a c ha hc2 hne hs.2, byt_str]
/-- How far the animals are from where they go: cells of F less cells of T. -/
def gP (k : Nat) (x : UInt8) : Int := if x = 70 then (k : Int) else if x = 84 then -(k : Int) else 0
def potF : Nat → List UInt8 → Int
  | _, [] => 0
  | k, x :: l => gP k x + potF (k + 1) l
theorem potF_set (x : UInt8) : ∀ (l : List UInt8) (k j : Nat) (h : j < l.length), potF k (l.set j x) = potF k l - gP (k + j) l[j] + gP (k + j) x
  | y :: l, k, 0, _ => by
    simp only [List.set_cons_zero, potF, List.getElem_cons_zero, Nat.add_zero]
    omega
  | y :: l, k, j + 1, h => by
    have := potF_set x l (k + 1) j (by simpa using h)
    simp only [List.set_cons_succ, potF, List.getElem_cons_succ]
    rw [this, show k + 1 + j = k + (j + 1) by omega]
    omega
/-- Without Back each move brings them nearer. -/
theorem pot_less {o l : Bool} {u v : List UInt8} (hg : goodL (str u) = true) (h : v ∈ nxR o false l u) : potF 0 v < potF 0 u := by
  obtain ⟨f, t, hc, rfl⟩ := mem_nxR h
  have hs := ruC_sg hc
  obtain ⟨a, c, rfl, rfl, ha, hc2, hne⟩ := ruC_in hc
  have hsg := good_sign hg a ha
  rw [sgAt_in _ a ha] at hs
  rw [sgAt_in _ c hc2] at hs
  have hway : ((str u)[a] = 84 ↔ a ≤ c) := by
    unfold ruC at hc
    simp only [Bool.and_eq_true, Bool.or_eq_true, Bool.false_or] at hc
    have h4 := hc.1.1.2
    rw [sgAt_in _ a ha] at h4
    simp at h4
    constructor
    · intro e
      rw [e] at h4
      simpa using h4.symm
    · intro e
      rw [decide_eq_true e] at h4
      simpa using h4
  have hlu : (str u).size = u.length := str_size u
  have ha' : a < u.length := by omega
  have hc' : c < u.length := by omega
  have hs1 : u[a] ≠ 46 := hs.1
  have hs2 : u[c] = 46 := hs.2
  have hway : u[a] = 84 ↔ a ≤ c := hway
  have hsg : isSign u[a] = true := hsg
  have hga : u.getD a 0 = u[a] := by rw [List.getD_eq_getElem?_getD, List.getElem?_eq_getElem ha']; rfl
  show potF 0 (((byt (str u)).set c ((byt (str u)).getD a 0)).set a 46) < potF 0 u
  rw [byt_str, hga, potF_set 46 (u.set c u[a]) 0 a (by simpa using ha'), potF_set u[a] u 0 c hc', hs2, List.getElem_set_ne (by omega)]
  simp only [Nat.zero_add]
  have g46 : ∀ k, gP k 46 = 0 := fun k => rfl
  rw [g46, g46]
  unfold isSign at hsg
  simp only [Bool.or_eq_true, beq_iff_eq] at hsg
  rcases hsg with (h84 | h70) | h46
  · have hac := hway.1 h84
    rw [h84]
    show potF 0 u - 0 + -(c : Int) - -(a : Int) + 0 < potF 0 u
    omega
  · have hac : ¬ a ≤ c := fun e => by have := hway.2 e; rw [h70] at this; cases this
    rw [h70]
    show potF 0 u - 0 + (c : Int) - (a : Int) + 0 < potF 0 u
    omega
  · exact absurd h46 hs1
end Go.Proofs.Ytcndlfoodbmgbaa
