/- Contract: the model's layers of what is reached. -/
import Derived.Test.YtflpncdnneapmaaReAdd
import Derived.Test.YtflpncdnneapmaaLay
import Derived.Test.YtflpncdnneapmaaReachC
namespace Go.Proofs.Ytflpncdnneapmaa
open Go.RowKit

theorem Try.infoSS : (Try.prog.info? 61).map (fun i => (i.zero, i.size, i.bytes)) = some (some (.slice none 0 0), 1, 24) := by kernel_rfl

theorem StOk.grown {w w' : World} {v : Value} {l : List (List UInt8)} {row : Option Nat} (h : StOk w v l) (hg : w.grownBy w' row) (hne : ∀ g, v.ownBlock = some g → some g ≠ row) : StOk w' v l := by
  rcases h with h | ⟨h0, g, c, hv, h1, h2, h3, h4⟩
  · exact .inl h
  · refine .inr ⟨h0, g, c, hv, h1, h2, Nat.lt_of_lt_of_le h3 hg.size, fun k hk => ?_⟩
    rw [← h4 k hk]
    exact World.cell?_of_block (a := ⟨g, k, none⟩) (hg.block g h3 (hne g (by rw [hv]; rfl)))
/-- The values of the layers, each a rising list in memory. -/
def LyAt (w : World) (ly : Nat → List (List UInt8)) (vs : List Value) : Prop := ∀ k (h : k < vs.length), StOk w vs[k] (ly k)
theorem LyAt.below {w w' : World} {ly : Nat → List (List UInt8)} {vs : List Value} (h : LyAt w ly vs) (hb : Below w.heap.size w w') : LyAt w' ly vs := fun k hk => (h k hk).below hb
theorem slice_one {w : World} {v : Value} {l : List (List UInt8)} (h : StOk w v l) : v.oneCell' = true := by
  rcases h with ⟨_, rfl⟩ | ⟨_, g, c, rfl, _⟩ <;> rfl
/-- A row of slices lies apart from what its slices lie in. -/
theorem apart_rows {w : World} {base n : Nat} {v : Value} {vs : List Value} {ly : Nat → List (List UInt8)} (ho : w.ownsRow base 61 1 v n vs) (hn : 0 < vs.length) (h : LyAt w ly vs) {u : Value} {l : List (List UInt8)} (hu : StOk w u l) : ∀ g, u.ownBlock = some g → some g ≠ v.ownBlock := by
  intro g hg e
  rcases hu with ⟨_, rfl⟩ | ⟨h0, g', c, rfl, h1, h2, h3, h4⟩
  · cases hg
  · have hg : g' = g := by injection hg
    subst hg
    have c1 := ho.cells (g := g') e.symm 0 vs[0] (by simp)
    rw [addr_at] at c1
    have c2 := h4 0 (List.length_pos_iff.2 h0)
    simp only [Nat.zero_add] at c1
    rw [c2] at c1
    injection c1 with c1
    rcases h 0 hn with ⟨_, e3⟩ | ⟨_, g3, c3, e3, _⟩ <;> rw [e3] at c1 <;> cases c1
/-- The answer: the layers, each a rising list, in a row. -/
def LyOk (w : World) (ly : Nat → List (List UInt8)) (n : Nat) (v : Value) : Prop :=
  ∃ g c vs, v = .slice (some ⟨g, 0, none⟩) n c ∧ g < w.heap.size ∧ n ≤ maxLen ∧ vs.length = n ∧ LyAt w ly vs ∧ ∀ k (h : k < vs.length), w.cell? ⟨g, k, none⟩ = some vs[k]
theorem LyOk.below {w w' : World} {ly : Nat → List (List UInt8)} {n : Nat} {v : Value} (h : LyOk w ly n v) (hb : Below w.heap.size w w') : LyOk w' ly n v := by
  obtain ⟨g, c, vs, hv, hg, hn, hl, ha, hc⟩ := h
  exact ⟨g, c, vs, hv, Nat.lt_of_lt_of_le hg hb.size, hn, hl, ha.below hb, fun k hk => (hb.cell (p := ⟨g, k, none⟩) hg).trans (hc k hk)⟩
theorem LyOk.of_own {w : World} {base n : Nat} {v : Value} {vs : List Value} {ly : Nat → List (List UInt8)} (ho : w.ownsRow base 61 1 v n vs) (hn : 0 < n) (h : LyAt w ly vs) : LyOk w ly n v := by
  obtain ⟨hlen, h2 | ⟨g, cap, cur, rfl, hb, hg, hle, hm, hs, ht⟩⟩ := ho
  · omega
  · have ho : w.ownsRow base 61 1 (.slice (some ⟨g, 0, none⟩) n cap) n vs := ⟨hlen, .inr ⟨g, cap, cur, rfl, hb, hg, hle, hm, hs, ht⟩⟩
    refine ⟨g, cap, vs, rfl, (Array.getElem?_eq_some_iff.1 hg).1, Nat.le_trans hle hm, by omega, h, fun k hk => ?_⟩
    have := ho.cells (g := g) rfl k vs[k] (by simp)
    rw [addr_at, Nat.zero_add] at this
    exact this
/-- How far the sweep over a layer has come: i lines whole, and j moves of the next. -/
def swept (us : List (List UInt8)) (i j : Nat) : List (List UInt8) := insAll ((us.take i).flatMap nxL ++ (nxL (us.getD i [])).take j) []
theorem swept_start (us : List (List UInt8)) : swept us 0 0 = [] := by simp [swept, insAll]
theorem swept_rising (us : List (List UInt8)) (i j : Nat) : Rising (swept us i j) := rising_insAll _ _ (by simp [Rising])
theorem swept_next (us : List (List UInt8)) (i j : Nat) (h : j < (nxL (us.getD i [])).length) : swept us i (j + 1) = ins (nxL (us.getD i []))[j] (swept us i j) := by
  unfold swept
  rw [List.take_succ_eq_append_getElem h, ← List.append_assoc, insAll_snoc]
theorem swept_row (us : List (List UInt8)) (i : Nat) (h : i < us.length) : swept us (i + 1) 0 = swept us i (nxL (us.getD i [])).length := by
  unfold swept
  rw [List.take_length, List.take_succ_eq_append_getElem h, List.flatMap_append]
  have e : us.getD i [] = us[i] := by rw [List.getD_eq_getElem?_getD, List.getElem?_eq_getElem h]; rfl
  rw [e]
  simp
theorem swept_all (us : List (List UInt8)) : swept us us.length 0 = insAll (us.flatMap nxL) [] := by simp [swept]
theorem swept_few {n : Nat} {us : List (List UInt8)} (h : ∀ u ∈ us, goodT n u) (i j : Nat) (hi : i < us.length) : (swept us i j).length ≤ 59049 := by
  refine few_good (n := n) (rising_nodup (swept_rising us i j)) fun x hx => ?_
  unfold swept at hx
  rw [mem_insAll] at hx
  rcases hx with hx | hx
  · rw [List.mem_append] at hx
    rcases hx with hx | hx
    · obtain ⟨u, hu, hx⟩ := List.mem_flatMap.1 hx
      exact (steps_line n).keeps u x (h u (List.mem_of_mem_take hu)) hx
    · have e : us.getD i [] = us[i] := by rw [List.getD_eq_getElem?_getD, List.getElem?_eq_getElem hi]; rfl
      rw [e] at hx
      exact (steps_line n).keeps _ x (h _ (List.getElem_mem hi)) (List.mem_of_mem_take hx)
  · cases hx
end Go.Proofs.Ytflpncdnneapmaa
