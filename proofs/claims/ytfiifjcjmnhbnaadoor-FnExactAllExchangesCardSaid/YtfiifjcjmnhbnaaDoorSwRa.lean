/- The live lines, by how many moves lead there (no walk). -/
import Derived.Test.YtfiifjcjmnhbnaaDoorSwF
import Derived.Test.YtfiifjcjmnhbnaaDoorSwK
import Derived.Test.YtfiifjcjmnhbnaaDoorSwM
namespace Go.Proofs.YtfiifjcjmnhbnaaDoor
open Go.RowKit Go.Maps

theorem swIn_app (L xs ys : List (List UInt8)) : swIn L (xs ++ ys) = swIn (swIn L xs) ys := by
  unfold swIn
  rw [List.foldl_append]
theorem mem_swIn {x : List UInt8} : ∀ (xs L : List (List UInt8)), x ∈ swIn L xs ↔ x ∈ L ∨ x ∈ xs
  | [], L => by simp [swIn]
  | y :: xs, L => by
    show x ∈ swIn (if y ∈ L then L else L ++ [y]) xs ↔ _
    rw [mem_swIn xs]
    by_cases h : y ∈ L
    · rw [if_pos h]
      constructor
      · rintro (h1 | h1)
        · exact .inl h1
        · exact .inr (List.mem_cons_of_mem _ h1)
      · rintro (h1 | h1)
        · exact .inl h1
        · rcases List.mem_cons.1 h1 with rfl | h1
          · exact .inl h
          · exact .inr h1
    · rw [if_neg h]
      simp only [List.mem_append, List.mem_cons, List.mem_nil_iff, or_false]
      constructor
      · rintro ((h1 | h1) | h1)
        · exact .inl h1
        · exact .inr (.inl h1)
        · exact .inr (.inr h1)
      · rintro (h1 | h1 | h1)
        · exact .inl (.inl h1)
        · exact .inl (.inr h1)
        · exact .inr h1
theorem swIn_nodup : ∀ (xs L : List (List UInt8)), L.Nodup → (swIn L xs).Nodup
  | [], L, h => h
  | y :: xs, L, h => by
    show (swIn (if y ∈ L then L else L ++ [y]) xs).Nodup
    by_cases hy : y ∈ L
    · rw [if_pos hy]; exact swIn_nodup xs L h
    · rw [if_neg hy]
      refine swIn_nodup xs _ (List.nodup_append.2 ⟨h, by simp, fun x hx z hz e => ?_⟩)
      simp at hz
      subst hz
      subst e
      exact hy hx
/-- Live? -/
def lvB (v : List UInt8) : Bool := decide (0 < swN v)
/-- The live lines that so many moves lead to. -/
def layW (w : List UInt8) : Nat → List (List UInt8)
  | 0 => [w]
  | k + 1 => swIn [] ((layW w k).flatMap fun u => (nxL u).filter lvB)
/-- How far the sweep over a layer has come: i lines whole, and j moves of the next. -/
def swpt (us : List (List UInt8)) (i j : Nat) : List (List UInt8) := swIn [] (((us.take i).flatMap fun u => (nxL u).filter lvB) ++ ((nxL (us.getD i [])).take j).filter lvB)
theorem swpt_start (us : List (List UInt8)) : swpt us 0 0 = [] := by simp [swpt, swIn]
theorem swpt_nodup (us : List (List UInt8)) (i j : Nat) : (swpt us i j).Nodup := swIn_nodup _ _ List.nodup_nil
theorem swpt_next (us : List (List UInt8)) (i j : Nat) (h : j < (nxL (us.getD i [])).length) :
    swpt us i (j + 1) = if lvB (nxL (us.getD i []))[j] && !decide ((nxL (us.getD i []))[j] ∈ swpt us i j) then swpt us i j ++ [(nxL (us.getD i []))[j]] else swpt us i j := by
  have e : ((nxL (us.getD i [])).take (j + 1)).filter lvB = ((nxL (us.getD i [])).take j).filter lvB ++ (if lvB (nxL (us.getD i []))[j] then [(nxL (us.getD i []))[j]] else []) := by
    rw [List.take_succ_eq_append_getElem h, List.filter_append]
    congr 1
    by_cases hl : lvB (nxL (us.getD i []))[j] = true
    · rw [if_pos hl, List.filter_cons_of_pos hl]; rfl
    · rw [if_neg hl, List.filter_cons_of_neg hl]; rfl
  unfold swpt
  rw [e, ← List.append_assoc, swIn_app]
  generalize swIn [] (((us.take i).flatMap fun u => (nxL u).filter lvB) ++ ((nxL (us.getD i [])).take j).filter lvB) = S
  generalize (nxL (us.getD i []))[j] = x
  cases hl : lvB x
  · simp [swIn]
  · by_cases hx : x ∈ S <;> simp [swIn, hx]
theorem getD_at (l : List (List UInt8)) (i : Nat) (h : i < l.length) : l.getD i [] = l[i] := by rw [List.getD_eq_getElem?_getD, List.getElem?_eq_getElem h]; rfl
theorem swpt_row (us : List (List UInt8)) (i : Nat) (h : i < us.length) : swpt us (i + 1) 0 = swpt us i (nxL (us.getD i [])).length := by
  unfold swpt
  rw [List.take_length, List.take_succ_eq_append_getElem h, List.flatMap_append, getD_at us i h]
  simp
theorem swpt_all (w : List UInt8) (k : Nat) : swpt (layW w k) (layW w k).length 0 = layW w (k + 1) := by simp [swpt, layW]
section
variable {n : Nat} {w u v : List UInt8}
theorem lvB_iff : lvB v = true ↔ 0 < swN v := by unfold lvB; exact decide_eq_true_iff
theorem layW_mem {k : Nat} : v ∈ layW w (k + 1) ↔ ∃ u ∈ layW w k, v ∈ nxL u ∧ 0 < swN v := by
  show v ∈ swIn [] _ ↔ _
  rw [mem_swIn, List.mem_flatMap]
  constructor
  · rintro (h | ⟨u, hu, h⟩)
    · cases h
    · rw [List.mem_filter] at h
      exact ⟨u, hu, h.1, lvB_iff.1 h.2⟩
  · rintro ⟨u, hu, h1, h2⟩
    exact .inr ⟨u, hu, List.mem_filter.2 ⟨h1, lvB_iff.2 h2⟩⟩
theorem layW_good (hw : goodT n w) (h0 : 0 < swN w) : ∀ (k : Nat) (v : List UInt8), v ∈ layW w k → goodT n v ∧ 0 < swN v ∧ msL v = msL w - k
  | 0, v, h => by
    obtain rfl : v = w := by simpa [layW] using h
    exact ⟨hw, h0, by simp⟩
  | k + 1, v, h => by
    obtain ⟨u, hu, h1, h2⟩ := layW_mem.1 h
    obtain ⟨g1, g2, g3⟩ := layW_good hw h0 k u hu
    refine ⟨nx_good g1 h1, h2, ?_⟩
    rw [(steps_line n).one u v g1 h1, g3]
    push_cast
    omega
theorem layW_le (hw : goodT n w) (h0 : 0 < swN w) {k : Nat} (h : v ∈ layW w k) : (k : Int) ≤ msL w := by
  obtain ⟨g1, g2, g3⟩ := layW_good hw h0 k v h
  have := (live_ms _ v g1 (Nat.le_refl _) g2).1
  omega
theorem layW_nodup : ∀ k, (layW w k).Nodup
  | 0 => by simp [layW]
  | k + 1 => swIn_nodup _ _ List.nodup_nil
theorem layW_few (hw : goodT n w) (h0 : 0 < swN w) (k : Nat) : (layW w k).length ≤ 59049 := few_good (layW_nodup k) fun x hx => (layW_good hw h0 k x hx).1
theorem swpt_good (hw : goodT n w) (h0 : 0 < swN w) (k i j : Nat) (hi : i < (layW w k).length) : ∀ x ∈ swpt (layW w k) i j, goodT n x := by
  intro x hx
  unfold swpt at hx
  rw [mem_swIn] at hx
  rcases hx with hx | hx
  · cases hx
  · rw [List.mem_append] at hx
    rcases hx with hx | hx
    · obtain ⟨u, hu, hx⟩ := List.mem_flatMap.1 hx
      exact nx_good (layW_good hw h0 k u (List.mem_of_mem_take hu)).1 (List.mem_filter.1 hx).1
    · rw [getD_at _ i hi] at hx
      exact nx_good (layW_good hw h0 k _ (List.getElem_mem hi)).1 (List.mem_of_mem_take (List.mem_filter.1 hx).1)
theorem swpt_few (hw : goodT n w) (h0 : 0 < swN w) (k i j : Nat) (hi : i < (layW w k).length) : (swpt (layW w k) i j).length ≤ 59049 := few_good (swpt_nodup _ _ _) (swpt_good hw h0 k i j hi)
theorem layW_in (hw : goodT n w) : ∀ (k : Nat) (v : List UInt8), v ∈ layW w k → v ∈ swA w
  | 0, v, h => by
    obtain rfl : v = w := by simpa [layW] using h
    exact swA_root v
  | k + 1, v, h => by
    obtain ⟨u, hu, h1, _⟩ := layW_mem.1 h
    exact swA_closed hw (layW_in hw k u hu) h1
theorem walk_lay (hw : goodT n w) : ∀ (d : Nat) (v : List UInt8), WalkN nxL w d v → 0 < swN v → v ∈ layW w d
  | 0, v, h, _ => by
    have h : v = w := h
    subst h
    simp [layW]
  | d + 1, v, h, h0 => by
    obtain ⟨u, hu, hv⟩ := h
    exact layW_mem.2 ⟨u, walk_lay hw d u hu (live_of_next (walk_ms hw d u hu).1 hv h0), hv, h0⟩
theorem swA_walk (h : v ∈ swA w) : ∃ d, WalkN nxL w d v := by
  rw [swA_is] at h
  obtain ⟨p, hp, rfl⟩ := List.mem_map.1 h
  exact ⟨p.2, bfs_walk hp⟩
/-- The live ones of the lines that are reached are those of the layers. -/
theorem layW_iff (hw : goodT n w) (h0 : 0 < swN w) : (∃ k, v ∈ layW w k) ↔ v ∈ swA w ∧ 0 < swN v := by
  constructor
  · rintro ⟨k, hk⟩
    exact ⟨layW_in hw k v hk, (layW_good hw h0 k v hk).2.1⟩
  · rintro ⟨h1, h2⟩
    obtain ⟨d, hd⟩ := swA_walk h1
    exact ⟨d, walk_lay hw d v hd h2⟩
/-- Where the first line is not live, none that is reached is. -/
theorem dead_all (hw : goodT n w) (h0 : swN w = 0) (hv : v ∈ swA w) : swN v = 0 := by
  obtain ⟨d, hd⟩ := swA_walk hv
  have key : ∀ (d : Nat) (v : List UInt8), WalkN nxL w d v → swN v = 0 := by
    intro d
    induction d with
    | zero => intro v h; have h : v = w := h; rw [h]; exact h0
    | succ d ih =>
      rintro v ⟨u, hu, hv⟩
      have h1 := ih u hu
      by_cases h2 : 0 < swN v
      · have := live_of_next (walk_ms hw d u hu).1 hv h2
        omega
      · omega
  exact key d v hd
theorem layW_nil {k : Nat} (h : layW w k = []) : ∀ j, k ≤ j → layW w j = []
  | 0, hj => by
    obtain rfl : k = 0 := Nat.le_zero.1 hj
    exact h
  | j + 1, hj => by
    by_cases e : k = j + 1
    · rw [← e]; exact h
    · have := layW_nil h j (by omega)
      show swIn [] ((layW w j).flatMap _) = []
      rw [this]
      rfl
/-- All layers that are not empty, one behind the other. -/
def allW (w : List UInt8) (d : Nat) : List (List UInt8) := (List.range d).flatMap (layW w)
theorem allW_next (w : List UInt8) (d : Nat) : allW w (d + 1) = allW w d ++ layW w d := by simp [allW, List.range_succ]
theorem allW_mem {d : Nat} : v ∈ allW w d ↔ ∃ k, k < d ∧ v ∈ layW w k := by
  unfold allW
  rw [List.mem_flatMap]
  constructor
  · rintro ⟨k, hk, h⟩; exact ⟨k, List.mem_range.1 hk, h⟩
  · rintro ⟨k, hk, h⟩; exact ⟨k, List.mem_range.2 hk, h⟩
theorem allW_nodup (hw : goodT n w) (h0 : 0 < swN w) : ∀ d, (allW w d).Nodup
  | 0 => by simp [allW]
  | d + 1 => by
    rw [allW_next]
    refine List.nodup_append.2 ⟨allW_nodup hw h0 d, layW_nodup d, fun x hx y hy e => ?_⟩
    subst e
    obtain ⟨k, hk, hx⟩ := allW_mem.1 hx
    have h1 := (layW_good hw h0 k x hx).2.2
    have h2 := (layW_good hw h0 d x hy).2.2
    omega
/-- Those of a line's lines that are live. -/
def lvA (w : List UInt8) : List (List UInt8) := (swA w).filter lvB
theorem allW_len (hw : goodT n w) (h0 : 0 < swN w) {d : Nat} (hd : layW w d = []) : (allW w d).length = (lvA w).length := by
  refine List.Perm.length_eq ((List.perm_ext_iff_of_nodup (allW_nodup hw h0 d) ((swA_nodup hw).sublist List.filter_sublist)).2 fun v => ?_)
  rw [allW_mem, List.mem_filter, lvB_iff, ← layW_iff hw h0]
  constructor
  · rintro ⟨k, _, h⟩; exact ⟨k, h⟩
  · rintro ⟨k, h⟩
    refine ⟨k, ?_, h⟩
    by_cases hk : k < d
    · exact hk
    · rw [layW_nil hd k (by omega)] at h; cases h
theorem lvA_dead (hw : goodT n w) (h0 : swN w = 0) : lvA w = [] := by
  unfold lvA
  rw [List.filter_eq_nil_iff]
  intro v hv h
  have h1 := dead_all hw h0 hv
  have := lvB_iff.1 h
  omega
end
/-! ### How many keys the map of live lines has -/
theorem keyOf_arr {P : Program} {k : TypeId} {n e} {v : Value} {kl : Lit} (hu : P.underlying k = some (.array n e)) (h : keyOf P k v = some kl) : ∃ x, kl = .string x := by
  unfold keyOf at h
  rw [hu] at h
  dsimp only at h
  by_cases hc : (P.keyType k && v.formed P k) = true
  · rw [if_pos hc] at h
    obtain ⟨x, _, hx⟩ := Option.map_eq_some_iff.1 h
    exact ⟨_, hx.symm⟩
  · rw [if_neg hc] at h
    cases h
theorem keyOf_w {v : Value} {kl : Lit} (h : keyOf Tryd.prog 39 v = some kl) : ∃ x, kl = .string x := keyOf_arr Tryd.underlying39 h
theorem keys_w {R : Value → Option (DataW Unit × List MemPlace)} {w : World} {b n : Nat} {D : DataW Unit} (h : w.ownsMap Tryd.prog 39 R b n D) :
    (strKeys D).Nodup ∧ (∀ x, x ∈ strKeys D ↔ Maps.has D (.string x) = true) ∧ (strKeys D).length = Maps.size D := by
  obtain ⟨es, hD, hpw, _⟩ := h.entries Tryd.keysW
  obtain ⟨es', hD', hko⟩ := h.keysOf
  obtain rfl : es = es' := by rw [hD] at hD'; simpa using hD'
  subst hD
  have hs : ∀ p ∈ es, ∃ x, p.1 = .string x := fun p hp => by obtain ⟨v, hv⟩ := hko p hp; exact keyOf_w hv
  refine ⟨?_, fun x => ?_, by simp [strKeys, Maps.size]⟩
  · show (es.map fun p => strOf p.1).Nodup
    refine List.pairwise_map.2 (hpw.imp_of_mem fun {p q} hp' hq' hne e => hne ?_)
    obtain ⟨a, ha⟩ := hs p hp'
    obtain ⟨b, hb⟩ := hs q hq'
    rw [ha, hb] at e ⊢
    exact congrArg _ e
  · show x ∈ (es.map fun p => strOf p.1) ↔ _
    rw [has_eq, List.any_eq_true, List.mem_map]
    constructor
    · rintro ⟨p, hp, rfl⟩
      obtain ⟨a, ha⟩ := hs p hp
      exact ⟨p, hp, by rw [ha]; simp [Lit.sameKey, strOf]⟩
    · rintro ⟨p, hp, hs'⟩
      obtain ⟨a, ha⟩ := hs p hp
      rw [ha] at hs'
      exact ⟨p, hp, by rw [ha]; simpa [Lit.sameKey, strOf] using hs'⟩
theorem live_size {n : Nat} {l : List UInt8} {W : World} {b k : Nat} {D : DataW Unit} (h : W.ownsMap Tryd.prog 39 iRw b k D) (hg : goodT n l) (h8 : n ≤ 8) (hv : LiveV D (swA l)) : Maps.size D = (lvA l).length := by
  obtain ⟨h1, h2, h3⟩ := keys_w h
  have hG : ∀ x ∈ lvA l, G8 x := fun x hx => G8.of (swA_good hg x (List.mem_filter.1 hx).1) h8
  have hnd : ((lvA l).map kbW).Nodup := by
    have h4 : (lvA l).Nodup := (swA_nodup hg).sublist List.filter_sublist
    exact List.pairwise_map.2 (h4.imp_of_mem fun {p q} hp hq hne e => hne (kbW_inj (hG p hp) (hG q hq) e))
  have h9 : ((lvA l).map kbW).length = (lvA l).length := List.length_map ..
  rw [← h3, ← h9]
  refine List.Perm.length_eq ((List.perm_ext_iff_of_nodup h1 hnd).2 fun x => (h2 x).trans ⟨fun hx => ?_, fun hx => ?_⟩)
  · obtain ⟨y, hy, h5, rfl⟩ := hv.key x hx
    exact List.mem_map_of_mem (List.mem_filter.2 ⟨hy, lvB_iff.2 h5⟩)
  · obtain ⟨y, hy, rfl⟩ := List.mem_map.1 hx
    obtain ⟨h5, h6⟩ := List.mem_filter.1 hy
    exact (hv.val y h5 (lvB_iff.1 h6)).1
end Go.Proofs.YtfiifjcjmnhbnaaDoor
namespace Go.Proofs.YtfiifjcjmnhbnaaDoor
open Go.RowKit

section
variable {B n : Nat} {W W' W0 : World} {ks : List (List UInt8)} {vs vw v : Value} {row : Option Nat}
theorem grown_ex (hB : B < W.heap.size) (hg : W.grownBy W' row) (hne : some B ≠ row) {k : Nat} (he : Ex B W' k) : Ex B W k := by
  rcases he with he | ⟨o, v, hc, hv⟩
  · exact .inl he
  · exact .inr ⟨o, v, (World.cell?_of_block (a := ⟨B, o, none⟩) (hg.block B hB hne)).symm.trans hc, hv⟩
theorem KpX.grown (h : KpX B W0 W) (hB : B < W0.heap.size) (hg : W.grownBy W' row) (hr : ∀ r, row = some r → W0.heap.size ≤ r) : KpX B W0 W' := by
  have hs := h.size
  refine ⟨hg.os.trans h.os, hg.tape.trans h.tape, hg.output.trans h.output, Nat.le_trans hs hg.size, fun k hk hn => ?_, fun k hk he => ?_⟩
  · exact (hg.block k (by omega) (fun e => by have := hr k e.symm; omega)).trans (h.keep k hk hn)
  · exact h.ex k hk (grown_ex (by omega) hg (fun e => by have := hr B e.symm; omega) he)
theorem KpX.alloc (h : KpX B W0 W) (hB : B < W0.heap.size) (o : Obj) : KpX B W0 (W.alloc o) := h.grown hB (World.grownBy_alloc W o none) (fun r e => by cases e)
theorem EnM.grownX (h : EnM W B n ks vs vw) (ha : ∀ g, row = some g → ¬ Ex B W g) (hg : W.grownBy W' row) : EnM W' B n ks vs vw := by
  have h1 : some B ≠ row := fun e => ha B e.symm (.inl rfl)
  refine ⟨(hg.block B h.lt h1).trans h.box, h.row1.kept hg ?_, h.row2.kept hg ?_, h.nodup, h.good⟩
  · cases hv : vs.ownBlock with
    | none => exact .inl rfl
    | some g => exact .inr fun e => ha g e.symm ((en_ex h.box g).2 (.inr (.inl hv)))
  · cases hv : vw.ownBlock with
    | none => exact .inl rfl
    | some g => exact .inr fun e => ha g e.symm ((en_ex h.box g).2 (.inr (.inr hv)))
theorem EnW.grownX (h : EnW W B n ks) (ha : ∀ g, row = some g → ¬ Ex B W g) (hg : W.grownBy W' row) : EnW W' B n ks := by
  obtain ⟨vs, vw, h⟩ := h
  exact ⟨vs, vw, h.grownX ha hg⟩
/-- A row of another kind is no memory of the box. -/
theorem EnW.apartE {e : TypeId} {b m k : Nat} {xs : List Value} (h : EnW W B n ks) (h1 : e ≠ 32) (h2 : e ≠ 9) (h3 : e ≠ 3) (hr : W.ownsRow b e m v k xs) : ∀ g, v.ownBlock = some g → ¬ Ex B W g := by
  obtain ⟨vs, vw, h⟩ := h
  intro g hg he
  rcases (en_ex h.box g).1 he with rfl | h4 | h4
  · rcases hr.2 with ⟨hv, _⟩ | ⟨g', cap, cur, rfl, _, hc, _⟩
    · subst hv; cases hg
    · injection hg with hg
      have hg : g' = g := hg
      subst hg
      rw [h.box] at hc
      injection hc with hc
      injection hc with _ hc _
      exact absurd hc.symm h1
  · rcases own_apart hr h.row1 h2 with h5 | h5
    · rw [hg] at h5; cases h5
    · exact h5 (hg.trans h4.symm)
  · rcases own_apart hr h.row2 h3 with h5 | h5
    · rw [hg] at h5; cases h5
    · exact h5 (hg.trans h4.symm)
/-- A row that is no memory of the box stays while more becomes known. -/
theorem own_kpxE {e : TypeId} {b m k : Nat} {xs : List Value} (ha : ∀ g, v.ownBlock = some g → ¬ Ex B W g) (hr : W.ownsRow b e m v k xs) (hk : KpX B W W') : W'.ownsRow b e m v k xs ∧ ∀ g, v.ownBlock = some g → ¬ Ex B W' g := by
  refine ⟨⟨hr.1, ?_⟩, fun g hg he => ha g hg (hk.ex g (hr.lt g hg).2 he)⟩
  rcases hr.2 with h2 | ⟨g, cap, cur, rfl, hb, hg, r⟩
  · exact .inl h2
  · exact .inr ⟨g, cap, cur, rfl, hb, (hk.keep g (Array.getElem?_eq_some_iff.1 hg).1 (ha g rfl)).trans hg, r⟩
theorem own_belowE {e : TypeId} {b m k : Nat} {xs : List Value} (hB : B < W.heap.size) (ha : ∀ g, v.ownBlock = some g → ¬ Ex B W g) (hr : W.ownsRow b e m v k xs) (hb : Below W.heap.size W W') : W'.ownsRow b e m v k xs ∧ ∀ g, v.ownBlock = some g → ¬ Ex B W' g := own_kpxE ha hr (KpX.below hB hb)
theorem own_grownE {e : TypeId} {b m k : Nat} {xs : List Value} (hB : B < W.heap.size) (ha : ∀ g, v.ownBlock = some g → ¬ Ex B W g) (hr : W.ownsRow b e m v k xs) (hg : W.grownBy W' row) (hne : some B ≠ row) (hv : v.ownBlock = none ∨ v.ownBlock ≠ row) : W'.ownsRow b e m v k xs ∧ ∀ g, v.ownBlock = some g → ¬ Ex B W' g :=
  ⟨hr.kept hg hv, fun g hg2 he => ha g hg2 (grown_ex hB hg hne he)⟩
end
/-- A row of texts that is no memory of the box. -/
def TxX (W : World) (B b : Nat) (v : Value) (l : List (List UInt8)) : Prop := W.ownsRow b 9 1 v l.length (txs l) ∧ ∀ g, v.ownBlock = some g → ¬ Ex B W g
/-- A row of such rows. -/
def LyX (W : World) (B b : Nat) (v : Value) (ly : Nat → List (List UInt8)) (d : Nat) : Prop := ∃ us : List Value, us.length = d ∧ W.ownsRow b 29 1 v d us ∧ ∀ j (h : j < us.length), TxX W B b us[j] (ly j)
section
variable {W W' : World} {B b : Nat} {v : Value} {l : List (List UInt8)} {ly : Nat → List (List UInt8)} {d n : Nat} {row : Option Nat}
theorem TxX.nil : TxX W B b (.slice none 0 0) [] := ⟨World.ownsRow_nil _ _ _ _, fun g h => by cases h⟩
theorem TxX.kp (h : TxX W B b v l) (hk : KpX B W W') : TxX W' B b v l := own_kpxE h.2 h.1 hk
theorem TxX.below (h : TxX W B b v l) (hB : B < W.heap.size) (hb : Below W.heap.size W W') : TxX W' B b v l := h.kp (KpX.below hB hb)
theorem TxX.grown (h : TxX W B b v l) (hB : B < W.heap.size) (hg : W.grownBy W' row) (hne : some B ≠ row) (hv : v.ownBlock = none ∨ v.ownBlock ≠ row) : TxX W' B b v l := own_grownE hB h.2 h.1 hg hne hv
theorem TxX.lower {b' : Nat} (h : TxX W B b v l) (hb : b' ≤ b) : TxX W B b' v l := ⟨own_lowerW h.1 hb, h.2⟩
theorem LyX.kp {ks : List (List UInt8)} (h : LyX W B b v ly d) (hn : EnW W B n ks) (hk : KpX B W W') : LyX W' B b v ly d := by
  obtain ⟨us, h1, h2, h3⟩ := h
  exact ⟨us, h1, (own_kpxE (hn.apartE (by decide) (by decide) (by decide) h2) h2 hk).1, fun j hj => (h3 j hj).kp hk⟩
theorem LyX.nil : LyX W B b (.slice none 0 0) ly 0 := ⟨[], rfl, World.ownsRow_nil _ _ _ _, fun j h => by simp at h⟩
end
/-- Where the search stands behind k layers. -/
structure ReO (w : World) (B n : Nat) (l : List UInt8) (k : Nat) (vn vo : Value) (W : World) : Prop where
  kn : ∃ ks, EnW W B n ks
  now : TxX W B w.heap.size vn (layW l k)
  out : LyX W B w.heap.size vo (layW l) k
  kp : KpX B w W
/-- .. and inside a layer. -/
structure ReI (W0 : World) (B n : Nat) (S : List (List UInt8)) (v : Value) (W : World) : Prop where
  kn : ∃ ks, EnW W B n ks
  row : TxX W B W0.heap.size v S
  kp : KpX B W0 W
section
variable {w W W' W0 w3 : World} {B n k : Nat} {l : List UInt8} {vn vo v v' : Value} {S : List (List UInt8)} {x : List UInt8}
theorem ReI.lt (h : ReI W0 B n S v W) : B < W.heap.size := by
  obtain ⟨ks, hk⟩ := h.kn
  exact hk.lt
theorem ReI.below (h : ReI W0 B n S v W) (hb : Below W.heap.size W W') : ReI W0 B n S v W' := by
  obtain ⟨ks, hk⟩ := h.kn
  exact ⟨⟨ks, hk.below hb⟩, h.row.below hk.lt hb, h.kp.trans (KpX.below hk.lt hb)⟩
theorem ReI.known (h : ReI W0 B n S v W) (hk : KpX B W W') {ks : List (List UInt8)} (hn : EnW W' B n ks) : ReI W0 B n S v W' :=
  ⟨⟨ks, hn⟩, h.row.kp hk, h.kp.trans hk⟩
theorem ReI.more (h : ReI W0 B n S v W) (hB : B < W0.heap.size) {o : Obj} (hg : (W.alloc o).grownBy w3 v.ownBlock) (hr : w3.ownsRow W0.heap.size 9 1 v' (S.length + 1) (txs S ++ [.string (str x)]))
    (hat : v'.ownBlock = v.ownBlock ∨ v'.ownBlock = some (W.alloc o).heap.size) : ReI W0 B n (S ++ [x]) v' w3 := by
  obtain ⟨ks, hk⟩ := h.kn
  have hlt := hk.lt
  have hb : Below W.heap.size W (W.alloc o) := (Below.refl _ _).alloc (Nat.le_refl _) _
  have h1 := h.below hb
  obtain ⟨ks1, hk1⟩ := h1.kn
  have hne : some B ≠ v.ownBlock := fun e => h1.row.2 B e.symm (.inl rfl)
  refine ⟨⟨ks1, hk1.grownX h1.row.2 hg⟩, ⟨?_, fun g hg2 he => ?_⟩, h1.kp.grown hB hg fun r e => (h1.row.1.lt r e).1⟩
  · rw [txs_app, List.length_append]; exact hr
  · have he2 := grown_ex hk1.lt hg hne he
    rcases hat with hat | hat
    · exact h1.row.2 g (hat.symm.trans hg2) he2
    · rw [hat] at hg2
      injection hg2 with hg2
      have := (hk1.ex_in g he2).2
      omega
theorem ReO.lt (h : ReO w B n l k vn vo W) : B < W.heap.size := by
  obtain ⟨ks, hk⟩ := h.kn
  exact hk.lt
/-- The layer is put down. -/
theorem ReO.put (h : ReO w B n l k vn vo W) (hB : B < w.heap.size) {o : Obj} {us : List Value} (h1 : us.length = k) (h2 : W.ownsRow w.heap.size 29 1 vo k us) (h3 : ∀ j (h : j < us.length), TxX W B w.heap.size us[j] (layW l j)) (hg : (W.alloc o).grownBy w3 vo.ownBlock)
    (hr : w3.ownsRow w.heap.size 29 1 v' (k + 1) (us ++ [vn])) :
    (∃ ks, EnW w3 B n ks) ∧ TxX w3 B w.heap.size vn (layW l k) ∧ LyX w3 B w.heap.size v' (layW l) (k + 1) ∧ KpX B w w3 := by
  obtain ⟨ks, hk⟩ := h.kn
  have hb : Below W.heap.size W (W.alloc o) := (Below.refl _ _).alloc (Nat.le_refl _) _
  have hk1 := hk.below hb
  have h2a := own_below h2 hb
  have hap := hk1.apartE (by decide) (by decide) (by decide) h2a
  have hne : some B ≠ vo.ownBlock := fun e => hap B e.symm (.inl rfl)
  have hnow := h.now.below hk.lt hb
  have hdis : ∀ {u : Value} {q : List (List UInt8)}, TxX (W.alloc o) B w.heap.size u q → u.ownBlock = none ∨ u.ownBlock ≠ vo.ownBlock := fun hu => own_apart hu.1 h2a (by decide)
  refine ⟨⟨ks, hk1.grownX hap hg⟩, hnow.grown hk1.lt hg hne (hdis hnow), ⟨us ++ [vn], by simp [h1], hr, fun j hj => ?_⟩, (h.kp.alloc hB o).grown hB hg fun r e => (h2a.lt r e).1⟩
  by_cases hjk : j < us.length
  · rw [List.getElem_append_left hjk]
    have h4 := (h3 j hjk).below hk.lt hb
    exact h4.grown hk1.lt hg hne (hdis h4)
  · have e : j = us.length := by simp at hj; omega
    subst e
    rw [List.getElem_append_right (Nat.le_refl _)]
    simp only [Nat.sub_self, List.getElem_cons_zero]
    rw [h1]
    exact hnow.grown hk1.lt hg hne (hdis hnow)
/-- A layer is swept. -/
theorem ReO.next {v' : Value} (h1 : LyX W0 B w.heap.size v' (layW l) (k + 1)) (hn : ∃ ks, EnW W0 B n ks) (h2 : KpX B w W0) (h : ReI W0 B n (layW l (k + 1)) v W) : ReO w B n l (k + 1) v v' W := by
  obtain ⟨ks, hn⟩ := hn
  exact ⟨h.kn, h.row.lower h2.size, h1.kp hn h.kp, h2.trans h.kp⟩
end
end Go.Proofs.YtfiifjcjmnhbnaaDoor
