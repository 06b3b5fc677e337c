/- The first and the last exchange from a line; live lines are those on exchanges (no walk). -/
import Derived.Test.YtfiifjcjmnhbnaaDoorSwE
import Derived.Test.YtfiifjcjmnhbnaaDoorSwX
import Derived.Deep.LoopGhost
import Derived.WalkMore
namespace Go.Proofs.YtfiifjcjmnhbnaaDoor

theorem lastL_pairs (l : List UInt8) : (pairSt (lastL l)).1 = 0 := by
  unfold lastL
  rw [pairSt_toads, pairSt_gaps]
  have h := pairSt_frogs [] (cnt 70 l)
  rw [List.nil_append] at h
  rw [h]
  show (pairSt []).1 + cnt 70 l * (pairSt []).2 = 0
  simp [pairSt]
theorem lastL_ms (l : List UInt8) : msL (lastL l) = 0 := by
  unfold msL
  rw [lastL_way, lastL_pairs]
  rfl
section
variable {n : Nat} {l u v w : List UInt8}
/-- From a live line so many moves lead to the last one. -/
theorem live_ms : ∀ (k : Nat) (l : List UInt8), goodT n l → (wayL l).toNat ≤ k → 0 < swN l → 0 ≤ msL l ∧ (msL l = 0 ↔ l = lastL l)
  | k, l, h, hk, h0 => by
    by_cases e : l = lastL l
    · have h1 := lastL_ms l
      rw [← e] at h1
      exact ⟨by omega, fun _ => e, fun _ => h1⟩
    · rw [swN_eq h, if_neg e] at h0
      have hex : ∃ v ∈ nxL l, 0 < swN v := by
        by_cases hh : ∃ v ∈ nxL l, 0 < swN v
        · exact hh
        · exfalso
          have hz : ((nxL l).map swN).sum = 0 := by
            have : ∀ L : List (List UInt8), (∀ v ∈ L, swN v = 0) → (L.map swN).sum = 0 := by
              intro L
              induction L with
              | nil => intro _; rfl
              | cons x L ih => intro hL; simp [hL x (by simp), ih fun v hv => hL v (by simp [hv])]
            exact this _ fun v hv => by
              by_cases h2 : 0 < swN v
              · exact absurd ⟨v, hv, h2⟩ hh
              · omega
          omega
      obtain ⟨v, hv, hv0⟩ := hex
      have hw := nx_way h hv
      cases k with
      | zero => omega
      | succ k =>
        obtain ⟨g1, _⟩ := live_ms k v (nx_good h hv) (by omega) hv0
        have h1 := (steps_line n).one l v h hv
        exact ⟨by omega, fun e2 => by omega, fun e2 => absurd e2 e⟩
theorem live_of_next (h : goodT n u) (hv : v ∈ nxL u) (h0 : 0 < swN v) : 0 < swN u := by
  have h1 := swN_two h
  have h2 : swN v ≤ ((nxL u).map swN).sum := mem_le_sum swN hv
  omega
theorem live_next (h : goodT n l) (h0 : 0 < swN l) (hne : l ≠ lastL l) : ∃ v ∈ nxL l, 0 < swN v := by
  rw [swN_eq h, if_neg hne] at h0
  by_cases hh : ∃ v ∈ nxL l, 0 < swN v
  · exact hh
  · exfalso
    have : ∀ L : List (List UInt8), (∀ v ∈ L, swN v = 0) → (L.map swN).sum = 0 := by
      intro L
      induction L with
      | nil => intro _; rfl
      | cons x L ih => intro hL; simp [hL x (by simp), ih fun v hv => hL v (by simp [hv])]
    have := this (nxL l) fun v hv => by
      by_cases h2 : 0 < swN v
      · exact absurd ⟨v, hv, h2⟩ hh
      · omega
    omega
end
/-- Is the line behind a move live? -/
def lvM (l : List UInt8) (m : Int × Int) : Bool := decide (0 < swN (behind (str l) m.1 m.2))
/-- The live moves of a line. -/
def lvL (l : List UInt8) : List (Int × Int) := (mvL l).filter (lvM l)
/-- The first live move, or the last one. -/
def pickM (last : Bool) (l : List UInt8) : Option (Int × Int) := if last then (mvL l).reverse.find? (lvM l) else (mvL l).find? (lvM l)
/-- The moves that are picked, one after the other. -/
def exM (last : Bool) : Nat → List UInt8 → List (Int × Int)
  | 0, _ => []
  | k + 1, l => match pickM last l with
    | some m => m :: exM last k (behind (str l) m.1 m.2)
    | none => []
/-- The line behind them. -/
def exN (last : Bool) : Nat → List UInt8 → List UInt8
  | 0, l => l
  | k + 1, l => match pickM last l with
    | some m => exN last k (behind (str l) m.1 m.2)
    | none => l
section
variable {n : Nat} {l u v w : List UInt8}
theorem pick_mem {last : Bool} {m : Int × Int} (h : pickM last l = some m) : m ∈ mvL l ∧ 0 < swN (behind (str l) m.1 m.2) := by
  unfold pickM at h
  split at h
  · have h1 := List.mem_of_find?_eq_some h
    have h2 := List.find?_some h
    exact ⟨List.mem_reverse.1 h1, by simpa [lvM] using h2⟩
  · have h1 := List.mem_of_find?_eq_some h
    have h2 := List.find?_some h
    exact ⟨h1, by simpa [lvM] using h2⟩
theorem mv_nx {m : Int × Int} (h : m ∈ mvL l) : behind (str l) m.1 m.2 ∈ nxL l := by
  rw [nxL_mv]
  exact List.mem_map_of_mem h
theorem pick_some (last : Bool) (h : goodT n l) (h0 : 0 < swN l) (hne : l ≠ lastL l) : ∃ m, pickM last l = some m := by
  obtain ⟨v, hv, hv0⟩ := live_next h h0 hne
  rw [nxL_mv] at hv
  obtain ⟨m, hm, rfl⟩ := List.mem_map.1 hv
  have hp : lvM l m = true := by simpa [lvM] using hv0
  have key : ∀ L : List (Int × Int), m ∈ L → ∃ x, L.find? (lvM l) = some x := by
    intro L hL
    cases hf : L.find? (lvM l) with
    | some x => exact ⟨x, rfl⟩
    | none => exact absurd hp (by have := List.find?_eq_none.1 hf m hL; exact this)
  unfold pickM
  cases last
  · exact key _ hm
  · exact key _ (List.mem_reverse.2 hm)
theorem pick_last (last : Bool) (h : goodT n l) (e : l = lastL l) : pickM last l = none := by
  have hm : mvL l = [] := by
    have := last_nil h e
    rw [nxL_mv] at this
    exact List.map_eq_nil_iff.1 this
  unfold pickM
  rw [hm]
  cases last <;> rfl
/-- After as many moves as are left the last line is there. -/
theorem exM_end (last : Bool) : ∀ (k : Nat) (l : List UInt8), goodT n l → 0 < swN l → msL l = k → (exM last k l).length = k ∧ exN last k l = lastL l
  | 0, l, h, h0, hk => by
    have := (live_ms _ l h (Nat.le_refl _) h0).2.1 (by omega)
    exact ⟨rfl, this⟩
  | k + 1, l, h, h0, hk => by
    have hne : l ≠ lastL l := fun e => by
      have := (live_ms _ l h (Nat.le_refl _) h0).2.2 e
      omega
    obtain ⟨m, hm⟩ := pick_some last h h0 hne
    obtain ⟨h1, h2⟩ := pick_mem hm
    have hv := mv_nx h1
    obtain ⟨e1, e2⟩ := exM_end last k (behind (str l) m.1 m.2) (nx_good h hv) h2 (by have := (steps_line n).one l _ h hv; omega)
    unfold exM exN
    rw [hm]
    exact ⟨by simp [e1], by simp only [e2, nx_last hv]⟩
theorem exN_good (last : Bool) : ∀ (k : Nat) (l : List UInt8), goodT n l → goodT n (exN last k l)
  | 0, l, h => h
  | k + 1, l, h => by
    unfold exN
    cases hp : pickM last l with
    | none => exact h
    | some m => exact exN_good last k _ (nx_good h (mv_nx (pick_mem hp).1))
theorem exN_live (last : Bool) : ∀ (k : Nat) (l : List UInt8), 0 < swN l → 0 < swN (exN last k l)
  | 0, l, h => h
  | k + 1, l, h => by
    unfold exN
    cases hp : pickM last l with
    | none => exact h
    | some m => exact exN_live last k _ (pick_mem hp).2
/-- One more move at the end. -/
theorem exM_snoc (last : Bool) : ∀ (k : Nat) (l : List UInt8), exM last (k + 1) l = exM last k l ++ (match pickM last (exN last k l) with | some m => [m] | none => []) ∧ exN last (k + 1) l = (match pickM last (exN last k l) with | some m => behind (str (exN last k l)) m.1 m.2 | none => exN last k l)
  | 0, l => by
    unfold exM exN
    cases hp : pickM last l with
    | none => simp
    | some m => simp [exM, exN]
  | k + 1, l => by
    cases hp : pickM last l with
    | none =>
      have e1 : exM last (k + 1 + 1) l = [] := by unfold exM; rw [hp]
      have e2 : exN last (k + 1 + 1) l = l := by unfold exN; rw [hp]
      have e3 : exM last (k + 1) l = [] := by unfold exM; rw [hp]
      have e4 : exN last (k + 1) l = l := by unfold exN; rw [hp]
      rw [e1, e2, e3, e4, hp]
      exact ⟨rfl, rfl⟩
    | some m =>
      obtain ⟨h1, h2⟩ := exM_snoc last k (behind (str l) m.1 m.2)
      have e1 : exM last (k + 1 + 1) l = m :: exM last (k + 1) (behind (str l) m.1 m.2) := by show (match pickM last l with | some m => _ | none => _) = _; rw [hp]
      have e2 : exN last (k + 1 + 1) l = exN last (k + 1) (behind (str l) m.1 m.2) := by show (match pickM last l with | some m => _ | none => _) = _; rw [hp]
      have e3 : exM last (k + 1) l = m :: exM last k (behind (str l) m.1 m.2) := by show (match pickM last l with | some m => _ | none => _) = _; rw [hp]
      have e4 : exN last (k + 1) l = exN last k (behind (str l) m.1 m.2) := by show (match pickM last l with | some m => _ | none => _) = _; rw [hp]
      rw [e1, e2, e3, e4, h1, h2]
      exact ⟨rfl, rfl⟩
end
end Go.Proofs.YtfiifjcjmnhbnaaDoor
namespace Go.Proofs.YtfiifjcjmnhbnaaDoor
open Go.RowKit Go.Shelf Go.Maps

theorem exN_in {n : Nat} {w : List UInt8} (hw : goodT n w) (last : Bool) : ∀ (k : Nat) (x : List UInt8), x ∈ swA w → exN last k x ∈ swA w
  | 0, x, h => h
  | k + 1, x, h => by
    unfold exN
    cases hp : pickM last x with
    | none => exact h
    | some m => exact exN_in hw last k _ (swA_closed hw h (mv_nx (pick_mem hp).1))
theorem exM_len (last : Bool) : ∀ (k : Nat) (x : List UInt8), (exM last k x).length ≤ k
  | 0, _ => Nat.le_refl _
  | k + 1, x => by
    unfold exM
    cases hp : pickM last x with
    | none => simp
    | some m =>
      have := exM_len last k (behind (str x) m.1 m.2)
      simp only [List.length_cons]
      omega
theorem find_at {α : Type} (p : α → Bool) : ∀ (L : List α) (j : Nat) (h : j < L.length), (∀ i (hi : i < j), p (L[i]'(by omega)) = false) → p L[j] = true → L.find? p = some L[j]
  | [], j, h, _, _ => by simp at h
  | x :: L, 0, h, _, hp => by
    have hp : p x = true := hp
    simp [hp]
  | x :: L, j + 1, h, hn, hp => by
    have h0 : p x = false := hn 0 (by omega)
    simp only [List.find?_cons, h0, List.getElem_cons_succ]
    exact find_at p L j (by simpa using h) (fun i hi => hn (i + 1) (by omega)) hp
theorem find_no {α : Type} (p : α → Bool) (L : List α) (hn : ∀ i (h : i < L.length), p L[i] = false) : L.find? p = none := by
  rw [List.find?_eq_none]
  intro x hx
  obtain ⟨i, hi, rfl⟩ := List.mem_iff_getElem.1 hx
  rw [hn i hi]
  decide
theorem Cells8.range {W : World} {g : Nat} {c0 c1 c2 c3 c4 c5 c6 c7 : Int} {l : List UInt8} (h : Cells8 W g 0 c0 c1 c2 c3 c4 c5 c6 c7) (hc : Eight l c0 c1 c2 c3 c4 c5 c6 c7) : W.rangeAt g 0 (u8s (swpP l)) := by
  rw [hc.cells]
  obtain ⟨q0, q1, q2, q3, q4, q5, q6, q7⟩ := h.zero
  intro j v hv
  match j with
  | 0 => injection hv with hv; subst hv; exact q0
  | 1 => injection hv with hv; subst hv; exact q1
  | 2 => injection hv with hv; subst hv; exact q2
  | 3 => injection hv with hv; subst hv; exact q3
  | 4 => injection hv with hv; subst hv; exact q4
  | 5 => injection hv with hv; subst hv; exact q5
  | 6 => injection hv with hv; subst hv; exact q6
  | 7 => injection hv with hv; subst hv; exact q7
  | j + 8 => cases hv
/-- Where the play stands: the line, and the moves made. -/
structure PoW (W : World) (Be bm k : Nat) (D : DataW Unit) (x : List UInt8) (F : List (Int × Int)) (v : Value) : Prop where
  map : W.ownsMap Tryd.prog 39 iRw bm k D
  bx : W.cell? ⟨Be, 9, none⟩ = some (.map (some bm))
  ln : W.rangeAt (Be + 1) 0 (u8s (swpP x))
  fr : ∀ j, j < 8 → W.frozen? ⟨Be + 1, j, none⟩ = false
  row : W.ownsRow (Be + 2) 55 2 v F.length (flat F)
  lt : Be + 1 < W.heap.size
  lo : bm < Be
section
variable {W W' w3 : World} {Be bm k : Nat} {D : DataW Unit} {x y : List UInt8} {F : List (Int × Int)} {v v' : Value}
theorem PoW.below (h : PoW W Be bm k D x F v) (hb : Below W.heap.size W W') : PoW W' Be bm k D x F v :=
  ⟨h.map.kept (grown_of_below hb) (by simp), (hb.cell (p := ⟨Be, 9, none⟩) (by have := h.lt; show Be < W.heap.size; omega)).trans h.bx, rng_below8 h.ln hb h.lt, fun j hj => (hb.frozen (p := ⟨Be + 1, j, none⟩) h.lt).trans (h.fr j hj), own_below h.row hb, Nat.lt_of_lt_of_le h.lt hb.size, h.lo⟩
/-- Behind the append: the line's cells stand, and can be written. -/
theorem PoW.grown (h : PoW W Be bm k D x F v) (hg : W.grownBy w3 v.ownBlock) : w3.ownsMap Tryd.prog 39 iRw bm k D ∧ w3.cell? ⟨Be, 9, none⟩ = some (.map (some bm)) ∧ w3.rangeAt (Be + 1) 0 (u8s (swpP x)) ∧ (∀ j, j < 8 → w3.frozen? ⟨Be + 1, j, none⟩ = false) ∧ Be + 1 < w3.heap.size := by
  have hlo := h.lo
  have hlt := h.lt
  have hne : ∀ b, b < Be + 2 → some b ≠ v.ownBlock := fun b hb e => by have := (h.row.lt b e.symm).1; omega
  exact ⟨h.map.kept hg (hne _ (by omega)), (World.cell?_of_block (a := ⟨Be, 9, none⟩) (hg.block Be (by omega) (hne _ (by omega)))).trans h.bx, rng_kept8 h.ln hg hlt (hne _ (by omega)),
    fun j hj => (World.frozen?_of_block (a := ⟨Be + 1, j, none⟩) (hg.block (Be + 1) hlt (hne _ (by omega)))).trans (h.fr j hj), Nat.lt_of_lt_of_le hlt hg.size⟩
theorem PoW.made {e0 e1 e2 e3 e4 e5 e6 e7 : Int} (hm3 : w3.ownsMap Tryd.prog 39 iRw bm k D) (hb3 : w3.cell? ⟨Be, 9, none⟩ = some (.map (some bm))) (hl3 : w3.rangeAt (Be + 1) 0 (u8s (swpP x))) (hx : x.length ≤ 8) (hf3 : ∀ j, j < 8 → w3.frozen? ⟨Be + 1, j, none⟩ = false) (hz3 : Be + 1 < w3.heap.size)
    (hlo : bm < Be) (hrow3 : w3.ownsRow (Be + 2) 55 2 v' F.length (flat F)) (hy : Eight y e0 e1 e2 e3 e4 e5 e6 e7) : PoW ((((((((w3.setCell ⟨Be + 1, 0, none⟩ (.int .u8 e0)).setCell ⟨Be + 1, 1, none⟩ (.int .u8 e1)).setCell ⟨Be + 1, 2, none⟩ (.int .u8 e2)).setCell ⟨Be + 1, 3, none⟩ (.int .u8 e3)).setCell ⟨Be + 1, 4, none⟩ (.int .u8 e4)).setCell ⟨Be + 1, 5, none⟩ (.int .u8 e5)).setCell ⟨Be + 1, 6, none⟩ (.int .u8 e6)).setCell ⟨Be + 1, 7, none⟩ (.int .u8 e7)) Be bm k D y F v' := by
  have hr : Cells8 ((((((((w3.setCell ⟨Be + 1, 0, none⟩ (.int .u8 e0)).setCell ⟨Be + 1, 1, none⟩ (.int .u8 e1)).setCell ⟨Be + 1, 2, none⟩ (.int .u8 e2)).setCell ⟨Be + 1, 3, none⟩ (.int .u8 e3)).setCell ⟨Be + 1, 4, none⟩ (.int .u8 e4)).setCell ⟨Be + 1, 5, none⟩ (.int .u8 e5)).setCell ⟨Be + 1, 6, none⟩ (.int .u8 e6)).setCell ⟨Be + 1, 7, none⟩ (.int .u8 e7)) (Be + 1) 0 e0 e1 e2 e3 e4 e5 e6 e7 := by
    have hb : w3.there (Be + 1) 0 [Value.int .u8 e0, .int .u8 e1, .int .u8 e2, .int .u8 e3, .int .u8 e4, .int .u8 e5, .int .u8 e6, .int .u8 e7].length := fun j hj => by
      have hj : j < 8 := hj
      have hj2 : j < (u8s (swpP x)).length := by rw [u8s_len8 hx]; exact hj
      rw [Nat.zero_add, hf3 j hj]
      have := hl3 j (u8s (swpP x))[j] (by simp [hj2])
      rw [Nat.zero_add] at this
      rw [this]
      exact ⟨rfl, rfl⟩
    have hr : (w3.setCells (Be + 1) 0 [Value.int .u8 e0, .int .u8 e1, .int .u8 e2, .int .u8 e3, .int .u8 e4, .int .u8 e5, .int .u8 e6, .int .u8 e7]).rangeAt (Be + 1) 0 [Value.int .u8 e0, .int .u8 e1, .int .u8 e2, .int .u8 e3, .int .u8 e4, .int .u8 e5, .int .u8 e6, .int .u8 e7] := World.rangeAt_setCells_same _ _ _ _ hb
    have e : w3.setCells (Be + 1) 0 [Value.int .u8 e0, .int .u8 e1, .int .u8 e2, .int .u8 e3, .int .u8 e4, .int .u8 e5, .int .u8 e6, .int .u8 e7] = ((((((((w3.setCell ⟨Be + 1, 0, none⟩ (.int .u8 e0)).setCell ⟨Be + 1, 1, none⟩ (.int .u8 e1)).setCell ⟨Be + 1, 2, none⟩ (.int .u8 e2)).setCell ⟨Be + 1, 3, none⟩ (.int .u8 e3)).setCell ⟨Be + 1, 4, none⟩ (.int .u8 e4)).setCell ⟨Be + 1, 5, none⟩ (.int .u8 e5)).setCell ⟨Be + 1, 6, none⟩ (.int .u8 e6)).setCell ⟨Be + 1, 7, none⟩ (.int .u8 e7)) := by simp [World.setCells]
    rw [e] at hr
    exact ⟨hr 0 _ rfl, hr 1 _ rfl, hr 2 _ rfl, hr 3 _ rfl, hr 4 _ rfl, hr 5 _ rfl, hr 6 _ rfl, hr 7 _ rfl⟩
  refine ⟨(World.ownsMap.setCell (World.ownsMap.setCell (World.ownsMap.setCell (World.ownsMap.setCell (World.ownsMap.setCell (World.ownsMap.setCell (World.ownsMap.setCell (World.ownsMap.setCell hm3 (by show bm ≠ Be + 1; omega) _) (by show bm ≠ Be + 1; omega) _) (by show bm ≠ Be + 1; omega) _) (by show bm ≠ Be + 1; omega) _) (by show bm ≠ Be + 1; omega) _) (by show bm ≠ Be + 1; omega) _) (by show bm ≠ Be + 1; omega) _) (by show bm ≠ Be + 1; omega) _), ?_, hr.range hy, fun j hj => by simp only [World.frozen?_setCell]; exact hf3 j hj, (ownsRow_setCell_below (ownsRow_setCell_below (ownsRow_setCell_below (ownsRow_setCell_below (ownsRow_setCell_below (ownsRow_setCell_below (ownsRow_setCell_below (ownsRow_setCell_below hrow3 (show Be + 1 < Be + 2 by omega) _) (show Be + 1 < Be + 2 by omega) _) (show Be + 1 < Be + 2 by omega) _) (show Be + 1 < Be + 2 by omega) _) (show Be + 1 < Be + 2 by omega) _) (show Be + 1 < Be + 2 by omega) _) (show Be + 1 < Be + 2 by omega) _) (show Be + 1 < Be + 2 by omega) _), by simpa using hz3, hlo⟩
  have hfar : ∀ (W : World) (j : Nat) (u : Value), (W.setCell ⟨Be + 1, j, none⟩ u).cell? ⟨Be, 9, none⟩ = W.cell? ⟨Be, 9, none⟩ := fun W j u => World.cell?_setCell_far _ _ _ _ (by show Be + 1 ≠ Be; omega)
  rw [hfar, hfar, hfar, hfar, hfar, hfar, hfar, hfar]
  exact hb3
end

set_option maxRecDepth 100000 in
set_option maxHeartbeats 4000000 in
theorem exists_any (l : List UInt8) (L : List (List UInt8)) (c0 c1 c2 c3 c4 c5 c6 c7 m : Int) (b k : Nat) (D : DataW Unit) (w : World) (hc : Eight l c0 c1 c2 c3 c4 c5 c6 c7) (hl : G8 l) (h : w.ownsMap Tryd.prog 39 iRw b k D) (hv : LiveV D L) (hL : ∀ y ∈ L, G8 y) :
    Calls Tryd.prog 14 #[.agg #[.int .u8 c0, .int .u8 c1, .int .u8 c2, .int .u8 c3, .int .u8 c4, .int .u8 c5, .int .u8 c6, .int .u8 c7, .int .i64 m, .map (some b)]] w fun e w' => e = .returned (.bool (decide (0 < lvN L l))) ∧ Below w.heap.size w w' := by
  have hlook := live_at h hv hL hl
  rw [hc.val] at hlook
  have HR := Lib.hid (hlook _ (h.alloc (Obj.cells #[.int .u8 c0, .int .u8 c1, .int .u8 c2, .int .u8 c3, .int .u8 c4, .int .u8 c5, .int .u8 c6, .int .u8 c7, .int .i64 m, .map (some b)] 43)))
  have hr := HR.out
  clear hlook hc
  go_enter Tryd.func14, Tryd.ntmps14
  go_wp2_with fail
  go_ret
  refine ⟨by simp, (Below.refl _ _).alloc (Nat.le_refl _) _⟩

end Go.Proofs.YtfiifjcjmnhbnaaDoor
