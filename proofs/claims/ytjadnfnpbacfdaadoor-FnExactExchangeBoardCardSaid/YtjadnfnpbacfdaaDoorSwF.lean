/- The first and the last exchange from a line; live lines are those on exchanges (no walk). -/
import Derived.Test.YtjadnfnpbacfdaaDoorSwE
import Derived.Test.YtjadnfnpbacfdaaDoorSwX
import Derived.Deep.LoopGhost
import Derived.WalkMore
namespace Go.Proofs.YtjadnfnpbacfdaaDoor

theorem lastL_pairs (l : List UInt8) : (pairSt (lastL l)).1 = 0 := by
  unfold lastL
  rw [pairSt_toads, pairSt_gaps]
  have h := pairSt_frogs [] (cnt 70 l)
  rw [List.nil_append] at h
  rw [h]
  show (pairSt []).1 + cnt 70 l * (pairSt []).2 = 0
  simp [pairSt]
theorem lastL_ms (l : List UInt8) : msL (lastL l) = 0 := by
  unfold msL
  rw [lastL_way, lastL_pairs]
  rfl
section
variable {n : Nat} {l u v w : List UInt8}
/-- From a live line so many moves lead to the last one. -/
theorem live_ms : ∀ (k : Nat) (l : List UInt8), goodT n l → (wayL l).toNat ≤ k → 0 < swN l → 0 ≤ msL l ∧ (msL l = 0 ↔ l = lastL l)
  | k, l, h, hk, h0 => by
    by_cases e : l = lastL l
    · have h1 := lastL_ms l
      rw [← e] at h1
      exact ⟨by omega, fun _ => e, fun _ => h1⟩
    · rw [swN_eq h, if_neg e] at h0
      have hex : ∃ v ∈ nxL l, 0 < swN v := by
        by_cases hh : ∃ v ∈ nxL l, 0 < swN v
        · exact hh
        · exfalso
          have hz : ((nxL l).map swN).sum = 0 := by
            have : ∀ L : List (List UInt8), (∀ v ∈ L, swN v = 0) → (L.map swN).sum = 0 := by
              intro L
              induction L with
              | nil => intro _; rfl
              | cons x L ih => intro hL; simp [hL x (by simp), ih fun v hv => hL v (by simp [hv])]
            exact this _ fun v hv => by
              by_cases h2 : 0 < swN v
              · exact absurd ⟨v, hv, h2⟩ hh
              · omega
          omega
      obtain ⟨v, hv, hv0⟩ := hex
      have hw := nx_way h hv
      cases k with
      | zero => omega
      | succ k =>
        obtain ⟨g1, _⟩ := live_ms k v (nx_good h hv) (by omega) hv0
        have h1 := (steps_line n).one l v h hv
        exact ⟨by omega, fun e2 => by omega, fun e2 => absurd e2 e⟩
theorem live_of_next (h : goodT n u) (hv : v ∈ nxL u) (h0 : 0 < swN v) : 0 < swN u := by
  have h1 := swN_two h
  have h2 : swN v ≤ ((nxL u).map swN).sum := mem_le_sum swN hv
  omega
theorem live_next (h : goodT n l) (h0 : 0 < swN l) (hne : l ≠ lastL l) : ∃ v ∈ nxL l, 0 < swN v := by
  rw [swN_eq h, if_neg hne] at h0
  by_cases hh : ∃ v ∈ nxL l, 0 < swN v
  · exact hh
  · exfalso
    have : ∀ L : List (List UInt8), (∀ v ∈ L, swN v = 0) → (L.map swN).sum = 0 := by
      intro L
      induction L with
      | nil => intro _; rfl
      | cons x L ih => intro hL; simp [hL x (by simp), ih fun v hv => hL v (by simp [hv])]
    have := this (nxL l) fun v hv => by
      by_cases h2 : 0 < swN v
      · exact absurd ⟨v, hv, h2⟩ hh
      · omega
    omega
end
/-- Is the line behind a move live? -/
def lvM (l : List UInt8) (m : Int × Int) : Bool := decide (0 < swN (behind (str l) m.1 m.2))
/-- The live moves of a line. -/
def lvL (l : List UInt8) : List (Int × Int) := (mvL l).filter (lvM l)
/-- The first live move, or the last one. -/
def pickM (last : Bool) (l : List UInt8) : Option (Int × Int) := if last then (mvL l).reverse.find? (lvM l) else (mvL l).find? (lvM l)
/-- The moves that are picked, one after the other. -/
def exM (last : Bool) : Nat → List UInt8 → List (Int × Int)
  | 0, _ => []
  | k + 1, l => match pickM last l with
    | some m => m :: exM last k (behind (str l) m.1 m.2)
    | none => []
/-- The line behind them. -/
def exN (last : Bool) : Nat → List UInt8 → List UInt8
  | 0, l => l
  | k + 1, l => match pickM last l with
    | some m => exN last k (behind (str l) m.1 m.2)
    | none => l
section
variable {n : Nat} {l u v w : List UInt8}
theorem pick_mem {last : Bool} {m : Int × Int} (h : pickM last l = some m) : m ∈ mvL l ∧ 0 < swN (behind (str l) m.1 m.2) := by
  unfold pickM at h
  split at h
  · have h1 := List.mem_of_find?_eq_some h
    have h2 := List.find?_some h
    exact ⟨List.mem_reverse.1 h1, by simpa [lvM] using h2⟩
  · have h1 := List.mem_of_find?_eq_some h
    have h2 := List.find?_some h
    exact ⟨h1, by simpa [lvM] using h2⟩
theorem mv_nx {m : Int × Int} (h : m ∈ mvL l) : behind (str l) m.1 m.2 ∈ nxL l := by
  rw [nxL_mv]
  exact List.mem_map_of_mem h
theorem pick_some (last : Bool) (h : goodT n l) (h0 : 0 < swN l) (hne : l ≠ lastL l) : ∃ m, pickM last l = some m := by
  obtain ⟨v, hv, hv0⟩ := live_next h h0 hne
  rw [nxL_mv] at hv
  obtain ⟨m, hm, rfl⟩ := List.mem_map.1 hv
  have hp : lvM l m = true := by simpa [lvM] using hv0
  have key : ∀ L : List (Int × Int), m ∈ L → ∃ x, L.find? (lvM l) = some x := by
    intro L hL
    cases hf : L.find? (lvM l) with
    | some x => exact ⟨x, rfl⟩
    | none => exact absurd hp (by have := List.find?_eq_none.1 hf m hL; exact this)
  unfold pickM
  cases last
  · exact key _ hm
  · exact key _ (List.mem_reverse.2 hm)
theorem pick_last (last : Bool) (h : goodT n l) (e : l = lastL l) : pickM last l = none := by
  have hm : mvL l = [] := by
    have := last_nil h e
    rw [nxL_mv] at this
    exact List.map_eq_nil_iff.1 this
  unfold pickM
  rw [hm]
  cases last <;> rfl
/-- After as many moves as are left the last line is there. -/
theorem exM_end (last : Bool) : ∀ (k : Nat) (l : List UInt8), goodT n l → 0 < swN l → msL l = k → (exM last k l).length = k ∧ exN last k l = lastL l
  | 0, l, h, h0, hk => by
    have := (live_ms _ l h (Nat.le_refl _) h0).2.1 (by omega)
    exact ⟨rfl, this⟩
  | k + 1, l, h, h0, hk => by
    have hne : l ≠ lastL l := fun e => by
      have := (live_ms _ l h (Nat.le_refl _) h0).2.2 e
      omega
    obtain ⟨m, hm⟩ := pick_some last h h0 hne
    obtain ⟨h1, h2⟩ := pick_mem hm
    have hv := mv_nx h1
    obtain ⟨e1, e2⟩ := exM_end last k (behind (str l) m.1 m.2) (nx_good h hv) h2 (by have := (steps_line n).one l _ h hv; omega)
    unfold exM exN
    rw [hm]
    exact ⟨by simp [e1], by simp only [e2, nx_last hv]⟩
theorem exN_good (last : Bool) : ∀ (k : Nat) (l : List UInt8), goodT n l → goodT n (exN last k l)
  | 0, l, h => h
  | k + 1, l, h => by
    unfold exN
    cases hp : pickM last l with
    | none => exact h
    | some m => exact exN_good last k _ (nx_good h (mv_nx (pick_mem hp).1))
theorem exN_live (last : Bool) : ∀ (k : Nat) (l : List UInt8), 0 < swN l → 0 < swN (exN last k l)
  | 0, l, h => h
  | k + 1, l, h => by
    unfold exN
    cases hp : pickM last l with
    | none => exact h
    | some m => exact exN_live last k _ (pick_mem hp).2
/-- One more move at the end. -/
theorem exM_snoc (last : Bool) : ∀ (k : Nat) (l : List UInt8), exM last (k + 1) l = exM last k l ++ (match pickM last (exN last k l) with | some m => [m] | none => []) ∧ exN last (k + 1) l = (match pickM last (exN last k l) with | some m => behind (str (exN last k l)) m.1 m.2 | none => exN last k l)
  | 0, l => by
    unfold exM exN
    cases hp : pickM last l with
    | none => simp
    | some m => simp [exM, exN]
  | k + 1, l => by
    cases hp : pickM last l with
    | none =>
      have e1 : exM last (k + 1 + 1) l = [] := by unfold exM; rw [hp]
      have e2 : exN last (k + 1 + 1) l = l := by unfold exN; rw [hp]
      have e3 : exM last (k + 1) l = [] := by unfold exM; rw [hp]
      have e4 : exN last (k + 1) l = l := by unfold exN; rw [hp]
      rw [e1, e2, e3, e4, hp]
      exact ⟨rfl, rfl⟩
    | some m =>
      obtain ⟨h1, h2⟩ := exM_snoc last k (behind (str l) m.1 m.2)
      have e1 : exM last (k + 1 + 1) l = m :: exM last (k + 1) (behind (str l) m.1 m.2) := by show (match pickM last l with | some m => _ | none => _) = _; rw [hp]
      have e2 : exN last (k + 1 + 1) l = exN last (k + 1) (behind (str l) m.1 m.2) := by show (match pickM last l with | some m => _ | none => _) = _; rw [hp]
      have e3 : exM last (k + 1) l = m :: exM last k (behind (str l) m.1 m.2) := by show (match pickM last l with | some m => _ | none => _) = _; rw [hp]
      have e4 : exN last (k + 1) l = exN last k (behind (str l) m.1 m.2) := by show (match pickM last l with | some m => _ | none => _) = _; rw [hp]
      rw [e1, e2, e3, e4, h1, h2]
      exact ⟨rfl, rfl⟩
end
end Go.Proofs.YtjadnfnpbacfdaaDoor
namespace Go.Proofs.YtjadnfnpbacfdaaDoor
open Go.RowKit Go.Shelf Go.Maps

theorem exN_in {n : Nat} {w : List UInt8} (hw : goodT n w) (last : Bool) : ∀ (k : Nat) (x : List UInt8), x ∈ swA w → exN last k x ∈ swA w
  | 0, x, h => h
  | k + 1, x, h => by
    unfold exN
    cases hp : pickM last x with
    | none => exact h
    | some m => exact exN_in hw last k _ (swA_closed hw h (mv_nx (pick_mem hp).1))
theorem exM_len (last : Bool) : ∀ (k : Nat) (x : List UInt8), (exM last k x).length ≤ k
  | 0, _ => Nat.le_refl _
  | k + 1, x => by
    unfold exM
    cases hp : pickM last x with
    | none => simp
    | some m =>
      have := exM_len last k (behind (str x) m.1 m.2)
      simp only [List.length_cons]
      omega
theorem find_at {α : Type} (p : α → Bool) : ∀ (L : List α) (j : Nat) (h : j < L.length), (∀ i (hi : i < j), p (L[i]'(by omega)) = false) → p L[j] = true → L.find? p = some L[j]
  | [], j, h, _, _ => by simp at h
  | x :: L, 0, h, _, hp => by
    have hp : p x = true := hp
    simp [hp]
  | x :: L, j + 1, h, hn, hp => by
    have h0 : p x = false := hn 0 (by omega)
    simp only [List.find?_cons, h0, List.getElem_cons_succ]
    exact find_at p L j (by simpa using h) (fun i hi => hn (i + 1) (by omega)) hp
theorem find_no {α : Type} (p : α → Bool) (L : List α) (hn : ∀ i (h : i < L.length), p L[i] = false) : L.find? p = none := by
  rw [List.find?_eq_none]
  intro x hx
  obtain ⟨i, hi, rfl⟩ := List.mem_iff_getElem.1 hx
  rw [hn i hi]
  decide
theorem Cells8.range {W : World} {g : Nat} {c0 c1 c2 c3 c4 c5 c6 c7 : Int} {l : List UInt8} (h : Cells8 W g 0 c0 c1 c2 c3 c4 c5 c6 c7) (hc : Eight l c0 c1 c2 c3 c4 c5 c6 c7) : W.rangeAt g 0 (u8s (swpP l)) := by
  rw [hc.cells]
  obtain ⟨q0, q1, q2, q3, q4, q5, q6, q7⟩ := h.zero
  intro j v hv
  match j with
  | 0 => injection hv with hv; subst hv; exact q0
  | 1 => injection hv with hv; subst hv; exact q1
  | 2 => injection hv with hv; subst hv; exact q2
  | 3 => injection hv with hv; subst hv; exact q3
  | 4 => injection hv with hv; subst hv; exact q4
  | 5 => injection hv with hv; subst hv; exact q5
  | 6 => injection hv with hv; subst hv; exact q6
  | 7 => injection hv with hv; subst hv; exact q7
  | j + 8 => cases hv
/-- Where the play stands: the line, and the moves made. -/
structure PoW (W : World) (Be bm k : Nat) (D : DataW Unit) (x : List UInt8) (F : List (Int × Int)) (v : Value) : Prop where
  map : W.ownsMap Tryd.prog 53 iRw bm k D
  bx : W.cell? ⟨Be, 9, none⟩ = some (.map (some bm))
  ln : W.rangeAt (Be + 1) 0 (u8s (swpP x))
  fr : ∀ j, j < 8 → W.frozen? ⟨Be + 1, j, none⟩ = false
  row : W.ownsRow (Be + 2) 64 2 v F.length (flat F)
  lt : Be + 1 < W.heap.size
  lo : bm < Be
section
variable {W W' w3 : World} {Be bm k : Nat} {D : DataW Unit} {x y : List UInt8} {F : List (Int × Int)} {v v' : Value}
theorem PoW.below (h : PoW W Be bm k D x F v) (hb : Below W.heap.size W W') : PoW W' Be bm k D x F v :=
  ⟨h.map.kept (grown_of_below hb) (by simp), (hb.cell (p := ⟨Be, 9, none⟩) (by have := h.lt; show Be < W.heap.size; omega)).trans h.bx, rng_below8 h.ln hb h.lt, fun j hj => (hb.frozen (p := ⟨Be + 1, j, none⟩) h.lt).trans (h.fr j hj), own_below h.row hb, Nat.lt_of_lt_of_le h.lt hb.size, h.lo⟩
/-- Behind the append: the line's cells stand, and can be written. -/
theorem PoW.grown (h : PoW W Be bm k D x F v) (hg : W.grownBy w3 v.ownBlock) : w3.ownsMap Tryd.prog 53 iRw bm k D ∧ w3.cell? ⟨Be, 9, none⟩ = some (.map (some bm)) ∧ w3.rangeAt (Be + 1) 0 (u8s (swpP x)) ∧ (∀ j, j < 8 → w3.frozen? ⟨Be + 1, j, none⟩ = false) ∧ Be + 1 < w3.heap.size := by
  have hlo := h.lo
  have hlt := h.lt
  have hne : ∀ b, b < Be + 2 → some b ≠ v.ownBlock := fun b hb e => by have := (h.row.lt b e.symm).1; omega
  exact ⟨h.map.kept hg (hne _ (by omega)), (World.cell?_of_block (a := ⟨Be, 9, none⟩) (hg.block Be (by omega) (hne _ (by omega)))).trans h.bx, rng_kept8 h.ln hg hlt (hne _ (by omega)),
    fun j hj => (World.frozen?_of_block (a := ⟨Be + 1, j, none⟩) (hg.block (Be + 1) hlt (hne _ (by omega)))).trans (h.fr j hj), Nat.lt_of_lt_of_le hlt hg.size⟩
theorem PoW.made {e0 e1 e2 e3 e4 e5 e6 e7 : Int} (hm3 : w3.ownsMap Tryd.prog 53 iRw bm k D) (hb3 : w3.cell? ⟨Be, 9, none⟩ = some (.map (some bm))) (hl3 : w3.rangeAt (Be + 1) 0 (u8s (swpP x))) (hx : x.length ≤ 8) (hf3 : ∀ j, j < 8 → w3.frozen? ⟨Be + 1, j, none⟩ = false) (hz3 : Be + 1 < w3.heap.size)
    (hlo : bm < Be) (hrow3 : w3.ownsRow (Be + 2) 64 2 v' F.length (flat F)) (hy : Eight y e0 e1 e2 e3 e4 e5 e6 e7) : PoW ((((((((w3.setCell ⟨Be + 1, 0, none⟩ (.int .u8 e0)).setCell ⟨Be + 1, 1, none⟩ (.int .u8 e1)).setCell ⟨Be + 1, 2, none⟩ (.int .u8 e2)).setCell ⟨Be + 1, 3, none⟩ (.int .u8 e3)).setCell ⟨Be + 1, 4, none⟩ (.int .u8 e4)).setCell ⟨Be + 1, 5, none⟩ (.int .u8 e5)).setCell ⟨Be + 1, 6, none⟩ (.int .u8 e6)).setCell ⟨Be + 1, 7, none⟩ (.int .u8 e7)) Be bm k D y F v' := by
  have hr : Cells8 ((((((((w3.setCell ⟨Be + 1, 0, none⟩ (.int .u8 e0)).setCell ⟨Be + 1, 1, none⟩ (.int .u8 e1)).setCell ⟨Be + 1, 2, none⟩ (.int .u8 e2)).setCell ⟨Be + 1, 3, none⟩ (.int .u8 e3)).setCell ⟨Be + 1, 4, none⟩ (.int .u8 e4)).setCell ⟨Be + 1, 5, none⟩ (.int .u8 e5)).setCell ⟨Be + 1, 6, none⟩ (.int .u8 e6)).setCell ⟨Be + 1, 7, none⟩ (.int .u8 e7)) (Be + 1) 0 e0 e1 e2 e3 e4 e5 e6 e7 := by
    have hb : w3.there (Be + 1) 0 [Value.int .u8 e0, .int .u8 e1, .int .u8 e2, .int .u8 e3, .int .u8 e4, .int .u8 e5, .int .u8 e6, .int .u8 e7].length := fun j hj => by
      have hj : j < 8 := hj
      have hj2 : j < (u8s (swpP x)).length := by rw [u8s_len8 hx]; exact hj
      rw [Nat.zero_add, hf3 j hj]
      have := hl3 j (u8s (swpP x))[j] (by simp [hj2])
      rw [Nat.zero_add] at this
      rw [this]
      exact ⟨rfl, rfl⟩
    have hr : (w3.setCells (Be + 1) 0 [Value.int .u8 e0, .int .u8 e1, .int .u8 e2, .int .u8 e3, .int .u8 e4, .int .u8 e5, .int .u8 e6, .int .u8 e7]).rangeAt (Be + 1) 0 [Value.int .u8 e0, .int .u8 e1, .int .u8 e2, .int .u8 e3, .int .u8 e4, .int .u8 e5, .int .u8 e6, .int .u8 e7] := World.rangeAt_setCells_same _ _ _ _ hb
    have e : w3.setCells (Be + 1) 0 [Value.int .u8 e0, .int .u8 e1, .int .u8 e2, .int .u8 e3, .int .u8 e4, .int .u8 e5, .int .u8 e6, .int .u8 e7] = ((((((((w3.setCell ⟨Be + 1, 0, none⟩ (.int .u8 e0)).setCell ⟨Be + 1, 1, none⟩ (.int .u8 e1)).setCell ⟨Be + 1, 2, none⟩ (.int .u8 e2)).setCell ⟨Be + 1, 3, none⟩ (.int .u8 e3)).setCell ⟨Be + 1, 4, none⟩ (.int .u8 e4)).setCell ⟨Be + 1, 5, none⟩ (.int .u8 e5)).setCell ⟨Be + 1, 6, none⟩ (.int .u8 e6)).setCell ⟨Be + 1, 7, none⟩ (.int .u8 e7)) := by simp [World.setCells]
    rw [e] at hr
    exact ⟨hr 0 _ rfl, hr 1 _ rfl, hr 2 _ rfl, hr 3 _ rfl, hr 4 _ rfl, hr 5 _ rfl, hr 6 _ rfl, hr 7 _ rfl⟩
  refine ⟨(World.ownsMap.setCell (World.ownsMap.setCell (World.ownsMap.setCell (World.ownsMap.setCell (World.ownsMap.setCell (World.ownsMap.setCell (World.ownsMap.setCell (World.ownsMap.setCell hm3 (by show bm ≠ Be + 1; omega) _) (by show bm ≠ Be + 1; omega) _) (by show bm ≠ Be + 1; omega) _) (by show bm ≠ Be + 1; omega) _) (by show bm ≠ Be + 1; omega) _) (by show bm ≠ Be + 1; omega) _) (by show bm ≠ Be + 1; omega) _) (by show bm ≠ Be + 1; omega) _), ?_, hr.range hy, fun j hj => by simp only [World.frozen?_setCell]; exact hf3 j hj, (ownsRow_setCell_below (ownsRow_setCell_below (ownsRow_setCell_below (ownsRow_setCell_below (ownsRow_setCell_below (ownsRow_setCell_below (ownsRow_setCell_below (ownsRow_setCell_below hrow3 (show Be + 1 < Be + 2 by omega) _) (show Be + 1 < Be + 2 by omega) _) (show Be + 1 < Be + 2 by omega) _) (show Be + 1 < Be + 2 by omega) _) (show Be + 1 < Be + 2 by omega) _) (show Be + 1 < Be + 2 by omega) _) (show Be + 1 < Be + 2 by omega) _) (show Be + 1 < Be + 2 by omega) _), by simpa using hz3, hlo⟩
  have hfar : ∀ (W : World) (j : Nat) (u : Value), (W.setCell ⟨Be + 1, j, none⟩ u).cell? ⟨Be, 9, none⟩ = W.cell? ⟨Be, 9, none⟩ := fun W j u => World.cell?_setCell_far _ _ _ _ (by show Be + 1 ≠ Be; omega)
  rw [hfar, hfar, hfar, hfar, hfar, hfar, hfar, hfar]
  exact hb3
end

set_option maxRecDepth 100000 in
set_option maxHeartbeats 4000000 in
theorem exists_any (l : List UInt8) (L : List (List UInt8)) (c0 c1 c2 c3 c4 c5 c6 c7 m : Int) (b k : Nat) (D : DataW Unit) (w : World) (hc : Eight l c0 c1 c2 c3 c4 c5 c6 c7) (hl : G8 l) (h : w.ownsMap Tryd.prog 53 iRw b k D) (hv : LiveV D L) (hL : ∀ y ∈ L, G8 y) :
    Calls Tryd.prog 47 #[.agg #[.int .u8 c0, .int .u8 c1, .int .u8 c2, .int .u8 c3, .int .u8 c4, .int .u8 c5, .int .u8 c6, .int .u8 c7, .int .i64 m, .map (some b)]] w fun e w' => e = .returned (.bool (decide (0 < lvN L l))) ∧ Below w.heap.size w w' := by
  have hlook := live_at h hv hL hl
  rw [hc.val] at hlook
  have HR := Lib.hid (hlook _ (h.alloc (Obj.cells #[.int .u8 c0, .int .u8 c1, .int .u8 c2, .int .u8 c3, .int .u8 c4, .int .u8 c5, .int .u8 c6, .int .u8 c7, .int .i64 m, .map (some b)] 57)))
  have hr := HR.out
  clear hlook hc
  go_enter Tryd.func47, Tryd.ntmps47
  go_wp2_with fail
  go_ret
  refine ⟨by simp, (Below.refl _ _).alloc (Nat.le_refl _) _⟩

set_option maxRecDepth 100000 in
set_option maxHeartbeats 8000000 in
theorem playOut_first (n : Nat) (l : List UInt8) (c0 c1 c2 c3 c4 c5 c6 c7 : Int) (K bm k : Nat) (D : DataW Unit) (w : World) (hc : Eight l c0 c1 c2 c3 c4 c5 c6 c7) (hg : goodT n l) (h8 : n ≤ 8) (hK : K ≤ 50000) (hm : w.ownsMap Tryd.prog 53 iRw bm k D) (hv : LiveV D (swA l)) :
    Calls Tryd.prog 48 #[.agg #[.int .u8 c0, .int .u8 c1, .int .u8 c2, .int .u8 c3, .int .u8 c4, .int .u8 c5, .int .u8 c6, .int .u8 c7, .int .i64 (K : Int), .map (some bm)], .bool false] w fun e w' => ∃ v, e = .returned v ∧ w'.ownsRow w.heap.size 64 2 v (exM false K l).length (flat (exM false K l)) ∧ Below w.heap.size w w' := by
  obtain ⟨i0, hi, hz0, hz1, hz2⟩ := info_parts Tryd.infoM
  have HI := Lib.hid hi
  have HZ0 := Lib.hid hz0
  have HZ1 := Lib.hid hz1
  have HZ2 := Lib.hid hz2
  have HGA := Lib.hid (fun x (hx : x ∈ swA l) => swA_good hg x hx)
  have HIN := Lib.hid (fun i => exN_in hg false i l (swA_root l))
  have HCL := Lib.hid (fun x v (hx : x ∈ swA l) (h : v ∈ nxL x) => swA_closed hg hx h)
  have HV := Lib.hid hv
  have HM := Lib.hid hm
  have HCE := Lib.hid hc
  have hlo := hm.lt
  clear hi hz0 hz1 hz2 hv hm hc
  go_enter Tryd.func48, Tryd.ntmps48
  go_wp2_with fail
  go_step3
  go_wp2_with fail
  go_step3
  go_wp2_with fail
  have hB0 : Below w.heap.size w ((w.alloc (.cells #[.int .u8 c0, .int .u8 c1, .int .u8 c2, .int .u8 c3, .int .u8 c4, .int .u8 c5, .int .u8 c6, .int .u8 c7, .int .i64 (K : Int), .map (some bm)] 57)).alloc (.cells #[.int .u8 c0, .int .u8 c1, .int .u8 c2, .int .u8 c3, .int .u8 c4, .int .u8 c5, .int .u8 c6, .int .u8 c7] 53)) := ((Below.refl _ w).alloc (Nat.le_refl _) _).alloc (by simp) _
  have hP0 : PoW ((w.alloc (.cells #[.int .u8 c0, .int .u8 c1, .int .u8 c2, .int .u8 c3, .int .u8 c4, .int .u8 c5, .int .u8 c6, .int .u8 c7, .int .i64 (K : Int), .map (some bm)] 57)).alloc (.cells #[.int .u8 c0, .int .u8 c1, .int .u8 c2, .int .u8 c3, .int .u8 c4, .int .u8 c5, .int .u8 c6, .int .u8 c7] 53)) w.heap.size bm k D l [] (.slice none 0 0) := by
    have h9 : (w.alloc (.cells #[.int .u8 c0, .int .u8 c1, .int .u8 c2, .int .u8 c3, .int .u8 c4, .int .u8 c5, .int .u8 c6, .int .u8 c7, .int .i64 (K : Int), .map (some bm)] 57)).cell? ⟨w.heap.size, 9, none⟩ = some (.map (some bm)) := by rw [World.cell?_alloc_new]; rfl
    have hm1 := HM.out.alloc (.cells #[.int .u8 c0, .int .u8 c1, .int .u8 c2, .int .u8 c3, .int .u8 c4, .int .u8 c5, .int .u8 c6, .int .u8 c7, .int .i64 (K : Int), .map (some bm)] 57)
    have hz : (w.alloc (.cells #[.int .u8 c0, .int .u8 c1, .int .u8 c2, .int .u8 c3, .int .u8 c4, .int .u8 c5, .int .u8 c6, .int .u8 c7, .int .i64 (K : Int), .map (some bm)] 57)).heap.size = w.heap.size + 1 := by simp
    generalize (w.alloc (.cells #[.int .u8 c0, .int .u8 c1, .int .u8 c2, .int .u8 c3, .int .u8 c4, .int .u8 c5, .int .u8 c6, .int .u8 c7, .int .i64 (K : Int), .map (some bm)] 57)) = wa at h9 hm1 hz ⊢
    have hx := Box8.new wa c0 c1 c2 c3 c4 c5 c6 c7
    have hx2 := hx
    rw [hz] at hx
    refine ⟨hm1.alloc _, ?_, hx.cells.range HCE.out, fun j hj => ?_, World.ownsRow_nil _ _ _ _, by simp; omega, hlo⟩
    · exact (((Below.refl _ wa).alloc (Nat.le_refl _) _).cell (p := ⟨w.heap.size, 9, none⟩) (by show w.heap.size < wa.heap.size; omega)).trans h9
    · unfold World.frozen?
      rw [hx]
      rcases (by omega : j = 0 ∨ j = 1 ∨ j = 2 ∨ j = 3 ∨ j = 4 ∨ j = 5 ∨ j = 6 ∨ j = 7) with rfl | rfl | rfl | rfl | rfl | rfl | rfl | rfl <;> rfl
  have HP0 := Lib.hid hP0
  have HB0 := Lib.hid hB0
  clear hP0 hB0
  go_loopg [5, 15] K (fun gk v t wr => ∃ i : Nat, i + gk = K ∧ t = .int .i64 i ∧ Hid (PoW wr w.heap.size bm k D (exN false i l) (exM false i l) v) ∧ Hid (Below w.heap.size w wr))
  case atStart => exact ⟨0, by omega, rfl, HP0, HB0⟩
  case round =>
    obtain ⟨i, hik, rfl, HP, HB⟩ := hrel
    obtain ⟨W, hW⟩ : ∃ W : World, W = wr := ⟨_, rfl⟩
    subst hW
    obtain ⟨G, hG⟩ : ∃ G : Nat, G = gk := ⟨_, rfl⟩
    subst hG
    obtain ⟨vF, hvF⟩ : ∃ v : Value, v = u5 := ⟨_, rfl⟩
    subst hvF
    clear HP0 HB0
    by_cases hlt : i < K
    · have hlti : (i : Int) < (K : Int) := by omega
      have hxin := HIN.out i
      have hgx := HGA.out _ hxin
      have HSN := Lib.hid (exM_snoc false i l)
      have hFL := exM_len false i l
      generalize exN false i l = x at HP hxin hgx HSN
      generalize exM false i l = F at HP HSN hFL
      have hx8 := (G8.of hgx h8).len
      have HX8 := Lib.hid hx8
      obtain ⟨d0, d1, d2, d3, d4, d5, d6, d7, hd⟩ := eight_of hx8
      have HD := Lib.hid hd
      have HMV := Lib.hid (fun wx => swpMoves_any n x wx hgx h8)
      have HBH := Lib.hid (fun a c wx ha hc hne => swBehind_any n x a c wx hgx h8 ha hc hne)
      rw [hd.val] at HMV HBH
      have HAT := Lib.hid (fun i (h : i < (mvL x).length) => mvL_at x i h)
      have HMX := Lib.hid (fun i (h : i < (mvL x).length) => mv_nx (List.getElem_mem h))
      have HXIN := Lib.hid hxin
      have HGX := Lib.hid hgx
      obtain ⟨q0, q1, q2, q3, q4, q5, q6, q7⟩ := (hd.at HP.out.ln).zero
      clear hd hxin hgx hx8
      go_wp2_with fail
      refine (HMV.out _).mono ?_
      rintro e w2 ⟨v2, rfl, ho2, hb2⟩
      obtain ⟨A2, cap2, rfl, at2⟩ := at_of_own ho2
      have HP2 := Lib.hid (HP.out.below hb2)
      have HB2 := Lib.hid (HB.out.trans (hb2.mono HB.out.size))
      have AT2 := Lib.hid at2
      clear at2 ho2 hb2 q0 q1 q2 q3 q4 q5 q6 q7 HMV HP HB
      have HPK : Hid (pickM false x = (mvL x).find? (lvM x)) := Lib.hid rfl
      have hMle : (mvL x).length ≤ 8 := Nat.le_trans (mvL_le x) HX8.out
      generalize hMM : mvL x = M at AT2 HAT HMX HPK hMle ⊢
      clear hMM
      go_wp2_with fail
      go_loopg [5, 24] M.length (fun gj s t wr => ∃ j : Nat, j + gj = M.length ∧ s = vF ∧ t = .int .i64 j ∧ Hid (∀ q (hq : q < M.length), q < j → lvM x M[q] = false) ∧ Hid (PoW wr w.heap.size bm k D x F vF) ∧ Hid (MvAt wr A2 M) ∧ Hid (Below w.heap.size w wr))
      case atStart => exact ⟨0, by omega, rfl, rfl, Lib.hid (fun q _ h => by omega), HP2, AT2, HB2⟩
      case round =>
        obtain ⟨j, hjk, hs5, rfl, HN, HPJ, HMA, HBJ⟩ := hrel
        subst hs5
        obtain ⟨V, hV⟩ : ∃ V : World, V = wr := ⟨_, rfl⟩
        subst hV
        clear HP2 HB2 AT2
        by_cases hltj : j < M.length
        · obtain ⟨a, c, e1, e2, ha, hc', hne, _⟩ := HAT.out j hltj
          have hyx := HMX.out j hltj
          obtain ⟨gm, rfl, hgm, m0, m1⟩ := HMA.out j hltj
          have hMj : M[j] = ((a : Int), (c : Int)) := Prod.ext e1 e2
          have HMJ := Lib.hid hMj
          rw [e1] at m0 hyx
          rw [e2] at m1 hyx
          have hHBH := fun wx => HBH.out a c wx ha hc' hne
          have hyin := HCL.out x _ HXIN.out hyx
          have hgy := nx_good HGX.out hyx
          have hlvM : lvM x M[j] = decide (0 < swN (behind (str x) (a : Int) (c : Int))) := by rw [hMj]; rfl
          have HBEH := Lib.hid (show behind (str x) M[j].1 M[j].2 = behind (str x) (a : Int) (c : Int) by rw [hMj])
          generalize behind (str x) (a : Int) (c : Int) = y at hHBH hyin hgy hlvM HBEH hyx
          have hdec : decide (0 < lvN (swA l) y) = lvM x M[j] := by
            rw [hlvM]
            unfold lvN
            rw [if_pos hyin]
          have HDEC := Lib.hid hdec
          have hy8 := G8.of hgy h8
          obtain ⟨e0, e1', e2', e3, e4, e5, e6, e7, he⟩ := eight_of hy8.len
          have HHAS := Lib.hid (fun wx hm => liveHas_any y (swA l) bm k D wx hy8 hm HV.out (fun z hz => G8.of (HGA.out z hz) h8))
          rw [he.val] at hHBH HHAS
          have HBH2 := Lib.hid hHBH
          have HEY := Lib.hid he
          have hjn : (j : Int) < (M.length : Int) := by omega
          clear e1 e2 hyx hHBH hyin hgy hlvM hy8 he hMj hne hdec
          go_upto_region 11 with fail
          generalize hV1 : V.alloc (Obj.cells #[Value.int IntKind.i64 ↑a, Value.int IntKind.i64 ↑c] 64) = V1
          have hbv1 : Below V.heap.size V V1 := by rw [← hV1]; exact (Below.refl _ _).alloc (Nat.le_refl _) _
          have p0 : V1.cell? ⟨V.heap.size, 0, none⟩ = some (.int .i64 a) := by rw [← hV1, World.cell?_alloc_new]; rfl
          have p1 : V1.cell? ⟨V.heap.size, 1, none⟩ = some (.int .i64 c) := by rw [← hV1, World.cell?_alloc_new]; rfl
          have zv1 : V.heap.size < V1.heap.size := by rw [← hV1]; simp
          obtain ⟨q0, q1, q2, q3, q4, q5, q6, q7⟩ := (HD.out.at (HPJ.out.below hbv1).ln).zero
          have HBV1 := Lib.hid hbv1
          clear hV1 m0 m1 hbv1
          go_wp2_with fail
          refine (HBH2.out _).mono ?_
          rintro e w3 ⟨rfl, hb3⟩
          have hbv : Below V.heap.size V w3 := HBV1.out.trans (hb3.mono HBV1.out.size)
          replace p0 := (hb3.cell (p := ⟨V.heap.size, 0, none⟩) zv1).trans p0
          replace p1 := (hb3.cell (p := ⟨V.heap.size, 1, none⟩) zv1).trans p1
          have zv : V.heap.size < w3.heap.size := Nat.lt_of_lt_of_le zv1 hb3.size
          have HP3 := Lib.hid (HPJ.out.below hbv)
          have HM3 := Lib.hid (HMA.out.below hbv)
          have HB3 := Lib.hid (HBJ.out.trans (hbv.mono HBJ.out.size))
          have bx3 := HP3.out.bx
          clear hb3 hbv q0 q1 q2 q3 q4 q5 q6 q7 bx3
          go_upto_region 12 with fail
          generalize hV3 : w3.alloc (Obj.cells #[.int .u8 e0, .int .u8 e1', .int .u8 e2', .int .u8 e3, .int .u8 e4, .int .u8 e5, .int .u8 e6, .int .u8 e7] 53) = V3
          have hbv3 : Below w3.heap.size w3 V3 := by rw [← hV3]; exact (Below.refl _ _).alloc (Nat.le_refl _) _
          have hx3 : Box8 V3 w3.heap.size e0 e1' e2' e3 e4 e5 e6 e7 := by rw [← hV3]; exact Box8.new _ _ _ _ _ _ _ _ _
          replace p0 := (hbv3.cell (p := ⟨V.heap.size, 0, none⟩) zv).trans p0
          replace p1 := (hbv3.cell (p := ⟨V.heap.size, 1, none⟩) zv).trans p1
          have zv3 : V.heap.size < V3.heap.size := Nat.lt_of_lt_of_le zv hbv3.size
          have HP4 := Lib.hid (HP3.out.below hbv3)
          have HM4 := Lib.hid (HM3.out.below hbv3)
          have HB4 := Lib.hid (HB3.out.trans (hbv3.mono HB3.out.size))
          have bx4 := HP4.out.bx
          have HX3 := Lib.hid hx3
          obtain ⟨r0, r1, r2, r3, r4, r5, r6, r7⟩ := hx3.cells.zero
          clear hV3 hbv3 hx3 HP3 HM3 HB3
          go_wp2_with fail
          refine (HHAS.out _ HP4.out.map).mono ?_
          rintro e w5 ⟨rfl, hb5⟩
          rw [HDEC.out]
          replace p0 := (hb5.cell (p := ⟨V.heap.size, 0, none⟩) zv3).trans p0
          replace p1 := (hb5.cell (p := ⟨V.heap.size, 1, none⟩) zv3).trans p1
          have HX5 := Lib.hid (HX3.out.kept (grown_of_below hb5) (by simp))
          have HP5 := Lib.hid (HP4.out.below hb5)
          have HM5 := Lib.hid (HM4.out.below hb5)
          have HB5 := Lib.hid (HB4.out.trans (hb5.mono HB4.out.size))
          have zv5 : V.heap.size < w5.heap.size := Nat.lt_of_lt_of_le zv3 hb5.size
          clear hb5 r0 r1 r2 r3 r4 r5 r6 r7 bx4 HX3 HP4 HM4 HB4
          cases hb : lvM x M[j]
          · have HN2 : Hid (∀ q (hq : q < M.length), q < j + 1 → lvM x M[q] = false) := Lib.hid (fun q hq hqj => by
              by_cases h : q < j
              · exact HN.out q hq h
              · obtain rfl : q = j := by omega
                exact hb)
            clear hb
            go_wp2_with fail
            go_roundg (gk - 1)
            case measure => omega
            case rel => exact ⟨j + 1, by omega, rfl, by go_num, HN2, HP5, HM5, HB5⟩
          · have HYES : Hid (exM false (i + 1) l = F ++ [((a : Int), (c : Int))] ∧ exN false (i + 1) l = y) := Lib.hid (by
              obtain ⟨h1, h2⟩ := HSN.out
              have h3 := find_at (lvM x) M j hltj (fun q hq => HN.out q (by omega) hq) hb
              rw [HPK.out, h3] at h1 h2
              refine ⟨by rw [h1]; simp [HMJ.out], ?_⟩
              rw [h2]
              exact HBEH.out)
            clear hb
            have hrow := HP5.out.row
            have hvo := fun g e => (HPJ.out.row.lt g e).2
            have H2 : ∀ u ∈ [Value.int .i64 (a : Int), Value.int .i64 (c : Int)], u.oneCell' = true := fun u hu => by simp at hu; rcases hu with rfl | rfl <;> rfl
            have H3 : F.length + 1 ≤ maxLen := by unfold maxLen; omega
            have H4 : (F.length + 1) * 16 ≤ 140737488355328 := by omega
            have H5 : w.heap.size + 2 ≤ (w5.alloc (Obj.cells #[.int .i64 (a : Int), .int .i64 (c : Int)] 64)).heap.size := by have := HP5.out.lt; simp; omega
            go_wp2_with (first | (at_builtin; refine wpList_append_own _ rfl _ _ 22 rfl (w.heap.size + 2) 64 i0 (.agg #[.int .i64 0, .int .i64 0]) 2 16 Tryd.underlying22 HI.out HZ0.out HZ1.out HZ2.out rfl (by decide) _ _ _ rfl (hrow.alloc _) ⟨w5.heap.size, 0, none⟩ 1 1 [.int .i64 (a : Int), .int .i64 (c : Int)] rfl rfl (cell_two_new _ _ _ _) H2 H3 H4 H5 ?_; intro v' w6 hown' hgrow _; obtain ⟨hm6, hb6, hl6, hf6, hz6⟩ := (HP5.out.below ((Below.refl _ w5).alloc (Nat.le_refl _) _)).grown hgrow; have hx6 := (HX5.out.kept (World.grownBy_alloc w5 (Obj.cells #[.int .i64 (a : Int), .int .i64 (c : Int)] 64) none) (by simp)).kept hgrow (fun e => by have := hvo _ e.symm; omega); obtain ⟨y0, y1, y2, y3, y4, y5, y6, y7⟩ := (HD.out.at hl6).zero; obtain ⟨z0, z1, z2, z3, z4, z5, z6, z7⟩ := hx6.cells.zero; have f0 := hf6 0 (by decide); have f1 := hf6 1 (by decide); have f2 := hf6 2 (by decide); have f3 := hf6 3 (by decide); have f4 := hf6 4 (by decide); have f5 := hf6 5 (by decide); have f6 := hf6 6 (by decide); have f7 := hf6 7 (by decide)))
            have hrow6 : w6.ownsRow (w.heap.size + 2) 64 2 v' (F ++ [((a : Int), (c : Int))]).length (flat (F ++ [((a : Int), (c : Int))])) := by
              have e1 : flat (F ++ [((a : Int), (c : Int))]) = flat F ++ [.int .i64 (a : Int), .int .i64 (c : Int)] := by simp [flat]
              rw [e1, List.length_append]
              exact hown'
            have HPN := Lib.hid (PoW.made hm6 hb6 hl6 HX8.out hf6 hz6 hlo hrow6 HEY.out)
            have HB6 := Lib.hid ((HB5.out.alloc HB5.out.size (Obj.cells #[.int .i64 (a : Int), .int .i64 (c : Int)] 64)).grown hgrow (by have := HB5.out.size; simp; omega) (fun g e => by have := (hrow.lt g e).1; omega))
            go_roundg (G - 1)
            case measure => omega
            case rel => exact ⟨i + 1, by omega, by go_num, by rw [HYES.out.1, HYES.out.2]; exact HPN, Lib.hid (Below.setCell (Below.setCell (Below.setCell (Below.setCell (Below.setCell (Below.setCell (Below.setCell (Below.setCell HB6.out (show w.heap.size ≤ w.heap.size + 1 by omega) _) (show w.heap.size ≤ w.heap.size + 1 by omega) _) (show w.heap.size ≤ w.heap.size + 1 by omega) _) (show w.heap.size ≤ w.heap.size + 1 by omega) _) (show w.heap.size ≤ w.heap.size + 1 by omega) _) (show w.heap.size ≤ w.heap.size + 1 by omega) _) (show w.heap.size ≤ w.heap.size + 1 by omega) _) (show w.heap.size ≤ w.heap.size + 1 by omega) _)⟩
        · obtain rfl : j = M.length := by omega
          have HNO : Hid (exM false (i + 1) l = F ∧ exN false (i + 1) l = x) := Lib.hid (by
            obtain ⟨h1, h2⟩ := HSN.out
            have h3 := find_no (lvM x) M (fun q hq => HN.out q hq hq)
            rw [HPK.out, h3] at h1 h2
            exact ⟨by simpa using h1, h2⟩)
          go_wp2_with fail
          go_roundg (G - 1)
          case measure => omega
          case rel => exact ⟨i + 1, by omega, by go_num, by rw [HNO.out.1, HNO.out.2]; exact HPJ, HBJ⟩
    · obtain rfl : i = K := by omega
      go_wp2_with fail
      (try rw [Exit.noGoto_ret])
      go_ret
      exact ⟨_, rfl, own_lowerW HP.out.row (by omega), HB.out⟩
end Go.Proofs.YtjadnfnpbacfdaaDoor
