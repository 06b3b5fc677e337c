/- Search in breadth, the model's memory; no walk. -/
import Derived.Test.YtdcbjbmnkajjcaaReAddF
import Derived.Test.YtdcbjbmnkajjcaaRuG
import Derived.Deep.AppendLies
import Derived.Deep.RegionLaw
namespace Go.Proofs.Ytdcbjbmnkajjcaa
open Go.RowKit

def depF (L : Fnd) : List Int := L.map fun p => (p.2 : Int)
theorem depF_len (L : Fnd) : (depF L).length = L.length := by simp [depF]
theorem depF_app (L M : Fnd) : depF (L ++ M) = depF L ++ depF M := by simp [depF]
theorem nus_app (a b : List Int) : nus (a ++ b) = nus a ++ nus b := by simp [nus]
/-- Rows of two kinds lie apart. -/
theorem rows_apart {W : World} {b b' : Nat} {e e' : TypeId} {n n' m m' : Nat} {v v' : Value} {xs xs' : List Value} (h : W.ownsRow b e m v n xs) (h' : W.ownsRow b' e' m' v' n' xs') (hne : e ≠ e') : v.ownBlock = none ∨ v.ownBlock ≠ v'.ownBlock := by
  rcases h.2 with ⟨hv, _⟩ | ⟨g, cap, cur, rfl, _, hg, _⟩
  · subst hv; exact .inl rfl
  · refine .inr fun e2 => ?_
    rcases h'.2 with ⟨hv, _⟩ | ⟨g', cap', cur', rfl, _, hg', _⟩
    · subst hv; cases e2
    · injection e2 with e2
      have e2 : g = g' := e2
      subst e2
      rw [hg] at hg'
      injection hg' with hg'
      injection hg' with _ h3 _
      exact hne h3
theorem own_ne_cells {W : World} {b B : Nat} {e T : TypeId} {n m : Nat} {v : Value} {xs : List Value} {cs : Array Value} (h : W.ownsRow b e m v n xs) (hB : W.heap[B]? = some (.cells cs T (0, 0))) (hne : e ≠ T) : v.ownBlock ≠ some B := by
  rcases h.2 with ⟨hv, _⟩ | ⟨g, cap, cur, rfl, _, hg, _⟩
  · subst hv; intro h; cases h
  · intro e2
    injection e2 with e2
    have e2 : g = B := e2
    subst e2
    rw [hg] at hB
    injection hB with hB
    injection hB with _ h3 _
    exact hne h3
theorem own_setB {W : World} {b B : Nat} {e : TypeId} {n m : Nat} {v : Value} {xs : List Value} (h : W.ownsRow b e m v n xs) (hne : v.ownBlock ≠ some B) (i : Nat) (u : Value) : (W.setCell ⟨B, i, none⟩ u).ownsRow b e m v n xs :=
  own_farB h ((FarB.refl (some B) W).set i u) (fun g hg e => hne (by rw [hg, e]))
theorem set_box0 {W : World} {B : Nat} {va vb : Value} {T : TypeId} {u : Value} (hb : W.heap[B]? = some (.cells #[va, vb] T (0, 0))) : (W.setCell ⟨B, 0, none⟩ u).heap[B]? = some (.cells #[u, vb] T (0, 0)) := by
  have := heap_setCell_same W B 0 #[va, vb] T u hb
  simpa using this
theorem set_box1 {W : World} {B : Nat} {va vb : Value} {T : TypeId} {u : Value} (hb : W.heap[B]? = some (.cells #[va, vb] T (0, 0))) : (W.setCell ⟨B, 1, none⟩ u).heap[B]? = some (.cells #[va, u] T (0, 0)) := by
  have := heap_setCell_same W B 1 #[va, vb] T u hb
  simpa using this
theorem box_cells {W : World} {B : Nat} {va vb : Value} {T : TypeId} (hb : W.heap[B]? = some (.cells #[va, vb] T (0, 0))) :
    W.cell? ⟨B, 0, none⟩ = some va ∧ W.cell? ⟨B, 1, none⟩ = some vb ∧ W.frozen? ⟨B, 0, none⟩ = false ∧ W.frozen? ⟨B, 1, none⟩ = false := by
  refine ⟨?_, ?_, ?_, ?_⟩ <;> simp [World.cell?, World.frozen?, hb]
/-- One element, made. -/
theorem own_one (W : World) (b : Nat) (e : TypeId) (x : Value) (hb : b ≤ W.heap.size) : (W.alloc (.cells #[x] e)).ownsRow b e 1 (.slice (some ⟨W.heap.size, 0, none⟩) 1 1) 1 [x] :=
  ⟨rfl, .inr ⟨W.heap.size, 1, #[x], rfl, hb, heap_alloc_new W _, Nat.le_refl _, by decide, rfl, rfl⟩⟩
abbrev rrT : TypeId := 39
/-- The lines found, with their steps, in the model's memory; and those found in order. -/
structure RrW (W : World) (R0 B : Nat) (L : Fnd) (S : List (List UInt8)) (va vb v6 : Value) : Prop where
  box : W.heap[B]? = some (.cells #[va, vb] rrT (0, 0))
  low : R0 ≤ B
  la : W.ownsRow R0 9 1 va L.length (txs (keysF L))
  lb : W.ownsRow R0 3 1 vb L.length (nus (depF L))
  f6 : W.ownsRow R0 9 1 v6 S.length (txs S)
  ap : v6.ownBlock ≠ va.ownBlock
  sne : S ≠ []
  ri : Rising S
  me : ∀ x, x ∈ S ↔ x ∈ keysF L
theorem RrW.below {W W' : World} {R0 B : Nat} {L : Fnd} {S : List (List UInt8)} {va vb v6 : Value} (h : RrW W R0 B L S va vb v6) (hb : Below W.heap.size W W') : RrW W' R0 B L S va vb v6 :=
  ⟨(hb.block B (Array.getElem?_eq_some_iff.1 h.box).1).trans h.box, h.low, own_below h.la hb, own_below h.lb hb, own_below h.f6 hb, h.ap, h.sne, h.ri, h.me⟩
theorem RrW.lt {W : World} {R0 B : Nat} {L : Fnd} {S : List (List UInt8)} {va vb v6 : Value} (h : RrW W R0 B L S va vb v6) : B < W.heap.size := (Array.getElem?_eq_some_iff.1 h.box).1
theorem T_str : (9 : TypeId) ≠ rrT := by decide
theorem T_int : (3 : TypeId) ≠ rrT := by decide
theorem T_si : (9 : TypeId) ≠ 3 := by decide
/-- What remains of it behind one more line: that line is appended, and the field stored. -/
theorem rr_one {W w4 : World} {R0 B : Nat} {L : Fnd} {S S' : List (List UInt8)} {va vb v6 v6' : Value} {x : List UInt8} (h : RrW W R0 B L S va vb v6) (o : Obj) {w3 : World} (hb3 : Below W.heap.size W w3) (h6 : w3.ownsRow W.heap.size 9 1 v6' S'.length (txs S')) (h60 : S' ≠ [])
    {ga ca : Nat} (hg : (w3.alloc o).grownBy w4 va.ownBlock) (h4 : w4.ownsRow R0 9 1 (.slice (some ⟨ga, 0, none⟩) (L.length + 1) ca) (L.length + 1) (txs (keysF L) ++ [.string (str x)])) (hat : va.ownBlock = some ga ∨ ga = (w3.alloc o).heap.size) :
    w4.heap[B]? = some (.cells #[va, vb] rrT (0, 0)) ∧ (w4.setCell ⟨B, 0, none⟩ (.slice (some ⟨ga, 0, none⟩) (L.length + 1) ca)).heap[B]? = some (.cells #[.slice (some ⟨ga, 0, none⟩) (L.length + 1) ca, vb] rrT (0, 0)) ∧
      (w4.setCell ⟨B, 0, none⟩ (.slice (some ⟨ga, 0, none⟩) (L.length + 1) ca)).ownsRow R0 9 1 (.slice (some ⟨ga, 0, none⟩) (L.length + 1) ca) (L.length + 1) (txs (keysF L) ++ [.string (str x)]) ∧
      (w4.setCell ⟨B, 0, none⟩ (.slice (some ⟨ga, 0, none⟩) (L.length + 1) ca)).ownsRow R0 3 1 vb L.length (nus (depF L)) ∧
      (w4.setCell ⟨B, 0, none⟩ (.slice (some ⟨ga, 0, none⟩) (L.length + 1) ca)).ownsRow R0 9 1 v6' S'.length (txs S') ∧ v6'.ownBlock ≠ some ga := by
  have hz3 := hb3.size
  have hlt := h.lt
  have hBa := own_ne_cells h.la h.box T_str
  have b4 : w4.heap[B]? = some (.cells #[va, vb] rrT (0, 0)) := by
    rw [hg.block B (by simp; omega) (fun e => hBa e.symm), Below.heap_alloc _ _ _ (by omega), hb3.block B hlt]; exact h.box
  have n4 := own_ne_cells h4 b4 T_str
  obtain ⟨g6, c6, e6, hg6, hl6⟩ := h6.form (by cases S' with | nil => exact absurd rfl h60 | cons a l => simp)
  have hn6a : v6'.ownBlock ≠ va.ownBlock := by
    rw [e6]
    intro e
    have := (h.la.lt g6 e.symm).2
    omega
  have k6 := (h6.alloc o).kept hg (.inr hn6a)
  have kb := ((own_below h.lb hb3).alloc o).kept hg (by
    rcases rows_apart h.lb h.la (fun e => T_si e.symm) with h | h
    · exact .inl h
    · exact .inr h)
  refine ⟨b4, set_box0 b4, own_setB h4 n4 0 _, own_setB kb (own_ne_cells kb b4 T_int) 0 _, own_base (own_setB k6 (own_ne_cells k6 b4 T_str) 0 _) (by have := h.low; omega), ?_⟩
  rw [e6]
  intro e
  injection e with e
  have e : g6 = ga := e
  rcases hat with hat | hat
  · have := (h.la.lt ga hat).2
    omega
  · rw [hat] at e
    simp at e
    omega
end Go.Proofs.Ytdcbjbmnkajjcaa
