/- What a call keeps that writes into the memory of one box alone; no walk. -/
import Derived.Test.YtdcbjbmnkajjcaaSl
import Derived.Test.YtdcbjbmnkajjcaaMoves
namespace Go.Proofs.Ytdcbjbmnkajjcaa
open Go.RowKit

/-- What a row of its own holds. -/
theorem own_open {w : World} {base n : Nat} {e : TypeId} {v : Value} {vs : List Value} (ho : w.ownsRow base e 1 v n vs) (hn : 0 < n) : ∃ g cap, v = .slice (some ⟨g, 0, none⟩) n cap ∧ base ≤ g ∧ g < w.heap.size ∧ n ≤ cap ∧ cap ≤ maxLen ∧ ∀ k (h : k < vs.length), w.cell? ⟨g, k, none⟩ = some vs[k] := by
  obtain ⟨hlen, h2 | ⟨g, cap, cur, rfl, hb, hg, hle, hm, hs, ht⟩⟩ := ho
  · omega
  · have ho : w.ownsRow base e 1 (.slice (some ⟨g, 0, none⟩) n cap) n vs := ⟨hlen, .inr ⟨g, cap, cur, rfl, hb, hg, hle, hm, hs, ht⟩⟩
    refine ⟨g, cap, rfl, hb, (Array.getElem?_eq_some_iff.1 hg).1, hle, hm, fun k hk => ?_⟩
    have := ho.cells (g := g) rfl k vs[k] (by simp)
    rw [addr_add] at this
    exact this
/-- Block k is the memory of what lies in box B: the box itself, or a row of one of its fields. -/
def Ex (B : Nat) (W : World) (k : Nat) : Prop := k = B ∨ ∃ o v, W.cell? ⟨B, o, none⟩ = some v ∧ v.ownBlock = some k
/-- All blocks that were there and are no memory of the box lie as they lay. -/
structure KpX (B : Nat) (W W' : World) : Prop where
  os : W'.os = W.os
  tape : W'.tape = W.tape
  output : W'.output = W.output
  size : W.heap.size ≤ W'.heap.size
  keep : ∀ k, k < W.heap.size → ¬ Ex B W k → W'.heap[k]? = W.heap[k]?
  ex : ∀ k, k < W.heap.size → Ex B W' k → Ex B W k
theorem KpX.refl (B : Nat) (W : World) : KpX B W W := ⟨rfl, rfl, rfl, Nat.le_refl _, fun _ _ _ => rfl, fun _ _ h => h⟩
theorem KpX.trans {B : Nat} {a b c : World} (h : KpX B a b) (k : KpX B b c) : KpX B a c :=
  ⟨k.os.trans h.os, k.tape.trans h.tape, k.output.trans h.output, Nat.le_trans h.size k.size,
    fun i hi hn => (k.keep i (Nat.lt_of_lt_of_le hi h.size) fun he => hn (h.ex i hi he)).trans (h.keep i hi hn),
    fun i hi he => h.ex i hi (k.ex i (Nat.lt_of_lt_of_le hi h.size) he)⟩
theorem KpX.below {B : Nat} {W W' : World} (hB : B < W.heap.size) (h : Below W.heap.size W W') : KpX B W W' :=
  ⟨h.os, h.tape, h.output, h.size, fun k hk _ => h.block k hk, fun k _ he => by
    rcases he with he | ⟨o, v, hc, hv⟩
    · exact .inl he
    · exact .inr ⟨o, v, (h.cell (p := ⟨B, o, none⟩) hB).symm.trans hc, hv⟩⟩
theorem KpX.to_below {B : Nat} {W W' : World} (h : KpX B W W') (hB : B ≤ W.heap.size) (he : ∀ k, Ex B W k → B ≤ k) : Below B W W' :=
  ⟨h.os, h.tape, h.output, h.size, fun k hk => h.keep k (by omega) fun e => by have := he k e; omega⟩
theorem MvAt.kp {B : Nat} {w w' : World} {A : Option Addr} {l : List (Int × Int)} (h : MvAt w A l) (hf : KpX B w w') (hne : ∀ a, A = some a → ¬ Ex B w a.block) : MvAt w' A l := by
  intro k hk
  obtain ⟨g, a, b, c, d⟩ := h k hk
  have e : ∀ o, w'.cell? ⟨g, o, none⟩ = w.cell? ⟨g, o, none⟩ := fun o => World.cell?_of_block (a := ⟨g, o, none⟩) (hf.keep g b (hne _ a))
  exact ⟨g, a, Nat.lt_of_lt_of_le b hf.size, (e _).trans c, (e _).trans d⟩

section
variable {W : World}
/-- Rows of two kinds lie apart. -/
theorem own_apart {b b' : Nat} {e e' : TypeId} {n n' m m' : Nat} {v v' : Value} {xs xs' : List Value} (h : W.ownsRow b e m v n xs) (h' : W.ownsRow b' e' m' v' n' xs') (hne : e ≠ e') : v.ownBlock = none ∨ v.ownBlock ≠ v'.ownBlock := by
  rcases h.2 with ⟨hv, _⟩ | ⟨g, cap, cur, rfl, _, hg, _⟩
  · subst hv; exact .inl rfl
  · refine .inr fun e2 => ?_
    rcases h'.2 with ⟨hv, _⟩ | ⟨g', cap', cur', rfl, _, hg', _⟩
    · subst hv; cases e2
    · injection e2 with e2
      have e2 : g = g' := e2
      subst e2
      rw [hg] at hg'
      injection hg' with hg'
      injection hg' with _ h3 _
      exact hne h3
end
section
variable {W w3 w5 : World} {B n m k : Nat} {vs vw v' : Value} {xs ys xs' : List Value} {o : Obj}
theorem box_apart (h1 : W.ownsRow (B + 1) 9 1 vs n xs) : some B ≠ vs.ownBlock := fun e => by have := h1.lt B e.symm; omega
theorem heap_set0 {T : TypeId} {u : Value} (hb : W.heap[B]? = some (.cells #[vs, vw] T (0, 0))) : (W.setCell ⟨B, 0, none⟩ u).heap[B]? = some (.cells #[u, vw] T (0, 0)) := by
  have := heap_setCell_same W B 0 #[vs, vw] T u hb
  simpa using this
theorem heap_set1 {T : TypeId} {u : Value} (hb : W.heap[B]? = some (.cells #[vs, vw] T (0, 0))) : (W.setCell ⟨B, 1, none⟩ u).heap[B]? = some (.cells #[vs, u] T (0, 0)) := by
  have := heap_setCell_same W B 1 #[vs, vw] T u hb
  simpa using this
theorem own_off {e : TypeId} {m : Nat} (h : W.ownsRow (B + 1) e m vs n xs) (i : Nat) (u : Value) : (W.setCell ⟨B, i, none⟩ u).ownsRow (B + 1) e m vs n xs :=
  ownsRow_setCell_other h (fun e2 => by have := h.lt B e2; omega) u
/-- A block made, a row grown, a field stored: what it keeps. -/
theorem kp_step {i : Nat} {u u' : Value} (hi : W.cell? ⟨B, i, none⟩ = some u) (hg : (W.alloc o).grownBy w3 u.ownBlock)
    (hat : u'.ownBlock = u.ownBlock ∨ u'.ownBlock = some (W.alloc o).heap.size) (hex : ∀ j v, (w3.setCell ⟨B, i, none⟩ u').cell? ⟨B, j, none⟩ = some v → v = u' ∨ W.cell? ⟨B, j, none⟩ = some v) : KpX B W (w3.setCell ⟨B, i, none⟩ u') := by
  have hs := hg.size
  simp at hs
  refine ⟨hg.os, hg.tape, hg.output, by simp; omega, fun k hk hn => ?_, fun k hk he => ?_⟩
  · have hkB : k ≠ B := fun e => hn (.inl e)
    have hku : some k ≠ u.ownBlock := fun e => hn (.inr ⟨i, u, hi, e.symm⟩)
    rw [Below.heap_setCell _ _ _ _ hkB, hg.block k (by simp; omega) hku, Below.heap_alloc _ _ _ hk]
  · rcases he with he | ⟨j, v, hc, hv⟩
    · exact .inl he
    · rcases hex j v hc with rfl | h
      · rcases hat with h | h
        · exact .inr ⟨i, u, hi, by rw [← h]; exact hv⟩
        · rw [h] at hv; injection hv with hv; simp at hv; omega
      · exact .inr ⟨j, v, h, hv⟩
end
end Go.Proofs.Ytdcbjbmnkajjcaa
