/- Elements of a list deleted in place: what the first cells hold, and the library's clear on what is left; any predicate by place. -/
import Derived.Test.YtflpncdnneapmaaGmQ
import Derived.Lib.SliceRun
namespace Go.Proofs.Ytflpncdnneapmaa
open Go.RowKit Go.Shelf

/-- The kept ones of the first k. -/
def keepG {α : Type} (p : Nat → Bool) (L : List α) : Nat → List α
  | 0 => []
  | k + 1 => keepG p L k ++ match L[k]? with
    | some x => if p k then [] else [x]
    | none => []
theorem keepG_le {α : Type} (p : Nat → Bool) (L : List α) : ∀ k, (keepG p L k).length ≤ k
  | 0 => Nat.le_refl _
  | k + 1 => by
    have := keepG_le p L k
    rw [keepG, List.length_append]
    split
    · split <;> simp <;> omega
    · simp; omega
theorem keepG_next {α : Type} (p : Nat → Bool) (L : List α) (k : Nat) (h : k < L.length) : keepG p L (k + 1) = keepG p L k ++ if p k then [] else [L[k]] := by
  rw [keepG, List.getElem?_eq_getElem h]
theorem keepG_none {α : Type} (p : Nat → Bool) (L : List α) : ∀ k, k ≤ L.length → (∀ i, i < k → p i = false) → keepG p L k = L.take k
  | 0, _, _ => by simp [keepG]
  | k + 1, h, hn => by
    rw [keepG_next p L k (by omega), keepG_none p L k (by omega) (fun i hi => hn i (by omega)), hn k (by omega), if_neg (by decide), List.take_succ_eq_append_getElem (by omega)]
structure DelG {α : Type} (p : Nat → Bool) (L C : List α) (a b : Nat) : Prop where
  len : C.length = L.length
  lt : a < b
  ble : b ≤ L.length
  front : C.take a = keepG p L b
  back : C.drop b = L.drop b
theorem DelG.alen {α : Type} {p : Nat → Bool} {L C : List α} {a b : Nat} (h : DelG p L C a b) : a = (keepG p L b).length := by
  rw [← h.front, List.length_take, h.len]
  have := h.lt; have := h.ble
  omega
theorem DelG.at {α : Type} {p : Nat → Bool} {L C : List α} {a b : Nat} (h : DelG p L C a b) (hb : b < L.length) : ∃ hc : b < C.length, C[b] = L[b] := by
  have hc : b < C.length := by rw [h.len]; exact hb
  refine ⟨hc, ?_⟩
  have h1 := h.back
  rw [List.drop_eq_getElem_cons hc, List.drop_eq_getElem_cons hb] at h1
  injection h1
theorem DelG.skip {α : Type} {p : Nat → Bool} {L C : List α} {a b : Nat} (h : DelG p L C a b) (hb : b < L.length) (hd : p b = true) : DelG p L C a (b + 1) := by
  refine ⟨h.len, by have := h.lt; omega, by omega, ?_, ?_⟩
  · rw [keepG_next p L b hb, hd, if_pos rfl, List.append_nil]; exact h.front
  · rw [← List.drop_drop, ← List.drop_drop, h.back]
theorem DelG.put {α : Type} {p : Nat → Bool} {L C : List α} {a b : Nat} (h : DelG p L C a b) (hb : b < L.length) (hd : p b = false) : DelG p L (C.set a L[b]) (a + 1) (b + 1) := by
  have hlt := h.lt
  have hl := h.len
  refine ⟨by rw [List.length_set]; exact hl, by omega, by omega, ?_, ?_⟩
  · rw [keepG_next p L b hb, hd, if_neg (by decide), ← h.front, List.take_succ_eq_append_getElem (by rw [List.length_set]; omega), List.take_set_of_le (Nat.le_refl _)]
    simp
  · rw [List.drop_set_of_lt (by omega), ← List.drop_drop, ← List.drop_drop, h.back]
theorem DelG.start {α : Type} {p : Nat → Bool} {L : List α} {i : Nat} (h : i < L.length) (hd : p i = true) (hno : ∀ j, j < i → p j = false) : DelG p L L i (i + 1) :=
  ⟨rfl, by omega, by omega, by rw [keepG_next p L i h, hd, if_pos rfl, List.append_nil, keepG_none p L i (by omega) hno], rfl⟩

/-- 'clear' on a slice whose elements have any number of cells. -/
theorem run_clear_any {P : Program} (w : World) (t e ty : TypeId) (z : Value) (ht : P.underlying t = some (.slice e)) (hv : ∀ w, (zeroValue e).run P w = .ok z w) (b o n c : Nat) (hn : 0 < n)
    (hc : ∀ j, j < (Builtin.zeroCells z.cells n).toList.length → (w.cell? ⟨b, o + j, none⟩).isSome = true) (hf : ∀ j, j < (Builtin.zeroCells z.cells n).toList.length → w.frozen? ⟨b, o + j, none⟩ = false)
    (h1 : ∀ v ∈ (Builtin.zeroCells z.cells n).toList, v.oneCell' = true) :
    (Builtin.clear_ #[t] ty #[.slice (some ⟨b, o, none⟩) n c]).run P w = .ok (.tuple #[]) (w.setCells b o (Builtin.zeroCells z.cells n).toList) := by
  have hst := run_storeCells_cells (P := P) b o (Builtin.zeroCells z.cells n).toList 0 w (by simpa using hc) (by simpa using hf) h1
  simp only [Nat.add_zero] at hst
  obtain ⟨m, rfl⟩ : ∃ m, n = m + 1 := ⟨n - 1, by omega⟩
  simp [Builtin.clear_, run_underlying ht, hv, hst]
/-- All blocks but two lie as they lay. -/
structure KpT (B g : Nat) (W W' : World) : Prop where
  os : W'.os = W.os
  tape : W'.tape = W.tape
  output : W'.output = W.output
  size : W.heap.size ≤ W'.heap.size
  far : ∀ k, k ≠ B → k ≠ g → k < W.heap.size → W'.heap[k]? = W.heap[k]?
theorem KpT.refl (B g : Nat) (W : World) : KpT B g W W := ⟨rfl, rfl, rfl, Nat.le_refl _, fun _ _ _ _ => rfl⟩
theorem KpT.trans {B g : Nat} {a b c : World} (h : KpT B g a b) (k : KpT B g b c) : KpT B g a c :=
  ⟨k.os.trans h.os, k.tape.trans h.tape, k.output.trans h.output, Nat.le_trans h.size k.size, fun i h1 h2 hi => (k.far i h1 h2 (Nat.lt_of_lt_of_le hi h.size)).trans (h.far i h1 h2 hi)⟩
theorem KpT.ofM {B g : Nat} {W W' : World} (h : KpM B W W') : KpT B g W W' :=
  ⟨h.os, h.tape, h.output, h.size, fun k h1 _ hk => h.far.2 k (fun e => h1 (by injection e)) hk⟩
theorem KpT.set {B g : Nat} {W W' : World} (h : KpT B g W W') (o : Nat) (v : Value) : KpT B g W (W'.setCell ⟨g, o, none⟩ v) :=
  h.trans ⟨rfl, rfl, rfl, by simp, fun k _ h2 _ => Below.heap_setCell _ _ _ k h2⟩
theorem KpT.cell {B g : Nat} {W W' : World} (h : KpT B g W W') {b o : Nat} (hb : b < W.heap.size) (h1 : b ≠ B) (h2 : b ≠ g) : W'.cell? ⟨b, o, none⟩ = W.cell? ⟨b, o, none⟩ :=
  World.cell?_of_block (a := ⟨b, o, none⟩) (h.far b h1 h2 hb)
theorem KpT.setCells {B g : Nat} {W : World} : ∀ (vs : List Value) (o : Nat) (W' : World), KpT B g W W' → KpT B g W (W'.setCells g o vs)
  | [], _, _, h => h
  | v :: r, o, W', h => by rw [World.setCells]; exact KpT.setCells r _ _ (h.set o v)
theorem KpT.to_below {B g n : Nat} {W W' : World} (h : KpT B g W W') (hB : n ≤ B) (hg : n ≤ g) (hn : n ≤ W.heap.size) : Below n W W' :=
  ⟨h.os, h.tape, h.output, h.size, fun k hk => h.far k (by omega) (by omega) (by omega)⟩
end Go.Proofs.Ytflpncdnneapmaa
