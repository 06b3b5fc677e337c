/- Contracts: one move on a line, on. -/
import Derived.Test.YtjadnfnpbacfdaaDoorMove
namespace Go.Proofs.YtjadnfnpbacfdaaDoor
open Go.RowKit

theorem bcell {W w1 : World} (hb : Below W.heap.size W w1) : (∀ b o, b < W.heap.size → w1.cell? ⟨b, o, none⟩ = W.cell? ⟨b, o, none⟩) ∧ (∀ b o, b < W.heap.size → w1.frozen? ⟨b, o, none⟩ = W.frozen? ⟨b, o, none⟩) :=
  ⟨fun b o h => hb.cell (p := ⟨b, o, none⟩) h, fun b o h => hb.frozen (p := ⟨b, o, none⟩) h⟩

/-- What is known of a move that can be made. -/
theorem canM_in {s : ByteArray} {f t : Int} (h : canM s f t = true) : ∃ a b : Nat, f = a ∧ t = b ∧ a < s.size ∧ b < s.size ∧ a ≠ b := by
  unfold canM at h
  simp only [Bool.and_eq_true, decide_eq_true_eq] at h
  obtain ⟨hne, ht⟩ := h
  have hf : 0 ≤ f ∧ f < s.size := by
    by_cases h0 : sgAt s f = 0
    · exfalso
      apply hne
      rw [ht]
      unfold mvTo
      rw [h0]
      simp
    · exact sg_range s f h0
  have hti : 0 ≤ t ∧ t < s.size := by
    apply sg_range
    unfold mvTo at ht
    intro h0
    split at ht
    · split at ht
      · rename_i h1; rw [ht] at h0; rw [h0] at h1; cases h1
      · split at ht
        · split at ht
          · rename_i h1; rw [ht] at h0; rw [h0] at h1; cases h1
          · exact hne ht.symm
        · exact hne ht.symm
    · split at ht
      · split at ht
        · rename_i h1; rw [ht] at h0; rw [h0] at h1; cases h1
        · split at ht
          · split at ht
            · rename_i h1; rw [ht] at h0; rw [h0] at h1; cases h1
            · exact hne ht.symm
          · exact hne ht.symm
      · exact hne ht.symm
  obtain ⟨a, rfl⟩ := Int.eq_ofNat_of_zero_le hf.1
  obtain ⟨b, rfl⟩ := Int.eq_ofNat_of_zero_le hti.1
  exact ⟨a, b, rfl, rfl, by omega, by omega, by omega⟩

def toadM (s : ByteArray) (f t : Int) : Bool := canM s f t && decide (sgAt s f = 84)
def frogM (s : ByteArray) (f t : Int) : Bool := canM s f t && decide (sgAt s f = 70)

/-- The program turns a text into bytes of its own. -/
theorem to_bytes (s : ByteArray) (W : World) : ∃ (cap : Nat) (W2 : World), (convert 9 117 (.string s)).run Tryd.prog W = .ok (.slice (some ⟨W.heap.size, 0, none⟩) s.size cap) W2 ∧
    (∀ j (hj : j < s.size), W2.cell? ⟨W.heap.size, j, none⟩ = some (.int .u8 s[j].toNat) ∧ W2.frozen? ⟨W.heap.size, j, none⟩ = false) ∧ Below W.heap.size W W2 ∧ W.heap.size < W2.heap.size := by
  refine ⟨_, _, run_bytes_of_string (P := Tryd.prog) W 9 117 5 s Tryd.underlying9 Tryd.underlying117 Tryd.underlying5, fun j hj => ⟨?_, ?_⟩, (Below.drew (Below.refl _ _)).alloc (Nat.le_refl _) _, by simp⟩
  · have h := World.cell?_alloc_mark W.drew (bytesRow s (grownCap W s.size 0 5)) 5 ((bytesRow s (grownCap W s.size 0 5)).size, (bytesRow s (grownCap W s.size 0 5)).size + 1) j
    refine Eq.trans h ?_
    unfold bytesRow
    rw [Array.getElem?_append_left (by simpa using hj)]
    simp [hj]
    rfl
  · have hsz : j < (bytesRow s (grownCap W s.size 0 5)).size := by
      unfold bytesRow
      rw [Array.size_append, Array.size_map]
      exact Nat.lt_of_lt_of_le hj (Nat.le_add_right _ _)
    have e : (W.drew.alloc (.cells (bytesRow s (grownCap W s.size 0 5)) 5 ((bytesRow s (grownCap W s.size 0 5)).size, (bytesRow s (grownCap W s.size 0 5)).size + 1))).heap[W.heap.size]? = some (.cells (bytesRow s (grownCap W s.size 0 5)) 5 ((bytesRow s (grownCap W s.size 0 5)).size, (bytesRow s (grownCap W s.size 0 5)).size + 1)) := by
      show (W.heap.push _)[W.heap.size]? = _
      simp
    unfold World.frozen?
    rw [e]
    simp
    omega

/-- The line behind a move. -/
def putL (s : ByteArray) (a b : Nat) : List UInt8 := ((byt s).set b ((byt s).getD a 0)).set a 46

theorem putL_len (s : ByteArray) (a b : Nat) : (putL s a b).length = s.size := by simp [putL, byt_len]
theorem putL_at (s : ByteArray) (a b j : Nat) (ha : a < s.size) (hj : j < s.size) :
    (putL s a b)[j]? = some (if j = a then 46 else if j = b then s[a] else s[j]) := by
  have hl := byt_len s
  have g : ∀ k (hk : k < s.size), (byt s)[k]? = some s[k] := fun k hk => by
    rw [List.getElem?_eq_getElem (by omega)]; rfl
  unfold putL
  rw [List.getElem?_set, List.getElem?_set]
  by_cases e1 : a = j
  · subst e1; simp [hl, ha]
  · by_cases e2 : b = j
    · subst e2; simp [e1, Ne.symm e1, hl, hj, List.getD_eq_getElem?_getD, g a ha]
    · simp [e1, e2, Ne.symm e1, Ne.symm e2, g j hj]

theorem back_bytes (s : ByteArray) (W2 : World) (g a b cap : Nat) (ha : a < s.size) (hb : b < s.size) (hne : a ≠ b)
    (hc : ∀ j (hj : j < s.size), W2.cell? ⟨g, j, none⟩ = some (.int .u8 s[j].toNat)) :
    (convert 117 9 (.slice (some ⟨g, 0, none⟩) s.size cap)).run Tryd.prog (((W2.setCell ⟨g, b, none⟩ (.int .u8 s[a].toNat)).setCell ⟨g, a, none⟩ (.int .u8 46)).drew) = .ok (.string (str (putL s a b))) (((W2.setCell ⟨g, b, none⟩ (.int .u8 s[a].toNat)).setCell ⟨g, a, none⟩ (.int .u8 46)).drew) := by
  have h := run_convert_bytes_back (P := Tryd.prog) (((W2.setCell ⟨g, b, none⟩ (.int .u8 s[a].toNat)).setCell ⟨g, a, none⟩ (.int .u8 46)).drew) 117 9 5 ⟨g, 0, none⟩ cap (putL s a b) Tryd.underlying117 Tryd.underlying5 Tryd.underlying9 (by
    intro j hj
    have hj' : j < s.size := by rwa [putL_len] at hj
    have hp := putL_at s a b j ha hj'
    rw [List.getElem?_eq_getElem hj] at hp
    injection hp with hp
    rw [addr_add, hp]
    show ((W2.setCell ⟨g, b, none⟩ (.int .u8 s[a].toNat)).setCell ⟨g, a, none⟩ (.int .u8 46)).cell? ⟨g, j, none⟩ = _
    by_cases e1 : j = a
    · subst e1
      rw [if_pos rfl]
      exact World.cell?_setCell_same _ _ _ (by rw [World.cell?_setCell_other _ _ _ _ (by intro e; injection e with _ e; omega)]; exact hc j hj')
    · rw [if_neg e1, World.cell?_setCell_other _ _ _ _ (by intro e; injection e with _ e; omega)]
      by_cases e2 : j = b
      · subst e2
        rw [if_pos rfl]
        exact World.cell?_setCell_same _ _ _ (hc j hj')
      · rw [if_neg e2, World.cell?_setCell_other _ _ _ _ (by intro e; injection e with _ e; omega)]
        exact hc j hj')
  rw [putL_len] at h
  exact h

set_option maxRecDepth 20000 in
set_option maxHeartbeats 1000000 in
theorem lineBehind_any (s : ByteArray) (a b : Nat) (w : World) (ha : a < s.size) (hb : b < s.size) (hne : a ≠ b) :
    Calls Tryd.prog 125 #[.agg #[.int .i64 a, .int .i64 b, .string s]] w fun e w' => e = .returned (.string (str (putL s a b))) ∧ Below w.heap.size w w' := by
  obtain ⟨cap, W2, hconv, hcs, hB2, hz2⟩ := to_bytes s (w.alloc (Obj.cells #[Value.int IntKind.i64 a, Value.int IntKind.i64 b, Value.string s] 150))
  obtain ⟨b0, b1⟩ := bcell hB2
  obtain ⟨ca, fa⟩ := hcs a ha
  obtain ⟨cb, fb⟩ := hcs b hb
  have HC := Lib.hid hcs
  clear hcs
  have e0 : W2.cell? ⟨w.heap.size, 0, none⟩ = some (.int .i64 a) := by rw [b0 _ _ (by simp), World.cell?_alloc_new]; rfl
  have e1 : W2.cell? ⟨w.heap.size, 1, none⟩ = some (.int .i64 b) := by rw [b0 _ _ (by simp), World.cell?_alloc_new]; rfl
  have HB := Lib.hid hB2
  clear b0 b1 hB2
  simp at ca fa cb fb hz2 hconv
  have hback := back_bytes s W2 (w.heap.size + 1) a b cap ha hb hne (fun j hj => by have := (HC.out j hj).1; simpa using this)
  go_enter Tryd.func125, Tryd.ntmps125
  go_wp2
  go_region
  go_wp2
  go_ret
  exact ⟨rfl, (((((Below.refl _ _).alloc (Nat.le_refl _) _).trans (HB.out.mono (by simp))).setCell (by simp) _).setCell (by simp) _).drew⟩
end Go.Proofs.YtjadnfnpbacfdaaDoor
