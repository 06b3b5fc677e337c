/- Contract: the library's sort of moves. -/
import Derived.Test.YtoiaklnaecghnabGreatDoorBdS
import Derived.Test.YtoiaklnaecghnabGreatDoorSortMv
namespace Go.Proofs.YtoiaklnaecghnabGreatDoor
open Go.RowKit Go.Sort Go.Shelf

def encM (m : Int × Int) : List Value := [.int .i64 m.1, .int .i64 m.2]
theorem cmpM_lt (m n : Int × Int) : ltOf cmpM m n = decide (m.1 < n.1 ∨ (m.1 = n.1 ∧ m.2 < n.2)) := by
  unfold ltOf cmpM cmpI
  by_cases h1 : m.1 < n.1
  · simp [h1]
  · by_cases h2 : n.1 < m.1
    · have : m.1 ≠ n.1 := by omega
      simp [h1, h2, this]
    · have e : m.1 = n.1 := by omega
      by_cases h3 : m.2 < n.2
      · simp [e, h3]
      · by_cases h4 : n.2 < m.2
        · simp [e, h3, h4]
        · simp [e, h3, h4]
theorem swoM : SWO (ltOf cmpM) where
  irrefl x := by rw [cmpM_lt]; simp
  trans x y z h1 h2 := by rw [cmpM_lt] at *; simp at *; omega
  ntrans x y z h1 h2 := by rw [cmpM_lt] at *; simp at *; omega
theorem totM (x y : Int × Int) (h1 : ltOf cmpM x y = false) (h2 : ltOf cmpM y x = false) : x = y := by
  rw [cmpM_lt] at h1 h2
  simp at h1 h2
  have e1 : x.1 = y.1 := by omega
  have e2 : x.2 = y.2 := by omega
  exact Prod.ext e1 e2
/-- The moves in order. -/
def srtM (l : List (Int × Int)) : List (Int × Int) := l.mergeSort fun x y => !ltOf cmpM y x
theorem flatK_flat (l : List (Int × Int)) : (flatK encM 2 l.toArray).toList = flat l := by
  apply List.ext_getElem?
  intro i
  have hs : (flatK encM 2 l.toArray).size = l.length * 2 := by simp
  by_cases h : i < l.length * 2
  · have e1 : (flatK encM 2 l.toArray).toList[i]? = some ((flatK encM 2 l.toArray)[i]!) := by
      rw [Array.getElem?_toList, Array.getElem?_eq_getElem (by omega), getElem!_pos _ i (by omega)]
    rw [e1, get_flatK _ _ _ _ (by simpa using h)]
    have hk : i / 2 < l.length := by omega
    obtain ⟨f0, f1⟩ := flat_at l (i / 2) hk
    have e2 : l.toArray[i / 2]! = l[i / 2] := by rw [getElem!_pos _ _ (by simpa using hk)]; simp
    rw [e2]
    rcases Nat.mod_two_eq_zero_or_one i with h0 | h0
    · rw [h0]
      have : i = i / 2 * 2 := by omega
      rw [show (flat l)[i]? = (flat l)[i / 2 * 2]? from by rw [← this], f0]
      rfl
    · rw [h0]
      have : i = i / 2 * 2 + 1 := by omega
      rw [show (flat l)[i]? = (flat l)[i / 2 * 2 + 1]? from by rw [← this], f1]
      rfl
  · rw [List.getElem?_eq_none (by rw [Array.length_toList, hs]; omega), List.getElem?_eq_none (by rw [flat_len]; omega)]

theorem flatK_at (l : List (Int × Int)) (i : Nat) (h : i < l.length * 2) : (flat l)[i]? = some ((flatK encM 2 l.toArray)[i]!) := by
  rw [← flatK_flat l, Array.getElem?_toList, Array.getElem?_eq_getElem (by simpa using h), getElem!_pos _ i (by simpa using h)]
theorem own_sortW {w : World} {base n cap g : Nat} {e : TypeId} {l l' : List (Int × Int)} (h : w.ownsRow base e 2 (.slice (some ⟨g, 0, none⟩) n cap) n (flat l)) (hl' : l'.length = n) (m : Nat) (os : Array Obj) :
    (sortWorldK encM 2 w g 0 m l'.toArray os).ownsRow base e 2 (.slice (some ⟨g, 0, none⟩) n cap) n (flat l') := by
  rcases h.2 with ⟨hv, _⟩ | ⟨g1, cap1, cur, e1, hb, hh, hn, hm, hs, ht⟩
  · cases hv
  · injection e1 with e1 _ e2
    injection e1 with e1
    injection e1 with e1
    subst e1
    subst e2
    have hg : g < w.heap.size := (Array.getElem?_eq_some_iff.1 hh).1
    refine ⟨by rw [flat_len, hl'], .inr ⟨g, cap, putCells id 0 (flatK encM 2 l'.toArray) cur, rfl, hb, ?_, hn, hm, ?_, ?_⟩⟩
    · show ((w.heap.modify g (onCells (putCells id 0 (flatK encM 2 l'.toArray)))) ++ os)[g]? = _
      rw [Array.getElem?_append_left (by simpa using hg), Array.getElem?_modify, if_pos rfl, hh]
      rfl
    · simp [putCells, hs]
    · apply List.ext_getElem?
      intro i
      by_cases hi : i < n * 2
      · rw [List.getElem?_take, if_pos hi, Array.getElem?_toList]
        unfold putCells
        rw [Array.getElem?_mapIdx]
        have hic : i < cur.size := by rw [hs]; have := Nat.mul_le_mul_right 2 hn; omega
        rw [Array.getElem?_eq_getElem hic, flatK_at l' i (by rw [hl']; exact hi)]
        simp [hl', hi]
      · rw [List.getElem?_take, if_neg hi, List.getElem?_eq_none (by rw [flat_len, hl']; omega)]
theorem below_sortW {w : World} {base g m : Nat} (d : Array (Int × Int)) (os : Array Obj) (hb : base ≤ g) (hg : g < w.heap.size) : Below base w (sortWorldK encM 2 w g 0 m d os) := by
  have hgr : w.grownBy (sortWorldK encM 2 w g 0 m d os) (some g) := by
    refine ⟨rfl, rfl, rfl, ?_, fun k hk hne => ?_⟩
    · show w.heap.size ≤ ((w.heap.modify g _) ++ os).size
      simp
    · show ((w.heap.modify g _) ++ os)[k]? = _
      rw [Array.getElem?_append_left (by simpa using hk), Array.getElem?_modify, if_neg (fun e => hne (by rw [e]))]
  exact (Below.refl base w).grown hgr (by omega) (fun k e => by injection e with e; omega)

set_option maxHeartbeats 1000000 in
theorem sortMoves_any (l : List (Int × Int)) (g cap base : Nat) (w : World) (hl : l.length ≤ 1000) (hb : base ≤ g) (hg : g < w.heap.size) (ho : w.ownsRow base 39 2 (.slice (some ⟨g, 0, none⟩) l.length cap) l.length (flat l)) :
    Calls Tryz.prog 48 #[.slice (some ⟨g, 0, none⟩) l.length cap, .func (.func 49) #[] #[]] w fun e w' => e = .returned (.tuple #[]) ∧ w'.ownsRow base 39 2 (.slice (some ⟨g, 0, none⟩) l.length cap) l.length (flat (srtM l)) ∧ Below base w w' := by
  have eg : ∀ args w, (callFunc 49 args).run Tryz.prog w = .ok (.enter 49 args) w := enters_of Tryz.func49 (by kernel_rfl) rfl
  have hcmp : CmpLays Tryz.prog 49 #[] encM 2 cmpM g 0 l.toArray.size w := fun _ _ _ _ x y => compare_any x.1 x.2 y.1 y.2 _
  have hH : HoldsK encM 2 w g 0 l.toArray := by
    intro j hj
    have hj2 : j < l.length * 2 := by simpa using hj
    have hf := flatK_at l j hj2
    have h1 := ho.cellAt j hj2
    refine ⟨?_, ?_⟩
    · rw [Nat.zero_add]
      exact h1.trans hf
    · rw [Nat.zero_add]
      exact ho.frozenAt j
  have h := AnyQ.slices_SortFunc_total Tryz.sortMv 2 Tryz.isAgg39 Tryz.sizeOf39 encM (fun _ => rfl) (fun x v hv => by simp [encM] at hv; rcases hv with rfl | rfl <;> rfl) cmpM swoM 49 #[] g 0 cap l.toArray w eg hcmp hH hg (by simp; omega) totM
  have hs : l.toArray.size = l.length := by simp
  rw [hs] at h
  refine h.mono ?_
  rintro e w' ⟨rfl, n, os, rfl⟩
  have e2 : l.toArray.toList.mergeSort (fun x y => !ltOf cmpM y x) = srtM l := rfl
  rw [e2]
  refine ⟨rfl, own_sortW ho (by unfold srtM; exact List.length_mergeSort _) n os, below_sortW _ _ hb hg⟩

set_option maxHeartbeats 1000000 in
theorem sortOwn_any (l : List (Int × Int)) (v : Value) (base : Nat) (w : World) (hl : l.length ≤ 1000) (ho : w.ownsRow base 39 2 v l.length (flat l)) :
    Calls Tryz.prog 48 #[v, .func (.func 49) #[] #[]] w fun e w' => e = .returned (.tuple #[]) ∧ w'.ownsRow base 39 2 v l.length (flat (srtM l)) ∧ Below base w w' := by
  rcases ho.2 with ⟨hv, h0⟩ | ⟨g1, cap1, cur, rfl, hb, hh, hn, hm, hs, ht⟩
  · have hl0 : l.length = 0 := by have h3 := flat_len l; have h4 := ho.1; omega
    obtain rfl : l = [] := List.eq_nil_of_length_eq_zero hl0
    subst hv
    refine (AnyF.slices_SortFunc_none { Tryz.sortMv with } none 0 (.func (.func 49) #[] #[]) w).mono ?_
    rintro e w' ⟨rfl, rfl⟩
    have e0 : srtM [] = [] := by simp [srtM]
    rw [e0]
    exact ⟨rfl, ho, Below.refl _ _⟩
  · exact sortMoves_any l g1 cap1 base w hl hb (Array.getElem?_eq_some_iff.1 hh).1 ho
end Go.Proofs.YtoiaklnaecghnabGreatDoor
