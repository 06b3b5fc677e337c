/- Contracts: clues without one, of whatever room; slices.Clone at clues. -/
import Derived.Test.YthhmaohnibdbnaaGreatPzS
import Derived.Test.YthhmaohnibdbnaaGreatPzE
namespace Go.Proofs.YthhmaohnibdbnaaGreat
open Go.RowKit

set_option maxRecDepth 100000 in
set_option maxHeartbeats 1000000 in
theorem withoutClue_cap (l : List Cl) (g o c k : Nat) (w : World) (hin : ClIn w (some ⟨g, o, none⟩) l) (hl : l.length ≤ 300) (hc : l.length ≤ c) (hc2 : c ≤ maxLen) (hk : k < l.length) :
    Calls Tryz.prog 53 #[.slice (some ⟨g, o, none⟩) l.length c, .int .i64 k] w fun e w' => ∃ v, e = .returned v ∧ w'.ownsRow w.heap.size 69 3 v (woC l k).length (flat3 (woC l k)) ∧ Below w.heap.size w w' := by
  have k0 : (0 : Int) ≤ (k : Int) := by omega
  have k1 : (k : Int) ≤ (c : Int) := by omega
  have k2 : (0 : Int) ≤ (k : Int) + 1 := by omega
  have k3 : (k : Int) + 1 ≤ (l.length : Int) := by omega
  have k4 : (l.length : Int) ≤ (c : Int) := by omega
  have k5 : IntKind.i64.wrap ((k : Int) + 1) = (k : Int) + 1 := by rw [IntKind.wrap_i64]; omega
  have HIN := Lib.hid (hin.take k)
  have L1 := Lib.hid (show (l.take k).length = k by rw [List.length_take]; omega)
  have L2 := Lib.hid (show (l.drop (k + 1)).length = l.length - (k + 1) by rw [List.length_drop])
  by_cases hck : c = k + 1
  · subst hck
    have L20 := Lib.hid (show (l.drop (k + 1)).length = 0 by rw [List.length_drop]; omega)
    have HIN2 : Hid (ClIn w (some ⟨g, o, none⟩) (l.drop (k + 1))) := Lib.hid (by rw [List.drop_of_length_le (by omega)]; intro j hj; simp at hj)
    clear hin
    go_enter Tryz.func53, Tryz.ntmps53
    go_wp2_with fail
    go_region_with (go_at_call 69; (refine (concatC_at (l.take k) (l.drop (k + 1)) k 0 L1.out L20.out w.heap.size 2 ⟨g, o, none⟩ ⟨g, o, none⟩ (k + 1) 0 ((w.alloc (Obj.cells #[.slice (some ⟨g, o, none⟩) k (k + 1), .slice (some ⟨g, o, none⟩) 0 0] 29)).drew) (cell_new' w #[.slice (some ⟨g, o, none⟩) k (k + 1), .slice (some ⟨g, o, none⟩) 0 0] 29 _ 0 rfl) (cell_new' w #[.slice (some ⟨g, o, none⟩) k (k + 1), .slice (some ⟨g, o, none⟩) 0 0] 29 _ 1 rfl) (clin_drew (HIN.out.below ((Below.refl _ _).alloc (Nat.le_refl _) _))) (clin_drew (HIN2.out.below ((Below.refl _ _).alloc (Nat.le_refl _) _))) (by show w.heap.size < (w.alloc _).heap.size; simp) (by omega) (by omega)).mono ?_; rintro e w1 ⟨v, rfl, o1, hb1⟩))
    go_wp2
    go_ret
    exact ⟨v, rfl, own_lowerC o1 (by simp), by
      have h1 : Below w.heap.size w ((w.alloc (Obj.cells #[.slice (some ⟨g, o, none⟩) k (k + 1), .slice (some ⟨g, o, none⟩) 0 0] 29)).drew) := Below.drew ((Below.refl _ _).alloc (Nat.le_refl _) _)
      exact h1.trans (hb1.mono h1.size)⟩
  · have hce : (c == k + 1) = false := by simpa using hck
    unfold maxLen at hc2
    have HIN2 : Hid (ClIn w (some ⟨g, o + (k + 1) * 3, none⟩) (l.drop (k + 1))) := Lib.hid (hin.drop (k + 1))
    clear hin
    go_enter Tryz.func53, Tryz.ntmps53
    go_wp2_with fail
    go_region_with (go_at_call 69; (refine (concatC_at (l.take k) (l.drop (k + 1)) k (l.length - (k + 1)) L1.out L2.out w.heap.size 2 ⟨g, o, none⟩ ⟨g, o + (k + 1) * 3, none⟩ c (c - (k + 1)) ((w.alloc (Obj.cells #[.slice (some ⟨g, o, none⟩) k c, .slice (some ⟨g, o + (k + 1) * 3, none⟩) (l.length - (k + 1)) (c - (k + 1))] 29)).drew) (cell_new' w #[.slice (some ⟨g, o, none⟩) k c, .slice (some ⟨g, o + (k + 1) * 3, none⟩) (l.length - (k + 1)) (c - (k + 1))] 29 _ 0 rfl) (cell_new' w #[.slice (some ⟨g, o, none⟩) k c, .slice (some ⟨g, o + (k + 1) * 3, none⟩) (l.length - (k + 1)) (c - (k + 1))] 29 _ 1 rfl) (clin_drew (HIN.out.below ((Below.refl _ _).alloc (Nat.le_refl _) _))) (clin_drew (HIN2.out.below ((Below.refl _ _).alloc (Nat.le_refl _) _))) (by show w.heap.size < (w.alloc _).heap.size; simp) (by omega) (by omega)).mono ?_; rintro e w1 ⟨v, rfl, o1, hb1⟩))
    go_wp2
    go_ret
    exact ⟨v, rfl, own_lowerC o1 (by simp), by
      have h1 : Below w.heap.size w ((w.alloc (Obj.cells #[.slice (some ⟨g, o, none⟩) k c, .slice (some ⟨g, o + (k + 1) * 3, none⟩) (l.length - (k + 1)) (c - (k + 1))] 29)).drew) := Below.drew ((Below.refl _ _).alloc (Nat.le_refl _) _)
      exact h1.trans (hb1.mono h1.size)⟩

set_option maxRecDepth 100000 in
set_option maxHeartbeats 2000000 in
theorem pzWithout_cap (l : List Cl) (g o c k : Nat) (w : World) (hin : ClIn w (some ⟨g, o, none⟩) l) (hl : l.length ≤ 300) (hc : l.length ≤ c) (hc2 : c ≤ maxLen) (hk : k < l.length) :
    Calls Tryz.prog 51 #[.slice (some ⟨g, o, none⟩) l.length c, .int .i64 k] w fun e w' => ∃ v, e = .returned v ∧ w'.ownsRow w.heap.size 69 3 v (woC l k).length (flat3 (woC l k)) ∧ Below w.heap.size w w' := by
  obtain ⟨i0, hi, hz0, hz1, hz2⟩ := info_parts Tryz.infoC
  have HI := Lib.hid hi
  have HZ0 := Lib.hid hz0
  have HZ1 := Lib.hid hz1
  have HZ2 := Lib.hid hz2
  clear hi hz0 hz1 hz2
  have k0 : (0 : Int) ≤ (k : Int) := by omega
  have k1 : (k : Int) ≤ (c : Int) := by omega
  have k2 : (0 : Int) ≤ (k : Int) + 1 := by omega
  have k3 : (k : Int) + 1 ≤ (l.length : Int) := by omega
  have k4 : (l.length : Int) ≤ (c : Int) := by omega
  have k5 : IntKind.i64.wrap ((k : Int) + 1) = (k : Int) + 1 := by rw [IntKind.wrap_i64]; omega
  have HIN := Lib.hid (hin.take k)
  have L1 := Lib.hid (show (l.take k).length = k by rw [List.length_take]; omega)
  have L2 := Lib.hid (show (l.drop (k + 1)).length = l.length - (k + 1) by rw [List.length_drop])
  by_cases hck : c = k + 1
  · subst hck
    have k6 : (k : Int) ≤ (k : Int) + 1 := by omega
    have L20 := Lib.hid (show (l.drop (k + 1)).length = 0 by rw [List.length_drop]; omega)
    have HIN2 : Hid (ClIn w (some ⟨g, o, none⟩) (l.drop (k + 1))) := Lib.hid (by rw [List.drop_of_length_le (by omega)]; intro j hj; simp at hj)
    clear hin
    have hB0 : Below w.heap.size w ((w.alloc (Obj.cells #[] 69)).drew) := Below.drew ((Below.refl _ _).alloc (Nat.le_refl _) _)
    have O0 : ((w.alloc (Obj.cells #[] 69)).drew).ownsRow w.heap.size 69 3 (.slice (some ⟨w.heap.size, 0, none⟩) 0 0) 0 [] := own_empty w _ _
    have hsz0 : w.heap.size ≤ ((w.alloc (Obj.cells #[] 69)).drew).heap.size := hB0.size
    go_enter Tryz.func51, Tryz.ntmps51
    go_wp2_with fail
    go_region_law (first
      | (refine step_append_own _ rfl _ _ 29 rfl w.heap.size 69 i0 (.agg #[.int .i64 0, .int .i64 0, .int .i64 0]) 3 24 Tryz.underlying29 HI.out HZ0.out HZ1.out HZ2.out rfl (by decide) _ 0 [] rfl O0 ⟨g, o, none⟩ k (k + 1) (flat3 (l.take k)) rfl (by rw [flat3_len, L1.out]) (cl_news (HIN.out.below hB0)) (flat3_one _) (by unfold maxLen; omega) (by omega) hsz0 ?_; intro v1 w1 o1 g1; have O1 := o1; have hB1 := hB0.grown g1 hsz0 (fun j hj => (O0.lt _ hj).1); have hsz1 := hB1.size; clear o1 g1)
      | (refine step_append_own _ rfl _ _ 29 rfl w.heap.size 69 i0 (.agg #[.int .i64 0, .int .i64 0, .int .i64 0]) 3 24 Tryz.underlying29 HI.out HZ0.out HZ1.out HZ2.out rfl (by decide) v1 (0 + k) _ rfl O1 ⟨g, o, none⟩ 0 0 (flat3 (l.drop (k + 1))) rfl (by rw [flat3_len, L20.out]) (cl_news (HIN2.out.below hB1)) (flat3_one _) (by unfold maxLen; omega) (by omega) hsz1 ?_; intro v2 w2 o2 g2; have O2 := o2; have hB2 := hB1.grown g2 hsz1 (fun j hj => (O1.lt _ hj).1); clear o2 g2))
    go_wp2
    go_ret
    refine ⟨v2, rfl, ?_, hB2⟩
    have e1 : (woC l k).length = 0 + k + 0 := by unfold woC; rw [List.length_append, L1.out, L20.out]; omega
    rw [e1]
    unfold woC
    rw [flat3_app]
    exact O2
  · have hce : (c == k + 1) = false := by simpa using hck
    have HIN2 := Lib.hid (hin.drop (k + 1))
    clear hin
    have hB0 : Below w.heap.size w ((w.alloc (Obj.cells #[] 69)).drew) := Below.drew ((Below.refl _ _).alloc (Nat.le_refl _) _)
    have O0 : ((w.alloc (Obj.cells #[] 69)).drew).ownsRow w.heap.size 69 3 (.slice (some ⟨w.heap.size, 0, none⟩) 0 0) 0 [] := own_empty w _ _
    have hsz0 : w.heap.size ≤ ((w.alloc (Obj.cells #[] 69)).drew).heap.size := hB0.size
    go_enter Tryz.func51, Tryz.ntmps51
    go_wp2_with fail
    go_region_law (first
      | (refine step_append_own _ rfl _ _ 29 rfl w.heap.size 69 i0 (.agg #[.int .i64 0, .int .i64 0, .int .i64 0]) 3 24 Tryz.underlying29 HI.out HZ0.out HZ1.out HZ2.out rfl (by decide) _ 0 [] rfl O0 ⟨g, o, none⟩ k c (flat3 (l.take k)) rfl (by rw [flat3_len, L1.out]) (cl_news (HIN.out.below hB0)) (flat3_one _) (by unfold maxLen; omega) (by omega) hsz0 ?_; intro v1 w1 o1 g1; have O1 := o1; have hB1 := hB0.grown g1 hsz0 (fun j hj => (O0.lt _ hj).1); have hsz1 := hB1.size; clear o1 g1)
      | (refine step_append_own _ rfl _ _ 29 rfl w.heap.size 69 i0 (.agg #[.int .i64 0, .int .i64 0, .int .i64 0]) 3 24 Tryz.underlying29 HI.out HZ0.out HZ1.out HZ2.out rfl (by decide) v1 (0 + k) _ rfl O1 ⟨g, o + (k + 1) * 3, none⟩ (l.length - (k + 1)) (c - (k + 1)) (flat3 (l.drop (k + 1))) rfl (by rw [flat3_len, L2.out]) (cl_news (HIN2.out.below hB1)) (flat3_one _) (by unfold maxLen; omega) (by omega) hsz1 ?_; intro v2 w2 o2 g2; have O2 := o2; have hB2 := hB1.grown g2 hsz1 (fun j hj => (O1.lt _ hj).1); clear o2 g2))
    go_wp2
    go_ret
    refine ⟨v2, rfl, ?_, hB2⟩
    have e1 : (woC l k).length = 0 + k + (l.length - (k + 1)) := by unfold woC; rw [List.length_append, L1.out, L2.out]; omega
    rw [e1]
    unfold woC
    rw [flat3_app]
    exact O2

theorem eql_some_nil (w : World) (a : Addr) (n c : Nat) : (binOp .eql 29 (.slice (some a) n c) (.slice none 0 0)).run Tryz.prog w = .ok (.bool false) w := by
  have h : ∀ d : Nat, (Op.equalIn (d + 1) 29 (.slice (some a) n c) (.slice none 0 0)).run Tryz.prog w = .ok false w := fun d => by
    simp [Op.equalIn, run_underlying Tryz.underlying29]
  simp only [binOp]
  simp [Op.equal, Op.maxDepth, h 9999]
set_option maxRecDepth 100000 in
set_option maxHeartbeats 2000000 in
theorem cloneC_any (l : List Cl) (g o c : Nat) (w : World) (hin : ClIn w (some ⟨g, o, none⟩) l) (hl : l.length ≤ 300) :
    Calls Tryz.prog 56 #[.slice (some ⟨g, o, none⟩) l.length c] w fun e w' => ∃ v, e = .returned v ∧ w'.ownsRow w.heap.size 69 3 v l.length (flat3 l) ∧ Below w.heap.size w w' := by
  obtain ⟨i0, hi, hz0, hz1, hz2⟩ := info_parts Tryz.infoC
  have HI := Lib.hid hi
  have HZ0 := Lib.hid hz0
  have HZ1 := Lib.hid hz1
  have HZ2 := Lib.hid hz2
  clear hi hz0 hz1 hz2
  have HIN := Lib.hid hin
  clear hin
  have hB0 : Below w.heap.size w (w.alloc (Obj.cells #[] 69)) := (Below.refl _ _).alloc (Nat.le_refl _) _
  have O0 : (w.alloc (Obj.cells #[] 69)).ownsRow w.heap.size 69 3 (.slice (some ⟨w.heap.size, 0, none⟩) 0 0) 0 [] := own_empty w _ _
  have hnil := fun W => eql_some_nil W ⟨g, o, none⟩ l.length c
  go_enter Tryz.func56, Tryz.ntmps56
  go_wp2_with (first | (at_builtin; refine wpList_append_own _ rfl _ _ 29 rfl w.heap.size 69 i0 (.agg #[.int .i64 0, .int .i64 0, .int .i64 0]) 3 24 Tryz.underlying29 HI.out HZ0.out HZ1.out HZ2.out rfl (by decide) _ 0 [] rfl O0 ⟨g, o, none⟩ l.length c (flat3 l) rfl (by rw [flat3_len]) (cl_news (HIN.out.below hB0)) (flat3_one _) (by unfold maxLen; omega) (by omega) (by simp) ?_; intro v1 w1 o1 g1 _))
  have hB1 := hB0.grown g1 (by simp) (fun j hj => (O0.lt j hj).1)
  go_wp2_with fail
  go_ret
  exact ⟨v1, rfl, by rw [Nat.zero_add, List.nil_append] at o1; exact o1, hB1⟩
end Go.Proofs.YthhmaohnibdbnaaGreat
