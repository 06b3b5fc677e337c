/- Contracts: the program's teller is made; sums are taken as turns; who wins a sum. -/
import Derived.Test.YtflpncdnneapmaaGmS
import Derived.Test.YtflpncdnneapmaaGmD
import Derived.Laws.EntriesVeiled
namespace Go.Proofs.Ytflpncdnneapmaa
open Go.RowKit Go.Maps Go.Shelf

theorem four_blocks (w : World) (o1 o2 o3 o4 : Obj) : (((w.alloc o1).alloc o2).alloc o3).heap.size = w.heap.size + 3 ∧ ((w.alloc o1).alloc o2).heap.size = w.heap.size + 2 ∧ (w.alloc o1).heap.size = w.heap.size + 1 ∧ ((((w.alloc o1).alloc o2).alloc o3).alloc o4).heap.size = w.heap.size + 4 := by simp
theorem tell_new (L : Nat) (w : World) (T1 T3 T4 : TypeId) : TellI ((((w.alloc (.cells #[.func (.func 76) #[] #[]] T1)).alloc (.map #[] 0)).alloc (.cells #[.map (some (w.heap.size + 1))] T3)).alloc (.cells #[telV (w.heap.size + 2) w.heap.size (w.heap.size + 3)] T4)) L (w.heap.size + 1) (w.heap.size + 2) w.heap.size (w.heap.size + 3) := by
  obtain ⟨z3, z2, z1, z4⟩ := four_blocks w (.cells #[.func (.func 76) #[] #[]] T1) (.map #[] 0) (.cells #[.map (some (w.heap.size + 1))] T3) (.cells #[telV (w.heap.size + 2) w.heap.size (w.heap.size + 3)] T4)
  refine ⟨⟨.map [], ?_, fun tm s _ h => (by cases h), fun x h => (by cases h)⟩, ?_, ?_, ?_, by omega, by omega⟩
  · have := World.ownsMap_made (H := Unit) (w.alloc (.cells #[.func (.func 76) #[] #[]] T1)) Try.prog 66 boR
    rw [z1] at this
    exact ((this.alloc _).alloc _).mono (Nat.zero_le _)
  · rw [cell_old _ _ _ _ (by omega), ← z2, World.cell?_alloc_new]; rfl
  · rw [cell_old _ _ _ _ (by omega), cell_old _ _ _ _ (by omega), cell_old _ _ _ _ (by omega), World.cell?_alloc_new]; rfl
  · rw [← z3, World.cell?_alloc_new]; rw [z3]; rfl
set_option maxRecDepth 100000 in
set_option maxHeartbeats 1000000 in
theorem keeping_any (L : Nat) (w : World) :
    Calls Try.prog 75 #[.func (.func 76) #[] #[]] w fun e w' => e = .returned (telV (w.heap.size + 2) w.heap.size (w.heap.size + 3)) ∧ TellI w' L (w.heap.size + 1) (w.heap.size + 2) w.heap.size (w.heap.size + 3) ∧ Below w.heap.size w w' := by
  have hmm := @run_makeMap Try.prog
  go_enter Try.func75, Try.ntmps75
  go_wp2
  go_ret
  refine ⟨rfl, tell_new L w _ _ _, ?_⟩
  exact ((((Below.refl _ w).alloc (Nat.le_refl _) _).alloc (by simp) _).alloc (by simp; omega) _).alloc (by simp; omega) _
set_option maxRecDepth 100000 in
set_option maxHeartbeats 1000000 in
theorem winning_any (L : Nat) (w : World) :
    Calls Try.prog 39 #[] w fun e w' => e = .returned (telV (w.heap.size + 2) w.heap.size (w.heap.size + 3)) ∧ TellI w' L (w.heap.size + 1) (w.heap.size + 2) w.heap.size (w.heap.size + 3) ∧ Below w.heap.size w w' := by
  have HK := Lib.hid (keeping_any L w)
  go_enter Try.func39, Try.ntmps39
  go_wp2_with fail
  refine HK.out.mono ?_
  rintro e w1 ⟨rfl, h1, h2⟩
  go_wp2
  go_ret
  exact ⟨rfl, h1, h2⟩
end Go.Proofs.Ytflpncdnneapmaa
