/- Contracts: whether a move is among moves. -/
import Derived.Test.YtoiaklnaecghnaaDoorMarks
import Derived.BigQuiet
namespace Go.Proofs.YtoiaklnaecghnaaDoor
open Go.RowKit

theorem cell_below (w : World) (ob : Obj) (b k : Nat) (h : b < w.heap.size) : (w.alloc ob).cell? ⟨b, k, none⟩ = w.cell? ⟨b, k, none⟩ :=
  World.cell?_of_block (a := ⟨b, k, none⟩) (Below.heap_alloc w ob b h)

theorem eql_no {f t a b : Int} (h : ¬ (a = f ∧ b = t)) (w : World) : (binOp .eql 64 (.agg #[.int .i64 f, .int .i64 t]) (.agg #[.int .i64 a, .int .i64 b])).run Tryd.prog w = .ok (.bool false) w := by
  rw [eql_move]
  congr 2
  rw [Bool.and_eq_false_iff]
  by_cases e : f = a
  · exact .inr (by simpa using fun e2 : t = b => h ⟨e.symm, e2.symm⟩)
  · exact .inl (by simpa using e)
theorem eql_yes (f t : Int) (w : World) : (binOp .eql 64 (.agg #[.int .i64 f, .int .i64 t]) (.agg #[.int .i64 f, .int .i64 t])).run Tryd.prog w = .ok (.bool true) w := by
  rw [eql_move]
  simp

set_option maxHeartbeats 1000000 in
theorem indexMv_any (l : List (Int × Int)) (A : Option Addr) (c : Nat) (f t : Int) (w : World) (hat : MvAt w A l) (hn : l.length ≤ 1000) :
    Calls Tryd.prog 148 #[.slice A l.length c, .agg #[.int .i64 f, .int .i64 t]] w fun e w' => ∃ r : Int, e = .returned (.int .i64 r) ∧ (0 ≤ r ↔ (f, t) ∈ l) ∧ Below w.heap.size w w' := by
  have HAT : Hid (MvAt (w.alloc (mvB f t)) A l) := Lib.hid fun k hk => by
    obtain ⟨g, a, b, c, d⟩ := hat k hk
    exact ⟨g, a, by simp; omega, (cell_below w (mvB f t) g _ b).trans c, (cell_below w (mvB f t) g _ b).trans d⟩
  clear hat
  go_enter Tryd.func148, Tryd.ntmps148
  go_wp2
  obtain ⟨W0, hW0⟩ : ∃ W0, W0 = w.alloc (mvB f t) := ⟨_, rfl⟩
  rw [← hW0] at HAT ⊢
  have q0 : W0.cell? ⟨w.heap.size, 0, none⟩ = some (.int .i64 f) := by rw [hW0, World.cell?_alloc_new]; rfl
  have q1 : W0.cell? ⟨w.heap.size, 1, none⟩ = some (.int .i64 t) := by rw [hW0, World.cell?_alloc_new]; rfl
  have hzl : w.heap.size < W0.heap.size := by rw [hW0]; simp
  have HB0 : Hid (Below w.heap.size w W0) := Lib.hid (by rw [hW0]; exact (Below.refl _ _).alloc (Nat.le_refl _) _)
  clear hW0
  go_loopw [8] (fun x wr => ∃ j : Nat, j ≤ l.length ∧ x = .int .i64 j ∧ Hid (∀ k (h : k < l.length), k < j → l[k] ≠ (f, t)) ∧ Below W0.heap.size W0 wr) (fun x _ => l.length - (intOf x).toNat)
  case atStart => exact ⟨0, Nat.zero_le _, rfl, Lib.hid fun k _ hk => absurd hk (by omega), Below.refl _ _⟩
  case round =>
    obtain ⟨j, hj, rfl, hno, hB⟩ := hrel
    by_cases hlt : j < l.length
    · obtain ⟨g, rfl, hg, c0, c1⟩ := (HAT.out.below hB) j hlt
      have d0 := (hB.cell (p := ⟨w.heap.size, 0, none⟩) hzl).trans q0
      have d1 := (hB.cell (p := ⟨w.heap.size, 1, none⟩) hzl).trans q1
      have i1 : (0 : Int) ≤ (j : Int) := by omega
      have i2 : (j : Int) < (l.length : Int) := by omega
      have HM : Hid (l[j] ∈ l) := Lib.hid (List.getElem_mem hlt)
      have HN : Hid (l[j] ≠ (f, t) → ∀ k (h : k < l.length), k < j + 1 → l[k] ≠ (f, t)) := Lib.hid fun h0 k h hk => by
        by_cases e : k = j
        · subst e; exact h0
        · exact hno.out k h (by omega)
      obtain ⟨⟨a, b⟩, hp⟩ : ∃ p, p = l[j] := ⟨_, rfl⟩
      rw [← hp] at c0 c1 HM HN
      clear hp
      by_cases e : a = f ∧ b = t
      · obtain ⟨rfl, rfl⟩ := e
        have hq := eql_yes a b
        go_wp2
        go_quiet (fail)
        go_wp2
        go_ret
        exact ⟨j, rfl, ⟨fun _ => HM.out, fun _ => by omega⟩, HB0.out.trans ((below_drewN hB _).mono (by omega))⟩
      · have hq := fun wx => eql_no e wx
        have HN2 := Lib.hid (HN.out (fun h => by injection h with h1 h2; exact e ⟨h1, h2⟩))
        clear e
        go_wp2
        go_quiet (fail)
        go_wp2
        go_roundw
        case rel => exact ⟨j + 1, by omega, by go_num, HN2, below_drewN hB _⟩
        case measure => simp [intOf]; omega
    · obtain rfl : j = l.length := by omega
      go_wp2
      go_ret
      refine ⟨-1, rfl, ⟨fun h => by omega, fun h => ?_⟩, HB0.out.trans (hB.mono (by omega))⟩
      obtain ⟨k, hk, e⟩ := List.getElem_of_mem h
      exact absurd e (hno.out k hk hk)

set_option maxHeartbeats 1000000 in
theorem containsMv_any (l : List (Int × Int)) (A : Option Addr) (c : Nat) (f t : Int) (w : World) (hat : MvAt w A l) (hn : l.length ≤ 1000) :
    Calls Tryd.prog 131 #[.slice A l.length c, .agg #[.int .i64 f, .int .i64 t]] w fun e w' => ∃ r : Bool, e = .returned (.bool r) ∧ (r = true ↔ (f, t) ∈ l) ∧ Below w.heap.size w w' := by
  have HAT : Hid (MvAt (w.alloc (mvB f t)) A l) := Lib.hid fun k hk => by
    obtain ⟨g, a, b, c, d⟩ := hat k hk
    exact ⟨g, a, by simp; omega, (cell_below w (mvB f t) g _ b).trans c, (cell_below w (mvB f t) g _ b).trans d⟩
  clear hat
  go_enter Tryd.func131, Tryd.ntmps131
  go_wp2_with fail
  refine (indexMv_any l A c f t _ HAT.out hn).mono ?_
  rintro e w1 ⟨r, rfl, hr, hb⟩
  have HR := Lib.hid hr
  have HB := Lib.hid (((Below.refl w.heap.size w).alloc (Nat.le_refl _) (mvB f t)).trans (hb.mono (by simp)))
  clear hr hb
  go_wp2
  go_ret
  exact ⟨decide (0 ≤ r), rfl, by rw [decide_eq_true_iff]; exact HR.out, HB.out⟩

end Go.Proofs.YtoiaklnaecghnaaDoor
