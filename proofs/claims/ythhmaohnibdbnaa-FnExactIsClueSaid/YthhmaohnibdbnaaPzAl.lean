/- The law's walk: what a clue is. -/
import Derived.Test.YthhmaohnibdbnaaPzB
namespace Go.Proofs.Ythhmaohnibdbnaa
open Go.RowKit
set_option maxRecDepth 100000 in
set_option maxHeartbeats 2000000 in
theorem walk_FnExactIsClue (n : Int) (_ : (Lit.int .i64 n).wf = true) (a b c : Int) (w : World) :
    Calls Try.prog 3 #[.int .i64 n, .agg #[.int .i64 a, .int .i64 b, .int .i64 c]] w fun e w' => e = .returned (.bool true) ∧ Below w.heap.size w w' := by
  have HS := Lib.hid (fun wx => sIsClue_any n a b c wx)
  have HM := Lib.hid (fun wx => IsClue_any n a b c wx)
  generalize clueC n a b c = x at HS HM
  have hB : Below w.heap.size w (w.alloc (Obj.cells #[.int .i64 a, .int .i64 b, .int .i64 c] 23)) := (Below.refl _ _).alloc (Nat.le_refl _) _
  go_enter Try.func3, Try.ntmps3
  go_wp2_with fail
  refine (toClue_any a b c _).mono ?_
  rintro e w1 ⟨rfl, hb1⟩
  have h1 := hB.trans (hb1.mono hB.size)
  have k1 := hb1
  go_wp2_with fail
  refine (HS.out _).mono ?_
  rintro e w2 ⟨rfl, hb2⟩
  have h2 := h1.trans (hb2.mono h1.size)
  have k2 := k1.trans (hb2.mono k1.size)
  have d0 : w2.cell? ⟨w.heap.size, 0, none⟩ = some (.int .i64 a) := by rw [(bcell k2).1 _ _ (by simp), cell_new' _ _ _ _ _ rfl]; rfl
  have d1 : w2.cell? ⟨w.heap.size, 1, none⟩ = some (.int .i64 b) := by rw [(bcell k2).1 _ _ (by simp), cell_new' _ _ _ _ _ rfl]; rfl
  have d2 : w2.cell? ⟨w.heap.size, 2, none⟩ = some (.int .i64 c) := by rw [(bcell k2).1 _ _ (by simp), cell_new' _ _ _ _ _ rfl]; rfl
  go_wp2_with fail
  refine (toClue_any a b c _).mono ?_
  rintro e w3 ⟨rfl, hb3⟩
  have h3 := h2.trans (hb3.mono h2.size)
  go_wp2_with fail
  refine (HM.out _).mono ?_
  rintro e w4 ⟨rfl, hb4⟩
  have h4 := h3.trans (hb4.mono h3.size)
  go_wp2
  go_ret
  exact ⟨rfl, h4⟩
end Go.Proofs.Ythhmaohnibdbnaa
