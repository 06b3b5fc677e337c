/- Contracts: the model's functions on lines. -/
import Derived.Test.YtjadnfnpbacfdaaDoorStr
import Derived.Deep.QuietTactic
import Derived.BigQuiet
namespace Go.Proofs.YtjadnfnpbacfdaaDoor
open Go.RowKit

theorem three_cells (t g f : Int) (w : World) : ∀ (j : Nat),
  j < [t, g, f].length →
    (w.alloc (Obj.cells #[Value.int IntKind.i64 t, Value.int IntKind.i64 g, Value.int IntKind.i64 f] 3)).cell? { block := w.heap.size, off := j } =
      some (Value.int IntKind.i64 ([t, g, f].getD j 0)) := by
  intro j hj
  rw [World.cell?_alloc_new]
  match j, hj with
  | 0, _ => rfl
  | 1, _ => rfl
  | 2, _ => rfl

set_option maxHeartbeats 400000 in
theorem liFirst_any (t g f : Int) (w : World) (ht : t ≤ 100) (hg : g ≤ 100) (hf : f ≤ 100) :
    Calls Tryd.prog 51 #[.int .i64 t, .int .i64 g, .int .i64 f] w fun e w' => e = .returned (.string (str (firstL t.toNat g.toNat f.toNat))) ∧ w = w' := by
  have z1 : (str (List.replicate t.toNat 84)).size ≤ 100 := by rw [str_size, List.length_replicate]; omega
  have z2 : (str (List.replicate g.toNat 46)).size ≤ 100 := by rw [str_size, List.length_replicate]; omega
  have z3 : (str (List.replicate f.toNat 70)).size ≤ 100 := by rw [str_size, List.length_replicate]; omega
  go_enter Tryd.func51, Tryd.ntmps51
  go_wp2_with fail
  refine (liTimes_any 84 _ _ (by omega)).mono ?_; rintro e w' ⟨rfl, rfl⟩
  go_wp2_with fail
  refine (liTimes_any 46 _ _ (by omega)).mono ?_; rintro e w' ⟨rfl, rfl⟩
  go_wp2_with fail
  refine (liTimes_any 70 _ _ (by omega)).mono ?_; rintro e w' ⟨rfl, rfl⟩
  go_wp2
  go_ret
  refine ⟨congrArg (fun b => Ending.returned (.string b)) ?_, rfl⟩
  show str _ ++ str _ ++ str _ = _
  rw [str_app, str_app]
  rfl

set_option maxHeartbeats 400000 in
theorem liLast_any (s : ByteArray) (w : World) (hs : s.size ≤ 100) :
    Calls Tryd.prog 84 #[.string s] w fun e w' => e = .returned (.string (str (lastL (byt s)))) ∧ w = w' := by
  have l1 := cnt_le 70 (byt s)
  have l2 := cnt_le 46 (byt s)
  have l3 := cnt_le 84 (byt s)
  have hb : (byt s).length ≤ 100 := by rw [byt_len]; exact hs
  have z1 : (str (List.replicate (cnt 70 (byt s)) 70)).size ≤ 100 := by rw [str_size, List.length_replicate]; omega
  have z2 : (str (List.replicate (cnt 46 (byt s)) 46)).size ≤ 100 := by rw [str_size, List.length_replicate]; omega
  have z3 : (str (List.replicate (cnt 84 (byt s)) 84)).size ≤ 100 := by rw [str_size, List.length_replicate]; omega
  have hm : s.size ≤ maxLen := by unfold maxLen; omega
  go_enter Tryd.func84, Tryd.ntmps84
  go_wp2_with fail
  refine (liCount_any s 70 _ hm).mono ?_; rintro e w' ⟨rfl, rfl⟩
  go_wp2_with fail
  refine (liTimes_any 70 _ _ (by omega)).mono ?_; rintro e w' ⟨rfl, rfl⟩
  go_wp2_with fail
  refine (liCount_any s 46 _ hm).mono ?_; rintro e w' ⟨rfl, rfl⟩
  go_wp2_with fail
  refine (liTimes_any 46 _ _ (by omega)).mono ?_; rintro e w' ⟨rfl, rfl⟩
  go_wp2_with fail
  refine (liCount_any s 84 _ hm).mono ?_; rintro e w' ⟨rfl, rfl⟩
  go_wp2_with fail
  refine (liTimes_any 84 _ _ (by omega)).mono ?_; rintro e w' ⟨rfl, rfl⟩
  go_wp2
  go_ret
  refine ⟨congrArg (fun b => Ending.returned (.string b)) ?_, rfl⟩
  show str _ ++ str _ ++ str _ = _
  rw [str_app, str_app]
  rfl
end Go.Proofs.YtjadnfnpbacfdaaDoor
