/- Contracts: the model's one move on a line, made; the exported functions on one move. -/
import Derived.Test.YtjadnfnpbacfdaaDoorMoveC
namespace Go.Proofs.YtjadnfnpbacfdaaDoor
open Go.RowKit

theorem ext_str (s : ByteArray) (i j : Nat) : s.extract i j = str (((byt s).take j).drop i) := by
  apply ByteArray.ext
  simp only [str, byt, ByteArray.data_extract]
  apply Array.ext'
  simp [List.extract_eq_take_drop, List.drop_take]

theorem put_list (l : List UInt8) (k : Nat) (c : UInt8) (h : k < l.length) : l.take k ++ [c] ++ l.drop (k + 1) = l.set k c := by
  rw [List.set_eq_take_append_cons_drop, if_pos h]
  simp

set_option maxHeartbeats 1000000 in
theorem liPut_any (s : ByteArray) (k : Nat) (g : ByteArray) (c : UInt8) (w : World) (hs : s.size ≤ 1000) (hk : k < s.size) (hg : g = str [c]) :
    Calls Tryd.prog 104 #[.string s, .int .i64 k, .string g] w fun e w' => e = .returned (.string (str ((byt s).set k c))) ∧ ∃ n, w' = w.drewN n := by
  have Z1 : g.size ≤ 1 := by rw [hg, str_size]; simp
  have z2 : (s.extract 0 k).size ≤ 1000 := by rw [ByteArray.size_extract]; omega
  have z3 : (s.extract (k + 1) s.size).size ≤ 1000 := by rw [ByteArray.size_extract]; omega
  have hR : Hid (s.extract 0 k ++ g ++ s.extract (k + 1) s.size = str ((byt s).set k c)) := by
    show _ = _
    rw [hg, ext_str, ext_str, str_app, str_app, ← put_list (byt s) k c (by rw [byt_len]; exact hk)]
    congr 1
    rw [take_all]
    simp
  clear hg
  go_enter Tryd.func104, Tryd.ntmps104
  go_wp2
  go_quiet (fail)
  go_wp2
  go_ret
  exact ⟨congrArg (fun b => Ending.returned (.string b)) hR.out, _, rfl⟩

theorem sign_at (s : ByteArray) (a : Nat) (ha : a < s.size) : s.extract a (a + 1) = str [s[a]] := by
  rw [ext_str]
  congr 1
  rw [take_snoc s a ha, List.drop_append, List.drop_of_length_le (by rw [List.length_take]; omega)]
  simp [byt_len, Nat.min_eq_left (Nat.le_of_lt ha)]

theorem putL_comm (s : ByteArray) (a b : Nat) (ha : a < s.size) (hne : a ≠ b) : ((byt s).set a 46).set b s[a] = putL s a b := by
  unfold putL
  have e : (byt s).getD a 0 = s[a] := by
    rw [List.getD_eq_getElem?_getD, List.getElem?_eq_getElem (by rw [byt_len]; exact ha)]; rfl
  rw [e, List.set_comm _ _ (by omega)]

set_option maxRecDepth 20000 in
set_option maxHeartbeats 1000000 in
theorem liMake_any (s : ByteArray) (a b : Nat) (w : World) (hs : s.size ≤ 1000) (ha : a < s.size) (hb : b < s.size) (hne : a ≠ b) :
    Calls Tryd.prog 68 #[.string s, .agg #[.int .i64 a, .int .i64 b]] w fun e w' => e = .returned (.string (str (putL s a b))) ∧ Below w.heap.size w w' := by
  have c1 := fun w => liPut_any s a ⟨#[46]⟩ 46 w hs ha rfl
  have c2 := fun w => liPut_any (str ((byt s).set a 46)) b (s.extract a (a + 1)) s[a] w (by rw [str_size, List.length_set, byt_len]; exact hs) (by rw [str_size, List.length_set, byt_len]; exact hb) (sign_at s a ha)
  have hR : Hid ((byt (str ((byt s).set a 46))).set b s[a] = putL s a b) := by
    show _ = _
    rw [byt_str]; exact putL_comm s a b ha hne
  rw [hR.out] at c2
  go_enter Tryd.func68, Tryd.ntmps68
  go_wp2
  go_quiet ((go_at_call 104; first | (with_reducible exact Calls.quiet_of (c1 _)) | (with_reducible exact Calls.quiet_of (c2 _))))
  go_wp2
  go_ret
  exact ⟨rfl, below_drewN ((Below.refl _ _).alloc (Nat.le_refl _) _) _⟩
end Go.Proofs.YtjadnfnpbacfdaaDoor
