/- Contracts: all moves by a rule, the model's. -/
import Derived.Test.YticdhapbkfbhjaaRuC
import Derived.Test.YticdhapbkfbhjaaItr
namespace Go.Proofs.Yticdhapbkfbhjaa
open Go.RowKit

set_option maxHeartbeats 2000000 in
theorem ruCan_any (s : ByteArray) (o b l : Bool) (f t : Int) (w : World) (hs : s.size ≤ 1000) :
    Calls Try.prog 67 #[.string s, .agg #[.int .i64 f, .int .i64 t], ruV o b l] w fun e w' => e = .returned (.bool (ruC s o b l f t)) ∧ Below w.heap.size w w' := by
  have hend : Below w.heap.size w ((w.alloc (mvB f t)).alloc (ruO o b l)) := ((Below.refl _ _).alloc (Nat.le_refl _) _).alloc (by simp) _
  cases h1 : inR f 0 (s.size - 1)
  · have HR : Hid (ruC s o b l f t = false) := Lib.hid (by unfold ruC; rw [h1]; rfl)
    have H1 := Lib.hid h1
    clear h1
    go_enter Try.func67, Try.ntmps67
    go_wp2_with (go_at_call 77; refine (l1In_any _ _ _ _).mono ?_; rintro e w' ⟨rfl, rfl⟩; rw [H1.out])
    go_ret
    exact ⟨congrArg (fun b => Ending.returned (.bool b)) HR.out.symm, hend⟩
  · cases h2 : inR t 0 (s.size - 1)
    · have HR : Hid (ruC s o b l f t = false) := Lib.hid (by unfold ruC; rw [h1, h2]; rfl)
      have H1 := Lib.hid h1
      have H2 := Lib.hid h2
      clear h1 h2
      go_enter Try.func67, Try.ntmps67
      go_wp2_with fail
      refine (l1In_any _ _ _ _).mono ?_; rintro e w' ⟨rfl, rfl⟩; rw [H1.out]
      go_wp2_with fail
      refine (l1In_any _ _ _ _).mono ?_; rintro e w' ⟨rfl, rfl⟩; rw [H2.out]
      go_wp2
      go_ret
      exact ⟨congrArg (fun b => Ending.returned (.bool b)) HR.out.symm, hend⟩
    · have hf : 0 ≤ f ∧ f < s.size := by simp [inR] at h1; omega
      have ht : 0 ≤ t ∧ t < s.size := by simp [inR] at h2; omega
      have H1 := Lib.hid h1
      have H2 := Lib.hid h2
      clear h1 h2
      obtain ⟨a, rfl⟩ := Int.eq_ofNat_of_zero_le hf.1
      obtain ⟨c, rfl⟩ := Int.eq_ofNat_of_zero_le ht.1
      have ha : a < s.size := by omega
      have hc : c < s.size := by omega
      have ga := Lib.hid (sgAt_in s a ha)
      have gc := Lib.hid (sgAt_in s c hc)
      clear hf ht
      rcases is_or2 s[a] 46 46 rfl with ⟨e1, hv1⟩ | ⟨e1, hv1⟩
      · have HR : Hid (ruC s o b l a c = false) := Lib.hid (by unfold ruC; rw [ga.out, e1]; simp)
        clear e1
        go_enter Try.func67, Try.ntmps67
        go_wp2_with fail
        refine (l1In_any _ _ _ _).mono ?_; rintro e w' ⟨rfl, rfl⟩; rw [H1.out]
        go_wp2_with fail
        refine (l1In_any _ _ _ _).mono ?_; rintro e w' ⟨rfl, rfl⟩; rw [H2.out]
        go_wp2
        go_ret
        exact ⟨congrArg (fun b => Ending.returned (.bool b)) HR.out.symm, hend⟩
      · rcases is_or2 s[c] 46 46 rfl with ⟨e2, hv2⟩ | ⟨e2, hv2⟩
        · have hne : a ≠ c := fun e => by subst e; exact e1 e2
          rcases Nat.lt_or_gt_of_ne hne with h | h
          · exact ruCan_right s o b l a c w hs ha hc h e1 e2
          · exact ruCan_left s o b l a c w hs ha hc h e1 e2
        · have HR : Hid (ruC s o b l a c = false) := Lib.hid (by unfold ruC; rw [gc.out, show (s[c] == 46) = false by simpa using e2]; simp)
          have hv3 : ((s[c].toNat : Int) != 46) = true := by simpa [bne] using hv2
          clear e1 e2
          go_enter Try.func67, Try.ntmps67
          go_wp2_with fail
          refine (l1In_any _ _ _ _).mono ?_; rintro e w' ⟨rfl, rfl⟩; rw [H1.out]
          go_wp2_with fail
          refine (l1In_any _ _ _ _).mono ?_; rintro e w' ⟨rfl, rfl⟩; rw [H2.out]
          go_wp2
          go_ret
          exact ⟨congrArg (fun b => Ending.returned (.bool b)) HR.out.symm, hend⟩

/-- The moves from one cell to the first cells. -/
def ruIn (s : ByteArray) (o b l : Bool) (f n : Nat) : List (Int × Int) := ((List.range n).filter fun t : Nat => ruC s o b l f t).map fun t : Nat => ((f : Int), (t : Int))
theorem ruIn_all (s : ByteArray) (o b l : Bool) (f : Nat) : ruIn s o b l f s.size = ruRow s o b l f := rfl
theorem ruIn_next (s : ByteArray) (o b l : Bool) (f n : Nat) : ruIn s o b l f (n + 1) = ruIn s o b l f n ++ if ruC s o b l f n then [((f : Int), (n : Int))] else [] := by
  unfold ruIn
  rw [List.range_succ, List.filter_append, List.map_append]
  cases h : ruC s o b l f n <;> simp [h]
theorem ruIn_le (s : ByteArray) (o b l : Bool) (f n : Nat) : (ruIn s o b l f n).length ≤ n := by
  unfold ruIn
  rw [List.length_map]
  have := List.length_filter_le (fun t : Nat => ruC s o b l f t) (List.range n)
  simpa using this
end Go.Proofs.Yticdhapbkfbhjaa
