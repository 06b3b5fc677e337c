/- Contracts: one move on a ring, the model's test. -/
import Derived.Test.YtdcbjbmnkajjcaaDoorCiB
import Derived.Test.YtdcbjbmnkajjcaaDoorPlain
import Derived.Test.YtdcbjbmnkajjcaaDoorMoves
namespace Go.Proofs.YtdcbjbmnkajjcaaDoor
open Go.RowKit

theorem tmod_T (n a : Nat) : ((a : Int) + 1).tmod (n : Int) = ((nxT n a : Nat) : Int) := by
  rw [show (a : Int) + 1 = ((a + 1 : Nat) : Int) by omega]; rfl
theorem tmod_F (n a : Nat) (h : 0 < n) : ((a : Int) + ((n : Int) - 1)).tmod (n : Int) = ((nxF n a : Nat) : Int) := by
  rw [show (a : Int) + ((n : Int) - 1) = ((a + (n - 1) : Nat) : Int) by omega]; rfl
theorem rgCi_no {s : ByteArray} {f t : Int} (h : inR f 0 (s.size - 1) = false ∨ inR t 0 (s.size - 1) = false) : rgCi s f t = false := by
  unfold rgCi
  rcases h with h | h
  · rw [h]; rfl
  · rw [h, Bool.false_and, Bool.and_false]

set_option maxHeartbeats 2000000 in
theorem ciCan_any (s : ByteArray) (f t : Int) (w : World) (h3 : 3 ≤ s.size) (h9 : s.size ≤ 9) :
    Calls Tryd.prog 50 #[.string s, .agg #[.int .i64 f, .int .i64 t]] w fun e w' => e = .returned (.bool (rgCi s f t)) ∧ Below w.heap.size w w' := by
  have hend : Below w.heap.size w (w.alloc (mvB f t)) := (Below.refl _ _).alloc (Nat.le_refl _) _
  cases h1 : inR f 0 (s.size - 1)
  · have HR : Hid (rgCi s f t = false) := Lib.hid (rgCi_no (.inl h1))
    have H1 := Lib.hid h1
    clear h1
    go_enter Tryd.func50, Tryd.ntmps50
    go_wp2_with (go_at_call 39; refine (l1In_any _ _ _ _).mono ?_; rintro e w' ⟨rfl, rfl⟩; rw [H1.out])
    go_ret
    exact ⟨congrArg (fun b => Ending.returned (.bool b)) HR.out.symm, hend⟩
  · cases h2 : inR t 0 (s.size - 1)
    · have HR : Hid (rgCi s f t = false) := Lib.hid (rgCi_no (.inr h2))
      have H1 := Lib.hid h1
      have H2 := Lib.hid h2
      clear h1 h2
      go_enter Tryd.func50, Tryd.ntmps50
      go_wp2_with fail
      refine (l1In_any _ _ _ _).mono ?_; rintro e w' ⟨rfl, rfl⟩; rw [H1.out]
      go_wp2_with fail
      refine (l1In_any _ _ _ _).mono ?_; rintro e w' ⟨rfl, rfl⟩; rw [H2.out]
      go_wp2
      go_ret
      exact ⟨congrArg (fun b => Ending.returned (.bool b)) HR.out.symm, hend⟩
    · have hf : 0 ≤ f ∧ f < s.size := by simp [inR] at h1; omega
      have ht : 0 ≤ t ∧ t < s.size := by simp [inR] at h2; omega
      have H1 := Lib.hid h1
      have H2 := Lib.hid h2
      clear h1 h2
      obtain ⟨a, rfl⟩ := Int.eq_ofNat_of_zero_le hf.1
      obtain ⟨c, rfl⟩ := Int.eq_ofNat_of_zero_le ht.1
      have ha : a < s.size := by omega
      have hc : c < s.size := by omega
      have ga := Lib.hid (sgAt_in s a ha)
      have gc := Lib.hid (sgAt_in s c hc)
      have HN := Lib.hid (rgCi_nat s a c ha hc)
      have hnz : ((s.size : Int) == 0) = false := beq_eq_false_iff_ne.2 (by omega)
      clear hf ht
      rcases is_or s[c] 46 46 rfl with ⟨e2, hv2⟩ | ⟨e2, hv2⟩
      · have hsc : sgAt s c = 46 := by rw [gc.out]; exact e2
        rcases is_or s[a] 84 84 rfl with ⟨e1, hv1⟩ | ⟨e1, hv1⟩
        · have hsa : sgAt s a = 84 := by rw [ga.out]; exact e1
          have hb : nxT s.size a < s.size := nxT_lt (by omega)
          have hd : nxT s.size (nxT s.size a) < s.size := nxT_lt (by omega)
          have HI : Hid (rgC s a c = (c == nxT s.size a || ((sgAt s (nxT s.size a) == 70) && c == nxT s.size (nxT s.size a)))) := Lib.hid (by
            unfold rgC; rw [hsc, hsa]; simp)
          have r1 := tmod_T s.size a
          have r2 := tmod_T s.size (nxT s.size a)
          have gb := Lib.hid (sgAt_in s _ hb)
          clear hsc hsa e1 e2
          generalize nxT s.size (nxT s.size a) = d at HI hd r2
          generalize nxT s.size a = b at HI hb r1 r2 gb
          by_cases k1 : c = b
          · have hq : ((c : Int) == (b : Int)) = true := by simp [k1]
            have HR : Hid (rgCi s a c = true) := Lib.hid (by rw [HN.out, HI.out]; simp [k1])
            clear k1
            go_enter Tryd.func50, Tryd.ntmps50
            go_wp2_with fail
            refine (l1In_any _ _ _ _).mono ?_; rintro e w' ⟨rfl, rfl⟩; rw [H1.out]
            go_wp2_with fail
            refine (l1In_any _ _ _ _).mono ?_; rintro e w' ⟨rfl, rfl⟩; rw [H2.out]
            go_wp2
            go_quiet (fail)
            go_wp2
            go_ret
            exact ⟨congrArg (fun b => Ending.returned (.bool b)) HR.out.symm, below_drewN hend _⟩
          · have hq : ((c : Int) == (b : Int)) = false := by simp; omega
            rcases is_or s[b] 70 70 rfl with ⟨e3, hv3⟩ | ⟨e3, hv3⟩
            · have HR : Hid (rgCi s a c = ((c : Int) == (d : Int))) := Lib.hid (by
                rw [HN.out, HI.out, gb.out, e3, Bool.eq_iff_iff]; simp [k1]; omega)
              clear e3
              go_enter Tryd.func50, Tryd.ntmps50
              go_wp2_with fail
              refine (l1In_any _ _ _ _).mono ?_; rintro e w' ⟨rfl, rfl⟩; rw [H1.out]
              go_wp2_with fail
              refine (l1In_any _ _ _ _).mono ?_; rintro e w' ⟨rfl, rfl⟩; rw [H2.out]
              go_wp2
              go_quiet (fail)
              go_wp2
              go_ret
              exact ⟨congrArg (fun b => Ending.returned (.bool b)) HR.out.symm, below_drewN hend _⟩
            · have HR : Hid (rgCi s a c = false) := Lib.hid (by
                rw [HN.out, HI.out, gb.out]; simp [k1, e3])
              clear e3
              go_enter Tryd.func50, Tryd.ntmps50
              go_wp2_with fail
              refine (l1In_any _ _ _ _).mono ?_; rintro e w' ⟨rfl, rfl⟩; rw [H1.out]
              go_wp2_with fail
              refine (l1In_any _ _ _ _).mono ?_; rintro e w' ⟨rfl, rfl⟩; rw [H2.out]
              go_wp2
              go_quiet (fail)
              go_wp2
              go_ret
              exact ⟨congrArg (fun b => Ending.returned (.bool b)) HR.out.symm, below_drewN hend _⟩
        · rcases is_or s[a] 70 70 rfl with ⟨e0, hv0⟩ | ⟨e0, hv0⟩
          · have hsa : sgAt s a = 70 := by rw [ga.out]; exact e0
            have hb : nxF s.size a < s.size := nxF_lt (by omega)
            have hd : nxF s.size (nxF s.size a) < s.size := nxF_lt (by omega)
            have HI : Hid (rgC s a c = (c == nxF s.size a || ((sgAt s (nxF s.size a) == 84) && c == nxF s.size (nxF s.size a)))) := Lib.hid (by
              unfold rgC; rw [hsc, hsa]; simp)
            have r1 := tmod_F s.size a (by omega)
            have r2 := tmod_F s.size (nxF s.size a) (by omega)
            have gb := Lib.hid (sgAt_in s _ hb)
            clear hsc hsa e1 e0 e2 hv1
            generalize nxF s.size (nxF s.size a) = d at HI hd r2
            generalize nxF s.size a = b at HI hb r1 r2 gb
            by_cases k1 : c = b
            · have hq : ((c : Int) == (b : Int)) = true := by simp [k1]
              have HR : Hid (rgCi s a c = true) := Lib.hid (by rw [HN.out, HI.out]; simp [k1])
              clear k1
              go_enter Tryd.func50, Tryd.ntmps50
              go_wp2_with fail
              refine (l1In_any _ _ _ _).mono ?_; rintro e w' ⟨rfl, rfl⟩; rw [H1.out]
              go_wp2_with fail
              refine (l1In_any _ _ _ _).mono ?_; rintro e w' ⟨rfl, rfl⟩; rw [H2.out]
              go_wp2
              go_quiet (fail)
              go_wp2
              go_ret
              exact ⟨congrArg (fun b => Ending.returned (.bool b)) HR.out.symm, below_drewN hend _⟩
            · have hq : ((c : Int) == (b : Int)) = false := by simp; omega
              rcases is_or s[b] 84 84 rfl with ⟨e3, hv3⟩ | ⟨e3, hv3⟩
              · have HR : Hid (rgCi s a c = ((c : Int) == (d : Int))) := Lib.hid (by
                  rw [HN.out, HI.out, gb.out, e3, Bool.eq_iff_iff]; simp [k1]; omega)
                clear e3
                go_enter Tryd.func50, Tryd.ntmps50
                go_wp2_with fail
                refine (l1In_any _ _ _ _).mono ?_; rintro e w' ⟨rfl, rfl⟩; rw [H1.out]
                go_wp2_with fail
                refine (l1In_any _ _ _ _).mono ?_; rintro e w' ⟨rfl, rfl⟩; rw [H2.out]
                go_wp2
                go_quiet (fail)
                go_wp2
                go_ret
                exact ⟨congrArg (fun b => Ending.returned (.bool b)) HR.out.symm, below_drewN hend _⟩
              · have HR : Hid (rgCi s a c = false) := Lib.hid (by
                  rw [HN.out, HI.out, gb.out]; simp [k1, e3])
                clear e3
                go_enter Tryd.func50, Tryd.ntmps50
                go_wp2_with fail
                refine (l1In_any _ _ _ _).mono ?_; rintro e w' ⟨rfl, rfl⟩; rw [H1.out]
                go_wp2_with fail
                refine (l1In_any _ _ _ _).mono ?_; rintro e w' ⟨rfl, rfl⟩; rw [H2.out]
                go_wp2
                go_quiet (fail)
                go_wp2
                go_ret
                exact ⟨congrArg (fun b => Ending.returned (.bool b)) HR.out.symm, below_drewN hend _⟩
          · have HR : Hid (rgCi s a c = false) := Lib.hid (by
              rw [HN.out]
              exact rgC_no (by rw [ga.out]; rintro ⟨_, ⟨h, _⟩ | ⟨h, _⟩⟩ <;> first | exact e1 h | exact e0 h))
            clear e0 e1 e2 hsc
            go_enter Tryd.func50, Tryd.ntmps50
            go_wp2_with fail
            refine (l1In_any _ _ _ _).mono ?_; rintro e w' ⟨rfl, rfl⟩; rw [H1.out]
            go_wp2_with fail
            refine (l1In_any _ _ _ _).mono ?_; rintro e w' ⟨rfl, rfl⟩; rw [H2.out]
            go_wp2
            go_ret
            exact ⟨congrArg (fun b => Ending.returned (.bool b)) HR.out.symm, hend⟩
      · have HR : Hid (rgCi s a c = false) := Lib.hid (by
          rw [HN.out]
          exact rgC_no (by rw [gc.out]; exact fun h => e2 h.1))
        have hv3 : ((s[c].toNat : Int) != 46) = true := by simpa [bne] using hv2
        clear e2
        go_enter Tryd.func50, Tryd.ntmps50
        go_wp2_with fail
        refine (l1In_any _ _ _ _).mono ?_; rintro e w' ⟨rfl, rfl⟩; rw [H1.out]
        go_wp2_with fail
        refine (l1In_any _ _ _ _).mono ?_; rintro e w' ⟨rfl, rfl⟩; rw [H2.out]
        go_wp2
        go_ret
        exact ⟨congrArg (fun b => Ending.returned (.bool b)) HR.out.symm, hend⟩
end Go.Proofs.YtdcbjbmnkajjcaaDoor
