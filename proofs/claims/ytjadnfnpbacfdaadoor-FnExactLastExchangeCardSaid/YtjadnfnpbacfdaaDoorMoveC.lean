/- Contracts: the model's one move on a line. -/
import Derived.Test.YtjadnfnpbacfdaaDoorMoveB
namespace Go.Proofs.YtjadnfnpbacfdaaDoor
open Go.RowKit

/-- What the model asks of a move. -/
def canS (s : ByteArray) (f t : Int) : Prop := (0 ≤ f ∧ f < s.size) ∧ (0 ≤ t ∧ t < s.size) ∧ sgAt s t = 46 ∧
  ((sgAt s f = 84 ∧ (t = f + 1 ∨ (t = f + 1 + 1 ∧ sgAt s (f + 1) = 70))) ∨ (sgAt s f = 70 ∧ (t = f + -1 ∨ (t = f + -1 + -1 ∧ sgAt s (f + -1) = 84))))
theorem canM_iff (s : ByteArray) (f t : Int) : canM s f t = true ↔ canS s f t := by
  unfold canM canS
  simp only [Bool.and_eq_true, decide_eq_true_eq]
  constructor
  · rintro ⟨hne, ht⟩
    have hh : canM s f t = true := by simp [canM, hne, ← ht]
    obtain ⟨a, b, rfl, rfl, ha, hb, _⟩ := canM_in hh
    refine ⟨by omega, by omega, ?_⟩
    unfold mvTo at ht
    split at ht
    · rename_i h84
      split at ht
      · rename_i h1
        exact ⟨by rw [ht]; exact h1, .inl ⟨h84, .inl ht⟩⟩
      · split at ht
        · split at ht
          · rename_i h2 h3
            exact ⟨by rw [ht]; exact h3, .inl ⟨h84, .inr ⟨ht, h2⟩⟩⟩
          · exact absurd ht.symm hne
        · exact absurd ht.symm hne
    · split at ht
      · rename_i h70
        split at ht
        · rename_i h1
          exact ⟨by rw [ht]; exact h1, .inr ⟨h70, .inl ht⟩⟩
        · split at ht
          · split at ht
            · rename_i h2 h3
              exact ⟨by rw [ht]; exact h3, .inr ⟨h70, .inr ⟨ht, h2⟩⟩⟩
            · exact absurd ht.symm hne
          · exact absurd ht.symm hne
      · exact absurd ht.symm hne
  · rintro ⟨hf, ht, h46, ⟨h84, h⟩ | ⟨h70, h⟩⟩
    · rcases h with rfl | ⟨rfl, h2⟩
      · exact ⟨by omega, by simp [mvTo, h84, h46]⟩
      · exact ⟨by omega, by simp [mvTo, h84, h46, h2]⟩
    · rcases h with rfl | ⟨rfl, h2⟩
      · exact ⟨by omega, by simp [mvTo, h70, h46]⟩
      · exact ⟨by omega, by simp [mvTo, h70, h46, h2]⟩

theorem canM_not {s : ByteArray} {f t : Int} (h : ¬ canS s f t) : canM s f t = false := by
  rw [Bool.eq_false_iff]
  exact fun e => h ((canM_iff s f t).1 e)

set_option maxHeartbeats 1000000 in
theorem liCan_any (s : ByteArray) (f t : Int) (w : World) (hs : s.size ≤ 1000) :
    Calls Tryd.prog 94 #[.string s, .agg #[.int .i64 f, .int .i64 t]] w fun e w' => e = .returned (.bool (canM s f t)) ∧ Below w.heap.size w w' := by
  have hend : Below w.heap.size w (w.alloc (Obj.cells #[Value.int IntKind.i64 f, Value.int IntKind.i64 t] 64)) := (Below.refl _ _).alloc (Nat.le_refl _) _
  cases h1 : inR f 0 (s.size - 1)
  · have hR : Hid (canM s f t = false) := canM_not fun h => by
      obtain ⟨⟨_, _⟩, _⟩ := h
      simp [inR] at h1
      omega
    have H1 := Lib.hid h1
    clear h1
    go_enter Tryd.func94, Tryd.ntmps94
    go_wp2_with (go_at_call 54; refine (l1In_any _ _ _ _).mono ?_; rintro e w' ⟨rfl, rfl⟩; rw [H1.out])
    go_ret
    exact ⟨congrArg (fun b => Ending.returned (.bool b)) hR.out.symm, hend⟩
  · cases h2 : inR t 0 (s.size - 1)
    · have hR : Hid (canM s f t = false) := canM_not fun h => by
        obtain ⟨_, ⟨_, _⟩, _⟩ := h
        simp [inR] at h2
        omega
      have H1 := Lib.hid h1
      have H2 := Lib.hid h2
      clear h1 h2
      go_enter Tryd.func94, Tryd.ntmps94
      go_wp2_with fail
      refine (l1In_any _ _ _ _).mono ?_; rintro e w' ⟨rfl, rfl⟩; rw [H1.out]
      go_wp2_with fail
      refine (l1In_any _ _ _ _).mono ?_; rintro e w' ⟨rfl, rfl⟩; rw [H2.out]
      go_wp2
      go_ret
      exact ⟨congrArg (fun b => Ending.returned (.bool b)) hR.out.symm, hend⟩
    · have hf : 0 ≤ f ∧ f < s.size := by simp [inR] at h1; omega
      have ht : 0 ≤ t ∧ t < s.size := by simp [inR] at h2; omega
      have H1 := Lib.hid h1
      have H2 := Lib.hid h2
      clear h1 h2
      obtain ⟨a, rfl⟩ := Int.eq_ofNat_of_zero_le hf.1
      obtain ⟨b, rfl⟩ := Int.eq_ofNat_of_zero_le ht.1
      have ha : a < s.size := by omega
      have hb : b < s.size := by omega
      have ga := Lib.hid (sgAt_in s a ha)
      have gb := Lib.hid (sgAt_in s b hb)
      clear hf ht
      rcases is_or s[b] 46 46 rfl with ⟨hc, hv⟩ | ⟨hc, hv⟩
      · rcases is_or s[a] 84 84 rfl with ⟨hcs, hv2⟩ | ⟨hc2, hv2⟩
        · by_cases e1 : (b : Int) = (a : Int) + 1
          · have hR : Hid (canM s a b = true) := (canM_iff s a b).2 ⟨⟨by omega, by omega⟩, ⟨by omega, by omega⟩, by rw [gb.out]; exact hc, .inl ⟨by rw [ga.out]; exact hcs, .inl e1⟩⟩
            have E1 : ((b : Int) == (a : Int) + 1) = true := by simpa using e1
            clear hc hcs e1
            go_enter Tryd.func94, Tryd.ntmps94
            go_wp2_with fail
            refine (l1In_any _ _ _ _).mono ?_; rintro e w' ⟨rfl, rfl⟩; rw [H1.out]
            go_wp2_with fail
            refine (l1In_any _ _ _ _).mono ?_; rintro e w' ⟨rfl, rfl⟩; rw [H2.out]
            go_wp2
            go_ret
            exact ⟨congrArg (fun b => Ending.returned (.bool b)) hR.out.symm, (Below.refl _ _).alloc (Nat.le_refl _) _⟩
          · by_cases e2 : (b : Int) = (a : Int) + 2
            · have hr : (a + 1) < s.size := by omega
              have gi : sgAt s ((a : Int) + 1) = s[a + 1] := by
                have := sgAt_in s (a + 1) hr
                rwa [show ((a + 1 : Nat) : Int) = (a : Int) + 1 from by omega] at this
              rcases is_or s[a + 1] 70 70 rfl with ⟨hc4, hv4⟩ | ⟨hc4, hv4⟩
              · have hR : Hid (canM s a b = true) := (canM_iff s a b).2 ⟨⟨by omega, by omega⟩, ⟨by omega, by omega⟩, by rw [gb.out]; exact hc, .inl ⟨by rw [ga.out]; exact hcs, .inr ⟨by omega, by rw [gi]; exact hc4⟩⟩⟩
                have E1 : ((b : Int) == (a : Int) + 1) = false := by simpa using e1
                have E2 : ((b : Int) == (a : Int) + 2) = true := by simpa using e2
                have b1 : 0 ≤ (a : Int) + 1 := by omega
                have b2 : (a : Int) + 1 < (s.size : Int) := by omega
                clear hc hcs e1 e2 hc4 gi
                go_enter Tryd.func94, Tryd.ntmps94
                go_wp2_with fail
                refine (l1In_any _ _ _ _).mono ?_; rintro e w' ⟨rfl, rfl⟩; rw [H1.out]
                go_wp2_with fail
                refine (l1In_any _ _ _ _).mono ?_; rintro e w' ⟨rfl, rfl⟩; rw [H2.out]
                go_wp2
                go_ret
                exact ⟨congrArg (fun b => Ending.returned (.bool b)) hR.out.symm, (Below.refl _ _).alloc (Nat.le_refl _) _⟩
              · have hR : Hid (canM s a b = false) := canM_not fun h => by
                  obtain ⟨_, _, _, ⟨h84, h | ⟨_, h⟩⟩ | ⟨h70, h | ⟨_, h⟩⟩⟩ := h
                  · exact e1 h
                  · rw [gi] at h; exact hc4 h
                  · rw [ga.out, hcs] at h70; cases h70
                  · rw [ga.out, hcs] at h70; cases h70
                have E1 : ((b : Int) == (a : Int) + 1) = false := by simpa using e1
                have E2 : ((b : Int) == (a : Int) + 2) = true := by simpa using e2
                have b1 : 0 ≤ (a : Int) + 1 := by omega
                have b2 : (a : Int) + 1 < (s.size : Int) := by omega
                clear hc hcs e1 e2 hc4 gi
                go_enter Tryd.func94, Tryd.ntmps94
                go_wp2_with fail
                refine (l1In_any _ _ _ _).mono ?_; rintro e w' ⟨rfl, rfl⟩; rw [H1.out]
                go_wp2_with fail
                refine (l1In_any _ _ _ _).mono ?_; rintro e w' ⟨rfl, rfl⟩; rw [H2.out]
                go_wp2
                go_ret
                exact ⟨congrArg (fun b => Ending.returned (.bool b)) hR.out.symm, (Below.refl _ _).alloc (Nat.le_refl _) _⟩
            · have hR : Hid (canM s a b = false) := canM_not fun h => by
                obtain ⟨_, _, _, ⟨h84, h | ⟨h, _⟩⟩ | ⟨h70, h | ⟨h, _⟩⟩⟩ := h
                · exact e1 h
                · omega
                · rw [ga.out, hcs] at h70; cases h70
                · rw [ga.out, hcs] at h70; cases h70
              have E1 : ((b : Int) == (a : Int) + 1) = false := by simpa using e1
              have E2 : ((b : Int) == (a : Int) + 2) = false := by simpa using e2
              clear hc hcs e1 e2
              go_enter Tryd.func94, Tryd.ntmps94
              go_wp2_with fail
              refine (l1In_any _ _ _ _).mono ?_; rintro e w' ⟨rfl, rfl⟩; rw [H1.out]
              go_wp2_with fail
              refine (l1In_any _ _ _ _).mono ?_; rintro e w' ⟨rfl, rfl⟩; rw [H2.out]
              go_wp2
              go_ret
              exact ⟨congrArg (fun b => Ending.returned (.bool b)) hR.out.symm, (Below.refl _ _).alloc (Nat.le_refl _) _⟩
        · rcases is_or s[a] 70 70 rfl with ⟨hcs, hv3⟩ | ⟨hc3, hv3⟩
          · clear hc2 hv2
            by_cases e1 : (b : Int) = (a : Int) + -1
            · have hR : Hid (canM s a b = true) := (canM_iff s a b).2 ⟨⟨by omega, by omega⟩, ⟨by omega, by omega⟩, by rw [gb.out]; exact hc, .inr ⟨by rw [ga.out]; exact hcs, .inl e1⟩⟩
              have E1 : ((b : Int) == (a : Int) + -1) = true := by simpa using e1
              clear hc hcs e1
              go_enter Tryd.func94, Tryd.ntmps94
              go_wp2_with fail
              refine (l1In_any _ _ _ _).mono ?_; rintro e w' ⟨rfl, rfl⟩; rw [H1.out]
              go_wp2_with fail
              refine (l1In_any _ _ _ _).mono ?_; rintro e w' ⟨rfl, rfl⟩; rw [H2.out]
              go_wp2
              go_ret
              exact ⟨congrArg (fun b => Ending.returned (.bool b)) hR.out.symm, (Below.refl _ _).alloc (Nat.le_refl _) _⟩
            · by_cases e2 : (b : Int) = (a : Int) + -2
              · have hr : ((a : Int) + -1).toNat < s.size := by omega
                have gi : sgAt s ((a : Int) + -1) = s[((a : Int) + -1).toNat] := by
                  have := sgAt_in s (((a : Int) + -1).toNat) hr
                  rwa [show ((((a : Int) + -1).toNat : Nat) : Int) = (a : Int) + -1 from by omega] at this
                rcases is_or s[((a : Int) + -1).toNat] 84 84 rfl with ⟨hc4, hv4⟩ | ⟨hc4, hv4⟩
                · have hR : Hid (canM s a b = true) := (canM_iff s a b).2 ⟨⟨by omega, by omega⟩, ⟨by omega, by omega⟩, by rw [gb.out]; exact hc, .inr ⟨by rw [ga.out]; exact hcs, .inr ⟨by omega, by rw [gi]; exact hc4⟩⟩⟩
                  have E1 : ((b : Int) == (a : Int) + -1) = false := by simpa using e1
                  have E2 : ((b : Int) == (a : Int) + -2) = true := by simpa using e2
                  have b1 : 0 ≤ (a : Int) + -1 := by omega
                  have b2 : (a : Int) + -1 < (s.size : Int) := by omega
                  clear hc hcs e1 e2 hc4 gi
                  go_enter Tryd.func94, Tryd.ntmps94
                  go_wp2_with fail
                  refine (l1In_any _ _ _ _).mono ?_; rintro e w' ⟨rfl, rfl⟩; rw [H1.out]
                  go_wp2_with fail
                  refine (l1In_any _ _ _ _).mono ?_; rintro e w' ⟨rfl, rfl⟩; rw [H2.out]
                  go_wp2
                  go_ret
                  exact ⟨congrArg (fun b => Ending.returned (.bool b)) hR.out.symm, (Below.refl _ _).alloc (Nat.le_refl _) _⟩
                · have hR : Hid (canM s a b = false) := canM_not fun h => by
                    obtain ⟨_, _, _, ⟨h84, h | ⟨_, h⟩⟩ | ⟨h70, h | ⟨_, h⟩⟩⟩ := h
                    · rw [ga.out, hcs] at h84; cases h84
                    · rw [ga.out, hcs] at h84; cases h84
                    · exact e1 h
                    · rw [gi] at h; exact hc4 h
                  have E1 : ((b : Int) == (a : Int) + -1) = false := by simpa using e1
                  have E2 : ((b : Int) == (a : Int) + -2) = true := by simpa using e2
                  have b1 : 0 ≤ (a : Int) + -1 := by omega
                  have b2 : (a : Int) + -1 < (s.size : Int) := by omega
                  clear hc hcs e1 e2 hc4 gi
                  go_enter Tryd.func94, Tryd.ntmps94
                  go_wp2_with fail
                  refine (l1In_any _ _ _ _).mono ?_; rintro e w' ⟨rfl, rfl⟩; rw [H1.out]
                  go_wp2_with fail
                  refine (l1In_any _ _ _ _).mono ?_; rintro e w' ⟨rfl, rfl⟩; rw [H2.out]
                  go_wp2
                  go_ret
                  exact ⟨congrArg (fun b => Ending.returned (.bool b)) hR.out.symm, (Below.refl _ _).alloc (Nat.le_refl _) _⟩
              · have hR : Hid (canM s a b = false) := canM_not fun h => by
                  obtain ⟨_, _, _, ⟨h84, h | ⟨h, _⟩⟩ | ⟨h70, h | ⟨h, _⟩⟩⟩ := h
                  · rw [ga.out, hcs] at h84; cases h84
                  · rw [ga.out, hcs] at h84; cases h84
                  · exact e1 h
                  · omega
                have E1 : ((b : Int) == (a : Int) + -1) = false := by simpa using e1
                have E2 : ((b : Int) == (a : Int) + -2) = false := by simpa using e2
                clear hc hcs e1 e2
                go_enter Tryd.func94, Tryd.ntmps94
                go_wp2_with fail
                refine (l1In_any _ _ _ _).mono ?_; rintro e w' ⟨rfl, rfl⟩; rw [H1.out]
                go_wp2_with fail
                refine (l1In_any _ _ _ _).mono ?_; rintro e w' ⟨rfl, rfl⟩; rw [H2.out]
                go_wp2
                go_ret
                exact ⟨congrArg (fun b => Ending.returned (.bool b)) hR.out.symm, (Below.refl _ _).alloc (Nat.le_refl _) _⟩
          · have hR : Hid (canM s a b = false) := canM_not fun h => by
              obtain ⟨_, _, _, ⟨h84, _⟩ | ⟨h70, _⟩⟩ := h
              · rw [ga.out] at h84; exact hc2 h84
              · rw [ga.out] at h70; exact hc3 h70
            clear hc hc2 hc3
            go_enter Tryd.func94, Tryd.ntmps94
            go_wp2_with fail
            refine (l1In_any _ _ _ _).mono ?_; rintro e w' ⟨rfl, rfl⟩; rw [H1.out]
            go_wp2_with fail
            refine (l1In_any _ _ _ _).mono ?_; rintro e w' ⟨rfl, rfl⟩; rw [H2.out]
            go_wp2
            go_ret
            exact ⟨congrArg (fun b => Ending.returned (.bool b)) hR.out.symm, (Below.refl _ _).alloc (Nat.le_refl _) _⟩
      · have hR : Hid (canM s a b = false) := canM_not fun h => by
          obtain ⟨_, _, h3, _⟩ := h
          rw [gb.out] at h3
          exact hc h3
        have hvn : ((s[b].toNat : Int) != 46) = true := by simpa [bne] using hv
        clear hc
        go_enter Tryd.func94, Tryd.ntmps94
        go_wp2_with fail
        refine (l1In_any _ _ _ _).mono ?_; rintro e w' ⟨rfl, rfl⟩; rw [H1.out]
        go_wp2_with fail
        refine (l1In_any _ _ _ _).mono ?_; rintro e w' ⟨rfl, rfl⟩; rw [H2.out]
        go_wp2
        go_ret
        exact ⟨congrArg (fun b => Ending.returned (.bool b)) hR.out.symm, hend⟩
end Go.Proofs.YtjadnfnpbacfdaaDoor
