/- The walk of the law on made moves, for every line and move. -/
import Derived.Test.YticdhapbkfbhjabWalkGb
namespace Go.Proofs.Yticdhapbkfbhjab
open Go.RowKit

set_option maxRecDepth 100000 in
set_option maxHeartbeats 8000000 in
theorem walk_FnMovesMadeOfAll (s : ByteArray) (hs : s.size ≤ maxLen) (v : ByteArray) (hv : v.size ≤ maxLen) (f t : Int) (_ : (Lit.int .i64 f).wf = true) (_ : (Lit.int .i64 t).wf = true) (w : World) :
    Calls Try.prog 6 #[.string s, .string v, .agg #[.int .i64 f, .int .i64 t]] w fun e w' => e = .returned (.bool true) ∧ Below w.heap.size w w' := by
  by_cases hbig : (1048576 : Int) < (s.size : Int)
  · go_enter Try.func6, Try.ntmps6
    go_wp2
    go_ret
    exact ⟨rfl, (Below.refl _ _).alloc (Nat.le_refl _) _⟩
  by_cases hbig2 : (1048576 : Int) < (v.size : Int)
  · go_enter Try.func6, Try.ntmps6
    go_wp2
    go_ret
    exact ⟨rfl, (Below.refl _ _).alloc (Nat.le_refl _) _⟩
  have hB0 : Below (w.heap.size + 1) (w.alloc (.cells #[.int .i64 f, .int .i64 t] 36)) (w.alloc (.cells #[.int .i64 f, .int .i64 t] 36)) := Below.refl _ _
  obtain ⟨b, blk, M, T, F, nT, nF, way, prs, O, hb0, eM, eT, eF, hM, hT, hF, h24, a1, a2, a3, a4, hcase⟩ := made_answers s
  have gM := fun wx => movesOf_any s wx hs
  have gN := fun wx => sMovesOf_any s wx hs
  have gT := fun wx => toadMoves_any s wx hs
  have gU := fun wx => sToadMoves_any s wx hs
  have gF := fun wx => frogMoves_any s wx hs
  have gG := fun wx => sFrogMoves_any s wx hs
  rw [hb0.out, eM.out] at gM gN
  rw [hb0.out, eT.out] at gT gU
  rw [hb0.out, eF.out] at gF gG
  have yM := fun wx A1 A2 c1 c2 (h1 : MvAt wx A1 M) (h2 : MvAt wx A2 M) => yMoves_same M A1 A2 c1 c2 wx h1 h2 (by rw [hM.out]; omega)
  have yT := fun wx A1 A2 c1 c2 (h1 : MvAt wx A1 T) (h2 : MvAt wx A2 T) => yMoves_same T A1 A2 c1 c2 wx h1 h2 (by rw [hT.out]; omega)
  have yF := fun wx A1 A2 c1 c2 (h1 : MvAt wx A1 F) (h2 : MvAt wx A2 F) => yMoves_same F A1 A2 c1 c2 wx h1 h2 (by rw [hF.out]; omega)
  rw [hM.out] at yM
  rw [hT.out] at yT
  rw [hF.out] at yF
  have GM := Lib.hid gM
  have GN := Lib.hid gN
  have GT := Lib.hid gT
  have GU := Lib.hid gU
  have GF := Lib.hid gF
  have GG := Lib.hid gG
  have YM := Lib.hid yM
  have YT := Lib.hid yT
  have YF := Lib.hid yF
  clear gM gN gT gU gF gG yM yT yF
  go_enter Try.func6, Try.ntmps6
  go_wp2_with fail
  refine (GM.out _).mono ?_
  rintro e w1 ⟨v1, rfl, ho, hb⟩
  obtain ⟨A1, cap1, rfl, at0⟩ := at_of_own ho
  have AT1 := Lib.hid at0
  replace hB0 := hB0.trans (hb.mono (box_size hB0))
  clear ho at0 hb
  rw [hM.out]
  go_wp2_with fail
  refine (GN.out _).mono ?_
  rintro e w2 ⟨v2, rfl, ho, hb⟩
  obtain ⟨A2, cap2, rfl, at0⟩ := at_of_own ho
  have AT2 := Lib.hid at0
  replace hB0 := hB0.trans (hb.mono (box_size hB0))
  replace AT1 := Lib.hid (AT1.out.below hb)
  clear ho at0 hb
  rw [hM.out]
  go_wp2_with fail
  refine (GT.out _).mono ?_
  rintro e w3 ⟨v3, rfl, ho, hb⟩
  obtain ⟨A3, cap3, rfl, at0⟩ := at_of_own ho
  have AT3 := Lib.hid at0
  replace hB0 := hB0.trans (hb.mono (box_size hB0))
  replace AT1 := Lib.hid (AT1.out.below hb)
  replace AT2 := Lib.hid (AT2.out.below hb)
  clear ho at0 hb
  rw [hT.out]
  go_wp2_with fail
  refine (GU.out _).mono ?_
  rintro e w4 ⟨v4, rfl, ho, hb⟩
  obtain ⟨A4, cap4, rfl, at0⟩ := at_of_own ho
  have AT4 := Lib.hid at0
  replace hB0 := hB0.trans (hb.mono (box_size hB0))
  replace AT1 := Lib.hid (AT1.out.below hb)
  replace AT2 := Lib.hid (AT2.out.below hb)
  replace AT3 := Lib.hid (AT3.out.below hb)
  clear ho at0 hb
  rw [hT.out]
  go_wp2_with fail
  refine (GF.out _).mono ?_
  rintro e w5 ⟨v5, rfl, ho, hb⟩
  obtain ⟨A5, cap5, rfl, at0⟩ := at_of_own ho
  have AT5 := Lib.hid at0
  replace hB0 := hB0.trans (hb.mono (box_size hB0))
  replace AT1 := Lib.hid (AT1.out.below hb)
  replace AT2 := Lib.hid (AT2.out.below hb)
  replace AT3 := Lib.hid (AT3.out.below hb)
  replace AT4 := Lib.hid (AT4.out.below hb)
  clear ho at0 hb
  rw [hF.out]
  go_wp2_with fail
  refine (GG.out _).mono ?_
  rintro e w6 ⟨v6, rfl, ho, hb⟩
  obtain ⟨A6, cap6, rfl, at0⟩ := at_of_own ho
  have AT6 := Lib.hid at0
  replace hB0 := hB0.trans (hb.mono (box_size hB0))
  replace AT1 := Lib.hid (AT1.out.below hb)
  replace AT2 := Lib.hid (AT2.out.below hb)
  replace AT3 := Lib.hid (AT3.out.below hb)
  replace AT4 := Lib.hid (AT4.out.below hb)
  replace AT5 := Lib.hid (AT5.out.below hb)
  clear ho at0 hb
  rw [hF.out]
  go_wp2_with fail
  refine (way_any s _ hs).mono ?_
  rintro e wz ⟨rfl, rfl⟩
  rw [a1.out]
  go_wp2_with fail
  refine (sWay_any s _ hs).mono ?_
  rintro e wz ⟨rfl, rfl⟩
  rw [a1.out]
  go_wp2_with fail
  refine (pairs_any s _ hs).mono ?_
  rintro e wz ⟨rfl, rfl⟩
  rw [a2.out]
  go_wp2_with fail
  refine (sPairs_any s _ hs).mono ?_
  rintro e wz ⟨rfl, rfl⟩
  rw [a2.out]
  go_wp2_with fail
  refine (isBlocked_any s _ hs).mono ?_
  rintro e w7 ⟨rfl, hb⟩
  replace hB0 := hB0.trans (hb.mono (box_size hB0))
  replace AT1 := Lib.hid (AT1.out.below hb)
  replace AT2 := Lib.hid (AT2.out.below hb)
  replace AT3 := Lib.hid (AT3.out.below hb)
  replace AT4 := Lib.hid (AT4.out.below hb)
  replace AT5 := Lib.hid (AT5.out.below hb)
  replace AT6 := Lib.hid (AT6.out.below hb)
  clear hb
  rw [a3.out]
  go_wp2_with fail
  refine (sIsBlocked_any s _ hs).mono ?_
  rintro e w8 ⟨rfl, hb⟩
  replace hB0 := hB0.trans (hb.mono (box_size hB0))
  replace AT1 := Lib.hid (AT1.out.below hb)
  replace AT2 := Lib.hid (AT2.out.below hb)
  replace AT3 := Lib.hid (AT3.out.below hb)
  replace AT4 := Lib.hid (AT4.out.below hb)
  replace AT5 := Lib.hid (AT5.out.below hb)
  replace AT6 := Lib.hid (AT6.out.below hb)
  clear hb
  rw [a3.out]
  go_wp2_with fail
  refine (otherLine_any s _ hs).mono ?_
  rintro e w9 ⟨rfl, hb⟩
  replace hB0 := hB0.trans (hb.mono (box_size hB0))
  replace AT1 := Lib.hid (AT1.out.below hb)
  replace AT2 := Lib.hid (AT2.out.below hb)
  replace AT3 := Lib.hid (AT3.out.below hb)
  replace AT4 := Lib.hid (AT4.out.below hb)
  replace AT5 := Lib.hid (AT5.out.below hb)
  replace AT6 := Lib.hid (AT6.out.below hb)
  clear hb
  rw [a4.out]
  go_wp2_with fail
  refine (sOtherLine_any s _ hs).mono ?_
  rintro e wz ⟨rfl, rfl⟩
  rw [a4.out]
  go_wp2_with fail
  refine (YM.out _ _ _ _ _ AT1.out AT2.out).mono ?_
  rintro e w10 ⟨rfl, hb⟩
  replace hB0 := hB0.trans (hb.mono (box_size hB0))
  replace AT1 := Lib.hid (AT1.out.below hb)
  replace AT2 := Lib.hid (AT2.out.below hb)
  replace AT3 := Lib.hid (AT3.out.below hb)
  replace AT4 := Lib.hid (AT4.out.below hb)
  replace AT5 := Lib.hid (AT5.out.below hb)
  replace AT6 := Lib.hid (AT6.out.below hb)
  clear hb
  go_wp2_with fail
  refine (YT.out _ _ _ _ _ AT3.out AT4.out).mono ?_
  rintro e w11 ⟨rfl, hb⟩
  replace hB0 := hB0.trans (hb.mono (box_size hB0))
  replace AT1 := Lib.hid (AT1.out.below hb)
  replace AT2 := Lib.hid (AT2.out.below hb)
  replace AT3 := Lib.hid (AT3.out.below hb)
  replace AT4 := Lib.hid (AT4.out.below hb)
  replace AT5 := Lib.hid (AT5.out.below hb)
  replace AT6 := Lib.hid (AT6.out.below hb)
  clear hb
  go_wp2_with fail
  refine (YF.out _ _ _ _ _ AT5.out AT6.out).mono ?_
  rintro e w12 ⟨rfl, hb⟩
  replace hB0 := hB0.trans (hb.mono (box_size hB0))
  replace AT1 := Lib.hid (AT1.out.below hb)
  replace AT2 := Lib.hid (AT2.out.below hb)
  replace AT3 := Lib.hid (AT3.out.below hb)
  replace AT4 := Lib.hid (AT4.out.below hb)
  replace AT5 := Lib.hid (AT5.out.below hb)
  replace AT6 := Lib.hid (AT6.out.below hb)
  clear hb
  go_wp2_with fail
  refine (isLine_any s _ hs).mono ?_
  rintro e wz ⟨rfl, rfl⟩
  rw [hb0.out]
  go_wp2_with fail
  refine (isLine_any s _ hs).mono ?_
  rintro e wz ⟨rfl, rfl⟩
  rw [hb0.out]
  go_wp2_with fail
  refine (sIsLine_any s _ hs).mono ?_
  rintro e wz ⟨rfl, rfl⟩
  rw [hb0.out]
  go_upto_if 258 with fail
  rename_i KK hKK
  have HK := Lib.hid hKK
  clear hKK
  go_wp2_with fail
  exact HK.out _ _ (made_ok f t w _ hs hv hB0 hM hT hF h24 AT1 AT3 AT5 hcase)
end Go.Proofs.Yticdhapbkfbhjab
