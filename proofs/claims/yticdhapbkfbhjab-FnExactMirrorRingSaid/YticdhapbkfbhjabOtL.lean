/- Contract: the program's OtherLine. -/
import Derived.Test.YticdhapbkfbhjabBack
import Derived.Test.YticdhapbkfbhjabBdW
import Derived.Test.YticdhapbkfbhjabImpB
namespace Go.Proofs.Yticdhapbkfbhjab
open Go.RowKit

theorem map_oSg {l : List UInt8} (h : l.all isSign = true) : l.map oSg = l.map oSign :=
  List.map_congr_left fun c hc => oSg_sign (List.all_eq_true.1 h c hc)
set_option maxHeartbeats 1000000 in
theorem otherLine_any (s : ByteArray) (w : World) (hs : s.size ≤ maxLen) :
    Calls Try.prog 29 #[.string s] w fun e w' => e = .returned (strOr (goodL s) (otherL (byt s))) ∧ Below w.heap.size w w' := by
  cases hc : goodL s
  · have hC := Lib.hid hc
    clear hc
    go_enter Try.func29, Try.ntmps29
    go_wp2_with (go_at_call 32; refine (isLine_any _ _ hs).mono ?_; rintro e w' ⟨rfl, rfl⟩; rw [hC.out])
    go_ret2
    exact ⟨rfl, Below.refl _ _⟩
  · obtain ⟨h1, h12, h3⟩ := (goodL_iff s).1 hc
    have HW := Lib.hid (fun wx => withOther_any (byt s) wx (by rw [byt_len]; omega))
    have HB := Lib.hid (fun wx => backwards_any ((byt s).map oSg) wx (by rw [List.length_map, byt_len]; exact h1) (by rw [List.length_map, byt_len]; omega))
    rw [str_byt] at HW
    rw [map_oSg h3] at HW HB
    rw [show ((byt s).map oSign).reverse = otherL (byt s) from rfl] at HB
    generalize (byt s).map oSign = x at HW HB
    generalize otherL (byt s) = y at HB ⊢
    have hC := Lib.hid hc
    clear hc h1 h12 h3
    go_enter Try.func29, Try.ntmps29
    go_wp2_with fail
    refine (isLine_any _ _ hs).mono ?_; rintro e w' ⟨rfl, rfl⟩; rw [hC.out]
    go_wp2_with fail
    refine (HW.out _).mono ?_
    rintro e w1 ⟨rfl, hb1⟩
    go_wp2_with fail
    refine (HB.out _).mono ?_
    rintro e w2 ⟨rfl, hb2⟩
    have HB2 := Lib.hid (hb1.trans (hb2.mono hb1.size))
    clear hb1 hb2
    go_wp2_with fail
    go_ret2
    exact ⟨rfl, HB2.out⟩
end Go.Proofs.Yticdhapbkfbhjab
