/- FirstPlay: the law's walk. -/
import Derived.Test.YtflpncdnneapmaaFpD
import Derived.Test.YtflpncdnneapmaaMoves
namespace Go.Proofs.Ytflpncdnneapmaa
open Go.RowKit

theorem at_ownF {w : World} {base : Nat} {A : Option Addr} {cap : Nat} {l : List (Int × Int)} (h : w.ownsRow base 31 2 (.slice A l.length cap) l.length (flat l)) : MvAt w A l := by
  obtain ⟨A', cap', e, h⟩ := at_of_own h
  injection e with e1 _ e2
  subst e1
  exact h
set_option maxRecDepth 100000 in
set_option maxHeartbeats 2000000 in
theorem firstPlay_no (s t : ByteArray) (w : World) (hs : s.size ≤ maxLen) (ht : t.size ≤ maxLen) (h : (reachB s && reachB t) = false) :
    Calls Try.prog 10 #[.string s, .string t] w (FpNo w) := by
  have H1 := Lib.hid (fun wx => isReach_any s wx hs)
  have H2 := Lib.hid (fun wx => isReach_any t wx ht)
  cases hs1 : reachB s
  · rw [hs1] at H1
    clear h hs1
    go_enter Try.func10, Try.ntmps10
    go_wp2
    refine wp_scope_straight ?_
    go_wp2_with fail
    refine (H1.out _).mono ?_
    rintro e w1 ⟨rfl, rfl⟩
    go_wp2_with fail
    (try rw [Exit.noGoto_ret])
    go_ret2
    exact ⟨rfl, Below.refl _ _⟩
  · rw [hs1, Bool.true_and] at h
    rw [hs1] at H1
    rw [h] at H2
    clear h hs1
    go_enter Try.func10, Try.ntmps10
    go_wp2
    refine wp_scope_straight ?_
    go_wp2_with fail
    refine (H1.out _).mono ?_
    rintro e w1 ⟨rfl, rfl⟩
    go_wp2_with fail
    refine (H2.out _).mono ?_
    rintro e w1 ⟨rfl, rfl⟩
    go_wp2_with fail
    (try rw [Exit.noGoto_ret])
    go_ret2
    exact ⟨rfl, Below.refl _ _⟩
theorem way200 {n : Nat} {l : List UInt8} (hg : goodT n l) : wayL l ≤ 200 := by
  have hs : l.all isSign = true := by have := ((goodL_iff (str l)).1 hg.1).2.2; rwa [byt_str] at this
  have h1 := (sumSt_le 84 (lastL l)).2
  have h2 := (sumSt_le 70 l).2
  rw [lastL_same l hs] at h1
  have hl : l.length ≤ 10 := by have := hg.2; omega
  have h3 : l.length * l.length ≤ 10 * 10 := Nat.mul_le_mul hl hl
  unfold wayL
  omega
theorem Fp.few200 {n : Nat} {v w u : List UInt8} {l : List (Int × Int)} (h : Fp v w l u) (hg : goodT n w) : l.length ≤ 200 := by
  obtain ⟨h1, _, h3⟩ := lay_good (steps_line n) hg _ _ h.lay
  have h4 := (steps_line n).pos u h1
  have h5 := way200 hg
  omega
/-- The first play's moves. -/
noncomputable def fpL (wl vt : List UInt8) : List (Int × Int) := open Classical in if h : ∃ l, Fp vt wl l vt then Classical.choose h else []
theorem fpL_is {n : Nat} {wl vt : List UInt8} (hg : goodT n wl) (hr : Rt wl vt) {l : List (Int × Int)} (h : Fp vt wl l vt) : l = fpL wl vt := by
  have hex : ∃ l, Fp vt wl l vt := ⟨l, h⟩
  unfold fpL
  rw [dif_pos hex]
  exact Fp.one hg hr h (Classical.choose_spec hex)
/-- A list of moves of the call's own, and a flag. -/
def FlPost (L : List (Int × Int)) (b : Bool) (w : World) (e : Ending) (w' : World) : Prop :=
  ∃ v, e = .returned (.tuple #[v, .bool b]) ∧ w'.ownsRow w.heap.size 31 2 v L.length (flat L) ∧ Below w.heap.size w w'
theorem fl_no {w w' : World} {e : Ending} (h : FpNo w e w') : FlPost [] false w e w' := ⟨_, h.1, World.ownsRow_nil _ _ _ _, h.2⟩
theorem fl_yes {n : Nat} {wl vt : List UInt8} (hg : goodT n wl) (hr : Rt wl vt) {w w' : World} {e : Ending} (h : FpYes wl vt w e w') : FlPost (fpL wl vt) true w e w' := by
  obtain ⟨v, l, h1, h2, h3, h4⟩ := h
  obtain rfl := fpL_is hg hr h2
  exact ⟨v, h1, h3, h4⟩
set_option maxRecDepth 100000 in
set_option maxHeartbeats 4000000 in
theorem fp_walk (s t : ByteArray) (L : List (Int × Int)) (b : Bool) (hb1 : ¬ (1048576 : Int) < (s.size : Int)) (hb2 : ¬ (1048576 : Int) < (t.size : Int)) (hL : L.length ≤ 200) (w : World)
    (hS : ∀ wx, Calls Try.prog 9 #[.string s, .string t] wx (FlPost L b wx)) (hP : ∀ wx, Calls Try.prog 10 #[.string s, .string t] wx (FlPost L b wx)) :
    Calls Try.prog 3 #[.string s, .string t] w fun e w' => e = .returned (.bool true) ∧ Below w.heap.size w w' := by
  have HS := Lib.hid hS
  have HP := Lib.hid hP
  unfold FlPost at HS HP
  clear hS hP
  go_enter Try.func3, Try.ntmps3
  go_wp2_with fail
  refine (HS.out _).mono ?_
  rintro e w2 ⟨v0, rfl, ho2, hb2⟩
  obtain ⟨A0, cap0, rfl, _⟩ := at_of_own ho2
  have L0 : Hid (∀ k, (Value.slice A0 L.length cap0).ownBlock = some k → k < w2.heap.size) := fun k e => (ho2.lt k e).2
  have O0 := Lib.hid ho2
  have hB2 := Lib.hid hb2
  have z2 := hb2.size
  clear ho2 hb2
  go_wp2_with fail
  refine (HP.out _).mono ?_
  rintro e w4 ⟨v4, rfl, ho4, hb4⟩
  obtain ⟨A4, cap4, rfl, _⟩ := at_of_own ho4
  have O4 := Lib.hid ho4
  have O0 := Lib.hid (own_below O0.out hb4)
  have hB4 := Lib.hid (hB2.out.trans (hb4.mono hB2.out.size))
  have z4 := hb4.size
  clear ho4 hb4 hB2
  go_wp2_with fail
  refine (eqMoveS_same L _ _ _ _ _ (at_ownF O4.out) (at_ownF O0.out) (by omega)).mono ?_
  rintro e w9 ⟨rfl, hb9⟩
  have O4 := Lib.hid (own_below O4.out hb9)
  have O0 := Lib.hid (own_below O0.out hb9)
  have hB9 := Lib.hid (hB4.out.trans (hb9.mono hB4.out.size))
  have z9 := hb9.size
  clear hb9 hB4
  have hz2 := hB9.out.size
  go_wp2_with fail
  refine (markMoveS_any L.length 1 w2.heap.size L _ _ rfl O4.out (by omega) (by omega)).mono ?_
  rintro e w10 ⟨rfl, ho10, hb10⟩
  have O4 := Lib.hid ho10
  have O0 : Hid (w10.ownsRow w.heap.size 31 2 (.slice A0 L.length cap0) L.length (flat L)) := by
    refine ⟨O0.out.1, ?_⟩
    rcases O0.out.2 with h2 | ⟨gg, cap, cur, e, hb, hg, r⟩
    · exact .inl h2
    · refine .inr ⟨gg, cap, cur, e, hb, (hb10.block gg ?_).trans hg, r⟩
      have := L0.out gg (by rw [e]; rfl)
      omega
  have hB10 := Lib.hid (hB9.out.trans (hb10.mono (by omega)))
  clear ho10 hb10 hB9
  go_wp2_with fail
  refine (heldMoveS_any L.length 1 w2.heap.size _ _ O4.out (by omega) (by omega)).mono ?_
  rintro e wz ⟨rfl, rfl⟩
  go_wp2_with fail
  refine (HP.out _).mono ?_
  rintro e w12 ⟨v12, rfl, ho12, hb12⟩
  obtain ⟨A12, cap12, rfl, _⟩ := at_of_own ho12
  have AT12 := Lib.hid (at_ownF ho12)
  have O4 := Lib.hid (own_below O4.out hb12)
  have O0 := Lib.hid (own_below O0.out hb12)
  have hB12 := Lib.hid (hB10.out.trans (hb12.mono hB10.out.size))
  clear ho12 hb12 hB10
  go_wp2_with fail
  refine (eqMoveS_same L _ _ _ _ _ AT12.out (at_ownF O0.out) (by omega)).mono ?_
  rintro e w13 ⟨rfl, hb13⟩
  have O4 := Lib.hid (own_below O4.out hb13)
  have hB13 := Lib.hid (hB12.out.trans (hb13.mono hB12.out.size))
  clear hb13 hB12 O0 AT12
  go_wp2_with fail
  refine (heldMoveS_any L.length 1 w2.heap.size _ _ O4.out (by omega) (by omega)).mono ?_
  rintro e wz ⟨rfl, rfl⟩
  go_wp2
  go_ret
  exact ⟨rfl, hB13.out⟩
theorem walk_FnExactFirstPlay (s : ByteArray) (hs : s.size ≤ maxLen) (t : ByteArray) (ht : t.size ≤ maxLen) (w : World) :
    Calls Try.prog 3 #[.string s, .string t] w fun e w' => e = .returned (.bool true) ∧ Below w.heap.size w w' := by
  by_cases hb1 : (1048576 : Int) < (s.size : Int)
  · go_enter Try.func3, Try.ntmps3
    go_wp2
    go_ret
    exact ⟨rfl, Below.refl _ _⟩
  · by_cases hb2 : (1048576 : Int) < (t.size : Int)
    · go_enter Try.func3, Try.ntmps3
      go_wp2
      go_ret
      exact ⟨rfl, Below.refl _ _⟩
    · cases h : reachB s && reachB t
      · exact fp_walk s t [] false hb1 hb2 (by simp) w (fun wx => (sFirstPlay_no1 s t wx hs ht h).mono fun e w' hp => fl_no hp) (fun wx => (firstPlay_no s t wx hs ht h).mono fun e w' hp => fl_no hp)
      · rw [Bool.and_eq_true] at h
        obtain ⟨wl, rfl⟩ : ∃ l, s = str l := ⟨byt s, (str_byt s).symm⟩
        obtain ⟨vt, rfl⟩ : ∃ l, t = str l := ⟨byt t, (str_byt t).symm⟩
        have hg := reach_good h.1
        by_cases hR : Rt wl vt
        · refine fp_walk _ _ (fpL wl vt) true hb1 hb2 ?_ w (fun wx => (sFirstPlay_yes wl vt wx h.1 h.2 hR).mono fun e w' hp => fl_yes hg hR hp) (fun wx => (firstPlay_any wl vt wx h.1 h.2).mono fun e w' hp => ?_)
          · unfold fpL
            split
            · rename_i hex
              exact (Classical.choose_spec hex).few200 hg
            · simp
          · rcases hp with ⟨_, hp⟩ | ⟨hn, _⟩
            · exact fl_yes hg hR hp
            · exact absurd hR hn
        · refine fp_walk _ _ [] false hb1 hb2 (by simp) w (fun wx => (sFirstPlay_no2 wl vt wx h.1 h.2 hR).mono fun e w' hp => fl_no hp) (fun wx => (firstPlay_any wl vt wx h.1 h.2).mono fun e w' hp => ?_)
          rcases hp with ⟨hy, _⟩ | ⟨_, hp⟩
          · exact absurd hy hR
          · exact fl_no hp
end Go.Proofs.Ytflpncdnneapmaa
