/- BestMoves: the model's answer, and the law's walk. -/
import Derived.Test.YtflpncdnneapmaaBmD
import Derived.Test.YtflpncdnneapmaaMoves
namespace Go.Proofs.Ytflpncdnneapmaa
open Go.RowKit Go.Maps Go.Shelf

theorem at_ownF {w : World} {base : Nat} {A : Option Addr} {cap : Nat} {l : List (Int × Int)} (h : w.ownsRow base 31 2 (.slice A l.length cap) l.length (flat l)) : MvAt w A l := by
  obtain ⟨A', cap', e, h⟩ := at_of_own h
  injection e with e1 _ e2
  subst e1
  exact h
theorem bmL_len (tm : Bool) (wl : List UInt8) : (bmL tm wl).length ≤ 200 := by
  unfold bmL
  split
  · rename_i h
    have h1 := keepG_le (loW tm wl) (gmM tm wl) (gmM tm wl).length
    have h2 := gmM_le tm wl
    have h3 := (few_sig h).1
    unfold bestM
    omega
  · simp
set_option maxRecDepth 100000 in
set_option maxHeartbeats 2000000 in
theorem sBestMoves_any (wl : List UInt8) (tm : Bool) (w : World) (hs : (str wl).size ≤ maxLen) :
    Calls Try.prog 14 #[.string (str wl), .bool tm] w (BvP (bmL tm wl) (fewB (str wl)) w) := by
  have HF := Lib.hid (fun wx => gaFew_any (str wl) wx hs)
  cases hf : fewB (str wl)
  · have e0 : bmL tm wl = [] := by unfold bmL; rw [hf]; rfl
    rw [hf] at HF
    rw [e0]
    clear hf e0 hs
    go_enter Try.func14, Try.ntmps14
    go_wp2_with fail
    refine (HF.out _).mono ?_
    rintro e w1 ⟨rfl, rfl⟩
    go_wp2
    go_ret2
    exact ⟨_, rfl, World.ownsRow_nil _ _ _ _, Below.refl _ _⟩
  · have e0 : bmL tm wl = bestM tm wl := by unfold bmL; rw [if_pos hf]
    have HB := Lib.hid (fun wx hk => gaBest_any w.heap.size wl tm wx hf hk)
    rw [hf] at HF
    rw [e0]
    have hk0 := KnW.new w wl.length
    have HX : Hid (∀ k, Ex w.heap.size (w.alloc knB) k → w.heap.size ≤ k) := Lib.hid fun k he => (hk0.ex he).1
    generalize bestM tm wl = M at *
    clear hf e0 hs
    go_enter Try.func14, Try.ntmps14
    go_wp2_with fail
    refine (HF.out _).mono ?_
    rintro e w1 ⟨rfl, rfl⟩
    go_wp2_with fail
    refine (HB.out _ ⟨_, hk0⟩).mono ?_
    rintro e w2 ⟨v, rfl, hO, hkp⟩
    have hB2 : Below w.heap.size w w2 := ((Below.refl w.heap.size w).alloc (Nat.le_refl _) knB).trans (hkp.to_below (by simp) HX.out)
    have HR := Lib.hid (own_lowerD hO.row (show w.heap.size ≤ (w.alloc knB).heap.size by simp))
    have HB2 := Lib.hid hB2
    clear hO hkp hk0 hB2
    go_wp2
    go_ret2
    exact ⟨_, rfl, HR.out, HB2.out⟩
set_option maxRecDepth 100000 in
set_option maxHeartbeats 4000000 in
theorem walk_FnExactBestMoves (s : ByteArray) (hs : s.size ≤ maxLen) (tm : Bool) (w : World) :
    Calls Try.prog 4 #[.string s, .bool tm] w fun e w' => e = .returned (.bool true) ∧ Below w.heap.size w w' := by
  by_cases hb1 : (1048576 : Int) < (s.size : Int)
  · go_enter Try.func4, Try.ntmps4
    go_wp2
    go_ret
    exact ⟨rfl, Below.refl _ _⟩
  obtain ⟨wl, rfl⟩ : ∃ l, s = str l := ⟨byt s, (str_byt s).symm⟩
  have HS := Lib.hid (fun wx => sBestMoves_any wl tm wx hs)
  have HP := Lib.hid (fun wx => bestMoves_any wl tm wx hs)
  have hL := bmL_len tm wl
  unfold BvP at HS HP
  generalize bmL tm wl = L at *
  generalize fewB (str wl) = b at *
  clear hs
  go_enter Try.func4, Try.ntmps4
  go_wp2_with fail
  refine (HS.out _).mono ?_
  rintro e w2 ⟨v0, rfl, ho2, hb2⟩
  obtain ⟨A0, cap0, rfl, _⟩ := at_of_own ho2
  have L0 : Hid (∀ k, (Value.slice A0 L.length cap0).ownBlock = some k → k < w2.heap.size) := fun k e => (ho2.lt k e).2
  have O0 := Lib.hid ho2
  have hB2 := Lib.hid hb2
  have z2 := hb2.size
  clear ho2 hb2
  go_wp2_with fail
  refine (HP.out _).mono ?_
  rintro e w4 ⟨v4, rfl, ho4, hb4⟩
  obtain ⟨A4, cap4, rfl, _⟩ := at_of_own ho4
  have O4 := Lib.hid ho4
  have O0 := Lib.hid (own_below O0.out hb4)
  have hB4 := Lib.hid (hB2.out.trans (hb4.mono hB2.out.size))
  have z4 := hb4.size
  clear ho4 hb4 hB2
  go_wp2_with fail
  refine (eqMoveS_same L _ _ _ _ _ (at_ownF O4.out) (at_ownF O0.out) (by omega)).mono ?_
  rintro e w9 ⟨rfl, hb9⟩
  have O4 := Lib.hid (own_below O4.out hb9)
  have O0 := Lib.hid (own_below O0.out hb9)
  have hB9 := Lib.hid (hB4.out.trans (hb9.mono hB4.out.size))
  have z9 := hb9.size
  clear hb9 hB4
  have hz2 := hB9.out.size
  go_wp2_with fail
  refine (markMoveS_any L.length 1 w2.heap.size L _ _ rfl O4.out (by omega) (by omega)).mono ?_
  rintro e w10 ⟨rfl, ho10, hb10⟩
  have O4 := Lib.hid ho10
  have O0 : Hid (w10.ownsRow w.heap.size 31 2 (.slice A0 L.length cap0) L.length (flat L)) := by
    refine ⟨O0.out.1, ?_⟩
    rcases O0.out.2 with h2 | ⟨gg, cap, cur, e, hb, hg, r⟩
    · exact .inl h2
    · refine .inr ⟨gg, cap, cur, e, hb, (hb10.block gg ?_).trans hg, r⟩
      have := L0.out gg (by rw [e]; rfl)
      omega
  have hB10 := Lib.hid (hB9.out.trans (hb10.mono (by omega)))
  clear ho10 hb10 hB9
  go_wp2_with fail
  refine (heldMoveS_any L.length 1 w2.heap.size _ _ O4.out (by omega) (by omega)).mono ?_
  rintro e wz ⟨rfl, rfl⟩
  go_wp2_with fail
  refine (HP.out _).mono ?_
  rintro e w12 ⟨v12, rfl, ho12, hb12⟩
  obtain ⟨A12, cap12, rfl, _⟩ := at_of_own ho12
  have AT12 := Lib.hid (at_ownF ho12)
  have O4 := Lib.hid (own_below O4.out hb12)
  have O0 := Lib.hid (own_below O0.out hb12)
  have hB12 := Lib.hid (hB10.out.trans (hb12.mono hB10.out.size))
  clear ho12 hb12 hB10
  go_wp2_with fail
  refine (eqMoveS_same L _ _ _ _ _ AT12.out (at_ownF O0.out) (by omega)).mono ?_
  rintro e w13 ⟨rfl, hb13⟩
  have O4 := Lib.hid (own_below O4.out hb13)
  have hB13 := Lib.hid (hB12.out.trans (hb13.mono hB12.out.size))
  clear hb13 hB12 O0 AT12
  go_wp2_with fail
  refine (heldMoveS_any L.length 1 w2.heap.size _ _ O4.out (by omega) (by omega)).mono ?_
  rintro e wz ⟨rfl, rfl⟩
  go_wp2
  go_ret
  exact ⟨rfl, hB13.out⟩
end Go.Proofs.Ytflpncdnneapmaa
