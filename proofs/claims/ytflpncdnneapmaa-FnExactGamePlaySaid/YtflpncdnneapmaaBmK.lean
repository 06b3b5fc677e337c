/- GamePlay: the law's walk. -/
import Derived.Test.YtflpncdnneapmaaBmJ
import Derived.Test.YtflpncdnneapmaaReachB
namespace Go.Proofs.Ytflpncdnneapmaa
open Go.RowKit Go.Maps Go.Shelf
theorem wayP200 {n : Nat} {l : List UInt8} (hg : goodT n l) : wayL l ≤ 200 := by
  have hs : l.all isSign = true := by have := ((goodL_iff (str l)).1 hg.1).2.2; rwa [byt_str] at this
  have h1 := (sumSt_le 84 (lastL l)).2
  have h2 := (sumSt_le 70 l).2
  rw [lastL_same l hs] at h1
  have hl : l.length ≤ 10 := by have := hg.2; omega
  have h3 : l.length * l.length ≤ 10 * 10 := Nat.mul_le_mul hl hl
  unfold wayL
  omega
theorem gmM_nx {tm : Bool} {s : List UInt8} {m : Int × Int} (h : m ∈ gmM tm s) : behind (str s) m.1 m.2 ∈ nxL s := by
  obtain ⟨f, t⟩ := m
  have hc := (mem_gmM.1 h).1
  unfold gmM at h
  obtain ⟨k, hk, e, _⟩ := (mem_mvs _ _ _ _).1 h
  injection e with e1 e2
  subst e1
  subst e2
  unfold nxL
  exact List.mem_map.2 ⟨_, (mem_mvs _ _ _ _).2 ⟨k, hk, rfl, hc⟩, rfl⟩
theorem gpl_way {k : Nat} : ∀ (n : Nat) (tm : Bool) (s : List UInt8), goodT k s → ((gpl n tm s).length : Int) ≤ wayL s
  | 0, _, s, hg => by have := (steps_line k).pos s hg; simp [gpl]; omega
  | n + 1, tm, s, hg => by
    have h0 := (steps_line k).pos s hg
    cases h : gmvO tm s with
    | none => rw [gpl_none h]; simpa using h0
    | some m =>
      rw [gpl_some h (Nat.succ_pos n)]
      have hx := gmM_nx (gmvO_mem h)
      have h1 := gpl_way n (!tm) _ ((steps_line k).keeps _ _ hg hx)
      have h2 := (steps_line k).less _ _ hg hx
      simp only [List.length_cons]
      push_cast
      omega
theorem gpL_few (tm : Bool) (wl : List UInt8) : (gpL tm wl).length ≤ 200 := by
  unfold gpL
  split
  · rename_i h
    have hgd : goodL (str wl) = true := by unfold fewB at h; rw [Bool.and_eq_true] at h; exact h.1
    have hg : goodT wl.length wl := ⟨hgd, rfl, (few_mu h).2⟩
    have h1 := gpl_way (muG 0 wl + 1) tm wl hg
    have h2 := wayP200 hg
    omega
  · simp
set_option maxRecDepth 100000 in
set_option maxHeartbeats 4000000 in
theorem walk_FnExactGamePlay (s : ByteArray) (hs : s.size ≤ maxLen) (tm : Bool) (w : World) :
    Calls Try.prog 6 #[.string s, .bool tm] w fun e w' => e = .returned (.bool true) ∧ Below w.heap.size w w' := by
  by_cases hb1 : (1048576 : Int) < (s.size : Int)
  · go_enter Try.func6, Try.ntmps6
    go_wp2
    go_ret
    exact ⟨rfl, Below.refl _ _⟩
  obtain ⟨wl, rfl⟩ : ∃ l, s = str l := ⟨byt s, (str_byt s).symm⟩
  have HS := Lib.hid (fun wx => sGamePlay_any wl tm wx hs)
  have HP := Lib.hid (fun wx => gamePlay_any wl tm wx hs)
  have hL := gpL_few tm wl
  unfold BvP at HS HP
  generalize gpL tm wl = L at *
  generalize fewB (str wl) = b at *
  clear hs
  go_enter Try.func6, Try.ntmps6
  go_wp2_with fail
  refine (HS.out _).mono ?_
  rintro e w2 ⟨v0, rfl, ho2, hb2⟩
  obtain ⟨A0, cap0, rfl, _⟩ := at_of_own ho2
  have L0 : Hid (∀ k, (Value.slice A0 L.length cap0).ownBlock = some k → k < w2.heap.size) := fun k e => (ho2.lt k e).2
  have O0 := Lib.hid ho2
  have hB2 := Lib.hid hb2
  have z2 := hb2.size
  clear ho2 hb2
  go_wp2_with fail
  refine (HP.out _).mono ?_
  rintro e w4 ⟨v4, rfl, ho4, hb4⟩
  obtain ⟨A4, cap4, rfl, _⟩ := at_of_own ho4
  have O4 := Lib.hid ho4
  have O0 := Lib.hid (own_below O0.out hb4)
  have hB4 := Lib.hid (hB2.out.trans (hb4.mono hB2.out.size))
  have z4 := hb4.size
  clear ho4 hb4 hB2
  go_wp2_with fail
  refine (eqMoveS_same L _ _ _ _ _ (at_ownF O4.out) (at_ownF O0.out) (by omega)).mono ?_
  rintro e w9 ⟨rfl, hb9⟩
  have O4 := Lib.hid (own_below O4.out hb9)
  have O0 := Lib.hid (own_below O0.out hb9)
  have hB9 := Lib.hid (hB4.out.trans (hb9.mono hB4.out.size))
  have z9 := hb9.size
  clear hb9 hB4
  have hz2 := hB9.out.size
  go_wp2_with fail
  refine (markMoveS_any L.length 1 w2.heap.size L _ _ rfl O4.out (by omega) (by omega)).mono ?_
  rintro e w10 ⟨rfl, ho10, hb10⟩
  have O4 := Lib.hid ho10
  have O0 : Hid (w10.ownsRow w.heap.size 31 2 (.slice A0 L.length cap0) L.length (flat L)) := by
    refine ⟨O0.out.1, ?_⟩
    rcases O0.out.2 with h2 | ⟨gg, cap, cur, e, hb, hg, r⟩
    · exact .inl h2
    · refine .inr ⟨gg, cap, cur, e, hb, (hb10.block gg ?_).trans hg, r⟩
      have := L0.out gg (by rw [e]; rfl)
      omega
  have hB10 := Lib.hid (hB9.out.trans (hb10.mono (by omega)))
  clear ho10 hb10 hB9
  go_wp2_with fail
  refine (heldMoveS_any L.length 1 w2.heap.size _ _ O4.out (by omega) (by omega)).mono ?_
  rintro e wz ⟨rfl, rfl⟩
  go_wp2_with fail
  refine (HP.out _).mono ?_
  rintro e w12 ⟨v12, rfl, ho12, hb12⟩
  obtain ⟨A12, cap12, rfl, _⟩ := at_of_own ho12
  have AT12 := Lib.hid (at_ownF ho12)
  have O4 := Lib.hid (own_below O4.out hb12)
  have O0 := Lib.hid (own_below O0.out hb12)
  have hB12 := Lib.hid (hB10.out.trans (hb12.mono hB10.out.size))
  clear ho12 hb12 hB10
  go_wp2_with fail
  refine (eqMoveS_same L _ _ _ _ _ AT12.out (at_ownF O0.out) (by omega)).mono ?_
  rintro e w13 ⟨rfl, hb13⟩
  have O4 := Lib.hid (own_below O4.out hb13)
  have hB13 := Lib.hid (hB12.out.trans (hb13.mono hB12.out.size))
  clear hb13 hB12 O0 AT12
  go_wp2_with fail
  refine (heldMoveS_any L.length 1 w2.heap.size _ _ O4.out (by omega) (by omega)).mono ?_
  rintro e wz ⟨rfl, rfl⟩
  go_wp2
  go_ret
  exact ⟨rfl, hB13.out⟩
end Go.Proofs.Ytflpncdnneapmaa
