/- The shortest plays that end: both sides, and the law's walk. -/
import Derived.Test.YtdjfkhhlnkkilaaStops
import Derived.Test.YtdjfkhhlnkkilaaLayW
namespace Go.Proofs.Ytdjfkhhlnkkilaa
open Go.RowKit Go.Maps

theorem end_last {wl : List UInt8} {d : Nat} (hd : IsDep nxL wl d) {x : List UInt8} (hx : x ∈ lay nxL wl (d - 1)) : endP x 0 = true := by
  have h1 := hd.1
  unfold endP
  rw [List.isEmpty_iff, List.eq_nil_iff_forall_not_mem]
  intro v hv
  have : v ∈ lay nxL wl (d - 1 + 1) := (mem_lay_next _ v).2 ⟨x, hx, hv⟩
  rw [show d - 1 + 1 = d by omega, hd.2.1] at this
  cases this
theorem end_moves (x : List UInt8) : ((mvsTo (canM (str x)) (str x) (str x).size).length == 0) = endP x 0 := by
  have : (nxL x).length = (mvsTo (canM (str x)) (str x) (str x).size).length := by simp [nxL]
  unfold endP
  rw [← this]
  cases nxL x <;> rfl
theorem len_zero_int (n : Nat) : ((n : Int) == 0) = (n == 0) := by rw [Bool.eq_iff_iff]; simp

set_option maxHeartbeats 1000000 in
theorem sStop_no (s : ByteArray) (w : World) (hs : s.size ≤ maxLen) (hr : reachB s = false) :
    Calls Try.prog 41 #[.string s] w fun e w' => e = .returned (.tuple #[.int .i64 0, .bool false]) ∧ Below w.heap.size w w' := by
  have hR := Lib.hid hr
  clear hr
  go_enter Try.func41, Try.ntmps41
  go_wp2_with (go_at_call 51; refine (reFew_any _ _ hs).mono ?_; rintro e w' ⟨rfl, rfl⟩; rw [hR.out])
  go_ret2
  exact ⟨rfl, Below.refl _ _⟩
/-- The first layer with a dead end. -/
def StopK (wl : List UInt8) (d k : Nat) : Prop := k < d ∧ (∃ v, v ∈ lay nxL wl k ∧ endP v 0 = true) ∧ ∀ j v, j < k → v ∈ lay nxL wl j → endP v 0 = false

set_option maxRecDepth 100000 in
set_option maxHeartbeats 2000000 in
theorem sStop_yes (d : Nat) (wl : List UInt8) (w : World) (hs : (str wl).size ≤ maxLen) (hr : reachB (str wl) = true) (hd : IsDep nxL wl d) (hd2 : d ≤ 60000) :
    Calls Try.prog 41 #[.string (str wl)] w fun e w' => ∃ k : Nat, e = .returned (.tuple #[.int .i64 k, .bool true]) ∧ StopK wl d k ∧ Below w.heap.size w w' := by
  have HG := Lib.hid (reach_good hr)
  have HD := Lib.hid hd
  have hR := Lib.hid hr
  have h1 := hd.1
  clear hr hd
  go_enter Try.func41, Try.ntmps41
  go_wp2_with (go_at_call 51; refine (reFew_any _ _ hs).mono ?_; rintro e w' ⟨rfl, rfl⟩; rw [hR.out])
  refine (reLayers_any _ d wl _ HG.out HD.out hd2).mono ?_
  rintro e w1 ⟨v1, rfl, ⟨g, c, vs, rfl, hgl, hn, hvl, hat, hcell⟩, hb1⟩
  have HAT := Lib.hid hat
  have HCE := Lib.hid hcell
  have HB1 := Lib.hid hb1
  clear hat hcell hb1
  go_wp2
  go_loopw [16] (fun t wr => ∃ k : Nat, k ≤ d ∧ t = .int .i64 k ∧ Hid (∀ j v, j < k → v ∈ lay nxL wl j → endP v 0 = false) ∧ Below w1.heap.size w1 wr) (fun t _ => d - (intOf t).toNat)
  case atStart => exact ⟨0, Nat.zero_le _, rfl, Lib.hid fun j v hj => by omega, Below.refl _ _⟩
  case round =>
    obtain ⟨k, hk, rfl, HN, hB⟩ := hrel
    obtain ⟨w0, hw0⟩ : ∃ w0 : World, w0 = wr := ⟨_, rfl⟩
    subst hw0
    by_cases hlt : k < d
    · have hck := (hB.cell (p := ⟨g, k, none⟩) hgl).trans (HCE.out k (by omega))
      have hst := (HAT.out k (by omega)).below hB
      obtain ⟨g2, c2, e2, hc2, hc2m, hg2, hs2⟩ := ok_form hst (HD.out.2.2 k hlt)
      rw [e2] at hck
      have HS2 := Lib.hid hs2
      have hlenL : (lay nxL wl k).length ≤ 59049 := few_good (rising_nodup (lay_rising k)) fun v hv => (lay_good (steps_line _) HG.out k v hv).1
      have HGL : Hid (∀ v, v ∈ lay nxL wl k → goodT wl.length v) := Lib.hid fun v hv => (lay_good (steps_line _) HG.out k v hv).1
      obtain ⟨L, hL⟩ : ∃ L, lay nxL wl k = L := ⟨_, rfl⟩
      have HL := Lib.hid hL
      clear hst hs2 e2
      rw [hL] at hck HS2 hlenL hc2 HGL
      clear hL
      go_wp2
      go_loopw [23] (fun t wr => ∃ i : Nat, i ≤ L.length ∧ t = .int .i64 i ∧ Hid (∀ v, v ∈ L.take i → endP v 0 = false) ∧ Below w0.heap.size w0 wr) (fun t _ => L.length - (intOf t).toNat)
      case atStart => exact ⟨0, Nat.zero_le _, rfl, Lib.hid (fun v hv => by simp at hv), Below.refl _ _⟩
      case round =>
        obtain ⟨i, hi, rfl, HT, hB1⟩ := hrel
        by_cases hlti : i < L.length
        · have hcs := (hB1.cell (p := ⟨g2, i, none⟩) hg2).trans (HS2.out i hlti)
          have hgx := HGL.out _ (List.getElem_mem hlti)
          have HIN := Lib.hid (List.getElem_mem hlti)
          have HTK := Lib.hid (List.take_succ_eq_append_getElem hlti)
          have hlm := fun wx => liMoves_all (str L[i]) wx hgx.1
          rw [kinds_can] at hlm
          have HLM := Lib.hid hlm
          have HEM := Lib.hid (end_moves L[i])
          clear hgx hlm
          generalize L[i] = x at hcs HIN HTK HLM HEM
          generalize mvsTo (canM (str x)) (str x) (str x).size = M at HLM HEM
          go_wp2_with fail
          refine (HLM.out _).mono ?_
          rintro e w3 ⟨v3, rfl, ho3, hb3⟩
          obtain ⟨A3, cap3, rfl, _⟩ := at_of_own ho3
          have hB3 := hB1.trans (hb3.mono hB1.size)
          have hz := len_zero_int M.length
          rw [HEM.out] at hz
          clear ho3 hb3 hB1
          cases hp : endP x 0
          · rw [hp] at hz
            have HP := Lib.hid hp
            clear hp
            go_wp2
            go_roundw
            case rel => exact ⟨i + 1, by omega, by go_num, Lib.hid fun v hv => by
              rw [HTK.out, List.mem_append] at hv
              rcases hv with hv | hv
              · exact HT.out v hv
              · obtain rfl : v = x := by simpa using hv
                exact HP.out, hB3⟩
            case measure => simp [intOf]; omega
          · rw [hp] at hz
            have HP := Lib.hid hp
            clear hp
            go_wp2
            go_ret2
            exact ⟨k, rfl, ⟨hlt, ⟨x, by rw [HL.out]; exact HIN.out, HP.out⟩, HN.out⟩, HB1.out.trans ((hB.trans (hB3.mono hB.size)).mono HB1.out.size)⟩
        · obtain rfl : i = L.length := by omega
          go_wp2
          go_roundw
          case rel => exact ⟨k + 1, by omega, by go_num, Lib.hid fun j v hj hv => by
            by_cases e : j = k
            · subst e
              rw [HL.out] at hv
              exact HT.out v (by rw [List.take_length]; exact hv)
            · exact HN.out j v (by omega) hv, hB.trans (hB1.mono hB.size)⟩
          case measure => simp [intOf]; omega
    · exfalso
      obtain rfl : k = d := by omega
      obtain ⟨x, hx⟩ := List.exists_mem_of_ne_nil _ (HD.out.2.2 (k - 1) (by omega))
      have h3 := end_last HD.out hx
      rw [HN.out _ x (by omega) hx] at h3
      cases h3

set_option maxHeartbeats 1000000 in
theorem stop_no (wl : List UInt8) (w : World) (hs : (str wl).size ≤ maxLen) (hr : reachB (str wl) = false) :
    Calls Try.prog 42 #[.string (str wl)] w fun e w' => e = .returned (.tuple #[.int .i64 0, .bool false]) ∧ Below w.heap.size w w' := by
  have hR := Lib.hid hr
  clear hr
  go_enter Try.func42, Try.ntmps42
  go_wp2_with (go_at_call 72; refine (ends_no wl _ hs hR.out).mono ?_; rintro e w' ⟨rfl, hb⟩)
  go_ret2
  exact ⟨rfl, hb⟩
set_option maxHeartbeats 1000000 in
theorem stop_yes (d : Nat) (wl : List UInt8) (w : World) (hr : reachB (str wl) = true) (hd : IsDep nxL wl d) (hd2 : d ≤ 60000) (k : Nat) (hk : StopK wl d k) :
    Calls Try.prog 42 #[.string (str wl)] w fun e w' => e = .returned (.tuple #[.int .i64 k, .bool true]) ∧ Below w.heap.size w w' := by
  have hR := Lib.hid hr
  have HD := Lib.hid hd
  have HG := Lib.hid (reach_good hr)
  have HK := Lib.hid hk
  clear hr hd hk
  go_enter Try.func42, Try.ntmps42
  go_wp2_with fail
  refine (ends_yes d wl _ hR.out HD.out hd2).mono ?_
  rintro e w1 ⟨ba, rfl, hba, ⟨D, hown, hA⟩, hb1⟩
  have HA := Lib.hid hA
  have HO := Lib.hid hown
  clear hown hA
  go_wp2_with fail
  refine (arrMoves_any wl d _ ba D _ HG.out HO.out HA.out).mono ?_
  rintro e w2 ⟨v2, L, rfl, hrow, hb2, hlen, hL1, hL2⟩
  obtain ⟨A2, c2, rfl, hat⟩ := it_own hrow
  obtain ⟨hkd, ⟨x, hx, hex⟩, hfirst⟩ := HK.out
  have HIN := Lib.hid (hL2 k x hkd hx hex)
  have HFIRST := Lib.hid hfirst
  have HL1 := Lib.hid hL1
  have HB := Lib.hid (hb1.trans (hb2.mono hb1.size))
  have HAT := Lib.hid hat
  clear hrow hb2 hb1 hat hL1 hL2 hfirst hx hex
  go_wp2_with fail
  refine (minI_any L (fun e => by have := HIN.out; rw [e] at this; simp at this) (by omega) A2 c2 _ HAT.out).mono ?_
  rintro e w3 ⟨m, rfl, hm, hmin, rfl⟩
  have he : m = (k : Int) := by
    obtain ⟨j, y, hj, hy, hp, e⟩ := HL1.out m hm
    have h1 := hmin _ HIN.out
    rcases Nat.lt_or_ge j k with h | h
    · have := HFIRST.out j y h hy
      rw [show endP y j = endP y 0 from rfl, this] at hp
      cases hp
    · omega
  subst he
  go_wp2
  go_ret2
  exact ⟨rfl, HB.out⟩

set_option maxHeartbeats 1000000 in
theorem walk_FnExactShortestStop (s : ByteArray) (hs : s.size ≤ maxLen) (w : World) :
    Calls Try.prog 12 #[.string s] w fun e w' => e = .returned (.bool true) ∧ Below w.heap.size w w' := by
  obtain ⟨wl, hwl⟩ : ∃ wl, s = str wl := ⟨byt s, (str_byt s).symm⟩
  subst hwl
  by_cases hbig : (1048576 : Int) < ((str wl).size : Int)
  · go_enter Try.func12, Try.ntmps12
    go_wp2
    go_ret
    exact ⟨rfl, Below.refl _ _⟩
  · cases hr : reachB (str wl)
    · have hR := Lib.hid hr
      clear hr
      go_enter Try.func12, Try.ntmps12
      go_wp2_with fail
      refine (sStop_no _ _ hs hR.out).mono ?_
      rintro e w1 ⟨rfl, hb1⟩
      go_wp2_with fail
      refine (stop_no _ _ hs hR.out).mono ?_
      rintro e w2 ⟨rfl, hb2⟩
      go_wp2
      go_ret
      exact ⟨rfl, hb1.trans (hb2.mono hb1.size)⟩
    · have hR := Lib.hid hr
      obtain ⟨d, hd, hd2⟩ := dep_of hr
      have HD := Lib.hid hd
      clear hr hd
      go_enter Try.func12, Try.ntmps12
      go_wp2_with fail
      refine (sStop_yes d _ _ hs hR.out HD.out hd2).mono ?_
      rintro e w1 ⟨k, rfl, hk, hb1⟩
      have HK := Lib.hid hk
      clear hk
      go_wp2_with fail
      refine (stop_yes d _ _ hR.out HD.out hd2 k HK.out).mono ?_
      rintro e w2 ⟨rfl, hb2⟩
      go_wp2
      go_ret
      exact ⟨rfl, hb1.trans (hb2.mono hb1.size)⟩
end Go.Proofs.Ytdjfkhhlnkkilaa
