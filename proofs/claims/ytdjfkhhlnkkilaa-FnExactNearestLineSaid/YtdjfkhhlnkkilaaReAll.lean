/- Contract: the model's list of all that is reached; how many. -/
import Derived.Test.YtdjfkhhlnkkilaaLayW
import Derived.Test.YtdjfkhhlnkkilaaArrC
namespace Go.Proofs.Ytdjfkhhlnkkilaa
open Go.RowKit Go.Maps

/-- How far the sweep over all layers has come. -/
def allTo (wl : List UInt8) (k i : Nat) : List (List UInt8) := insAll ((List.range k).flatMap (lay nxL wl) ++ (lay nxL wl k).take i) []
theorem allTo_start (wl : List UInt8) : allTo wl 0 0 = [] := by simp [allTo, insAll]
theorem allTo_rising (wl : List UInt8) (k i : Nat) : Rising (allTo wl k i) := rising_insAll _ _ (by simp [Rising])
theorem allTo_next (wl : List UInt8) (k i : Nat) (h : i < (lay nxL wl k).length) : allTo wl k (i + 1) = ins (lay nxL wl k)[i] (allTo wl k i) := by
  unfold allTo
  rw [List.take_succ_eq_append_getElem h, ← List.append_assoc, insAll_snoc]
theorem allTo_row (wl : List UInt8) (k : Nat) : allTo wl (k + 1) 0 = allTo wl k (lay nxL wl k).length := by
  unfold allTo
  rw [List.take_length, List.range_succ, List.flatMap_append]
  simp
theorem allTo_end (wl : List UInt8) (d : Nat) : allTo wl d 0 = allL nxL wl d := by simp [allTo, allL]
theorem allTo_few {n : Nat} {wl : List UInt8} (hg : goodT n wl) (k i : Nat) : (allTo wl k i).length ≤ 59049 := by
  refine few_good (n := n) (rising_nodup (allTo_rising wl k i)) fun x hx => ?_
  unfold allTo at hx
  rw [mem_insAll] at hx
  rcases hx with hx | hx
  · rw [List.mem_append] at hx
    rcases hx with hx | hx
    · obtain ⟨j, _, hx⟩ := List.mem_flatMap.1 hx
      exact (lay_good (steps_line n) hg j x hx).1
    · exact (lay_good (steps_line n) hg k x (List.mem_of_mem_take hx)).1
  · cases hx

set_option maxRecDepth 100000 in
set_option maxHeartbeats 4000000 in
theorem reAll_any (n d : Nat) (wl : List UInt8) (w : World) (hg : goodT n wl) (hd : IsDep nxL wl d) (hd2 : d ≤ 60000) :
    Calls Try.prog 52 #[.string (str wl)] w fun e w' => ∃ v, e = .returned v ∧ StOk w' v (allL nxL wl d) ∧ Below w.heap.size w w' := by
  have HD := Lib.hid hd
  have HG := Lib.hid hg
  clear hd hg
  go_enter Try.func52, Try.ntmps52
  go_wp2_with fail
  refine (reLayers_any n d wl _ HG.out HD.out hd2).mono ?_
  rintro e w1 ⟨v1, rfl, hly, hb1⟩
  have hly2 := hly
  obtain ⟨g, c, vs, rfl, hgl, hn, hvl, hat, hcell⟩ := hly
  have HLY := Lib.hid hly2
  have HAT := Lib.hid hat
  have HCE := Lib.hid hcell
  have HB1 := Lib.hid hb1
  clear hly2 hat hcell hb1
  go_wp2
  go_loopw [3, 11] (fun v3 t wr => ∃ k : Nat, k ≤ d ∧ t = .int .i64 k ∧ StOk wr v3 (allTo wl k 0) ∧ Below w1.heap.size w1 wr) (fun _ t _ => d - (intOf t).toNat)
  case atStart => exact ⟨0, Nat.zero_le _, rfl, .inl ⟨allTo_start _, rfl⟩, Below.refl _ _⟩
  case round =>
    obtain ⟨k, hk, rfl, hok, hB⟩ := hrel
    obtain ⟨w0, hw0⟩ : ∃ w0 : World, w0 = wr := ⟨_, rfl⟩
    subst hw0
    by_cases hlt : k < d
    · have hck := (hB.cell (p := ⟨g, k, none⟩) hgl).trans (HCE.out k (by omega))
      have hst := (HAT.out k (by omega)).below hB
      obtain ⟨g2, c2, e2, hc2, hc2m, hg2, hs2⟩ := ok_form hst (HD.out.2.2 k hlt)
      rw [e2] at hck
      have HS2 := Lib.hid hs2
      have HROW := Lib.hid (allTo_row wl k)
      have HNEXT := Lib.hid (allTo_next wl k)
      have hlenL : (lay nxL wl k).length ≤ 59049 := few_good (rising_nodup (lay_rising k)) fun v hv => (lay_good (steps_line n) HG.out k v hv).1
      have HFEW := Lib.hid (allTo_few HG.out k)
      clear hst hs2 e2
      generalize lay nxL wl k = L at hck HS2 HROW HNEXT hlenL hc2
      go_wp2
      go_loopw [3, 17] (fun v3 t wr => ∃ i : Nat, i ≤ L.length ∧ t = .int .i64 i ∧ StOk wr v3 (allTo wl k i) ∧ Below w0.heap.size w0 wr) (fun _ t _ => L.length - (intOf t).toNat)
      case atStart => exact ⟨0, Nat.zero_le _, rfl, hok, Below.refl _ _⟩
      case round =>
        obtain ⟨i, hi, rfl, hok1, hB1⟩ := hrel
        clear hok
        by_cases hlti : i < L.length
        · have hcs := (hB1.cell (p := ⟨g2, i, none⟩) hg2).trans (HS2.out i hlti)
          have HN := Lib.hid (HNEXT.out i hlti)
          have hrise := allTo_rising wl k i
          have hfew := HFEW.out i
          generalize allTo wl k i = S at hok1 HN hrise hfew
          generalize L[i] = x at hcs HN
          go_wp2_with fail
          refine (reAdd_any S x _ _ hrise hok1 (by omega)).mono ?_
          rintro e w3 ⟨v5, rfl, hok3, hb3⟩
          have hB3 := hB1.trans (hb3.mono hB1.size)
          clear hb3 hB1 hok1
          go_wp2
          go_roundw
          case rel => exact ⟨i + 1, by omega, by go_num, by rw [HN.out]; exact hok3, hB3⟩
          case measure => simp [intOf]; omega
        · obtain rfl : i = L.length := by omega
          go_wp2
          go_roundw
          case rel => exact ⟨k + 1, by omega, by go_num, by rw [HROW.out]; exact hok1, hB.trans (hB1.mono hB.size)⟩
          case measure => simp [intOf]; omega
    · obtain rfl : k = d := by omega
      go_wp2
      go_ret
      exact ⟨_, rfl, by rw [← allTo_end]; exact hok, HB1.out.trans (hB.mono HB1.out.size)⟩

set_option maxHeartbeats 1000000 in
theorem sCountReached_no (s : ByteArray) (w : World) (hs : s.size ≤ maxLen) (hr : reachB s = false) :
    Calls Try.prog 22 #[.string s] w fun e w' => e = .returned (.tuple #[.int .i64 0, .bool false]) ∧ Below w.heap.size w w' := by
  have hR := Lib.hid hr
  clear hr
  go_enter Try.func22, Try.ntmps22
  go_wp2_with (go_at_call 51; refine (reFew_any _ _ hs).mono ?_; rintro e w' ⟨rfl, rfl⟩; rw [hR.out])
  go_ret2
  exact ⟨rfl, Below.refl _ _⟩
theorem ok_len {w : World} {v : Value} {l : List (List UInt8)} (h : StOk w v l) : ∃ A c, v = .slice A l.length c := by
  obtain ⟨A, c, e, _⟩ := h.at
  exact ⟨A, c, e⟩
set_option maxHeartbeats 1000000 in
theorem sCountReached_yes (d : Nat) (wl : List UInt8) (w : World) (hs : (str wl).size ≤ maxLen) (hr : reachB (str wl) = true) (hd : IsDep nxL wl d) (hd2 : d ≤ 60000) :
    Calls Try.prog 22 #[.string (str wl)] w fun e w' => e = .returned (.tuple #[.int .i64 ((allL nxL wl d).length : Int), .bool true]) ∧ Below w.heap.size w w' := by
  have HG := Lib.hid (reach_good hr)
  have HD := Lib.hid hd
  have hR := Lib.hid hr
  clear hr hd
  go_enter Try.func22, Try.ntmps22
  go_wp2_with (go_at_call 51; refine (reFew_any _ _ hs).mono ?_; rintro e w' ⟨rfl, rfl⟩; rw [hR.out])
  refine (reAll_any _ d wl _ HG.out HD.out hd2).mono ?_
  rintro e w1 ⟨v1, rfl, hok, hb1⟩
  obtain ⟨A, c, rfl⟩ := ok_len hok
  go_wp2
  go_ret2
  exact ⟨rfl, hb1⟩

set_option maxHeartbeats 1000000 in
theorem countReached_no (wl : List UInt8) (w : World) (hs : (str wl).size ≤ maxLen) (hr : reachB (str wl) = false) :
    Calls Try.prog 23 #[.string (str wl)] w fun e w' => e = .returned (.tuple #[.int .i64 0, .bool false]) ∧ Below w.heap.size w w' := by
  have hR := Lib.hid hr
  have hln := fun ty w => Maps.len_nil (P := Try.prog) (w := w) Try.underlying46 ty
  clear hr
  go_enter Try.func23, Try.ntmps23
  go_wp2_with (go_at_call 53; refine (arrivals_no wl _ hs hR.out).mono ?_; rintro e w' ⟨rfl, rfl⟩)
  go_ret2
  exact ⟨rfl, Below.refl _ _⟩
theorem arr_size {wl : List UInt8} {d : Nat} {w : World} {b n : Nat} {D : DataW Unit} (h : w.ownsMap Try.prog 9 arrR b n D) (hA : AllV nxL wl D d []) : Maps.size D = (allL nxL wl d).length :=
  size_zero h Try.keysS Try.underlying9 _ (rising_nodup (allL_rising d)) fun v => by
    rw [mem_allL]
    constructor
    · rintro ⟨k, hk, hv⟩
      exact (hA.1 k v hk hv).1
    · intro hv
      rcases hA.2.2 v hv with h | h
      · exact h
      · simp at h
set_option maxHeartbeats 1000000 in
theorem countReached_yes (d : Nat) (wl : List UInt8) (w : World) (hr : reachB (str wl) = true) (hd : IsDep nxL wl d) (hd2 : d ≤ 60000) :
    Calls Try.prog 23 #[.string (str wl)] w fun e w' => e = .returned (.tuple #[.int .i64 ((allL nxL wl d).length : Int), .bool true]) ∧ Below w.heap.size w w' := by
  have hR := Lib.hid hr
  have HD := Lib.hid hd
  clear hr hd
  go_enter Try.func23, Try.ntmps23
  go_wp2_with fail
  refine (arrivals_yes d wl _ hR.out HD.out hd2).mono ?_
  rintro e w1 ⟨ba, rfl, hba, ⟨D, hown, hA⟩, hb1⟩
  have hln := fun ty => hown.len Try.underlying46 ty
  rw [arr_size hown hA] at hln
  clear hown hA
  go_wp2
  go_ret2
  exact ⟨rfl, hb1⟩

set_option maxHeartbeats 1000000 in
theorem walk_FnExactCountReached (s : ByteArray) (hs : s.size ≤ maxLen) (w : World) :
    Calls Try.prog 4 #[.string s] w fun e w' => e = .returned (.bool true) ∧ Below w.heap.size w w' := by
  obtain ⟨wl, hwl⟩ : ∃ wl, s = str wl := ⟨byt s, (str_byt s).symm⟩
  subst hwl
  by_cases hbig : (1048576 : Int) < ((str wl).size : Int)
  · go_enter Try.func4, Try.ntmps4
    go_wp2
    go_ret
    exact ⟨rfl, Below.refl _ _⟩
  · cases hr : reachB (str wl)
    · have hR := Lib.hid hr
      clear hr
      go_enter Try.func4, Try.ntmps4
      go_wp2_with fail
      refine (sCountReached_no _ _ hs hR.out).mono ?_
      rintro e w1 ⟨rfl, hb1⟩
      go_wp2_with fail
      refine (countReached_no _ _ hs hR.out).mono ?_
      rintro e w2 ⟨rfl, hb2⟩
      go_wp2
      go_ret
      exact ⟨rfl, hb1.trans (hb2.mono hb1.size)⟩
    · have hR := Lib.hid hr
      obtain ⟨d, hd, hd2⟩ := dep_of hr
      have HD := Lib.hid hd
      clear hr hd
      go_enter Try.func4, Try.ntmps4
      go_wp2_with fail
      refine (sCountReached_yes d _ _ hs hR.out HD.out hd2).mono ?_
      rintro e w1 ⟨rfl, hb1⟩
      go_wp2_with fail
      refine (countReached_yes d _ _ hR.out HD.out hd2).mono ?_
      rintro e w2 ⟨rfl, hb2⟩
      go_wp2
      go_ret
      exact ⟨rfl, hb1.trans (hb2.mono hb1.size)⟩
end Go.Proofs.Ytdjfkhhlnkkilaa
