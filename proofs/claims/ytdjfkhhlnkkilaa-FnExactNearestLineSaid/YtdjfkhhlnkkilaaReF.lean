/- All that is reached, and all dead ends: both sides, and the laws' walks. -/
import Derived.Test.YtdjfkhhlnkkilaaReAll
import Derived.Test.YtdjfkhhlnkkilaaOrd
import Derived.Test.YtdjfkhhlnkkilaaLs
import Derived.Test.YtdjfkhhlnkkilaaStop2
namespace Go.Proofs.Ytdjfkhhlnkkilaa
open Go.RowKit Go.Maps

theorem lsNo (w : World) : LsPost [] false w (.returned (.tuple #[.slice none 0 0, .bool false])) w := ⟨none, 0, rfl, fun k hk => by simp at hk, Below.refl _ _⟩
set_option maxHeartbeats 1000000 in
theorem sReached_no (s : ByteArray) (w : World) (hs : s.size ≤ maxLen) (hr : reachB s = false) : Calls Try.prog 17 #[.string s] w (LsPost [] false w) := by
  have hR := Lib.hid hr
  clear hr
  go_enter Try.func17, Try.ntmps17
  go_wp2_with (go_at_call 51; refine (reFew_any _ _ hs).mono ?_; rintro e w' ⟨rfl, rfl⟩; rw [hR.out])
  go_ret2
  exact lsNo _
set_option maxHeartbeats 1000000 in
theorem sReached_yes (d : Nat) (wl : List UInt8) (w : World) (hs : (str wl).size ≤ maxLen) (hr : reachB (str wl) = true) (hd : IsDep nxL wl d) (hd2 : d ≤ 60000) :
    Calls Try.prog 17 #[.string (str wl)] w (LsPost (allL nxL wl d) true w) := by
  have HG := Lib.hid (reach_good hr)
  have HD := Lib.hid hd
  have hR := Lib.hid hr
  clear hr hd
  go_enter Try.func17, Try.ntmps17
  go_wp2_with (go_at_call 51; refine (reFew_any _ _ hs).mono ?_; rintro e w' ⟨rfl, rfl⟩; rw [hR.out])
  refine (reAll_any _ d wl _ HG.out HD.out hd2).mono ?_
  rintro e w1 ⟨v1, rfl, hok, hb1⟩
  obtain ⟨A, c, rfl, hat⟩ := hok.at
  have HAT := Lib.hid hat
  have HB := Lib.hid hb1
  clear hat hb1 hok
  go_wp2
  go_ret2
  exact ⟨A, c, rfl, HAT.out, HB.out⟩
set_option maxHeartbeats 1000000 in
theorem reached_no (wl : List UInt8) (w : World) (hs : (str wl).size ≤ maxLen) (hr : reachB (str wl) = false) :
    Calls Try.prog 18 #[.string (str wl)] w (RsPost [] false w) := by
  have hR := Lib.hid hr
  clear hr
  go_enter Try.func18, Try.ntmps18
  go_wp2_with (go_at_call 53; refine (arrivals_no wl _ hs hR.out).mono ?_; rintro e w' ⟨rfl, rfl⟩)
  refine (inOrder_nil _).mono ?_
  rintro e w1 ⟨v1, rfl, ho, hb⟩
  have HO := Lib.hid ho
  have HB := Lib.hid hb
  clear ho hb
  go_wp2
  go_ret2
  exact ⟨v1, rfl, HO.out, HB.out⟩
theorem all_few {n : Nat} {wl : List UInt8} (hg : goodT n wl) (d : Nat) : (allL nxL wl d).length ≤ 59049 :=
  few_good (rising_nodup (allL_rising d)) fun v hv => by
    obtain ⟨k, _, hk⟩ := (mem_allL d v).1 hv
    exact (lay_good (steps_line n) hg k v hk).1
theorem all_has {wl : List UInt8} {d : Nat} {D : DataW Unit} (hA : AllV nxL wl D d []) (v : List UInt8) : v ∈ allL nxL wl d ↔ Maps.has D (.string v) = true := by
  rw [mem_allL]
  constructor
  · rintro ⟨k, hk, hv⟩
    exact (hA.1 k v hk hv).1
  · intro hv
    rcases hA.2.2 v hv with h | h
    · exact h
    · simp at h
set_option maxHeartbeats 1000000 in
theorem reached_yes (d : Nat) (wl : List UInt8) (w : World) (hr : reachB (str wl) = true) (hd : IsDep nxL wl d) (hd2 : d ≤ 60000) :
    Calls Try.prog 18 #[.string (str wl)] w (RsPost (allL nxL wl d) true w) := by
  have hR := Lib.hid hr
  have HD := Lib.hid hd
  clear hr hd
  go_enter Try.func18, Try.ntmps18
  go_wp2_with fail
  refine (arrivals_yes d wl _ hR.out HD.out hd2).mono ?_
  rintro e w1 ⟨ba, rfl, hba, ⟨D, hown, hA⟩, hb1⟩
  have HO := Lib.hid (inOrder_any ba D (allL nxL wl d) w1 hown (allL_rising d) (all_has hA))
  have HB1 := Lib.hid hb1
  clear hown hA hb1
  go_wp2_with fail
  refine HO.out.mono ?_
  rintro e w2 ⟨v2, rfl, ho2, hb2⟩
  have HO2 := Lib.hid (own_base ho2 HB1.out.size)
  have HB2 := Lib.hid (HB1.out.trans (hb2.mono HB1.out.size))
  clear ho2 hb2
  go_wp2
  go_ret2
  exact ⟨v2, rfl, HO2.out, HB2.out⟩
theorem small_max {s : ByteArray} (h : ¬ (1048576 : Int) < (s.size : Int)) : s.size ≤ maxLen := by unfold maxLen; omega
set_option maxHeartbeats 1000000 in
theorem walk_FnExactReachedFrom (s : ByteArray) (hs : s.size ≤ maxLen) (w : World) :
    Calls Try.prog 3 #[.string s] w fun e w' => e = .returned (.bool true) ∧ Below w.heap.size w w' := by
  obtain ⟨wl, hwl⟩ : ∃ wl, s = str wl := ⟨byt s, (str_byt s).symm⟩
  subst hwl
  by_cases hbig : (1048576 : Int) < ((str wl).size : Int)
  · go_enter Try.func3, Try.ntmps3
    go_wp2
    go_ret
    exact ⟨rfl, Below.refl _ _⟩
  · cases hr : reachB (str wl)
    · exact twin_FnExactReachedFrom _ [] false w hbig (by simp) (fun wx => sReached_no _ wx hs hr) (fun wx => reached_no _ wx hs hr)
    · obtain ⟨d, hd, hd2⟩ := dep_of hr
      exact twin_FnExactReachedFrom _ (allL nxL wl d) true w hbig (by have := all_few (reach_good hr) d; omega) (fun wx => sReached_yes d _ wx hs hr hd hd2) (fun wx => reached_yes d _ wx hr hd hd2)

/-- The dead ends, in order. -/
def endL (wl : List UInt8) (d : Nat) : List (List UInt8) := (allL nxL wl d).filter fun v => endP v 0
theorem endL_rising (wl : List UInt8) (d : Nat) : Rising (endL wl d) := (allL_rising d).filter _
set_option maxHeartbeats 1000000 in
theorem sEnds_no (s : ByteArray) (w : World) (hs : s.size ≤ maxLen) (hr : reachB s = false) : Calls Try.prog 37 #[.string s] w (LsPost [] false w) := by
  have hR := Lib.hid hr
  clear hr
  go_enter Try.func37, Try.ntmps37
  go_wp2_with (go_at_call 51; refine (reFew_any _ _ hs).mono ?_; rintro e w' ⟨rfl, rfl⟩; rw [hR.out])
  go_ret2
  exact lsNo _
set_option maxRecDepth 100000 in
set_option maxHeartbeats 2000000 in
theorem sEnds_yes (d : Nat) (wl : List UInt8) (w : World) (hs : (str wl).size ≤ maxLen) (hr : reachB (str wl) = true) (hd : IsDep nxL wl d) (hd2 : d ≤ 60000) :
    Calls Try.prog 37 #[.string (str wl)] w (LsPost (endL wl d) true w) := by
  obtain ⟨i0, hi, hz0, hz1, hz2⟩ := info_parts Try.infoS
  have HI := Lib.hid hi
  have HZ0 := Lib.hid hz0
  have HZ1 := Lib.hid hz1
  have HZ2 := Lib.hid hz2
  clear hi hz0 hz1 hz2
  have HG := Lib.hid (reach_good hr)
  have HD := Lib.hid hd
  have hR := Lib.hid hr
  have hlen := all_few (reach_good hr) d
  have HGL : Hid (∀ v, v ∈ allL nxL wl d → goodT wl.length v) := Lib.hid fun v hv => by
    obtain ⟨k, _, hk⟩ := (mem_allL d v).1 hv
    exact (lay_good (steps_line _) (reach_good hr) k v hk).1
  have HE : Hid (endL wl d = (allL nxL wl d).filter fun v => endP v 0) := Lib.hid rfl
  have HRA := Lib.hid (fun wx => reAll_any _ d wl wx HG.out HD.out hd2)
  clear hr hd
  generalize allL nxL wl d = L at hlen HGL HE HRA
  go_enter Try.func37, Try.ntmps37
  go_wp2_with (go_at_call 51; refine (reFew_any _ _ hs).mono ?_; rintro e w' ⟨rfl, rfl⟩; rw [hR.out])
  refine (HRA.out _).mono ?_
  rintro e w1 ⟨v1, rfl, hok, hb1⟩
  obtain ⟨A, c, rfl, hat⟩ := hok.at
  have HAT := Lib.hid hat
  have HB1 := Lib.hid hb1
  clear hat hb1 hok
  go_wp2
  go_loopw [4, 13] (fun v t wr' => ∃ i : Nat, i ≤ L.length ∧ t = .int .i64 i ∧ wr'.ownsRow w1.heap.size 9 1 v ((L.take i).filter fun v => endP v 0).length (txs ((L.take i).filter fun v => endP v 0)) ∧ Below w1.heap.size w1 wr') (fun _ t _ => L.length - (intOf t).toNat)
  case atStart => exact ⟨0, Nat.zero_le _, rfl, World.ownsRow_nil _ _ _ _, Below.refl _ _⟩
  case round =>
    obtain ⟨i, hi, rfl, hown, hB⟩ := hrel
    obtain ⟨wq, hwq⟩ : ∃ wq : World, wq = wr := ⟨_, rfl⟩
    subst hwq
    by_cases hlt : i < L.length
    · obtain ⟨g, rfl, z, c0⟩ := (HAT.out.below hB) i hlt
      have hgx := HGL.out _ (List.getElem_mem hlt)
      have HTK : Hid ((L.take (i + 1)).filter (fun v => endP v 0) = (L.take i).filter (fun v => endP v 0) ++ if endP L[i] 0 then [L[i]] else []) := Lib.hid (by
        rw [List.take_succ_eq_append_getElem hlt, List.filter_append]
        cases h : endP L[i] 0 <;> simp [h])
      have hle : ((L.take i).filter fun v => endP v 0).length ≤ 59049 := Nat.le_trans (List.length_filter_le _ _) (by rw [List.length_take]; omega)
      have hlm := fun wx => liMoves_all (str L[i]) wx hgx.1
      rw [kinds_can] at hlm
      have HLM := Lib.hid hlm
      have HEM := Lib.hid (end_moves L[i])
      clear hgx hlm
      generalize (L.take i).filter (fun v => endP v 0) = F at hown HTK hle
      generalize L[i] = x at c0 HTK HLM HEM
      generalize mvsTo (canM (str x)) (str x) (str x).size = M at HLM HEM
      go_wp2_with fail
      refine (HLM.out _).mono ?_
      rintro e w4 ⟨v4, rfl, ho4, hb4⟩
      obtain ⟨A4, cap4, rfl, _⟩ := at_of_own ho4
      have hB4 := hB.trans (hb4.mono hB.size)
      have hown4 := own_below hown hb4
      have hz := len_zero_int M.length
      rw [HEM.out] at hz
      clear ho4 hb4 hB hown
      cases hp : endP x 0
      · rw [hp] at hz
        have HP2 := Lib.hid hp
        clear hp
        go_wp2
        go_roundw
        case rel => exact ⟨i + 1, by omega, by go_num, by rw [HTK.out, HP2.out]; simpa using hown4, hB4⟩
        case measure => simp [intOf]; omega
      · rw [hp] at hz
        have HP2 := Lib.hid hp
        clear hp
        have H3 : F.length + 1 ≤ maxLen := by unfold maxLen; omega
        have H4 : (F.length + 1) * 16 ≤ 140737488355328 := by omega
        have H5 : w1.heap.size ≤ (w4.alloc (Obj.cells #[Value.string (str x)] 9)).heap.size := by have := hB4.size; simp; omega
        go_wp2_with (first | (at_builtin; refine wpList_append_own _ rfl _ _ 22 rfl w1.heap.size 9 i0 (.string ByteArray.empty) 1 16 Try.underlying22 HI.out HZ0.out HZ1.out HZ2.out rfl (by decide) _ _ _ rfl (hown4.alloc _) ⟨w4.heap.size, 0, none⟩ 1 1 [.string (str x)] rfl rfl (cell_one_new _ _ _) (fun u hu => by simp at hu; subst hu; rfl) H3 H4 H5 ?_; intro v' w5 hown' hgrow _))
        go_roundw
        case rel =>
          refine ⟨i + 1, by omega, by go_num, ?_, (hB4.alloc hB4.size _).grown hgrow H5 fun j hj => (hown4.lt _ hj).1⟩
          rw [HTK.out, HP2.out, if_pos rfl, txs_app, List.length_append]
          exact hown'
        case measure => simp [intOf]; omega
    · obtain rfl : i = L.length := by omega
      rw [List.take_length, ← HE.out] at hown
      obtain ⟨A5, c5, rfl, _, _, hat5, _⟩ := st_own hown
      have HAT5 := Lib.hid hat5
      clear hat5 hown
      go_wp2
      go_ret2
      exact ⟨A5, c5, rfl, HAT5.out, HB1.out.trans (hB.mono HB1.out.size)⟩
set_option maxHeartbeats 1000000 in
theorem dead_no (wl : List UInt8) (w : World) (hs : (str wl).size ≤ maxLen) (hr : reachB (str wl) = false) :
    Calls Try.prog 38 #[.string (str wl)] w (RsPost [] false w) := by
  have hR := Lib.hid hr
  clear hr
  go_enter Try.func38, Try.ntmps38
  go_wp2_with fail
  refine (ends_no wl _ hs hR.out).mono ?_
  rintro e w0 ⟨rfl, hb0⟩
  go_wp2_with fail
  refine (inOrder_nil _).mono ?_
  rintro e w1 ⟨v1, rfl, ho, hb⟩
  have HO := Lib.hid (own_base ho hb0.size)
  have HB := Lib.hid (hb0.trans (hb.mono hb0.size))
  clear ho hb hb0
  go_wp2
  go_ret2
  exact ⟨v1, rfl, HO.out, HB.out⟩
set_option maxHeartbeats 1000000 in
theorem dead_yes (d : Nat) (wl : List UInt8) (w : World) (hr : reachB (str wl) = true) (hd : IsDep nxL wl d) (hd2 : d ≤ 60000) :
    Calls Try.prog 38 #[.string (str wl)] w (RsPost (endL wl d) true w) := by
  have hR := Lib.hid hr
  have HD := Lib.hid hd
  clear hr hd
  go_enter Try.func38, Try.ntmps38
  go_wp2_with fail
  refine (ends_yes d wl _ hR.out HD.out hd2).mono ?_
  rintro e w1 ⟨ba, rfl, hba, ⟨D, hown, hA⟩, hb1⟩
  have HO := Lib.hid (inOrder_any ba D (endL wl d) w1 hown (endL_rising wl d) fun v => by
    unfold endL
    rw [List.mem_filter, mem_allL]
    constructor
    · rintro ⟨⟨k, hk, hv⟩, he⟩
      exact (hA.1 k v hk hv he).1
    · intro hv
      obtain ⟨j, hj, hv, hp⟩ := hA.2 v hv
      exact ⟨⟨j, hj, hv⟩, hp⟩)
  have HB1 := Lib.hid hb1
  clear hown hA hb1
  go_wp2_with fail
  refine HO.out.mono ?_
  rintro e w2 ⟨v2, rfl, ho2, hb2⟩
  have HO2 := Lib.hid (own_base ho2 HB1.out.size)
  have HB2 := Lib.hid (HB1.out.trans (hb2.mono HB1.out.size))
  clear ho2 hb2
  go_wp2
  go_ret2
  exact ⟨v2, rfl, HO2.out, HB2.out⟩
set_option maxHeartbeats 1000000 in
theorem walk_FnExactDeadEnds (s : ByteArray) (hs : s.size ≤ maxLen) (w : World) :
    Calls Try.prog 10 #[.string s] w fun e w' => e = .returned (.bool true) ∧ Below w.heap.size w w' := by
  obtain ⟨wl, hwl⟩ : ∃ wl, s = str wl := ⟨byt s, (str_byt s).symm⟩
  subst hwl
  by_cases hbig : (1048576 : Int) < ((str wl).size : Int)
  · go_enter Try.func10, Try.ntmps10
    go_wp2
    go_ret
    exact ⟨rfl, Below.refl _ _⟩
  · cases hr : reachB (str wl)
    · exact twin_FnExactDeadEnds _ [] false w hbig (by simp) (fun wx => sEnds_no _ wx hs hr) (fun wx => dead_no _ wx hs hr)
    · obtain ⟨d, hd, hd2⟩ := dep_of hr
      exact twin_FnExactDeadEnds _ (endL wl d) true w hbig (by have := all_few (reach_good hr) d; have := List.length_filter_le (fun v => endP v 0) (allL nxL wl d); unfold endL; omega) (fun wx => sEnds_yes d _ wx hs hr hd hd2) (fun wx => dead_yes d _ wx hr hd hd2)
end Go.Proofs.Ytdjfkhhlnkkilaa
