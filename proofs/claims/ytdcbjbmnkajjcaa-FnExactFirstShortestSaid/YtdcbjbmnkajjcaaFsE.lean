/- FirstShortest: the program where there is no play; the law's walk. -/
import Derived.Test.YtdcbjbmnkajjcaaFsD
import Derived.Test.YtdcbjbmnkajjcaaRuG
import Derived.Test.YtdcbjbmnkajjcaaMoves
namespace Go.Proofs.Ytdcbjbmnkajjcaa
open Go.RowKit Go.Maps Go.Shelf

set_option maxRecDepth 100000 in
set_option maxHeartbeats 2000000 in
theorem heldMoveS_big (n k0 base : Nat) (v : Value) (w : World) (hown : w.ownsRow base 44 2 v n (flat (marks k0 n))) (hn : n ≤ 1000000) (hk0 : k0 ≤ 1000) :
    Calls Try.prog 10 #[v, .int .i64 k0] w fun e w' => e = .returned (.int .i64 ((k0 : Int) + 2 * n)) ∧ w = w' := by
  obtain ⟨A, cap, rfl, hat⟩ : ∃ A cap, v = .slice A n cap ∧ MvAt w A (marks k0 n) := by
    have h := at_of_own (l := marks k0 n) (by rw [marks_len]; exact hown)
    rwa [marks_len] at h
  have HA := Lib.hid hat
  clear hat hown
  go_enter Try.func10, Try.ntmps10
  go_wp2
  go_loop [1, 5] (fun x i => ∃ (j : Nat) (K : Int), j ≤ n ∧ i = .int .i64 j ∧ x = .int .i64 K ∧ Hid (K = (k0 : Int) + 2 * j) ∧ 0 ≤ K ∧ K ≤ 100000000) (fun _ i => n - (intOf i).toNat)
  case atStart => exact ⟨0, _, Nat.zero_le _, rfl, rfl, by show _ = _; simp, by omega, by omega⟩
  case round =>
    obtain ⟨j, K, hj, rfl, rfl, hK, _, _⟩ := hrel
    by_cases hlt : j < n
    · obtain ⟨g, rfl, z, c0, c1⟩ := HA.out j (by rw [marks_len]; exact hlt)
      rw [marks_at] at c0 c1
      have e0 : (((k0 + 2 * j : Nat) : Int)) = K := by rw [hK.out]; push_cast; rfl
      have e1 : (((k0 + 2 * j + 1 : Nat) : Int)) = K + 1 := by rw [hK.out]; push_cast; rfl
      simp only [e0, e1] at c0 c1
      clear e0 e1
      have i1 : (0 : Int) ≤ (j : Int) := by omega
      have i2 : (j : Int) < (n : Int) := by omega
      go_wp2
      go_round
      case rel => exact ⟨j + 1, K + 1 + 1, by omega, by go_num, rfl, by show _ = _; rw [hK.out]; push_cast; omega, by omega, by have := hK.out; omega⟩
      case measure => simp [intOf]; omega
    · obtain rfl : j = n := by omega
      go_wp2
      go_ret
      exact ⟨by show Ending.returned (.int .i64 K) = _; rw [hK.out], rfl⟩
set_option maxRecDepth 100000 in
set_option maxHeartbeats 2000000 in
theorem firstShort_no (s t : ByteArray) (o b l : Bool) (w : World) (hs : s.size ≤ maxLen) (ht : t.size ≤ maxLen) (h : (rchB s && rchB t) = false) :
    Calls Try.prog 7 #[.string s, .string t, ruV o b l] w (FsPost [] false w) := by
  unfold FsPost
  cases h1 : rchB s
  · have hC := Lib.hid h1
    clear h h1
    go_enter Try.func7, Try.ntmps7
    go_wp2_with fail
    refine (isRch_any _ _ hs).mono ?_; rintro e w' ⟨rfl, rfl⟩; rw [hC.out]
    go_wp2_with fail
    go_ret2
    exact ⟨_, rfl, World.ownsRow_nil _ _ _ _, (Below.refl _ _).alloc (Nat.le_refl _) _⟩
  · have h2 : rchB t = false := by rw [h1] at h; simpa using h
    have hC := Lib.hid h1
    have hD := Lib.hid h2
    clear h h1 h2
    go_enter Try.func7, Try.ntmps7
    go_wp2_with fail
    refine (isRch_any _ _ hs).mono ?_; rintro e w' ⟨rfl, rfl⟩; rw [hC.out]
    go_wp2_with fail
    refine (isRch_any _ _ ht).mono ?_; rintro e w' ⟨rfl, rfl⟩; rw [hD.out]
    go_wp2_with fail
    go_ret2
    exact ⟨_, rfl, World.ownsRow_nil _ _ _ _, (Below.refl _ _).alloc (Nat.le_refl _) _⟩
set_option maxRecDepth 100000 in
set_option maxHeartbeats 8000000 in
theorem firstShort_none {o b l : Bool} {wl vl : List UInt8} (w : World) (hr : rchB (str wl) = true) (hv : rchB (str vl) = true) (hd : dstB o b l vl wl = none) :
    Calls Try.prog 7 #[.string (str wl), .string (str vl), ruV o b l] w (FsPost [] false w) := by
  have hg := rch_T hr
  have hgv := rch_T hv
  have hs : (str wl).size ≤ maxLen := by have := hg.2; rw [str_size]; unfold maxLen; omega
  have hs2 : (str vl).size ≤ maxLen := by have := hgv.2; rw [str_size]; unfold maxLen; omega
  have hw1 := (goodL_iff _).1 hg.1
  rw [str_size] at hw1
  have hR := Lib.hid hr
  have hV := Lib.hid hv
  have HDT := Lib.hid (fun wx => depthsTo_any _ o b l vl wx hgv)
  have HBK := Lib.hid (fun wx => backwards_any wl wx hw1.1 (by have := hg.2; omega))
  have hFL := found_L o b l (good_revF hgv)
  have HND := Lib.hid hFL.nodup
  have HDR := Lib.hid (fun x => dst_rev (o := o) (b := b) (l := l) hgv x)
  have hqe := HDR.out wl
  rw [hd] at hqe
  have HQE := Lib.hid hqe
  have HG := Lib.hid hg
  unfold DfPost at HDT
  unfold FsPost
  clear hr hv hg hgv hd hFL hqe hw1
  generalize bfsL (nxR o b l) vl.reverse = L at HDT HND HDR HQE
  go_enter Try.func7, Try.ntmps7
  go_wp2_with fail
  refine (isRch_any _ _ hs).mono ?_; rintro e w' ⟨rfl, rfl⟩; rw [hR.out]
  go_wp2_with fail
  refine (isRch_any _ _ hs2).mono ?_; rintro e w' ⟨rfl, rfl⟩; rw [hV.out]
  go_wp2_with fail
  refine (partsOf_any o b l _).mono ?_; rintro e w1 ⟨rfl, hb1⟩
  have HB1 := Lib.hid (((Below.refl w.heap.size w).alloc (Nat.le_refl _) (ruO o b l)).trans (hb1.mono (by simp)))
  clear hb1
  go_wp2_with fail
  refine (HDT.out _).mono ?_
  rintro e w2 ⟨bm, D, rfl, hbm, hmap, hfv, hb2⟩
  have hbm8 : w1.heap.size < bm := by have := hbm; simp at this; omega
  have HB2 := Lib.hid ((HB1.out.alloc HB1.out.size (paO o b l)).trans (hb2.mono (by have := HB1.out.size; simp; omega)))
  have hmlt := hmap.lt
  have HMP := Lib.hid hmap
  have HFV := Lib.hid hfv
  clear hbm hmap hfv hb2 HB1
  go_upto_region 5 with fail
  obtain ⟨V, hV3⟩ : ∃ V, V = w2.alloc (.cells #[.map (some bm)] 51) := ⟨_, rfl⟩
  have hBV : Below w2.heap.size w2 V := by rw [hV3]; exact (Below.refl _ _).alloc (Nat.le_refl _) _
  have hzV : V.heap.size = w2.heap.size + 1 := by rw [hV3]; simp
  have c9 : V.cell? ⟨w2.heap.size, 0, none⟩ = some (.map (some bm)) := by rw [hV3, World.cell?_alloc_new]; rfl
  rw [← hV3]
  clear hV3
  have HMV : Hid (V.ownsMap Try.prog 9 intR bm 59049 D) := Lib.hid (map_blk HMP.out (hBV.block bm hmlt))
  have HK : Hid (∀ w', Below V.heap.size V w' → (w'.cell? ⟨w2.heap.size, 0, none⟩ = some (.map (some bm)) ∧ (Instr.lookup 51 (.map (some bm)) (.string (str wl.reverse)) true).run Try.prog w' = .ok (.tuple #[.int .i64 0, .bool false]) w')) := Lib.hid fun w' hb => by
    refine ⟨(hb.cell (p := ⟨w2.heap.size, 0, none⟩) (show w2.heap.size < _ by omega)).trans c9, ?_⟩
    have := fnd_look (map_blk HMV.out (hb.block bm (by omega))) HFV.out HND.out wl.reverse (by rw [List.length_reverse]; have := HG.out.2; omega)
    rw [HQE.out] at this
    exact this
  have HB3 := Lib.hid (HB2.out.trans (hBV.mono HB2.out.size))
  have HZV := Lib.hid hzV
  clear c9 hBV HB2 HMP hzV
  go_cut [10, 11] from 16 (fun s10 s11 wz => ∃ B10, s10 = Value.pointer (some ⟨B10, 0, none⟩) ∧ s11 = Value.bool false ∧ V.heap.size ≤ B10 ∧ Hid (IBox wz B10 0) ∧ Hid (Below V.heap.size V wz))
  case first =>
    go_region_held3 (fun w' => w'.cell? ⟨w2.heap.size, 0, none⟩ = some (.map (some bm)) ∧ (Instr.lookup 51 (.map (some bm)) (.string (str wl.reverse)) true).run Try.prog w' = .ok (.tuple #[.int .i64 0, .bool false]) w') (exact HK.out _ (by repeat first | with_reducible exact hB | with_reducible exact Below.refl _ _ | with_reducible refine Below.drew ?_ | with_reducible refine Below.alloc ?_ (by first | omega | (simp <;> omega)) _ | with_reducible refine Below.setCell ?_ (by first | omega | (simp <;> omega)) _)) (first | (go_at_call 21; refine (HBK.out _).mono ?_; rintro e wb ⟨rfl, hb2⟩; have hB : Below V.heap.size V wb := Below.trans (by repeat first | with_reducible exact hB | with_reducible exact Below.refl _ _ | with_reducible refine Below.drew ?_ | with_reducible refine Below.alloc ?_ (by first | omega | (simp <;> omega)) _ | with_reducible refine Below.setCell ?_ (by first | omega | (simp <;> omega)) _) (hb2.mono (Below.size (B := V.heap.size) (w := V) (by repeat first | with_reducible exact hB | with_reducible exact Below.refl _ _ | with_reducible refine Below.drew ?_ | with_reducible refine Below.alloc ?_ (by first | omega | (simp <;> omega)) _ | with_reducible refine Below.setCell ?_ (by first | omega | (simp <;> omega)) _))); have szb := hB.size; (first | (have zb := IBox.step (IBox.drew (IBox.new _ _)) hb2; have y0 := zb.cell.1; have y1 := zb.cell.2) | (have zb := IBox.step (IBox.new _ _) hb2; have y0 := zb.cell.1; have y1 := zb.cell.2) | skip); clear hb2))
    all_goals (go_wp2_with fail; go_meet)
    all_goals first | exact ⟨_, rfl, rfl, szb, Lib.hid (IBox.new wb 0), Lib.hid (hB.alloc szb _)⟩ | exact ⟨_, rfl, rfl, Nat.le_refl _, Lib.hid (zb.set 0), Lib.hid (hB.setCell (Nat.le_refl _) _)⟩
  case rest =>
  obtain ⟨B10, rfl, rfl, hB10, HI10, HBz⟩ := hcut
  have HBE := Lib.hid (HB3.out.trans (HBz.out.mono HB3.out.size))
  clear HI10 HBz
  go_wp2_with fail
  go_ret2
  exact ⟨_, rfl, World.ownsRow_nil _ _ _ _, HBE.out⟩
set_option maxRecDepth 100000 in
set_option maxHeartbeats 4000000 in
theorem fs_walk (s t : ByteArray) (o b l : Bool) (l' : List (Int × Int)) (c' : Bool) (hb1 : ¬ (1048576 : Int) < (s.size : Int)) (hb2 : ¬ (1048576 : Int) < (t.size : Int)) (hle : l'.length ≤ 60000) (w : World)
    (hS : ∀ wx, Calls Try.prog 5 #[.string s, .string t, ruV o b l] wx (FsPost l' c' wx)) (hP : ∀ wx, Calls Try.prog 7 #[.string s, .string t, ruV o b l] wx (FsPost l' c' wx)) :
    Calls Try.prog 3 #[.string s, .string t, ruV o b l] w fun e w' => e = .returned (.bool true) ∧ Below w.heap.size w w' := by
  have HS := Lib.hid hS
  have HM := Lib.hid hP
  unfold FsPost at HS HM
  clear hS hP
  go_enter Try.func3, Try.ntmps3
  go_wp2_with fail
  refine (toRule_any o b l _).mono ?_
  rintro e w0 ⟨rfl, hb0⟩
  have HB0 := Lib.hid (((Below.refl w.heap.size w).alloc (Nat.le_refl _) (Obj.cells #[.bool o, .bool b, .bool l] 23)).trans (hb0.mono (by simp)))
  have HX0 := Lib.hid ((RuBx.new w o b l 23).below hb0)
  clear hb0
  go_wp2_with fail
  refine (HS.out _).mono ?_
  rintro e w1 ⟨v1, rfl, ho1, hb1⟩
  have HX1 := Lib.hid (HX0.out.below hb1)
  have LT5 : Hid (w.heap.size < w0.heap.size) := Lib.hid HX0.out.lt
  have HB1 := Lib.hid (HB0.out.trans (hb1.mono HB0.out.size))
  obtain ⟨A1, cap1, rfl, at1⟩ := at_of_own ho1
  have hlt1 : ∀ g, A1 = some ⟨g, 0, none⟩ → 0 < l'.length → g < w1.heap.size := by
    intro g hg hl
    obtain ⟨g', e, z, _⟩ := at1 0 hl
    rw [hg] at e
    injection e with e
    injection e with e
    omega
  have AT1 := Lib.hid at1
  have HX1L := Lib.hid HX1.out.lt
  have LT1 := Lib.hid hlt1
  clear ho1 hb1 at1 hlt1 HX0 HB0
  obtain ⟨_, x0, x1, x2⟩ := HX1.out
  go_wp2_with fail
  refine (toRule_any o b l _).mono ?_
  rintro e w2 ⟨rfl, hb2⟩
  clear x0 x1 x2
  have HB12 := Lib.hid hb2
  have HX2 := Lib.hid (HX1.out.below hb2)
  have HB2 := Lib.hid (HB1.out.trans (hb2.mono HB1.out.size))
  have AT1b := Lib.hid (AT1.out.below hb2)
  clear hb2 AT1
  go_wp2_with fail
  refine (HM.out _).mono ?_
  rintro e w3 ⟨v3, rfl, ho3, hb3⟩
  obtain ⟨A3, cap3, rfl, at3⟩ := at_of_own ho3
  have AT3 := Lib.hid at3
  have AT1c := Lib.hid (AT1b.out.below hb3)
  have HX3 := Lib.hid (HX2.out.below hb3)
  have HB3 := Lib.hid (HB2.out.trans (hb3.mono HB2.out.size))
  have hsz12 := HB12.out.size
  have HO3 := Lib.hid (own_base ho3 hsz12)
  have HB13 := Lib.hid (HB12.out.trans (hb3.mono hsz12))
  clear at3 AT1b ho3 hb3 HX2 HB2 HX1
  go_wp2_with fail
  refine (eqMoveS_same l' A3 A1 cap3 cap1 _ AT3.out AT1c.out (by omega)).mono ?_
  rintro e w4 ⟨rfl, hb4⟩
  have HO4 := Lib.hid (own_below HO3.out hb4)
  have AT4 := Lib.hid (AT1c.out.below hb4)
  have HX4 := Lib.hid (HX3.out.below hb4)
  have HB4 := Lib.hid (HB3.out.trans (hb4.mono HB3.out.size))
  have HB14 := Lib.hid (HB13.out.trans (hb4.mono HB13.out.size))
  clear HO3 AT1c AT3 hb4 HX3 HB3 HB13
  go_wp2_with fail
  refine (markMoveS_far l'.length 1 w1.heap.size l' _ _ rfl HO4.out (by omega) (by omega)).mono ?_
  rintro e w5 ⟨rfl, ho5, hb5, _⟩
  have HO5 := Lib.hid ho5
  have AT5 : Hid (MvAt w5 A1 l') := Lib.hid (by
    intro k hk
    obtain ⟨g, a, b, c, d⟩ := AT4.out k hk
    have hg := LT1.out g a (by omega)
    exact ⟨g, a, Nat.lt_of_lt_of_le b hb5.size, (hb5.cell (p := ⟨g, k * 2, none⟩) hg).trans c, (hb5.cell (p := ⟨g, k * 2 + 1, none⟩) hg).trans d⟩)
  have HX5 : Hid (RuBx w5 w.heap.size o b l) := Lib.hid (by
    have h := HX4.out
    have hlt : w.heap.size < w1.heap.size := by have := HX1L.out; exact this
    exact ⟨Nat.lt_of_lt_of_le h.lt hb5.size, (hb5.cell (p := ⟨w.heap.size, 0, none⟩) hlt).trans h.c0, (hb5.cell (p := ⟨w.heap.size, 1, none⟩) hlt).trans h.c1, (hb5.cell (p := ⟨w.heap.size, 2, none⟩) hlt).trans h.c2⟩)
  have HB5 := Lib.hid (HB4.out.trans (hb5.mono HB1.out.size))
  clear HO4 AT4 ho5 hb5 HX4 HB4
  go_wp2_with fail
  refine (heldMoveS_big l'.length 1 w1.heap.size _ _ HO5.out (by omega) (by omega)).mono ?_
  rintro e w5' ⟨rfl, rfl⟩
  obtain ⟨_, x0, x1, x2⟩ := HX5.out
  go_wp2_with fail
  refine (toRule_any o b l _).mono ?_
  rintro e w6 ⟨rfl, hb6⟩
  clear x0 x1 x2
  have HO6 := Lib.hid (own_below HO5.out hb6)
  have AT6 := Lib.hid (AT5.out.below hb6)
  have HB6 := Lib.hid (HB5.out.trans (hb6.mono HB5.out.size))
  clear HO5 AT5 hb6 HB5 HX5
  go_wp2_with fail
  refine (HM.out _).mono ?_
  rintro e w7 ⟨v7, rfl, ho7, hb7⟩
  obtain ⟨A7, cap7, rfl, at7⟩ := at_of_own ho7
  have AT7 := Lib.hid at7
  have AT1d := Lib.hid (AT6.out.below hb7)
  have HO7 := Lib.hid (own_below HO6.out hb7)
  have HB7 := Lib.hid (HB6.out.trans (hb7.mono HB6.out.size))
  clear ho7 at7 hb7 AT6 HO6 HB6
  go_wp2_with fail
  refine (eqMoveS_same l' A7 A1 cap7 cap1 _ AT7.out AT1d.out (by omega)).mono ?_
  rintro e w8 ⟨rfl, hb8⟩
  have HO8 := Lib.hid (own_below HO7.out hb8)
  have HB8 := Lib.hid (HB7.out.trans (hb8.mono HB7.out.size))
  clear AT7 AT1d HO7 hb8 HB7
  go_wp2_with fail
  refine (heldMoveS_big l'.length 1 w1.heap.size _ _ HO8.out (by omega) (by omega)).mono ?_
  rintro e w8' ⟨rfl, rfl⟩
  go_wp2
  go_ret
  exact ⟨rfl, HB8.out⟩
theorem walk_FnExactFirstShortest (s : ByteArray) (hs : s.size ≤ maxLen) (t : ByteArray) (ht : t.size ≤ maxLen) (o b l : Bool) (w : World) :
    Calls Try.prog 3 #[.string s, .string t, ruV o b l] w fun e w' => e = .returned (.bool true) ∧ Below w.heap.size w w' := by
  by_cases hb1 : (1048576 : Int) < (s.size : Int)
  · go_enter Try.func3, Try.ntmps3
    go_wp2
    go_ret
    exact ⟨rfl, (Below.refl _ _).alloc (Nat.le_refl _) _⟩
  · by_cases hb2 : (1048576 : Int) < (t.size : Int)
    · go_enter Try.func3, Try.ntmps3
      go_wp2
      go_ret
      exact ⟨rfl, (Below.refl _ _).alloc (Nat.le_refl _) _⟩
    · cases h : rchB s && rchB t
      · exact fs_walk s t o b l [] false hb1 hb2 (by simp) w (fun wx => sFirstShort_no s t o b l wx hs ht h) (fun wx => firstShort_no s t o b l wx hs ht h)
      · rw [Bool.and_eq_true] at h
        obtain ⟨wl, rfl⟩ : ∃ l, s = str l := ⟨byt s, (str_byt s).symm⟩
        obtain ⟨vl, rfl⟩ : ∃ l, t = str l := ⟨byt t, (str_byt t).symm⟩
        have hS := fun wx => sFirstShort_any (o := o) (b := b) (l := l) wx h.1 h.2
        cases hd : dstB o b l vl wl with
        | none =>
          refine fs_walk _ _ o b l [] false hb1 hb2 (by simp) w (fun wx => (hS wx).mono fun e w' hp => ?_) (fun wx => firstShort_none wx h.1 h.2 hd)
          rcases hp with ⟨_, hp⟩ | ⟨d0, hd2, _⟩
          · exact hp
          · rw [hd] at hd2; cases hd2
        | some d0 =>
          refine fs_walk _ _ o b l (fsL o b l vl d0 wl) true hb1 hb2 ?_ w (fun wx => (hS wx).mono fun e w' hp => ?_) (fun wx => firstShort_yes wx h.1 h.2 hd)
          · rw [fsL_len]
            have hgv := rch_T h.2
            exact (found_B o b l hgv).deep _ ((dstB_some hgv).1 hd)
          · rcases hp with ⟨hd2, _⟩ | ⟨d1, hd2, hp⟩
            · rw [hd] at hd2; cases hd2
            · rw [hd] at hd2
              obtain rfl := Option.some.inj hd2
              exact hp
end Go.Proofs.Ytdcbjbmnkajjcaa
