/- Plays on rings, both sides; the law's walk. -/
import Derived.Test.YtoiaklnaecghnaaDoorCiV
import Derived.Test.YtoiaklnaecghnaaDoorPlG
import Derived.Test.YtoiaklnaecghnaaDoorWalkP
namespace Go.Proofs.YtoiaklnaecghnaaDoor
open Go.RowKit

/-- A move on a ring, made. -/
def mkR (s : ByteArray) (f t : Int) : Option ByteArray := if ringB s && rgCi s f t then some (str (behind s f t)) else none
theorem makR_mk (s : ByteArray) (f t : Int) : makR s f t = mkV (mkR s f t) := by
  unfold makR mkR
  cases ringB s && rgCi s f t <;> rfl
theorem mkR_ok : MkOk 82 mkR (fun s => s.size ≤ maxLen) where
  enter := fun args w => enters_of Tryd.func82 (by kernel_rfl) rfl args w
  call := fun s f t w hs => by
    rw [← makR_mk]
    exact makeOnRing_any s f t w hs
  keep := fun s r f t hs h => by
    unfold mkR at h
    split at h
    · injection h with h
      rw [← h, str_size, behind_len]
      exact hs
    · cases h
theorem put_sign {s : ByteArray} (hg : (byt s).all isSign = true) (a c : Nat) (ha : a < s.size) : (putL s a c).all isSign = true := by
  rw [List.all_eq_true]
  intro x hx
  have h0 := List.all_eq_true.1 hg
  unfold putL at hx
  rcases List.mem_or_eq_of_mem_set hx with h | h
  · rcases List.mem_or_eq_of_mem_set h with h | h
    · exact h0 x h
    · rw [h, List.getD_eq_getElem?_getD, List.getElem?_eq_getElem (by rw [byt_len]; exact ha)]
      exact h0 _ (List.getElem_mem _)
  · rw [h]; decide
theorem ring_behind {s : ByteArray} (hr : ringB s = true) (a c : Nat) (ha : a < s.size) : ringB (str (behind s a c)) = true := by
  obtain ⟨h3, h9⟩ := ring_sz hr
  have hg : goodL (str (behind s a c)) = true := (goodL_iff _).2 ⟨by rw [str_size, behind_len]; omega, by rw [str_size, behind_len]; omega, by rw [byt_str]; exact put_sign ((goodL_iff s).1 (ring_good hr)).2.2 a c ha⟩
  rw [ring_in _ hg, str_size, behind_len]
  unfold inR
  simp
  omega
/-- The answer on a play. -/
def pvR (s : ByteArray) (l : List (Int × Int)) : Value := mkV (if ringB s && decide (l.length ≤ 100) then allG mkR s l else none)

set_option maxRecDepth 100000 in
set_option maxHeartbeats 2000000 in
theorem sPlayOnRing_any (s0 : ByteArray) (l : List (Int × Int)) (A : Option Addr) (c : Nat) (w : World) (hs : s0.size ≤ maxLen) (hn : l.length ≤ 2000000) (hat : MvIn w A l) :
    Calls Tryd.prog 42 #[.string s0, .slice A l.length c] w fun e w' => e = .returned (pvR s0 l) ∧ Below w.heap.size w w' := by
  have HN := Lib.hid hat
  clear hat
  cases hc : ringB s0
  · have hR : Hid (pvR s0 l = .tuple #[.string (str []), .bool false]) := Lib.hid (by unfold pvR; rw [hc]; rfl)
    have hC := Lib.hid hc
    clear hc
    go_enter Tryd.func42, Tryd.ntmps42
    go_wp2_with (go_at_call 78; refine (ciGood_any _ _ hs).mono ?_; rintro e w' ⟨rfl, rfl⟩; rw [hC.out])
    go_ret2
    exact ⟨congrArg Ending.returned hR.out.symm, Below.refl _ _⟩
  · by_cases hl : l.length ≤ 100
    · have hV : Hid (pvR s0 l = mkV (allG mkR s0 l)) := Lib.hid (by unfold pvR; rw [hc]; simp [hl])
      have hnl : ¬ (100 : Int) < (l.length : Int) := by omega
      have hC := Lib.hid hc
      clear hc
      go_enter Tryd.func42, Tryd.ntmps42
      go_wp2_with (go_at_call 78; refine (ciGood_any _ _ hs).mono ?_; rintro e w' ⟨rfl, rfl⟩; rw [hC.out])
      go_loopw [0, 7, 18] (fun x _ i wr => ∃ (k : Nat) (s : ByteArray), k ≤ l.length ∧ i = .int .i64 k ∧ x = .string s ∧ Hid (ringB s = true) ∧ Hid (playG mkR s0 l = ((playG mkR s (l.drop k)).1, (playG mkR s (l.drop k)).2 + k)) ∧ Below w.heap.size w wr) (fun _ _ i _ => l.length - (intOf i).toNat)
      case atStart => exact ⟨0, s0, Nat.zero_le _, rfl, rfl, hC, by show _ = _; simp, Below.refl _ _⟩
      case round =>
        obtain ⟨k, s, hk, rfl, rfl, HI, hP, hB⟩ := hrel
        by_cases hlt : k < l.length
        · obtain ⟨g, o, rfl, hg, c0, c1⟩ := (HN.out.below hB) k hlt
          obtain ⟨h3, h9⟩ := ring_sz HI.out
          have hle := playG_le mkR (l.drop (k + 1))
          have hstep := Lib.hid (fun s' => playG_step mkR s s' l k hlt)
          have hstop := Lib.hid (playG_stop mkR s l k hlt)
          generalize l[k].1 = a at c0 hstep hstop
          generalize l[k].2 = b at c1 hstep hstop
          have i1 : (0 : Int) ≤ (k : Int) := by omega
          have i2 : (k : Int) < (l.length : Int) := by omega
          go_wp2_with fail
          refine (ciCan_any s a b _ h3 h9).mono ?_
          rintro e w2 ⟨rfl, hb2⟩
          cases hcc : rgCi s a b
          · have hB2 := (hB.alloc hB.size (mvB a b)).trans (hb2.mono (by have := hB.size; simp; omega))
            have hR : Hid (pvR s0 l = .tuple #[.string (str []), .bool false]) := Lib.hid (by
              have hq : playG mkR s0 l = (s, k) := by rw [hP.out, hstop.out (by unfold mkR; rw [hcc, Bool.and_false]; rfl)]; simp
              rw [hV.out]
              unfold allG
              rw [hq, if_neg (by show ¬ k = l.length; omega)]
              rfl)
            have HCC := Lib.hid hcc
            clear hcc hb2 c0 c1
            go_wp2
            go_ret2
            exact ⟨by rw [hR.out]; rfl, hB2⟩
          · obtain ⟨x, y, rfl, rfl, hx, hy, hne, _⟩ := rgCi_in hcc
            have hB2 := (hB.alloc hB.size (mvB x y)).trans (hb2.mono (by have := hB.size; simp; omega))
            obtain ⟨hcell, _⟩ := bcell hb2
            have d0 : w2.cell? ⟨wr.heap.size, 0, none⟩ = some (.int .i64 x) := by rw [hcell _ _ (by simp), World.cell?_alloc_new]; rfl
            have d1 : w2.cell? ⟨wr.heap.size, 1, none⟩ = some (.int .i64 y) := by rw [hcell _ _ (by simp), World.cell?_alloc_new]; rfl
            have HI2 := Lib.hid (ring_behind HI.out x y hx)
            have hR : Hid (playG mkR s0 l = ((playG mkR (str (behind s x y)) (l.drop (k + 1))).1, (playG mkR (str (behind s x y)) (l.drop (k + 1))).2 + (k + 1))) := by
              show _ = _
              rw [hP.out, hstep.out (str (behind s x y)) (by unfold mkR; rw [hcc, HI.out]; rfl), Nat.add_assoc, Nat.add_comm 1 k]
            clear hcc hb2 c0 c1 hcell
            go_wp2_with fail
            refine (liMake_any s x y _ (by omega) hx hy hne).mono ?_
            rintro e w3 ⟨rfl, hb3⟩
            have hB3 := hB2.trans (hb3.mono hB2.size)
            clear hB hB2 hb3 d0 d1
            go_wp2
            go_roundw
            case rel => exact ⟨k + 1, str (behind s x y), by omega, by go_num, rfl, HI2, hR, hB3⟩
            case measure => simp [intOf]; omega
        · obtain rfl : k = l.length := by omega
          have hR : Hid (pvR s0 l = .tuple #[.string s, .bool true]) := Lib.hid (by
            have hq : playG mkR s0 l = (s, l.length) := by rw [hP.out, List.drop_length]; simp [playG]
            rw [hV.out]
            unfold allG
            rw [hq, if_pos rfl]
            rfl)
          go_wp2
          go_ret2
          exact ⟨by rw [hR.out]; rfl, hB⟩
    · have hR : Hid (pvR s0 l = .tuple #[.string (str []), .bool false]) := Lib.hid (by unfold pvR; rw [hc]; simp [hl, mkV])
      have hnl : (100 : Int) < (l.length : Int) := by omega
      have hC := Lib.hid hc
      clear hc
      go_enter Tryd.func42, Tryd.ntmps42
      go_wp2_with (go_at_call 78; refine (ciGood_any _ _ hs).mono ?_; rintro e w' ⟨rfl, rfl⟩; rw [hC.out])
      go_ret2
      exact ⟨congrArg Ending.returned hR.out.symm, Below.refl _ _⟩

theorem mkV_open (o : Option ByteArray) : ∃ x y, mkV o = .tuple #[.string x, .bool y] := by
  cases o with
  | none => exact ⟨_, _, rfl⟩
  | some r => exact ⟨_, _, rfl⟩

set_option maxRecDepth 100000 in
set_option maxHeartbeats 1000000 in
theorem playOnRing_any (s : ByteArray) (l : List (Int × Int)) (A : Option Addr) (c : Nat) (w : World) (hs : s.size ≤ maxLen) (hn : l.length ≤ 2000000) (hat : MvIn w A l) :
    Calls Tryd.prog 43 #[.string s, .slice A l.length c] w fun e w' => e = .returned (pvR s l) ∧ Below w.heap.size w w' := by
  cases hc : ringB s
  · have hR : Hid (pvR s l = .tuple #[.string (str []), .bool false]) := Lib.hid (by unfold pvR; rw [hc]; rfl)
    have hC := Lib.hid hc
    clear hc hat
    go_enter Tryd.func43, Tryd.ntmps43
    go_wp2_with (go_at_call 80; refine (isRing_any _ _ hs).mono ?_; rintro e w' ⟨rfl, rfl⟩; rw [hC.out])
    go_ret2
    exact ⟨congrArg Ending.returned hR.out.symm, Below.refl _ _⟩
  · by_cases hl : l.length ≤ 100
    · have hV : Hid (pvR s l = mkV (allG mkR s l)) := Lib.hid (by unfold pvR; rw [hc]; simp [hl])
      have hnl : ¬ (100 : Int) < (l.length : Int) := by omega
      have hC := Lib.hid hc
      have HP := Lib.hid (playAll_fn 82 mkR _ mkR_ok s hs l A c w hat (by omega))
      clear hc hat
      obtain ⟨x, y, hxy⟩ := mkV_open (allG mkR s l)
      rw [hxy] at HP hV
      clear hxy
      go_enter Tryd.func43, Tryd.ntmps43
      go_wp2_with (go_at_call 80; refine (isRing_any _ _ hs).mono ?_; rintro e w' ⟨rfl, rfl⟩; rw [hC.out])
      refine HP.out.mono ?_
      rintro e w1 ⟨rfl, hb1⟩
      go_wp2
      go_ret2
      exact ⟨congrArg Ending.returned hV.out.symm, hb1⟩
    · have hR : Hid (pvR s l = .tuple #[.string (str []), .bool false]) := Lib.hid (by unfold pvR; rw [hc]; simp [hl, mkV])
      have hnl : (100 : Int) < (l.length : Int) := by omega
      have hC := Lib.hid hc
      clear hc hat
      go_enter Tryd.func43, Tryd.ntmps43
      go_wp2_with (go_at_call 80; refine (isRing_any _ _ hs).mono ?_; rintro e w' ⟨rfl, rfl⟩; rw [hC.out])
      go_ret2
      exact ⟨congrArg Ending.returned hR.out.symm, Below.refl _ _⟩

set_option maxRecDepth 100000 in
set_option maxHeartbeats 4000000 in
theorem walk_FnExactPlayOnRing (s : ByteArray) (hs : s.size ≤ maxLen) (A : Option Addr) (n c : Nat) (l : List (Int × Int)) (w : World) (hin : n = l.length ∧ n ≤ maxLen ∧ MvIn w A l) :
    Calls Tryd.prog 13 #[.string s, .slice A n c] w fun e w' => e = .returned (.bool true) ∧ Below w.heap.size w w' := by
  obtain ⟨rfl, hmax, hin⟩ := hin
  by_cases hbig : (1048576 : Int) < (s.size : Int)
  · clear hin
    go_enter Tryd.func13, Tryd.ntmps13
    go_wp2
    go_ret
    exact ⟨rfl, Below.refl _ _⟩
  · have HI := Lib.hid hin
    clear hin
    by_cases hl : 1048576 < l.length
    · go_enter Tryd.func13, Tryd.ntmps13
      go_wp2_with fail
      refine (szMoveS_any _ _ _ _ hmax).mono ?_
      rintro e w1 ⟨rfl, rfl⟩
      rw [if_pos hl]
      go_wp2
      go_ret
      exact ⟨rfl, Below.refl _ _⟩
    · have hln : l.length ≤ 2000000 := by omega
      have hnn : ¬ (1048576 : Int) - (l.length : Int) < 0 := by omega
      obtain ⟨r0, r1, hR⟩ : ∃ (r0 : Value) (r1 : Bool), pvR s l = .tuple #[r0, .bool r1] ∧ ∃ z : ByteArray, r0 = .string z := by
        obtain ⟨x, y, h⟩ := mkV_open (if ringB s && decide (l.length ≤ 100) then allG mkR s l else none)
        exact ⟨_, _, h, _, rfl⟩
      obtain ⟨hR, r2, rfl⟩ := hR
      have hR := Lib.hid hR
      go_enter Tryd.func13, Tryd.ntmps13
      go_wp2_with fail
      refine (szMoveS_any _ _ _ _ hmax).mono ?_
      rintro e w1 ⟨rfl, rfl⟩
      rw [if_neg hl]
      go_wp2_with fail
      refine (toMoveS_any l A c _ HI.out hln).mono ?_
      rintro e w1 ⟨rfl, ho1, hb1⟩
      obtain ⟨A1, c1, hv1, at1⟩ := at_of_own ho1
      injection hv1 with hA1 _ hc1
      subst hA1; subst hc1
      have AT1 := Lib.hid at1
      clear ho1 at1
      go_wp2_with fail
      refine (sPlayOnRing_any s l _ _ _ hs hln AT1.out.into).mono ?_
      rintro e w2 ⟨rfl, hb2⟩
      rw [hR.out]
      have hB2 := hb1.trans (hb2.mono hb1.size)
      have H2 := Lib.hid (HI.out.below hB2)
      clear hb1 hb2 AT1 HI
      go_wp2_with fail
      refine (toMoveS_any l A c _ H2.out hln).mono ?_
      rintro e w3 ⟨rfl, ho3, hb3⟩
      obtain ⟨A3, c3, hv3, at3⟩ := at_of_own ho3
      injection hv3 with hA3 _ hc3
      subst hA3; subst hc3
      have AT3 := Lib.hid at3
      have hB3 := hB2.trans (hb3.mono hB2.size)
      have H3 := Lib.hid (H2.out.below hb3)
      clear ho3 at3 hb3 hB2 H2
      go_wp2_with fail
      refine (playOnRing_any s l _ _ _ hs hln AT3.out.into).mono ?_
      rintro e w4 ⟨rfl, hb4⟩
      rw [hR.out]
      have AT4 := Lib.hid (AT3.out.below hb4)
      have H4 := Lib.hid (H3.out.below hb4)
      have hB4 := hB3.trans (hb4.mono hB3.size)
      clear hb4 AT3 H3 hB3
      go_wp2_with fail
      refine (toMoveS_any l A c _ H4.out hln).mono ?_
      rintro e w5 ⟨rfl, ho5, hb5⟩
      obtain ⟨A5, c5, hv5, at5⟩ := at_of_own ho5
      injection hv5 with hA5 _ hc5
      subst hA5; subst hc5
      have AT5 := Lib.hid at5
      have AT4' := Lib.hid (AT4.out.below hb5)
      have hB5 := hB4.trans (hb5.mono hB4.size)
      clear ho5 at5 hb5 hB4 AT4 H4
      go_wp2_with fail
      refine (eqMoveS_same l _ _ _ _ _ AT4'.out AT5.out hln).mono ?_
      rintro e w6 ⟨rfl, hb6⟩
      have hB6 := hB5.trans (hb6.mono hB5.size)
      clear hb6 hB5 AT4' AT5
      go_wp2
      go_ret
      exact ⟨rfl, hB6⟩
end Go.Proofs.YtoiaklnaecghnaaDoor
