/- How many words: the model's; the law's walk. -/
import Derived.Test.YtoefeooldcbfiaaWoN
namespace Go.Proofs.Ytoefeooldcbfiaa
open Go.RowKit Go.Maps

theorem cts_at (wl : List UInt8) (k : Nat) : ∀ i (h : i < (cts wl k).length) (h' : i < (lay nxL wl k).length), (cts wl k)[i] = wr (pc nxL wl k (lay nxL wl k)[i]) := by
  intro i h h'
  simp [cts]

set_option maxRecDepth 100000 in
set_option maxHeartbeats 4000000 in
theorem woCount_any (d : Nat) (wl : List UInt8) (m : Nat) (w : World) (hr : reachB (str wl) = true) (hd : IsDep nxL wl d) (hd2 : d ≤ 60000) (hm : m ≤ 40) :
    Calls Try.prog 39 #[.string (str wl), .int .i64 m] w fun e w' => e = .returned (.int .i64 (wr (cwN wl m))) ∧ Below w.heap.size w w' := by
  have HG := Lib.hid (reach_good hr)
  have HD := Lib.hid hd
  clear hr hd
  by_cases hmd : m < d
  · have hge : decide ((d : Int) ≤ (m : Int)) = false := by simp; omega
    have hge2 : decide (d ≤ m) = false := by simp; omega
    go_enter Try.func39, Try.ntmps39
    go_wp2_with fail
    refine (reLayers_any _ d wl _ HG.out HD.out hd2).mono ?_
    rintro e w1 ⟨v1, rfl, ⟨g, c, vs, rfl, hgl, hn, hvl, hat, hcell⟩, hb1⟩
    have HAT := Lib.hid hat
    have HCE := Lib.hid hcell
    have HB1 := Lib.hid hb1
    clear hat hcell hb1
    go_wp2
    go_loopw [6, 7] (fun v t wr' => ∃ (k : Nat) (A7 : Option Addr) (c7 : Nat), k ≤ m ∧ t = .int .i64 ((k + 1 : Nat) : Int) ∧ v = .slice A7 (lay nxL wl k).length c7 ∧ ItAt wr' A7 (cts wl k) ∧ Below w1.heap.size w1 wr') (fun _ t _ => m + 2 - (intOf t).toNat)
    case atStart =>
      refine ⟨0, _, _, Nat.zero_le _, rfl, rfl, ?_, (Below.refl _ _).alloc (Nat.le_refl _) _⟩
      rw [cts_zero]
      intro q hq
      obtain rfl : q = 0 := by simpa using hq
      exact ⟨_, rfl, by simp, by rw [World.cell?_alloc_new]; rfl⟩
    case round =>
      obtain ⟨k, A7, c7, hk, rfl, rfl, hit, hB⟩ := hrel
      obtain ⟨w0, hw0⟩ : ∃ w0 : World, w0 = wr := ⟨_, rfl⟩
      subst hw0
      by_cases hlt : k < m
      · have hck := (hB.cell (p := ⟨g, k + 1, none⟩) hgl).trans (HCE.out (k + 1) (by omega))
        have hck2 := (hB.cell (p := ⟨g, k, none⟩) hgl).trans (HCE.out k (by omega))
        have hst := (HAT.out (k + 1) (by omega)).below hB
        have hst2 := (HAT.out k (by omega)).below hB
        obtain ⟨g2, c2, e2, hc2, hc2m, hg2, hs2⟩ := ok_form hst (HD.out.2.2 (k + 1) (by omega))
        obtain ⟨g3, c3, e3, hc3, hc3m, hg3, hs3⟩ := ok_form hst2 (HD.out.2.2 k (by omega))
        rw [e2] at hck
        rw [e3] at hck2
        have hlenL : (lay nxL wl (k + 1)).length ≤ 59049 := few_good (rising_nodup (lay_rising (k + 1))) fun v hv => (lay_good (steps_line _) HG.out (k + 1) v hv).1
        have hlenM : (lay nxL wl k).length ≤ 59049 := few_good (rising_nodup (lay_rising k)) fun v hv => (lay_good (steps_line _) HG.out k v hv).1
        have HRC := Lib.hid (fun (A0 A1 A2 : Option Addr) (k0 k1 k2 : Nat) (wx : World) h0 h1 h2 => reCounts_any (pc nxL wl k) wl.length (lay nxL wl k) (lay nxL wl (k + 1)) A0 A1 A2 k0 k1 k2 wx (fun u hu => (lay_good (steps_line _) HG.out k u hu).1) hlenM hlenL h0 h1 h2)
        have HS3 : Hid (StAt w0.drew (some ⟨g3, 0, none⟩) (lay nxL wl k)) := Lib.hid fun q hq => ⟨g3, rfl, hg3, hs3 q hq⟩
        have HS4 : Hid (StAt w0.drew (some ⟨g2, 0, none⟩) (lay nxL wl (k + 1))) := Lib.hid fun q hq => ⟨g2, rfl, hg2, hs2 q hq⟩
        have HIT0 : Hid (ItAt w0.drew A7 (cts wl k)) := Lib.hid (hit.below (Below.drew (Below.refl _ _)))
        obtain ⟨L, hL⟩ : ∃ L, lay nxL wl (k + 1) = L := ⟨_, rfl⟩
        have HL := Lib.hid hL
        rw [hL] at hck hlenL hc2 HS4 HRC
        obtain ⟨P, hP⟩ : ∃ P, lay nxL wl k = P := ⟨_, rfl⟩
        have HP := Lib.hid hP
        rw [hP] at hck2 hc3 hlenM HS3 HRC ⊢
        have hBk := Lib.hid hB
        clear hL hP hit hst2 hst hs3 hs2 e3 e2 hB
        have hm1 : IntKind.i64.wrap (((k + 1 : Nat) : Int) - 1) = (k : Int) := by rw [IntKind.wrap_i64]; omega
        have z1 : g < w0.heap.size := Nat.lt_of_lt_of_le hgl hBk.out.size
        have i1 : (0 : Int) ≤ (k : Int) := by omega
        have i2 : (k : Int) < (d : Int) := by omega
        have i3 : (0 : Int) ≤ (k : Int) + 1 := by omega
        have i5 : (k : Int) + 1 < (d : Int) := by omega
        have hm2 : IntKind.i64.wrap ((k : Int) + 1 - 1) = (k : Int) := by rw [IntKind.wrap_i64]; omega
        have hm4 : IntKind.i64.wrap (k : Int) = (k : Int) := by rw [IntKind.wrap_i64]; omega
        go_wp2
        go_region_held3 (fun w' => w'.cell? ⟨g, k, none⟩ = some (.slice (some ⟨g3, 0, none⟩) P.length c3) ∧ w'.cell? ⟨g, k + 1, none⟩ = some (.slice (some ⟨g2, 0, none⟩) L.length c2)) (first | exact ⟨hck2, hck⟩ | exact ⟨(hb.cell z1).trans hck2, (hb.cell z1).trans hck⟩) (first | (go_at_call 63; refine (HRC.out (some ⟨g3, 0, none⟩) A7 (some ⟨g2, 0, none⟩) c3 c7 c2 _ HS3.out (by have := HIT0.out; unfold cts at this; rw [HP.out] at this; exact this) HS4.out).mono ?_; rintro e w3 ⟨v3, rfl, hrow, hb⟩))
        have hcl : L.length = (cts wl (k + 1)).length := by rw [cts_len, HL.out]
        have hceq : (L.map fun v => wr (part nxL (pc nxL wl k) P v)) = cts wl (k + 1) := by unfold cts; rw [HL.out, ← HP.out]; rfl
        rw [hceq] at hrow
        obtain ⟨A8, c8', e8, hit8⟩ := it_own (by rw [← hcl]; exact hrow)
        rw [← hcl] at e8
        subst e8
        have HIT := Lib.hid hit8
        have HBY := Lib.hid (hBk.out.trans ((Below.drew (Below.refl w0.heap.size w0)).trans hb |>.mono hBk.out.size))
        rename_i hHeld
        clear hHeld hrow hb hceq hit8 hcl
        go_wp2
        go_roundw
        case rel =>
          exact ⟨k + 1, _, _, by omega, by go_num, by rw [HL.out], HIT.out, HBY.out⟩
        case measure => simp [intOf]; omega
      · obtain rfl : k = m := by omega
        have hgt : ¬ (((k + 1 : Nat) : Int) ≤ (k : Int)) := by omega
        have hgt2 : ¬ ((k : Int) + 1 ≤ (k : Int)) := by omega
        have hlenL : (lay nxL wl k).length ≤ 59049 := few_good (rising_nodup (lay_rising k)) fun v hv => (lay_good (steps_line _) HG.out k v hv).1
        have HE := Lib.hid (show cwN wl k = ((lay nxL wl k).map (pc nxL wl k)).sum from rfl)
        have HCT := Lib.hid (cts_at wl k)
        have hci0 := cts_len wl k
        generalize cts wl k = C at hit HCT hci0
        generalize pc nxL wl k = q at HCT HE
        generalize lay nxL wl k = L at hlenL HE HCT hci0 ⊢
        have HIT := Lib.hid hit
        have HBk := Lib.hid hB
        clear hit hB
        go_wp2
        go_loop [8, 10, 36] (fun sv _ t => ∃ (i : Nat) (S : Int), i ≤ L.length ∧ t = .int .i64 i ∧ sv = .int .i64 S ∧ Hid (S = wr (((L.take i).map q).sum))) (fun _ _ t => L.length - (intOf t).toNat)
        case atStart => exact ⟨0, 0, Nat.zero_le _, rfl, rfl, Lib.hid (by simp [wr_zero])⟩
        case round =>
          obtain ⟨i, S, hi, rfl, rfl, HS⟩ := hrel
          by_cases hlti : i < L.length
          · obtain ⟨g7, rfl, z7, c8⟩ := HIT.out i (by omega)
            have HV := Lib.hid (HCT.out i (by omega) hlti)
            have HT : Hid (((L.take (i + 1)).map q).sum = ((L.take i).map q).sum + q L[i]) := Lib.hid (by rw [List.take_succ_eq_append_getElem hlti, List.map_append, List.sum_append]; simp)
            generalize C[i] = bv at c8 HV
            generalize q L[i] = y at HV HT
            obtain ⟨K, hK⟩ : ∃ K, K = wr (((L.take i).map q).sum + y) := ⟨_, rfl⟩
            have hs1 : (S + bv + 9223372036854775808) % 18446744073709551616 - 9223372036854775808 = K := by rw [hK, HS.out, HV.out]; exact wr_add _ _
            have hs0 : IntKind.i64.wrap (S + bv) = K := by rw [IntKind.wrap_i64]; exact hs1
            have HK := Lib.hid hK
            have i1 : (0 : Int) ≤ (i : Int) := by omega
            have i2 : (i : Int) < (L.length : Int) := by omega
            clear hK
            go_wp2
            first
              | exact ⟨⟨i + 1, K, by omega, by go_num, rfl, Lib.hid (by rw [HK.out, HT.out])⟩, by simp [intOf]; omega⟩
              | (go_round
                 case rel => exact ⟨i + 1, K, by omega, by go_num, rfl, Lib.hid (by rw [HK.out, HT.out])⟩
                 case measure => simp [intOf]; omega)
          · obtain rfl : i = L.length := by omega
            have HF : Hid (S = wr (cwN wl k)) := Lib.hid (by rw [HS.out, List.take_length, HE.out])
            go_wp2
            go_ret
            exact ⟨by rw [HF.out]; rfl, HB1.out.trans (HBk.out.mono HB1.out.size)⟩
  · have hz : cwN wl m = 0 := cwN_none (lay_nil HD.out.2.1 m (by omega))
    have hge : (d : Int) ≤ (m : Int) := by omega
    rw [hz, wr_zero]
    go_enter Try.func39, Try.ntmps39
    go_wp2_with fail
    refine (reLayers_any _ d wl _ HG.out HD.out hd2).mono ?_
    rintro e w1 ⟨v1, rfl, ⟨g, c, vs, rfl, hgl, hn, hvl, hat, hcell⟩, hb1⟩
    clear hat hcell
    go_wp2
    go_ret
    exact ⟨rfl, hb1⟩

set_option maxHeartbeats 1000000 in
theorem sCountWords_yes (d : Nat) (wl : List UInt8) (m : Nat) (w : World) (h1 : oneB (str wl) = true) (hm : m ≤ 40) (hd : IsDep nxL wl d) (hd2 : d ≤ 60000) :
    Calls Try.prog 20 #[.string (str wl), .int .i64 m] w fun e w' => e = .returned (.tuple #[.int .i64 (wr (cwN wl m)), .bool true]) ∧ Below w.heap.size w w' := by
  have hr : reachB (str wl) = true := by unfold oneB at h1; rw [Bool.and_eq_true] at h1; exact h1.1
  have hs : (str wl).size ≤ maxLen := by have := (reach_good hr).2; rw [str_size]; unfold maxLen; omega
  have H2 : Hid (inR (m : Int) 0 40 = true) := Lib.hid (by simp [inR]; omega)
  have hO := Lib.hid h1
  have hR := Lib.hid hr
  have HD := Lib.hid hd
  clear h1 hr hd
  go_enter Try.func20, Try.ntmps20
  go_wp2_with fail
  refine (woOne_any _ _ hs).mono ?_; rintro e w' ⟨rfl, rfl⟩; rw [hO.out]
  go_wp2_with fail
  refine (l1In_any _ _ _ _).mono ?_; rintro e w' ⟨rfl, rfl⟩; rw [H2.out]
  go_wp2_with fail
  refine (woCount_any d wl m _ hR.out HD.out hd2 hm).mono ?_
  rintro e w1 ⟨rfl, hb1⟩
  go_wp2
  go_ret2
  exact ⟨rfl, hb1⟩

set_option maxHeartbeats 1000000 in
theorem walk_FnExactCountWordsOf (s : ByteArray) (hs : s.size ≤ maxLen) (mv : Int) (_ : (Lit.int .i64 mv).wf = true) (w : World) :
    Calls Try.prog 5 #[.string s, .int .i64 mv] w fun e w' => e = .returned (.bool true) ∧ Below w.heap.size w w' := by
  obtain ⟨wl, hwl⟩ : ∃ wl, s = str wl := ⟨byt s, (str_byt s).symm⟩
  subst hwl
  by_cases hbig : (1048576 : Int) < ((str wl).size : Int)
  · go_enter Try.func5, Try.ntmps5
    go_wp2
    go_ret
    exact ⟨rfl, Below.refl _ _⟩
  · have hx : ∃ x y, ∀ wx, (Calls Try.prog 20 #[.string (str wl), .int .i64 mv] wx fun e w' => e = .returned (.tuple #[.int .i64 x, .bool y]) ∧ Below wx.heap.size wx w') ∧
        (Calls Try.prog 21 #[.string (str wl), .int .i64 mv] wx fun e w' => e = .returned (.tuple #[.int .i64 x, .bool y]) ∧ Below wx.heap.size wx w') := by
      cases hc : cwB (str wl) mv
      · exact ⟨0, false, fun wx => ⟨(sCountWords_no _ _ wx hs hc).mono fun _ _ ⟨a, b⟩ => ⟨a, b ▸ Below.refl _ _⟩, (countWords_no _ _ wx hs hc).mono fun _ _ ⟨a, b⟩ => ⟨a, b ▸ Below.refl _ _⟩⟩⟩
      · unfold cwB at hc
        rw [Bool.and_eq_true] at hc
        obtain ⟨h1, h2⟩ := hc
        have h3 : 0 ≤ mv ∧ mv ≤ 40 := by simpa [inR] using h2
        obtain ⟨m, rfl⟩ := Int.eq_ofNat_of_zero_le h3.1
        have hr : reachB (str wl) = true := by unfold oneB at h1; rw [Bool.and_eq_true] at h1; exact h1.1
        obtain ⟨d, hd, hd2⟩ := dep_of hr
        exact ⟨_, true, fun wx => ⟨sCountWords_yes d wl m wx h1 (by omega) hd hd2, countWords_yes d wl m wx h1 (by omega) hd hd2⟩⟩
    obtain ⟨x, y, hx⟩ := hx
    have HX := Lib.hid hx
    clear hx
    go_enter Try.func5, Try.ntmps5
    go_wp2_with fail
    refine (HX.out _).1.mono ?_
    rintro e w1 ⟨rfl, hb1⟩
    go_wp2_with fail
    refine (HX.out _).2.mono ?_
    rintro e w2 ⟨rfl, hb2⟩
    go_wp2
    go_ret
    exact ⟨rfl, hb1.trans (hb2.mono hb1.size)⟩
end Go.Proofs.Ytoefeooldcbfiaa
