/- AllWordsOf: both sides, and the law's walk. -/
import Derived.Test.YtoefeooldcbfiaaWoV
import Derived.Test.YtoefeooldcbfiaaAft
import Derived.Test.YtoefeooldcbfiaaLs
import Derived.Test.YtoefeooldcbfiaaWoO
namespace Go.Proofs.Ytoefeooldcbfiaa
open Go.RowKit Go.Maps

theorem woAll_any (n : Nat) : ∀ m : Nat, m ≤ 40 → ∀ (x : List UInt8) (w : World), goodT n x →
    Calls Try.prog 40 #[.string (str x), .int .i64 m] w fun e w' => ∃ v, e = .returned v ∧ w'.ownsRow w.heap.size 9 1 v (wl sgW allP m x).length (txs (wl sgW allP m x)) ∧ Below w.heap.size w w'
  | 0, _, x, w, _ => by
    have hz : (((0 : Nat) : Int) == 0) = true := rfl
    go_enter Try.func40, Try.ntmps40
    go_wp2
    go_ret
    refine ⟨_, rfl, ?_, (Below.refl _ _).alloc (Nat.le_refl _) _⟩
    exact one_made w (.string (str [])) _ _ (Nat.le_refl _)
  | m + 1, hm, x, w, hx => woAll_step n m (m + 1) x w hx (by omega) (by omega) hm fun x wx hx => by
    have e : ((m + 1 : Nat) : Int) - 1 = (m : Int) := by omega
    rw [e]
    exact woAll_any n m (by omega) x wx hx

set_option maxRecDepth 100000 in
set_option maxHeartbeats 1000000 in
theorem sAll_no (s : ByteArray) (mv : Int) (w : World) (hs : s.size ≤ maxLen) (hc : cwB s mv = false) :
    Calls Try.prog 15 #[.string s, .int .i64 mv] w (LsPost [] false w) := by
  cases h1 : oneB s
  · have hC := Lib.hid h1
    clear h1 hc
    go_enter Try.func15, Try.ntmps15
    go_wp2_with (go_at_call 37; refine (woOne_any _ _ hs).mono ?_; rintro e w' ⟨rfl, rfl⟩; rw [hC.out])
    go_ret2
    exact lsNo _
  · have hC := Lib.hid h1
    have h2 : inR mv 0 40 = false := by
      unfold cwB at hc
      rw [h1] at hc
      exact hc
    have H2 := Lib.hid h2
    clear h1 h2 hc
    go_enter Try.func15, Try.ntmps15
    go_wp2_with fail
    refine (woOne_any _ _ hs).mono ?_; rintro e w' ⟨rfl, rfl⟩; rw [hC.out]
    go_wp2_with fail
    refine (l1In_any _ _ _ _).mono ?_; rintro e w' ⟨rfl, rfl⟩; rw [H2.out]
    go_wp2
    go_ret2
    exact lsNo _
set_option maxRecDepth 100000 in
set_option maxHeartbeats 1000000 in
theorem iAll_no (s : ByteArray) (mv : Int) (w : World) (hs : s.size ≤ maxLen) (hc : cwB s mv = false) :
    Calls Try.prog 16 #[.string s, .int .i64 mv] w (RsPost [] false w) := by
  have HC := Lib.hid hc
  clear hc
  go_enter Try.func16, Try.ntmps16
  go_wp2_with fail
  refine (countWords_no _ _ _ hs HC.out).mono ?_; rintro e w' ⟨rfl, rfl⟩
  go_wp2
  go_ret2
  exact ⟨_, rfl, World.ownsRow_nil _ _ _ _, Below.refl _ _⟩
set_option maxRecDepth 100000 in
set_option maxHeartbeats 1000000 in
theorem sAll_many (d : Nat) (xl : List UInt8) (m c : Nat) (w : World) (h1 : oneB (str xl) = true) (hm : m ≤ 40) (hd : IsDep nxL xl d) (hd2 : d ≤ 60000) (hc : cwN xl m = c) (h300 : 300 < c) :
    Calls Try.prog 15 #[.string (str xl), .int .i64 m] w (LsPost [] false w) := by
  obtain ⟨r1, g1, _⟩ := one_parts h1
  have hs : (str xl).size ≤ maxLen := by have := g1.2; rw [str_size]; unfold maxLen; omega
  have HW : Hid (wr (cwN xl m) = (c : Int)) := Lib.hid (by rw [wr_small _ (cw_small g1 m), hc])
  have H2 : Hid (inR (m : Int) 0 40 = true) := Lib.hid (by simp [inR]; omega)
  have hgt : (300 : Int) < (c : Int) := by omega
  have hO := Lib.hid h1
  have hR := Lib.hid r1
  have HD := Lib.hid hd
  clear h1 r1 g1 hd hc h300
  go_enter Try.func15, Try.ntmps15
  go_wp2_with fail
  refine (woOne_any _ _ hs).mono ?_; rintro e w' ⟨rfl, rfl⟩; rw [hO.out]
  go_wp2_with fail
  refine (l1In_any _ _ _ _).mono ?_; rintro e w' ⟨rfl, rfl⟩; rw [H2.out]
  go_wp2_with fail
  refine (woCount_any d xl m _ hR.out HD.out hd2 hm).mono ?_
  rintro e w1 ⟨rfl, hb1⟩
  rw [HW.out]
  go_wp2
  go_ret2
  exact ⟨none, 0, rfl, fun q hq => by simp at hq, hb1⟩
set_option maxRecDepth 100000 in
set_option maxHeartbeats 1000000 in
theorem iAll_many (d : Nat) (xl : List UInt8) (m c : Nat) (w : World) (h1 : oneB (str xl) = true) (hm : m ≤ 40) (hd : IsDep nxL xl d) (hd2 : d ≤ 60000) (hc : cwN xl m = c) (h300 : 300 < c) :
    Calls Try.prog 16 #[.string (str xl), .int .i64 m] w (RsPost [] false w) := by
  obtain ⟨_, g1, _⟩ := one_parts h1
  have HW : Hid (wr (cwN xl m) = (c : Int)) := Lib.hid (by rw [wr_small _ (cw_small g1 m), hc])
  have hgt : (300 : Int) < (c : Int) := by omega
  have hO := Lib.hid h1
  have HD := Lib.hid hd
  clear h1 g1 hd hc h300
  go_enter Try.func16, Try.ntmps16
  go_wp2_with fail
  refine (countWords_yes d xl m _ hO.out hm HD.out hd2).mono ?_
  rintro e w1 ⟨rfl, hb1⟩
  rw [HW.out]
  go_wp2
  go_ret2
  exact ⟨_, rfl, World.ownsRow_nil _ _ _ _, hb1⟩
set_option maxRecDepth 100000 in
set_option maxHeartbeats 1000000 in
theorem sAll_yes (d : Nat) (xl : List UInt8) (m c : Nat) (w : World) (h1 : oneB (str xl) = true) (hm : m ≤ 40) (hd : IsDep nxL xl d) (hd2 : d ≤ 60000) (hc : cwN xl m = c) (h300 : ¬ 300 < c) :
    Calls Try.prog 15 #[.string (str xl), .int .i64 m] w (LsPost (wl sgW allP m xl) true w) := by
  obtain ⟨r1, g1, _⟩ := one_parts h1
  have hs : (str xl).size ≤ maxLen := by have := g1.2; rw [str_size]; unfold maxLen; omega
  have HW : Hid (wr (cwN xl m) = (c : Int)) := Lib.hid (by rw [wr_small _ (cw_small g1 m), hc])
  have H2 : Hid (inR (m : Int) 0 40 = true) := Lib.hid (by simp [inR]; omega)
  have hle : (c : Int) ≤ 300 := by omega
  have hdec : decide ((300 : Int) < (c : Int)) = false := by simp; omega
  have hO := Lib.hid h1
  have hR := Lib.hid r1
  have HG := Lib.hid g1
  have HD := Lib.hid hd
  clear h1 r1 g1 hd hc h300
  go_enter Try.func15, Try.ntmps15
  go_wp2_with fail
  refine (woOne_any _ _ hs).mono ?_; rintro e w' ⟨rfl, rfl⟩; rw [hO.out]
  go_wp2_with fail
  refine (l1In_any _ _ _ _).mono ?_; rintro e w' ⟨rfl, rfl⟩; rw [H2.out]
  go_wp2_with fail
  refine (woCount_any d xl m _ hR.out HD.out hd2 hm).mono ?_
  rintro e w1 ⟨rfl, hb1⟩
  rw [HW.out]
  have HB1 := Lib.hid hb1
  clear hb1
  go_wp2_with fail
  refine (woAll_any xl.length m hm xl _ HG.out).mono ?_
  rintro e w2 ⟨v2, rfl, ho2, hb2⟩
  obtain ⟨A2, cap2, rfl, _, _, at2, _⟩ := st_own ho2
  have AT2 := Lib.hid at2
  have HB2 := Lib.hid (HB1.out.trans (hb2.mono HB1.out.size))
  clear ho2 hb2 at2
  go_wp2
  go_ret2
  exact ⟨A2, cap2, rfl, AT2.out, HB2.out⟩
set_option maxRecDepth 100000 in
set_option maxHeartbeats 1000000 in
theorem iAll_yes (d : Nat) (xl : List UInt8) (m c : Nat) (w : World) (h1 : oneB (str xl) = true) (hm : m ≤ 40) (hd : IsDep nxL xl d) (hd2 : d ≤ 60000) (hc : cwN xl m = c) (h300 : ¬ 300 < c) :
    Calls Try.prog 16 #[.string (str xl), .int .i64 m] w (RsPost (wl sgW allP m xl) true w) := by
  obtain ⟨r1, g1, _⟩ := one_parts h1
  have HW : Hid (wr (cwN xl m) = (c : Int)) := Lib.hid (by rw [wr_small _ (cw_small g1 m), hc])
  have hle : (c : Int) ≤ 300 := by omega
  have hdec : decide ((300 : Int) < (c : Int)) = false := by simp; omega
  have HAL := Lib.hid (all_ends g1 hd m)
  have hsub : ∀ e ∈ aftL xl d (m : Int), e ∈ lay nxL xl m := fun e he => by
    unfold aftL at he
    rw [Int.toNat_natCast] at he
    split at he
    · exact he
    · cases he
  have HEG : Hid (∀ e ∈ aftL xl d (m : Int), goodT xl.length e) := Lib.hid fun e he => (lay_good (steps_line _) g1 m e (hsub e he)).1
  have hlen : (aftL xl d (m : Int)).length ≤ 60000 := by
    have := few_good (rising_nodup (aftL_rising xl d (m : Int))) HEG.out
    omega
  have hO := Lib.hid h1
  have hR := Lib.hid r1
  have HG := Lib.hid g1
  have HD := Lib.hid hd
  clear h1 r1 g1 hd hc h300 hsub
  go_enter Try.func16, Try.ntmps16
  go_wp2_with fail
  refine (countWords_yes d xl m _ hO.out hm HD.out hd2).mono ?_
  rintro e w1 ⟨rfl, hb1⟩
  rw [HW.out]
  have HB1 := Lib.hid hb1
  clear hb1
  go_wp2_with fail
  refine (after_yes d xl (m : Int) _ hR.out HD.out hd2 (by omega) (by omega)).mono ?_
  rintro e w2 ⟨v2, rfl, ho2, hb2⟩
  obtain ⟨A2, cap2, rfl, _, _, at2, _⟩ := st_own ho2
  have AT2 := Lib.hid at2
  have HB2 := Lib.hid (HB1.out.trans (hb2.mono HB1.out.size))
  clear ho2 hb2 at2
  go_wp2_with fail
  refine (wordsTo_any xl.length (aftL xl d (m : Int)) A2 cap2 xl m _ AT2.out HEG.out hlen HG.out hm).mono ?_
  rintro e w3 ⟨v3, rfl, ho3, hb3⟩
  rw [HAL.out] at ho3
  have HO3 := Lib.hid (own_base ho3 HB2.out.size)
  have HB3 := Lib.hid (HB2.out.trans (hb3.mono HB2.out.size))
  clear ho3 hb3
  go_wp2
  go_ret2
  exact ⟨v3, rfl, HO3.out, HB3.out⟩

set_option maxRecDepth 100000 in
set_option maxHeartbeats 2000000 in
theorem twin_FnExactAllWordsOf (s : ByteArray) (mv : Int) (l : List (List UInt8)) (c : Bool) (w : World) (hsmall : ¬ (1048576 : Int) < (s.size : Int)) (hl : l.length ≤ 60000)
    (hS : ∀ wx, Calls Try.prog 15 #[.string s, .int .i64 mv] wx (LsPost l c wx)) (hI : ∀ wx, Calls Try.prog 16 #[.string s, .int .i64 mv] wx (RsPost l c wx)) :
    Calls Try.prog 4 #[.string s, .int .i64 mv] w fun e w' => e = .returned (.bool true) ∧ Below w.heap.size w w' := by
  have HS := Lib.hid hS
  have HI := Lib.hid hI
  clear hS hI
  go_enter Try.func4, Try.ntmps4
  go_wp2_with fail
  refine (HS.out _).mono ?_
  rintro e w1 ⟨A1, cap1, rfl, at1, hb1⟩
  have AT1 := Lib.hid at1
  have HB1 := Lib.hid hb1
  clear at1 hb1
  go_wp2_with fail
  refine (HI.out _).mono ?_
  rintro e w2 ⟨v2, rfl, ho2, hb2⟩
  obtain ⟨A2, cap2, rfl, _, _, at2, _⟩ := st_own ho2
  have AT2 := Lib.hid at2
  have HO2 := Lib.hid ho2
  have HB2 := Lib.hid hb2
  clear at2 ho2 hb2
  go_wp2_with fail
  refine (eqStringS_same l A2 A1 cap2 cap1 _ AT2.out (AT1.out.below HB2.out) (by omega)).mono ?_
  rintro e w3 ⟨rfl, hb3⟩
  have HO3 := Lib.hid (own_below HO2.out hb3)
  have HB3 := Lib.hid (HB2.out.trans (hb3.mono HB2.out.size))
  clear hb3 AT2 HO2
  go_wp2_with fail
  refine (markStringS_any l.length 1 w1.heap.size l _ _ rfl HO3.out (by omega) (by omega) (by omega)).mono ?_
  rintro e w4 ⟨rfl, ho4, hb4, _⟩
  have HO4 := Lib.hid ho4
  have HB4 := Lib.hid (HB3.out.trans hb4)
  clear ho4 hb4 HO3
  go_wp2_with fail
  refine (heldStringS_any l.length 1 w1.heap.size _ _ HO4.out (by omega) (by omega) (by omega)).mono ?_
  rintro e w5 ⟨rfl, hb5⟩
  have HO5 := Lib.hid (own_below HO4.out hb5)
  have HB5 := Lib.hid (HB4.out.trans (hb5.mono HB4.out.size))
  clear hb5 HO4
  go_wp2_with fail
  refine (HI.out _).mono ?_
  rintro e w6 ⟨v6, rfl, ho6, hb6⟩
  obtain ⟨A6, cap6, rfl, _, _, at6, _⟩ := st_own ho6
  have AT6 := Lib.hid at6
  have HO6 := Lib.hid (own_below HO5.out hb6)
  have HB6 := Lib.hid (HB5.out.trans (hb6.mono HB5.out.size))
  clear at6 ho6 hb6 HO5
  go_wp2_with fail
  refine (eqStringS_same l A6 A1 cap6 cap1 _ AT6.out (AT1.out.below HB6.out) (by omega)).mono ?_
  rintro e w7 ⟨rfl, hb7⟩
  have HO7 := Lib.hid (own_below HO6.out hb7)
  have HB7 := Lib.hid (HB6.out.trans (hb7.mono HB6.out.size))
  clear hb7 HO6
  go_wp2_with fail
  refine (heldStringS_any l.length 1 w1.heap.size _ _ HO7.out (by omega) (by omega) (by omega)).mono ?_
  rintro e w8 ⟨rfl, hb8⟩
  have HB8 := Lib.hid (HB7.out.trans (hb8.mono HB7.out.size))
  clear hb8
  go_wp2
  go_ret
  exact ⟨rfl, HB1.out.trans (HB8.out.mono HB1.out.size)⟩

set_option maxRecDepth 100000 in
set_option maxHeartbeats 1000000 in
theorem walk_FnExactAllWordsOf (s : ByteArray) (hs : s.size ≤ maxLen) (mv : Int) (_ : (Lit.int .i64 mv).wf = true) (w : World) :
    Calls Try.prog 4 #[.string s, .int .i64 mv] w fun e w' => e = .returned (.bool true) ∧ Below w.heap.size w w' := by
  obtain ⟨xl, hxl⟩ : ∃ xl, s = str xl := ⟨byt s, (str_byt s).symm⟩
  subst hxl
  by_cases hbig : (1048576 : Int) < ((str xl).size : Int)
  · go_enter Try.func4, Try.ntmps4
    go_wp2
    go_ret
    exact ⟨rfl, Below.refl _ _⟩
  · cases hc : cwB (str xl) mv
    · exact twin_FnExactAllWordsOf _ mv [] false w hbig (by simp) (fun wx => sAll_no _ mv wx hs hc) (fun wx => iAll_no _ mv wx hs hc)
    · unfold cwB at hc
      rw [Bool.and_eq_true] at hc
      obtain ⟨h1, h2⟩ := hc
      have h3 : 0 ≤ mv ∧ mv ≤ 40 := by simpa [inR] using h2
      obtain ⟨m, rfl⟩ := Int.eq_ofNat_of_zero_le h3.1
      have hm : m ≤ 40 := by omega
      obtain ⟨d, hd, hd2⟩ := dep_of (one_parts h1).1
      by_cases h300 : 300 < cwN xl m
      · exact twin_FnExactAllWordsOf _ m [] false w hbig (by simp) (fun wx => sAll_many d xl m _ wx h1 hm hd hd2 rfl h300) (fun wx => iAll_many d xl m _ wx h1 hm hd hd2 rfl h300)
      · exact twin_FnExactAllWordsOf _ m (wl sgW allP m xl) true w hbig (by have := all_le xl m; omega) (fun wx => sAll_yes d xl m _ wx h1 hm hd hd2 rfl h300) (fun wx => iAll_yes d xl m _ wx h1 hm hd hd2 rfl h300)
end Go.Proofs.Ytoefeooldcbfiaa
