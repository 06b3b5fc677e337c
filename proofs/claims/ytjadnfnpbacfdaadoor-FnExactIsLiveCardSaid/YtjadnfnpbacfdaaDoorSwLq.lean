/- Contracts: a line's live lines; whether a line is live; how many lines are: the program's. -/
import Derived.Test.YtjadnfnpbacfdaaDoorSwZ
import Derived.Test.YtjadnfnpbacfdaaDoorSwRa
import Derived.Maps.OwnSet
namespace Go.Proofs.YtjadnfnpbacfdaaDoor
open Go.RowKit Go.Shelf Go.Maps

/-- The first line of as many of each. -/
def fsL (l : List UInt8) : List UInt8 := firstL (cnt 84 l) (cnt 46 l) (cnt 70 l)
/-- A line of few cells. -/
def lineB (s : ByteArray) : Bool := goodL s && decide (s.size ≤ 8)
theorem few_line {s : ByteArray} (h : goodL s = true) : few (cnt 84 (byt s)) (cnt 46 (byt s)) (cnt 70 (byt s)) = decide (s.size ≤ 8) := by
  obtain ⟨h1, h2, h3⟩ := (goodL_iff _).1 h
  have h4 := cnt_sum (byt s) h3
  have h5 : (byt s).length = s.size := by unfold byt; rfl
  rw [few_of ((three_iff _ _ _).2 (by omega))]
  by_cases h8 : s.size ≤ 8
  · rw [decide_eq_true h8, decide_eq_true (by omega)]
  · rw [decide_eq_false h8, decide_eq_false (by omega)]
theorem line_parts {l : List UInt8} (h : lineB (str l) = true) : goodL (str l) = true ∧ goodT l.length l ∧ l.length ≤ 8 ∧ few (cnt 84 l) (cnt 46 l) (cnt 70 l) = true := by
  unfold lineB at h
  rw [Bool.and_eq_true] at h
  have h2 := of_decide_eq_true h.2
  have h3 := few_line h.1
  rw [byt_str] at h3
  rw [str_size] at h2
  exact ⟨h.1, ⟨h.1, rfl, by omega⟩, h2, by rw [h3, str_size]; exact decide_eq_true h2⟩
theorem fs_first (l : List UInt8) : firstL (cnt 84 l : Int).toNat (cnt 46 l : Int).toNat (cnt 70 l : Int).toNat = fsL l := by simp [fsL]
theorem fs_good {l : List UInt8} (h : lineB (str l) = true) : goodT l.length (fsL l) := by
  obtain ⟨h1, h2, h3, h4⟩ := line_parts h
  have h5 := first_goodT h4
  rw [fs_first] at h5
  have h6 := cnt_sum l (by have := ((goodL_iff _).1 h1).2.2; rwa [byt_str] at this)
  rw [show ((cnt 84 l : Int) + (cnt 46 l : Int) + (cnt 70 l : Int)).toNat = l.length by omega] at h5
  exact h5
def LlYes (f : List UInt8) (w : World) (e : Ending) (w' : World) : Prop :=
  ∃ bm D, e = .returned (.tuple #[.map (some bm), .bool true]) ∧ w.heap.size ≤ bm ∧ w'.ownsMap Tryd.prog 53 iRw bm (swA f).length D ∧ LiveV D (swA f) ∧ Below w.heap.size w w'
set_option maxRecDepth 100000 in
set_option maxHeartbeats 4000000 in
theorem llOf_no (s : ByteArray) (w : World) (hs : s.size ≤ maxLen) (h : lineB s = false) :
    Calls Tryd.prog 60 #[.string s] w fun e w' => e = .returned (.tuple #[.map none, .bool false]) ∧ Below w.heap.size w w' := by
  have HC := Lib.hid (fun wx => countOf_any s wx hs)
  cases hg : goodL s
  · have HV : Hid (countsOr s = .tuple #[.int .i64 0, .int .i64 0, .int .i64 0, .bool false]) := Lib.hid (by unfold countsOr; rw [hg]; rfl)
    rw [HV.out] at HC
    clear hg h HV
    go_enter Tryd.func60, Tryd.ntmps60
    go_wp2_with fail
    refine (HC.out _).mono ?_
    rintro e w1 ⟨rfl, rfl⟩
    go_wp2_with fail
    go_ret2
    exact ⟨rfl, Below.refl _ _⟩
  · have HV : Hid (countsOr s = .tuple #[.int .i64 (cnt 84 (byt s)), .int .i64 (cnt 46 (byt s)), .int .i64 (cnt 70 (byt s)), .bool true]) := Lib.hid (by unfold countsOr; rw [hg]; rfl)
    rw [HV.out] at HC
    have hf : few (cnt 84 (byt s)) (cnt 46 (byt s)) (cnt 70 (byt s)) = false := by
      rw [few_line hg]
      unfold lineB at h
      rw [hg] at h
      simpa using h
    have HX := Lib.hid (fun wx => exchangeOf_no _ _ _ wx hf)
    clear hg h HV hf
    generalize cnt 84 (byt s) = ct at *
    generalize cnt 46 (byt s) = cg at *
    generalize cnt 70 (byt s) = cf at *
    go_enter Tryd.func60, Tryd.ntmps60
    go_wp2_with fail
    refine (HC.out _).mono ?_
    rintro e w1 ⟨rfl, rfl⟩
    go_wp2_with fail
    refine (HX.out _).mono ?_
    rintro e w2 ⟨rfl, hb2⟩
    have HB := Lib.hid hb2
    clear hb2
    go_wp2_with fail
    go_ret2
    exact ⟨rfl, HB.out.alloc HB.out.size _⟩
set_option maxRecDepth 100000 in
set_option maxHeartbeats 4000000 in
theorem llOf_yes (l : List UInt8) (w : World) (h : lineB (str l) = true) : Calls Tryd.prog 60 #[.string (str l)] w (LlYes (fsL l) w) := by
  obtain ⟨hg, _, h8, hf⟩ := line_parts h
  have HC := Lib.hid (fun wx => countOf_any (str l) wx (by rw [str_size]; unfold maxLen; omega))
  have HV : Hid (countsOr (str l) = .tuple #[.int .i64 (cnt 84 l), .int .i64 (cnt 46 l), .int .i64 (cnt 70 l), .bool true]) := Lib.hid (by unfold countsOr; rw [hg, byt_str]; rfl)
  rw [HV.out] at HC
  have HX := Lib.hid (fun wx => exchangeOf_yes _ _ _ wx hf)
  rw [fs_first] at HX
  clear hg h HV hf
  generalize fsL l = f at *
  generalize cnt 84 l = ct at *
  generalize cnt 46 l = cg at *
  generalize cnt 70 l = cf at *
  generalize str l = s at *
  go_enter Tryd.func60, Tryd.ntmps60
  go_wp2_with fail
  refine (HC.out _).mono ?_
  rintro e w1 ⟨rfl, rfl⟩
  go_wp2_with fail
  refine (HX.out _).mono ?_
  rintro e w2 ⟨bm, D, c0, c1, c2, c3, c4, c5, c6, c7, hc, rfl, hbm, hmap, hlv, hb2⟩
  have HM := Lib.hid hmap
  have HL := Lib.hid hlv
  have HB := Lib.hid hb2
  clear hc hmap hlv hb2
  generalize msL f = ms at *
  go_wp2_with fail
  go_ret2
  exact ⟨bm, D, rfl, hbm, HM.out.alloc _, HL.out, HB.out.alloc HB.out.size _⟩
/-- Is the line live? -/
def liveB (l : List UInt8) : Bool := decide (0 < lvN (swA (fsL l)) l)
set_option maxRecDepth 100000 in
set_option maxHeartbeats 4000000 in
theorem isLive_any (s : ByteArray) (w : World) (hs : s.size ≤ maxLen) :
    Calls Tryd.prog 31 #[.string s] w fun e w' => e = .returned (boolOr (lineB s) (liveB (byt s))) ∧ Below w.heap.size w w' := by
  cases h : lineB s
  · have HV := Lib.hid (boolOr_no false (liveB (byt s)) rfl)
    rw [HV.out]
    have HL := Lib.hid (fun wx => llOf_no s wx hs h)
    clear HV h
    go_enter Tryd.func31, Tryd.ntmps31
    go_wp2_with fail
    refine (HL.out _).mono ?_
    rintro e w1 ⟨rfl, hb1⟩
    have HB := Lib.hid hb1
    clear hb1
    go_wp2_with fail
    go_ret2
    exact ⟨rfl, HB.out⟩
  · obtain ⟨l, rfl⟩ : ∃ l, s = str l := ⟨byt s, (str_byt s).symm⟩
    rw [byt_str]
    have HV := Lib.hid (boolOr_yes true (liveB l) rfl)
    rw [HV.out]
    have HL := Lib.hid (fun wx => llOf_yes l wx h)
    obtain ⟨hg, ht, h8, hf⟩ := line_parts h
    have hgf := fs_good h
    have HO := Lib.hid (fun wx => swpOf_any (str l) wx (by rw [str_size]; exact h8))
    rw [byt_str] at HO
    have HLA := Lib.hid (fun x (hx : x ∈ swA (fsL l)) => G8.of (swA_good hgf x hx) h8)
    have HG8 := Lib.hid (G8.of ht h8)
    obtain ⟨c0, c1, c2, c3, c4, c5, c6, c7, hc⟩ := eight_of h8
    have HH := Lib.hid (fun b k D wx hm hv => liveHas_any l (swA (fsL l)) b k D wx HG8.out hm hv HLA.out)
    rw [hc.val] at HO HH
    unfold LlYes at HL
    have HDE : Hid (liveB l = decide (0 < lvN (swA (fsL l)) l)) := Lib.hid rfl
    rw [HDE.out]
    generalize hA : swA (fsL l) = A at *
    generalize decide (0 < lvN A l) = b at *
    clear hA hc h HV hg ht h8 hf hgf HLA HG8 HDE
    generalize str l = s at *
    go_enter Tryd.func31, Tryd.ntmps31
    go_wp2_with fail
    refine (HL.out _).mono ?_
    rintro e w1 ⟨bm, D, rfl, hbm, hmap, hlv, hb1⟩
    have HM := Lib.hid hmap
    have HV := Lib.hid hlv
    have HB := Lib.hid hb1
    clear hmap hlv hb1
    go_wp2_with fail
    refine (HO.out _).mono ?_
    rintro e w2 ⟨rfl, hb2⟩
    have HM2 := Lib.hid (HM.out.kept (grown_of_below hb2) (by simp))
    have HB2 := Lib.hid (HB.out.trans (hb2.mono HB.out.size))
    clear hb2
    go_wp2_with fail
    refine (HH.out _ _ _ _ HM2.out HV.out).mono ?_
    rintro e w3 ⟨rfl, hb3⟩
    have HB3 := Lib.hid (HB2.out.trans (hb3.mono HB2.out.size))
    clear hb3
    go_wp2_with fail
    go_ret2
    exact ⟨rfl, HB3.out⟩
/-- How many are live. -/
def clV (t g f : Int) : Value := intOr (few t g f) ((lvA (firstL t.toNat g.toNat f.toNat)).length : Int)
set_option maxRecDepth 100000 in
set_option maxHeartbeats 4000000 in
theorem countLive_any (t g f : Int) (w : World) :
    Calls Tryd.prog 33 #[.int .i64 t, .int .i64 g, .int .i64 f] w fun e w' => e = .returned (clV t g f) ∧ Below w.heap.size w w' := by
  cases hc : few t g f
  · have HX := Lib.hid (fun wx => exchangeOf_no t g f wx hc)
    have HV : Hid (clV t g f = .tuple #[.int .i64 0, .bool false]) := Lib.hid (by unfold clV; rw [hc]; rfl)
    rw [HV.out]
    clear hc
    go_enter Tryd.func33, Tryd.ntmps33
    go_wp2_with fail
    refine (HX.out _).mono ?_
    rintro e w1 ⟨rfl, hb1⟩
    have HB := Lib.hid hb1
    clear hb1
    go_wp2_with fail
    go_ret2
    exact ⟨rfl, HB.out.alloc HB.out.size _⟩
  · have HX := Lib.hid (fun wx => exchangeOf_yes t g f wx hc)
    have HV : Hid (clV t g f = .tuple #[.int .i64 ((lvA (firstL t.toNat g.toNat f.toNat)).length : Int), .bool true]) := Lib.hid (by unfold clV; rw [hc]; rfl)
    have hg := first_goodT hc
    have h8 : (t + g + f).toNat ≤ 8 := by have := (few_iff t g f).1 hc; omega
    have HSZ := Lib.hid (fun (W : World) b k (D : DataW Unit) (hm : W.ownsMap Tryd.prog 53 iRw b k D) hv => live_size hm hg h8 hv)
    rw [HV.out]
    clear hc hg h8 HV
    generalize firstL t.toNat g.toNat f.toNat = l at *
    generalize (lvA l).length = q at *
    go_enter Tryd.func33, Tryd.ntmps33
    go_wp2_with fail
    refine (HX.out _).mono ?_
    rintro e w1 ⟨bm, D, c0, c1, c2, c3, c4, c5, c6, c7, hc, rfl, hbm, hmap, hlv, hb1⟩
    have HM := Lib.hid hmap
    have HZ := Lib.hid (HSZ.out _ _ _ _ hmap hlv)
    have HB := Lib.hid hb1
    clear hmap hlv hb1 hc
    generalize msL l = ms at *
    go_wp2_with (first | (at_len; refine wpList_len_own _ rfl _ 55 rfl 53 3 Tryd.underlying55 iRw bm _ D rfl (HM.out.alloc _) ?_; rw [HZ.out]))
    go_ret2
    exact ⟨rfl, HB.out.alloc HB.out.size _⟩
end Go.Proofs.YtjadnfnpbacfdaaDoor
