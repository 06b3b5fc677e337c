/- ExchangeWord: both sides, and the law's walk. -/
import Derived.Test.YtoefeooldcbfiaaWoZ
import Derived.Test.YtoefeooldcbfiaaWoA
namespace Go.Proofs.Ytoefeooldcbfiaa
open Go.RowKit Go.Maps

/-- A word for each exchange with one gap. -/
def exTab : List (Nat × Nat × List UInt8) := [
  (1, 1, [70, 84, 70]),
  (1, 2, [70, 84, 70, 70, 84]),
  (1, 3, [70, 84, 70, 70, 70, 84, 70]),
  (1, 4, [70, 84, 70, 70, 70, 84, 70, 70, 84]),
  (1, 5, [70, 84, 70, 70, 70, 84, 70, 70, 70, 84, 70]),
  (1, 6, [70, 84, 70, 70, 70, 84, 70, 70, 70, 84, 70, 70, 84]),
  (1, 7, [70, 84, 70, 70, 70, 84, 70, 70, 70, 84, 70, 70, 70, 84, 70]),
  (1, 8, [70, 84, 70, 70, 70, 84, 70, 70, 70, 84, 70, 70, 70, 84, 70, 70, 84]),
  (2, 1, [70, 84, 70, 84, 70]),
  (2, 2, [70, 84, 84, 70, 70, 84, 84, 70]),
  (2, 3, [70, 84, 84, 70, 70, 70, 84, 84, 70, 70, 84]),
  (2, 4, [70, 84, 84, 70, 70, 70, 84, 84, 70, 70, 70, 84, 84, 70]),
  (2, 5, [70, 84, 84, 70, 70, 70, 84, 84, 70, 70, 70, 70, 84, 84, 70, 70, 84]),
  (2, 6, [70, 84, 84, 70, 70, 70, 84, 84, 70, 70, 70, 70, 84, 84, 70, 70, 70, 84, 84, 70]),
  (2, 7, [70, 84, 84, 70, 70, 70, 84, 84, 70, 70, 70, 70, 84, 84, 70, 70, 70, 70, 84, 84, 70, 70, 84]),
  (3, 1, [70, 84, 70, 84, 70, 84, 70]),
  (3, 2, [70, 84, 84, 70, 70, 84, 84, 84, 70, 70, 84]),
  (3, 3, [70, 84, 84, 70, 70, 70, 84, 84, 84, 70, 70, 70, 84, 84, 70]),
  (3, 4, [70, 84, 84, 70, 70, 70, 84, 84, 84, 70, 70, 70, 70, 84, 84, 84, 70, 70, 84]),
  (3, 5, [70, 84, 84, 70, 70, 70, 84, 84, 84, 70, 70, 70, 70, 70, 84, 84, 84, 70, 70, 70, 84, 84, 70]),
  (3, 6, [70, 84, 84, 70, 70, 70, 84, 84, 84, 70, 70, 70, 70, 70, 84, 84, 84, 70, 70, 70, 70, 84, 84, 84, 70, 70, 84]),
  (4, 1, [70, 84, 70, 84, 70, 84, 70, 84, 70]),
  (4, 2, [70, 84, 84, 70, 70, 84, 84, 84, 84, 70, 70, 84, 84, 70]),
  (4, 3, [70, 84, 84, 70, 70, 70, 84, 84, 84, 84, 70, 70, 70, 84, 84, 84, 70, 70, 84]),
  (4, 4, [70, 84, 84, 70, 70, 70, 84, 84, 84, 84, 70, 70, 70, 70, 84, 84, 84, 84, 70, 70, 70, 84, 84, 70]),
  (4, 5, [70, 84, 84, 70, 70, 70, 84, 84, 84, 84, 70, 70, 70, 70, 70, 84, 84, 84, 84, 70, 70, 70, 70, 84, 84, 84, 70, 70, 84]),
  (5, 1, [70, 84, 70, 84, 70, 84, 70, 84, 70, 84, 70]),
  (5, 2, [70, 84, 84, 70, 70, 84, 84, 84, 84, 70, 70, 84, 84, 84, 70, 70, 84]),
  (5, 3, [70, 84, 84, 70, 70, 70, 84, 84, 84, 84, 70, 70, 70, 84, 84, 84, 84, 70, 70, 70, 84, 84, 70]),
  (5, 4, [70, 84, 84, 70, 70, 70, 84, 84, 84, 84, 70, 70, 70, 70, 84, 84, 84, 84, 84, 70, 70, 70, 70, 84, 84, 84, 70, 70, 84]),
  (6, 1, [70, 84, 70, 84, 70, 84, 70, 84, 70, 84, 70, 84, 70]),
  (6, 2, [70, 84, 84, 70, 70, 84, 84, 84, 84, 70, 70, 84, 84, 84, 84, 70, 70, 84, 84, 70]),
  (6, 3, [70, 84, 84, 70, 70, 70, 84, 84, 84, 84, 70, 70, 70, 84, 84, 84, 84, 84, 70, 70, 70, 84, 84, 84, 70, 70, 84]),
  (7, 1, [70, 84, 70, 84, 70, 84, 70, 84, 70, 84, 70, 84, 70, 84, 70]),
  (7, 2, [70, 84, 84, 70, 70, 84, 84, 84, 84, 70, 70, 84, 84, 84, 84, 70, 70, 84, 84, 84, 70, 70, 84]),
  (8, 1, [70, 84, 70, 84, 70, 84, 70, 84, 70, 84, 70, 84, 70, 84, 70, 84, 70])]
set_option maxRecDepth 100000 in
theorem exTab_ok : (exTab.all fun q => decide (runW sgW (firstL q.1 1 q.2.1) q.2.2 = some (lastL (firstL q.1 1 q.2.1)))) = true := by decide +kernel
theorem exTab_all : ∀ t, t < 9 → ∀ f, f < 9 → 1 ≤ t → 1 ≤ f → t + f ≤ 9 → (exTab.any fun q => q.1 == t && q.2.1 == f) = true := by decide +kernel
/-- The last line is reached from the first one. -/
theorem ex_lay {t f : Nat} (ht : 1 ≤ t) (hf : 1 ≤ f) (hs : t + f ≤ 9) : ∃ k, lastL (firstL t 1 f) ∈ lay nxL (firstL t 1 f) k := by
  have h := exTab_all t (by omega) f (by omega) ht hf hs
  rw [List.any_eq_true] at h
  obtain ⟨⟨a, b, u⟩, hm, he⟩ := h
  have he : (a == t && b == f) = true := he
  rw [Bool.and_eq_true, beq_iff_eq, beq_iff_eq] at he
  obtain ⟨rfl, rfl⟩ := he
  have h2 := exTab_ok
  rw [List.all_eq_true] at h2
  have h3 := h2 _ hm
  rw [decide_eq_true_iff] at h3
  exact ⟨u.length, run_lay u _ _ h3⟩

theorem first_all (t g f : Nat) : (firstL t g f).all isSign = true := by
  unfold firstL
  rw [List.all_append, List.all_append, List.all_replicate, List.all_replicate, List.all_replicate]
  simp [isSign]
theorem first_len (t g f : Nat) : (firstL t g f).length = t + g + f := by simp [firstL]; omega
theorem first_one (t f : Nat) : oneL (firstL t 1 f) := by
  unfold oneL firstL
  rw [cntW_app, cntW_app]
  simp [cnt]
theorem first_good {t f : Nat} (hs : t + f ≤ 9) : goodT (firstL t 1 f).length (firstL t 1 f) := by
  have hl := first_len t 1 f
  refine ⟨(goodL_iff _).2 ⟨by rw [str_size]; omega, by rw [str_size]; omega, by rw [byt_str]; exact first_all t 1 f⟩, rfl, by omega⟩
theorem one_of {s : List UInt8} {n : Nat} (hg : goodT n s) (h1 : oneL s) : oneB (str s) = true := by
  unfold oneB reachB
  rw [byt_str, hg.1, str_size]
  have := hg.2
  have h1 : cnt 46 s = 1 := h1
  simp [h1]; omega

set_option maxRecDepth 100000 in
set_option maxHeartbeats 2000000 in
theorem sEx_yes (T F k : Nat) (w : World) (hT : 1 ≤ T) (hF : 1 ≤ F) (hs : T + F ≤ 9) (hk : lastL (firstL T 1 F) ∈ lay nxL (firstL T 1 F) k) :
    Calls Try.prog 24 #[.int .i64 T, .int .i64 F] w fun e w' => e = .returned (.tuple #[.string (str (hdW (isV (lastL (firstL T 1 F))) k (firstL T 1 F))), .bool true]) ∧ Below w.heap.size w w' := by
  have H2 : Hid (twoB T F = true) := Lib.hid ((twoB_iff _ _).2 ⟨by omega, by omega, by omega⟩)
  have HG := Lib.hid (first_good hs)
  have H1 := Lib.hid (first_one T F)
  have HK := Lib.hid hk
  have hsz : (str (firstL T 1 F)).size ≤ 100 := by rw [str_size, first_len]; omega
  have hL : Hid (lastL (byt (str (firstL T 1 F))) = lastL (firstL T 1 F)) := Lib.hid (by rw [byt_str])
  clear hk
  go_enter Try.func24, Try.ntmps24
  go_wp2_with fail
  refine (woTwo_any _ _ _).mono ?_; rintro e w' ⟨rfl, rfl⟩; rw [H2.out]
  go_wp2_with fail
  refine (liFirst_any (T : Int) 1 (F : Int) _ (by omega) (by omega) (by omega)).mono ?_
  rintro e w' ⟨rfl, rfl⟩
  rw [show firstL (T : Int).toNat (1 : Int).toNat (F : Int).toNat = firstL T 1 F from rfl]
  go_wp2_with fail
  refine (liLast_any _ _ (by omega)).mono ?_
  rintro e w' ⟨rfl, rfl⟩
  rw [hL.out]
  go_wp2_with fail
  refine (woFirst_any _ (firstL T 1 F) (lastL (firstL T 1 F)) k _ HG.out H1.out HK.out).mono ?_
  rintro e w2 ⟨rfl, hb2⟩
  go_wp2
  go_ret2
  exact ⟨rfl, hb2⟩
set_option maxRecDepth 100000 in
set_option maxHeartbeats 2000000 in
theorem ex_yes (T F k : Nat) (w : World) (hT : 1 ≤ T) (hF : 1 ≤ F) (hs : T + F ≤ 9) (hk : lastL (firstL T 1 F) ∈ lay nxL (firstL T 1 F) k) :
    Calls Try.prog 25 #[.int .i64 T, .int .i64 F] w fun e w' => e = .returned (.tuple #[.string (str (hdW (isV (lastL (firstL T 1 F))) k (firstL T 1 F))), .bool true]) ∧ Below w.heap.size w w' := by
  have H2 : Hid (twoB T F = true) := Lib.hid ((twoB_iff _ _).2 ⟨by omega, by omega, by omega⟩)
  have H3 : Hid (three T 1 F = true) := Lib.hid ((three_iff _ _ _).2 ⟨by omega, by omega, by omega, by omega⟩)
  have HG := Lib.hid (first_good hs)
  have H1 := Lib.hid (first_one T F)
  have HK := Lib.hid hk
  have hsz : (str (firstL T 1 F)).size ≤ maxLen := by rw [str_size, first_len]; unfold maxLen; omega
  have hL : Hid (lastL (byt (str (firstL T 1 F))) = lastL (firstL T 1 F)) := Lib.hid (by rw [byt_str])
  have hb := Lib.hid (one_of HG.out H1.out)
  have hb2 := Lib.hid (one_of (lay_good (steps_line _) HG.out k _ HK.out).1 (lay_one H1.out k _ HK.out))
  clear hk
  go_enter Try.func25, Try.ntmps25
  go_wp2_with fail
  refine (areExchanged_any _ _ _ (by omega)).mono ?_; rintro e w' ⟨rfl, rfl⟩; rw [H2.out]
  go_wp2_with fail
  refine (firstLine_any (T : Int) 1 (F : Int) _).mono ?_
  rintro e w1 ⟨rfl, hb1⟩
  rw [strOr_yes _ _ H3.out, show firstL (T : Int).toNat (1 : Int).toNat (F : Int).toNat = firstL T 1 F from rfl]
  have HB1 := Lib.hid hb1
  clear hb1
  go_wp2_with fail
  refine (lastLine_any _ _ hsz).mono ?_
  rintro e w2 ⟨rfl, hb2'⟩
  rw [strOr_yes _ _ HG.out.1, hL.out]
  have HB2 := Lib.hid (HB1.out.trans (hb2'.mono HB1.out.size))
  clear hb2'
  go_wp2_with fail
  refine (between_yes (firstL T 1 F) (lastL (firstL T 1 F)) _ hb.out hb2.out).mono ?_
  rintro e w3 ⟨x, y, rfl, hbw, hb3⟩
  obtain ⟨rfl, rfl⟩ := BwV.one HG.out hbw (.inl ⟨k, HK.out, rfl, rfl⟩)
  have HB3 := Lib.hid (HB2.out.trans (hb3.mono HB2.out.size))
  clear hbw hb3
  go_wp2
  go_ret2
  exact ⟨rfl, HB3.out⟩
set_option maxHeartbeats 1000000 in
theorem sEx_no (t f : Int) (w : World) (h : twoB t f = false) : Calls Try.prog 24 #[.int .i64 t, .int .i64 f] w fun e w' => e = .returned (.tuple #[.string (str []), .bool false]) ∧ Below w.heap.size w w' := by
  have H2 := Lib.hid h
  clear h
  go_enter Try.func24, Try.ntmps24
  go_wp2_with fail
  refine (woTwo_any _ _ _).mono ?_; rintro e w' ⟨rfl, rfl⟩; rw [H2.out]
  go_wp2
  go_ret2
  exact ⟨rfl, Below.refl _ _⟩
set_option maxHeartbeats 1000000 in
theorem ex_no (t f : Int) (w : World) (hf : f ≤ 9223372036854775807) (h : twoB t f = false) : Calls Try.prog 25 #[.int .i64 t, .int .i64 f] w fun e w' => e = .returned (.tuple #[.string (str []), .bool false]) ∧ Below w.heap.size w w' := by
  have H2 := Lib.hid h
  clear h
  go_enter Try.func25, Try.ntmps25
  go_wp2_with fail
  refine (areExchanged_any _ _ _ hf).mono ?_; rintro e w' ⟨rfl, rfl⟩; rw [H2.out]
  go_wp2
  go_ret2
  exact ⟨rfl, Below.refl _ _⟩
theorem ex_both (t f : Int) (hf : f ≤ 9223372036854775807) : ∃ (x : ByteArray) (y : Bool), (∀ wx, Calls Try.prog 24 #[.int .i64 t, .int .i64 f] wx fun e w' => e = .returned (.tuple #[.string x, .bool y]) ∧ Below wx.heap.size wx w') ∧ ∀ wx, Calls Try.prog 25 #[.int .i64 t, .int .i64 f] wx fun e w' => e = .returned (.tuple #[.string x, .bool y]) ∧ Below wx.heap.size wx w' := by
  cases h : twoB t f
  · exact ⟨_, _, fun wx => sEx_no t f wx h, fun wx => ex_no t f wx hf h⟩
  · obtain ⟨h1, h2, h3⟩ := (twoB_iff t f).1 h
    obtain ⟨T, rfl⟩ := Int.eq_ofNat_of_zero_le (show 0 ≤ t by omega)
    obtain ⟨F, rfl⟩ := Int.eq_ofNat_of_zero_le (show 0 ≤ f by omega)
    obtain ⟨k, hk⟩ := ex_lay (t := T) (f := F) (by omega) (by omega) (by omega)
    exact ⟨_, _, fun wx => sEx_yes T F k wx (by omega) (by omega) (by omega) hk, fun wx => ex_yes T F k wx (by omega) (by omega) (by omega) hk⟩

theorem walk_FnExactExchangeWord (t : Int) (_ : (Lit.int .i64 t).wf = true) (f : Int) (HF : (Lit.int .i64 f).wf = true) (w : World) :
    Calls Try.prog 7 #[.int .i64 t, .int .i64 f] w fun e w' => e = .returned (.bool true) ∧ Below w.heap.size w w' := by
  have hf : f ≤ 9223372036854775807 := by
    unfold Lit.wf at HF
    rw [Bool.and_eq_true, decide_eq_true_iff, decide_eq_true_iff] at HF
    exact HF.2
  obtain ⟨x, y, hS, hM⟩ := ex_both t f hf
  have HS := Lib.hid hS
  have HM := Lib.hid hM
  clear hS hM
  go_enter Try.func7, Try.ntmps7
  go_wp2_with fail
  refine (HS.out _).mono ?_
  rintro e w1 ⟨rfl, hb1⟩
  go_wp2_with fail
  refine (HM.out _).mono ?_
  rintro e w2 ⟨rfl, hb2⟩
  go_wp2
  go_ret
  exact ⟨rfl, hb1.trans (hb2.mono hb1.size)⟩
end Go.Proofs.Ytoefeooldcbfiaa
