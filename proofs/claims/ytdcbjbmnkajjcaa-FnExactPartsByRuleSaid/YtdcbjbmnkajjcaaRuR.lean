/- All lines with so many of each, in both sides' lists. -/
import Derived.Test.YtdcbjbmnkajjcaaRuQa
import Derived.Test.YtdcbjbmnkajjcaaReachB
import Derived.Test.YtdcbjbmnkajjcaaMany
import Derived.Test.YtdcbjbmnkajjcaaUnrI
import Derived.Test.YtdcbjbmnkajjcaaImp
import Derived.Test.YtdcbjbmnkajjcaaSl
import Derived.Test.YtdcbjbmnkajjcaaLns
namespace Go.Proofs.Ytdcbjbmnkajjcaa
open Go.RowKit

theorem many8 {t g f : Int} (h : thrR t g f = true) : manyI t g f = (manyK t g f : Int) ∧ manyK t g f ≤ 1000 := by
  have h0 : ((List.range 9).all fun t => (List.range 9).all fun g => (List.range 9).all fun f => decide (8 < t + g + f) || decide (manyI (t : Int) (g : Int) (f : Int) ≤ 1000)) = true := by decide +kernel
  obtain ⟨ht, hg, hf, _, hs⟩ := (thrR_iff t g f).1 h
  have h1 := (manyI_le t g f (by omega)).1
  unfold manyK
  obtain ⟨x, rfl⟩ := Int.eq_ofNat_of_zero_le ht
  obtain ⟨y, rfl⟩ := Int.eq_ofNat_of_zero_le hg
  obtain ⟨z, rfl⟩ := Int.eq_ofNat_of_zero_le hf
  rw [List.all_eq_true] at h0
  have a := h0 x (List.mem_range.2 (by omega))
  rw [List.all_eq_true] at a
  have b := a y (List.mem_range.2 (by omega))
  rw [List.all_eq_true] at b
  have c := b z (List.mem_range.2 (by omega))
  simp at c
  rcases c with c | c
  · omega
  · constructor
    · omega
    · omega
theorem lnk_T {t g f : Int} (h : thrR t g f = true) {k : Nat} (hk : k < manyK t g f) : goodT (lnk t g f k).length (lnk t g f k) := by
  obtain ⟨ht, hg, hf, h1, h8⟩ := (thrR_iff t g f).1 h
  have hm := (many8 h).1
  obtain ⟨ha, _⟩ := rkL_unr (t + g + f).toNat t g f k ht hg hf (by omega) (by omega) (by omega) (by omega)
  have hl : (lnk t g f k).length = (t + g + f).toNat := unr_len _ _ _ _ _
  refine ⟨(goodL_iff _).2 ⟨?_, ?_, ?_⟩, rfl, by omega⟩
  · rw [str_size]; omega
  · rw [str_size]; omega
  · rw [byt_str]; exact ha
theorem thrR_three {t g f : Int} (h : thrR t g f = true) : three t g f = true := by
  unfold thrR at h
  exact (Bool.and_eq_true_iff.1 h).1
theorem lnk_in {t g f : Int} (h : thrR t g f = true) {k : Nat} (hk : k < manyK t g f) : (three t g f && inR (k : Int) 0 (manyI t g f - 1)) = true := by
  have hm := (many8 h).1
  rw [thrR_three h, Bool.true_and]; unfold inR
  rw [Bool.and_eq_true, decide_eq_true_iff, decide_eq_true_iff]; omega
set_option maxRecDepth 100000 in
set_option maxHeartbeats 2000000 in
theorem ruLines_any (t g f : Int) (w : World) (hc : thrR t g f = true) :
    Calls Try.prog 28 #[.int .i64 t, .int .i64 g, .int .i64 f] w (LnPost w t g f) := by
  obtain ⟨i0, hi, hz0, hz1, hz2⟩ := info_parts Try.infoS
  have HI := Lib.hid hi
  have HZ0 := Lib.hid hz0
  have HZ1 := Lib.hid hz1
  have HZ2 := Lib.hid hz2
  clear hi hz0 hz1 hz2
  obtain ⟨hN, hN1⟩ := many8 hc
  obtain ⟨ht, hg, hf, h1, h8⟩ := (thrR_iff t g f).1 hc
  have HR : Hid (∀ k : Nat, k < manyK t g f → ∀ wx, Calls Try.prog 46 #[.int .i64 t, .int .i64 g, .int .i64 f, .int .i64 k] wx fun e w' => e = .returned (.tuple #[.string (str (lnk t g f k)), .bool true]) ∧ Below wx.heap.size wx w') := Lib.hid fun k hk wx => by
    have := sUnr_any t g f k wx
    rw [lnk_in hc hk] at this
    exact this
  have HM : Hid (∀ wx, Calls Try.prog 45 #[.int .i64 t, .int .i64 g, .int .i64 f] wx fun e w' => e = .returned (.int .i64 (manyK t g f)) ∧ wx = w') := Lib.hid fun wx => by
    have := liMany_any t g f wx (by omega) (by omega) (by omega) (by omega)
    rw [hN] at this
    exact this
  unfold LnPost
  have HT := Lib.hid (fun k => lns_txs t g f k)
  clear hN hc ht hg hf h1 h8
  generalize manyK t g f = N at HR HM hN1
  go_enter Try.func28, Try.ntmps28
  go_wp2
  go_loopw [7, 8] (fun v i wr => ∃ k : Nat, k ≤ N ∧ i = .int .i64 k ∧ wr.ownsRow w.heap.size 9 1 v k (txs (lnsTo t g f k)) ∧ Below w.heap.size w wr) (fun _ i _ => N - (intOf i).toNat)
  case atStart => exact ⟨0, Nat.zero_le _, rfl, World.ownsRow_nil _ _ _ _, Below.refl _ _⟩
  case round =>
    obtain ⟨k, hk, rfl, hown, hB⟩ := hrel
    go_wp2_with fail
    refine (HM.out _).mono ?_
    rintro e w' ⟨rfl, rfl⟩
    by_cases hlt : k < N
    · have i1 : (0 : Int) ≤ (k : Int) := by omega
      have i2 : (k : Int) < (N : Int) := by omega
      go_wp2_with fail
      refine (HR.out k hlt _).mono ?_
      rintro e w2 ⟨rfl, hb2⟩
      have hown2 := own_below hown hb2
      have hB2 := hB.trans (hb2.mono hB.size)
      clear hown hB hb2
      have H3 : k + 1 ≤ maxLen := by unfold maxLen; omega
      have H4 : (k + 1) * 16 ≤ 140737488355328 := by omega
      have H5 : w.heap.size ≤ (w2.alloc (Obj.cells #[Value.string (str (lnk t g f k))] 9)).heap.size := by have := hB2.size; simp; omega
      go_wp2_with (first | (at_builtin; refine wpList_append_own _ rfl _ _ 36 rfl w.heap.size 9 i0 (.string ByteArray.empty) 1 16 Try.underlying36 HI.out HZ0.out HZ1.out HZ2.out rfl (by decide) _ _ _ rfl (hown2.alloc _) ⟨w2.heap.size, 0, none⟩ 1 1 [.string (str (lnk t g f k))] rfl rfl (cell_one_new _ _ _) (fun u hu => by simp at hu; subst hu; rfl) H3 H4 H5 ?_; intro v' w3 hown' hgrow _))
      go_roundw
      case rel =>
        refine ⟨k + 1, by omega, by go_num, ?_, ((hB2.alloc hB2.size _).grown hgrow H5 fun j hj => (hown2.lt _ hj).1)⟩
        rw [HT.out]
        exact hown'
      case measure => simp [intOf]; omega
    · obtain rfl : k = N := by omega
      go_wp2
      go_ret
      exact ⟨_, rfl, hown, hB⟩
theorem allLines_any (t g f : Int) (w : World) (hc : thrR t g f = true) :
    Calls Try.prog 33 #[.int .i64 t, .int .i64 g, .int .i64 f] w (LnPost w t g f) :=
  allLinesG_any t g f w (thrR_three hc) (by have := many8 hc; omega)
end Go.Proofs.Ytdcbjbmnkajjcaa
