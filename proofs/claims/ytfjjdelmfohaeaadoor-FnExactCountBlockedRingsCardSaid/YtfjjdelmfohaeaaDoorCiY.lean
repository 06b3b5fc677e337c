/- Blocked rings counted, both sides; the law's walk. -/
import Derived.Test.YtfjjdelmfohaeaaDoorCiU
import Derived.Test.YtfjjdelmfohaeaaDoorCiR
import Derived.Test.YtfjjdelmfohaeaaDoorCiL
namespace Go.Proofs.YtfjjdelmfohaeaaDoor
open Go.RowKit

set_option maxHeartbeats 400000 in
theorem sCountBlocked_any (t g f : Int) (w : World) :
    Calls Tryd.prog 43 #[.int .i64 t, .int .i64 g, .int .i64 f] w fun e w' => e = .returned (intOr (thrC t g f) (nK t g f)) ∧ Below w.heap.size w w' := by
  cases hc : thrC t g f
  · have hC := Lib.hid hc
    clear hc
    go_enter Tryd.func43, Tryd.ntmps43
    go_wp2_with fail
    refine (ciNumbers_any _ _ _ _).mono ?_; rintro e w1 ⟨rfl, hb1⟩; rw [hC.out]
    go_wp2
    go_ret2
    exact ⟨rfl, hb1⟩
  · have hC := Lib.hid hc
    have HN := Lib.hid (fun wx => sCnt_any t g f wx hc)
    clear hc
    go_enter Tryd.func43, Tryd.ntmps43
    go_wp2_with fail
    refine (ciNumbers_any _ _ _ _).mono ?_; rintro e w1 ⟨rfl, hb1⟩; rw [hC.out]
    go_wp2_with fail
    refine (HN.out _).mono ?_; rintro e w2 ⟨rfl, hb2⟩
    go_wp2
    go_ret2
    exact ⟨rfl, hb1.trans (hb2.mono hb1.size)⟩

theorem lr_ring {t g f : Int} (h : thrC t g f = true) : ∀ x ∈ lrL t g f, ringB (str x) = true := fun x hx => by
  unfold lrL keepL at hx
  have hx := (List.mem_filter.1 hx).1
  unfold lnsTo at hx
  obtain ⟨k, hk, rfl⟩ := List.mem_map.1 hx
  exact lnk_ring h (List.mem_range.1 hk)
theorem blk_next (L : List (List UInt8)) (k : Nat) (h : k < L.length) : blkL (L.take (k + 1)) = blkL (L.take k) + if rgTo (str L[k]) L[k].length = [] then 1 else 0 := by
  rw [List.take_succ_eq_append_getElem h]
  unfold blkL
  rw [List.filter_append, List.length_append]
  congr 1
  by_cases e : rgTo (str L[k]) L[k].length = [] <;> simp [e]
theorem blk_le (L : List (List UInt8)) : blkL L ≤ L.length := List.length_filter_le _ _
theorem blk_val (x : List UInt8) (hr : ringB (str x) = true) : (ringB (str x) && decide ((rgOr (str x)).length = 0)) = decide (rgTo (str x) x.length = []) := by
  unfold rgOr
  rw [hr, Bool.true_and, if_pos rfl, str_size, decide_eq_decide]
  exact List.length_eq_zero_iff

set_option maxHeartbeats 1000000 in
theorem countBlocked_any (t g f : Int) (w : World) :
    Calls Tryd.prog 44 #[.int .i64 t, .int .i64 g, .int .i64 f] w fun e w' => e = .returned (intOr (thrC t g f) (nK t g f)) ∧ Below w.heap.size w w' := by
  cases hc : thrC t g f
  · have HN := Lib.hid (fun wx => leastRings_no t g f wx hc)
    clear hc
    go_enter Tryd.func44, Tryd.ntmps44
    go_wp2_with fail
    refine (HN.out _).mono ?_; rintro e w1 ⟨rfl, rfl⟩
    go_wp2
    go_loop [10, 12, 13, 14, 24] (fun v _ _ _ i => v = .int .i64 0 ∧ i = .int .i64 0) (fun _ _ _ _ _ => 0)
    case atStart => exact ⟨rfl, rfl⟩
    case round =>
      obtain ⟨rfl, rfl⟩ := hrel
      go_wp2
      go_ret2
      exact ⟨rfl, Below.refl _ _⟩
  · have HN := Lib.hid (fun wx => leastRings_yes t g f wx hc)
    have HK : Hid (blkL (lrL t g f) = nK t g f) := Lib.hid (keep_nA hc).2
    have HLR := Lib.hid (lr_ring hc)
    have hN : (lrL t g f).length ≤ 100000 := by
      have h0 := keep_len (lnsTo t g f (manyK t g f))
      rw [lns_len] at h0
      have h1 := manyK_eq (thrC_three hc)
      have h2 := many9 hc
      show (keepL _).length ≤ _
      omega
    clear hc
    unfold intOr
    rw [if_pos rfl, ← HK.out]
    generalize lrL t g f = L at HN HLR hN ⊢
    clear HK
    go_enter Tryd.func44, Tryd.ntmps44
    go_wp2_with fail
    refine (HN.out _).mono ?_
    rintro e w1 ⟨A, c, rfl, hat, hb⟩
    have HAT := Lib.hid hat
    have HB := Lib.hid hb
    clear hat hb
    go_wp2
    go_loopw [10, 12, 13, 14, 24] (fun v _ _ _ i wr => ∃ k n : Nat, k ≤ L.length ∧ n ≤ k ∧ i = .int .i64 k ∧ v = .int .i64 n ∧ Hid (n = blkL (L.take k)) ∧ Below w1.heap.size w1 wr) (fun _ _ _ _ i _ => L.length - (intOf i).toNat)
    case atStart => exact ⟨0, 0, Nat.zero_le _, Nat.le_refl _, rfl, rfl, Lib.hid rfl, Below.refl _ _⟩
    case round =>
      obtain ⟨k, n, hk, hnk, rfl, rfl, HQ, hB⟩ := hrel
      by_cases hlt : k < L.length
      · obtain ⟨gg, rfl, hg, c0⟩ := (HAT.out.below hB) k hlt
        have i1 : (0 : Int) ≤ (k : Int) := by omega
        have i2 : (k : Int) < (L.length : Int) := by omega
        have HX := Lib.hid (HLR.out L[k] (List.getElem_mem hlt))
        have HS := Lib.hid (blk_next L k hlt)
        generalize L[k] = x at c0 HX HS
        have HV := Lib.hid (blk_val x HX.out)
        have HBK : Hid (∀ wx, Calls Tryd.prog 42 #[.string (str x)] wx fun e w' => e = .returned (.tuple #[.bool (decide (rgTo (str x) x.length = [])), .bool true]) ∧ Below wx.heap.size wx w') := Lib.hid fun wx => by
          have := ringBlocked_any (str x) wx (by have := (ring_sz HX.out).2; unfold maxLen; omega)
          rw [HV.out, HX.out] at this
          exact this
        by_cases he : rgTo (str x) x.length = []
        · have HQ2 : Hid (n + 1 = blkL (L.take (k + 1))) := Lib.hid (by rw [HS.out, if_pos he, ← HQ.out])
          have HE : Hid (decide (rgTo (str x) x.length = []) = true) := Lib.hid (by simp [he])
          clear he
          go_wp2_with fail
          refine (HBK.out _).mono ?_
          rintro e w2 ⟨rfl, hb2⟩
          rw [HE.out]
          have hB2 := hB.trans (hb2.mono hB.size)
          clear hB hb2 c0
          go_wp2
          go_roundw
          case rel => exact ⟨k + 1, n + 1, by omega, by omega, by go_num, by go_num, HQ2, hB2⟩
          case measure => simp [intOf]; omega
        · have HQ2 : Hid (n = blkL (L.take (k + 1))) := Lib.hid (by rw [HS.out, if_neg he, ← HQ.out]; rfl)
          have HE : Hid (decide (rgTo (str x) x.length = []) = false) := Lib.hid (by simp [he])
          clear he
          go_wp2_with fail
          refine (HBK.out _).mono ?_
          rintro e w2 ⟨rfl, hb2⟩
          rw [HE.out]
          have hB2 := hB.trans (hb2.mono hB.size)
          clear hB hb2 c0
          go_wp2
          go_roundw
          case rel => exact ⟨k + 1, n, by omega, by omega, by go_num, rfl, HQ2, hB2⟩
          case measure => simp [intOf]; omega
      · obtain rfl : k = L.length := by omega
        go_wp2
        go_ret2
        exact ⟨by rw [HQ.out, List.take_length]; rfl, HB.out.trans (hB.mono HB.out.size)⟩

set_option maxRecDepth 100000 in
set_option maxHeartbeats 2000000 in
theorem walk_FnExactCountBlockedRings (t : Int) (_ : (Lit.int .i64 t).wf = true) (g : Int) (_ : (Lit.int .i64 g).wf = true) (f : Int) (_ : (Lit.int .i64 f).wf = true) (w : World) :
    Calls Tryd.prog 13 #[.int .i64 t, .int .i64 g, .int .i64 f] w fun e w' => e = .returned (.bool true) ∧ Below w.heap.size w w' := by
  have HS := Lib.hid (fun wx => sCountBlocked_any t g f wx)
  have HM := Lib.hid (fun wx => countBlocked_any t g f wx)
  obtain ⟨x, y, hxy⟩ := intOr_open (thrC t g f) (nK t g f)
  rw [hxy] at HS HM
  clear hxy
  go_enter Tryd.func13, Tryd.ntmps13
  go_wp2_with fail
  refine (HS.out _).mono ?_
  rintro e w1 ⟨rfl, hb1⟩
  go_wp2_with fail
  refine (HM.out _).mono ?_
  rintro e w2 ⟨rfl, hb2⟩
  go_wp2
  go_ret
  exact ⟨rfl, hb1.trans (hb2.mono hb1.size)⟩
end Go.Proofs.YtfjjdelmfohaeaaDoor
