/- Words: the other word; contracts of both sides. -/
import Derived.Test.YticdhapbkfbhjaaDoorWoT
import Derived.Test.YticdhapbkfbhjaaDoorOtL
namespace Go.Proofs.YticdhapbkfbhjaaDoor
open Go.RowKit
def otherW (l : List UInt8) : List UInt8 := l.map oSign
theorem tf_sign {c : UInt8} (h : isTF c = true) : isSign c = true := by
  rcases tf_cases c with rfl | rfl | e
  · rfl
  · rfl
  · rw [e] at h; cases h
theorem word_tf {s : ByteArray} (h : wordB s = true) (k : Nat) (hk : k < s.size) : isTF s[k] = true := by
  have h1 := ((wordB_iff s).1 h).2
  rw [List.all_eq_true] at h1
  apply h1
  have : (byt s)[k]'(by rw [byt_len]; exact hk) = s[k] := rfl
  rw [← this]
  exact List.getElem_mem _

set_option maxRecDepth 20000 in
set_option maxHeartbeats 1000000 in
theorem sOtherWord_any (s : ByteArray) (w : World) (hs : s.size ≤ maxLen) :
    Calls Tryd.prog 9 #[.string s] w fun e w' => e = .returned (strOr (wordB s) (otherW (byt s))) ∧ w = w' := by
  cases hc : wordB s
  · have hC := Lib.hid hc
    clear hc
    go_enter Tryd.func9, Tryd.ntmps9
    go_wp2_with (go_at_call 14; refine (woGood_any _ _ hs).mono ?_; rintro e w' ⟨rfl, rfl⟩; rw [hC.out])
    go_ret2
    exact ⟨rfl, rfl⟩
  · have hC := Lib.hid hc
    obtain ⟨h40, _⟩ := (wordB_iff s).1 hc
    have HT := Lib.hid (word_tf hc)
    clear hc
    go_enter Tryd.func9, Tryd.ntmps9
    go_wp2_with (go_at_call 14; refine (woGood_any _ _ hs).mono ?_; rintro e w' ⟨rfl, rfl⟩; rw [hC.out])
    go_loop [4, 5] (fun o i => ∃ k : Nat, k ≤ s.size ∧ i = .int .i64 k ∧ o = .string (str (otherW ((byt s).take k)))) (fun _ i => s.size - (intOf i).toNat)
    case atStart => exact ⟨0, Nat.zero_le _, rfl, rfl⟩
    case round =>
      obtain ⟨k, hk, rfl, rfl⟩ := hrel
      by_cases hlt : k < s.size
      · have hts : Hid (otherW ((byt s).take (k + 1)) = otherW ((byt s).take k) ++ [oSign s[k]]) := Lib.hid (by unfold otherW; rw [take_snoc s k hlt, List.map_append]; rfl)
        have hz : (str (otherW ((byt s).take k))).size ≤ 1000 := by rw [str_size]; unfold otherW; rw [List.length_map, List.length_take]; omega
        rcases tf_cases s[k] with e | e | e
        · have hE := Lib.hid e
          have hv : ((s[k].toNat : Int) == 84) = true := by rw [e]; rfl
          clear e
          go_wp2
          go_round
          case rel =>
            refine ⟨k + 1, by omega, by go_num, ?_⟩
            rw [hts.out, hE.out, ← str_app]
            rfl
          case measure => simp [intOf]; omega
        · have hE := Lib.hid e
          have hv : ((s[k].toNat : Int) == 84) = false := by rw [e]; rfl
          clear e
          go_wp2
          go_round
          case rel =>
            refine ⟨k + 1, by omega, by go_num, ?_⟩
            rw [hts.out, hE.out, ← str_app]
            rfl
          case measure => simp [intOf]; omega
        · rw [HT.out k hlt] at e; cases e
      · go_wp2
        go_ret2
        obtain rfl : k = s.size := by omega
        exact ⟨by rw [take_all]; rfl, rfl⟩

/-- The cells of a block, after k of them were turned. -/
def OwAt (w : World) (g : Nat) (s : ByteArray) (k : Nat) : Prop := ∀ j (h : j < s.size), w.cell? ⟨g, j, none⟩ = some (.int .u8 (if j < k then oSign s[j] else s[j]).toNat) ∧ w.frozen? ⟨g, j, none⟩ = false

set_option maxHeartbeats 1000000 in
theorem otherWord_any (s : ByteArray) (w : World) (hs : s.size ≤ maxLen) :
    Calls Tryd.prog 10 #[.string s] w fun e w' => e = .returned (strOr (wordB s) (otherW (byt s))) ∧ Below w.heap.size w w' := by
  cases hc : wordB s
  · have hC := Lib.hid hc
    clear hc
    go_enter Tryd.func10, Tryd.ntmps10
    go_wp2_with fail
    refine (isWord_any s _ hs).mono ?_; rintro e w1 ⟨rfl, hb1⟩; rw [hC.out]
    go_wp2
    go_ret2
    exact ⟨rfl, hb1⟩
  · obtain ⟨h40, h41⟩ := (wordB_iff s).1 hc
    have HW := Lib.hid (fun wx => withOther_any (byt s) wx (by rw [byt_len]; omega))
    rw [str_byt, map_oSg (List.all_eq_true.2 fun c h => tf_sign (List.all_eq_true.1 h41 c h))] at HW
    rw [show (byt s).map oSign = otherW (byt s) from rfl] at HW
    generalize otherW (byt s) = y at HW ⊢
    have hC := Lib.hid hc
    clear hc h40 h41
    go_enter Tryd.func10, Tryd.ntmps10
    go_wp2_with fail
    refine (isWord_any s _ hs).mono ?_; rintro e w1 ⟨rfl, hb1⟩; rw [hC.out]
    go_wp2_with fail
    refine (HW.out _).mono ?_
    rintro e w2 ⟨rfl, hb2⟩
    have HB2 := Lib.hid (hb1.trans (hb2.mono hb1.size))
    clear hb1 hb2
    go_wp2_with fail
    go_ret2
    exact ⟨rfl, HB2.out⟩
end Go.Proofs.YticdhapbkfbhjaaDoor
