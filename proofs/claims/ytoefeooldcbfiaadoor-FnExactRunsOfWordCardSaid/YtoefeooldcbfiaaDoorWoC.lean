/- Words: the other word; contracts of both sides. -/
import Derived.Test.YtoefeooldcbfiaaDoorWoT
namespace Go.Proofs.YtoefeooldcbfiaaDoor
open Go.RowKit
def otherW (l : List UInt8) : List UInt8 := l.map oSign
theorem tf_sign {c : UInt8} (h : isTF c = true) : isSign c = true := by
  rcases tf_cases c with rfl | rfl | e
  · rfl
  · rfl
  · rw [e] at h; cases h
theorem word_tf {s : ByteArray} (h : wordB s = true) (k : Nat) (hk : k < s.size) : isTF s[k] = true := by
  have h1 := ((wordB_iff s).1 h).2
  rw [List.all_eq_true] at h1
  apply h1
  have : (byt s)[k]'(by rw [byt_len]; exact hk) = s[k] := rfl
  rw [← this]
  exact List.getElem_mem _

set_option maxRecDepth 20000 in
set_option maxHeartbeats 1000000 in
theorem sOtherWord_any (s : ByteArray) (w : World) (hs : s.size ≤ maxLen) :
    Calls Tryd.prog 35 #[.string s] w fun e w' => e = .returned (strOr (wordB s) (otherW (byt s))) ∧ w = w' := by
  cases hc : wordB s
  · have hC := Lib.hid hc
    clear hc
    go_enter Tryd.func35, Tryd.ntmps35
    go_wp2_with (go_at_call 37; refine (woGood_any _ _ hs).mono ?_; rintro e w' ⟨rfl, rfl⟩; rw [hC.out])
    go_ret2
    exact ⟨rfl, rfl⟩
  · have hC := Lib.hid hc
    obtain ⟨h40, _⟩ := (wordB_iff s).1 hc
    have HT := Lib.hid (word_tf hc)
    clear hc
    go_enter Tryd.func35, Tryd.ntmps35
    go_wp2_with (go_at_call 37; refine (woGood_any _ _ hs).mono ?_; rintro e w' ⟨rfl, rfl⟩; rw [hC.out])
    go_loop [4, 5] (fun o i => ∃ k : Nat, k ≤ s.size ∧ i = .int .i64 k ∧ o = .string (str (otherW ((byt s).take k)))) (fun _ i => s.size - (intOf i).toNat)
    case atStart => exact ⟨0, Nat.zero_le _, rfl, rfl⟩
    case round =>
      obtain ⟨k, hk, rfl, rfl⟩ := hrel
      by_cases hlt : k < s.size
      · have hts : Hid (otherW ((byt s).take (k + 1)) = otherW ((byt s).take k) ++ [oSign s[k]]) := Lib.hid (by unfold otherW; rw [take_snoc s k hlt, List.map_append]; rfl)
        have hz : (str (otherW ((byt s).take k))).size ≤ 1000 := by rw [str_size]; unfold otherW; rw [List.length_map, List.length_take]; omega
        rcases tf_cases s[k] with e | e | e
        · have hE := Lib.hid e
          have hv : ((s[k].toNat : Int) == 84) = true := by rw [e]; rfl
          clear e
          go_wp2
          go_round
          case rel =>
            refine ⟨k + 1, by omega, by go_num, ?_⟩
            rw [hts.out, hE.out, ← str_app]
            rfl
          case measure => simp [intOf]; omega
        · have hE := Lib.hid e
          have hv : ((s[k].toNat : Int) == 84) = false := by rw [e]; rfl
          clear e
          go_wp2
          go_round
          case rel =>
            refine ⟨k + 1, by omega, by go_num, ?_⟩
            rw [hts.out, hE.out, ← str_app]
            rfl
          case measure => simp [intOf]; omega
        · rw [HT.out k hlt] at e; cases e
      · go_wp2
        go_ret2
        obtain rfl : k = s.size := by omega
        exact ⟨by rw [take_all]; rfl, rfl⟩

/-- The cells of a block, after k of them were turned. -/
def OwAt (w : World) (g : Nat) (s : ByteArray) (k : Nat) : Prop := ∀ j (h : j < s.size), w.cell? ⟨g, j, none⟩ = some (.int .u8 (if j < k then oSign s[j] else s[j]).toNat) ∧ w.frozen? ⟨g, j, none⟩ = false

set_option maxRecDepth 100000 in
set_option maxHeartbeats 1000000 in
theorem otherWord_any (s : ByteArray) (w : World) (hs : s.size ≤ maxLen) :
    Calls Tryd.prog 36 #[.string s] w fun e w' => e = .returned (strOr (wordB s) (otherW (byt s))) ∧ Below w.heap.size w w' := by
  cases hc : wordB s
  · have hC := Lib.hid hc
    clear hc
    go_enter Tryd.func36, Tryd.ntmps36
    go_wp2_with fail
    refine (isWord_any s _ hs).mono ?_; rintro e w1 ⟨rfl, hb1⟩; rw [hC.out]
    go_wp2
    go_ret2
    exact ⟨rfl, hb1⟩
  · have hC := Lib.hid hc
    obtain ⟨h40, _⟩ := (wordB_iff s).1 hc
    have HT := Lib.hid (word_tf hc)
    clear hc
    go_enter Tryd.func36, Tryd.ntmps36
    go_wp2_with fail
    refine (isWord_any s _ hs).mono ?_; rintro e w1 ⟨rfl, hb1⟩; rw [hC.out]
    obtain ⟨cap, W2, hconv, hcs, hB2, hz2⟩ := to_bytes s w1
    have HC0 : Hid (OwAt W2 w1.heap.size s 0) := Lib.hid fun j hj => by
      rw [if_neg (Nat.not_lt_zero _)]
      exact hcs j hj
    have HB2 := Lib.hid hB2
    have HB1 := Lib.hid hb1
    clear hcs hB2 hb1
    go_wp2
    go_loopw [5, 6, 14] (fun _ _ i wr => ∃ k : Nat, k ≤ s.size ∧ i = .int .i64 k ∧ Hid (OwAt wr w1.heap.size s k) ∧ Below w1.heap.size w1 wr) (fun _ _ i _ => s.size - (intOf i).toNat)
    case atStart => exact ⟨0, Nat.zero_le _, rfl, HC0, HB2.out⟩
    case round =>
      obtain ⟨k, hk, rfl, HK, hB⟩ := hrel
      by_cases hlt : k < s.size
      · obtain ⟨ck, fk⟩ := HK.out k hlt
        rw [if_neg (Nat.lt_irrefl _)] at ck
        have hx := Lib.hid (tf_sign (HT.out k hlt))
        have HB := Lib.hid hB
        have HS : Hid (∀ j (h : j < s.size), (if j < k + 1 then oSign s[j] else s[j]) = if j = k then oSign s[k] else if j < k then oSign s[j] else s[j]) := Lib.hid fun j h => by
          by_cases e : j = k
          · subst e; rw [if_pos (Nat.lt_succ_self _), if_pos rfl]
          · rw [if_neg e]
            by_cases e2 : j < k
            · rw [if_pos (by omega), if_pos e2]
            · rw [if_neg (by omega), if_neg e2]
        clear hB
        go_wp2_with (first | (go_at_call 51; refine (otherSign_any _ _ hx.out).mono ?_; rintro e w' ⟨rfl, rfl⟩))
        go_roundw
        case rel =>
          refine ⟨k + 1, by omega, by go_num, Lib.hid fun j hj => ?_, HB.out.setCell (Nat.le_refl _) _⟩
          obtain ⟨cj, fj⟩ := HK.out j hj
          refine ⟨?_, by simpa using fj⟩
          rw [HS.out j hj]
          by_cases e1 : j = k
          · subst e1
            rw [if_pos rfl]
            exact World.cell?_setCell_same _ _ _ ck
          · rw [if_neg e1, World.cell?_setCell_other _ _ _ _ (by intro e; injection e with _ e; omega)]
            exact cj
        case measure => simp [intOf]; omega
      · obtain rfl : k = s.size := by omega
        have hlen : (otherW (byt s)).length = s.size := by unfold otherW; rw [List.length_map, byt_len]
        have hcv := run_convert_bytes_back (P := Tryd.prog) wr 53 9 5 ⟨w1.heap.size, 0, none⟩ cap (otherW (byt s)) Tryd.underlying53 Tryd.underlying5 Tryd.underlying9 (by
          intro j hj
          have hj2 : j < s.size := by omega
          have h := (HK.out j hj2).1
          rw [if_pos hj2] at h
          have e : (otherW (byt s))[j]? = some (oSign s[j]) := by
            unfold otherW
            rw [List.getElem?_map, List.getElem?_eq_getElem (by rw [byt_len]; exact hj2)]
            rfl
          rw [List.getElem?_eq_getElem hj] at e
          injection e with e
          rw [addr_add, h, e])
        rw [hlen] at hcv
        clear hlen
        go_wp2
        go_ret2
        exact ⟨rfl, HB1.out.trans (hB.mono HB1.out.size)⟩
end Go.Proofs.YtoefeooldcbfiaaDoor
