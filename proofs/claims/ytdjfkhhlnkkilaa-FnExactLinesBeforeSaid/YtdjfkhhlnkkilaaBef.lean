/- The lines from which one move leads to a line: the model's search. -/
import Derived.Test.YtdjfkhhlnkkilaaLayS
import Derived.Test.YtdjfkhhlnkkilaaArrC
namespace Go.Proofs.Ytdjfkhhlnkkilaa
open Go.RowKit

/-- The sign of a cell, for the model: a blank beyond the ends. -/
def lat (s : ByteArray) (i : Int) : UInt8 := if h : 0 ≤ i ∧ i < s.size then s[i.toNat]'(by omega) else 32
theorem lat_dot {s : ByteArray} {i : Int} (h : lat s i = 46) : ∃ b : Nat, i = b ∧ b < s.size ∧ sgAt s b = 46 := by
  unfold lat at h
  split at h
  · rename_i hi
    obtain ⟨b, rfl⟩ := Int.eq_ofNat_of_zero_le hi.1
    refine ⟨b, rfl, by omega, ?_⟩
    rw [sgAt_in s b (by omega)]
    exact h
  · exact absurd h (by decide)
theorem lat_of {s : ByteArray} {b : Nat} (hb : b < s.size) : lat s b = sgAt s b := by
  unfold lat
  rw [dif_pos (by omega), sgAt_in s b hb]
  rfl
set_option maxHeartbeats 1000000 in
theorem liAt_any (s : ByteArray) (i : Int) (w : World) (hs : s.size ≤ 1000) :
    Calls Try.prog 67 #[.string s, .int .i64 i] w fun e w' => e = .returned (.int .u8 (lat s i).toNat) ∧ w = w' := by
  by_cases hi : 0 ≤ i ∧ i < s.size
  · obtain ⟨b, rfl⟩ := Int.eq_ofNat_of_zero_le hi.1
    have hb : b < s.size := by omega
    have hl : lat s b = s[b] := by rw [lat_of hb, sgAt_in s b hb]
    have h1 : inR b 0 ((s.size : Int) - 1) = true := by simp [inR]; omega
    have H1 := Lib.hid h1
    rw [hl]
    clear hi hl h1
    go_enter Try.func67, Try.ntmps67
    go_wp2_with (go_at_call 81; refine (l1In_any _ _ _ _).mono ?_; rintro e w' ⟨rfl, rfl⟩; rw [H1.out])
    go_ret
    exact ⟨rfl, rfl⟩
  · have hl : lat s i = 32 := by unfold lat; rw [dif_neg hi]
    have h1 : inR i 0 ((s.size : Int) - 1) = false := by simp [inR]; omega
    have H1 := Lib.hid h1
    rw [hl]
    clear hi hl h1
    go_enter Try.func67, Try.ntmps67
    go_wp2_with (go_at_call 81; refine (l1In_any _ _ _ _).mono ?_; rintro e w' ⟨rfl, rfl⟩; rw [H1.out])
    go_ret
    exact ⟨rfl, rfl⟩
/-- What one pair of cells gives. -/
def bk (s : ByteArray) (a : Nat) (i : Int) : List (List UInt8) := if lat s i = 46 ∧ canM (str (putL s a i.toNat)) i a = true then [putL s a i.toNat] else []
def rowB (s : ByteArray) (a j : Nat) : List (List UInt8) := if sgAt s a = 46 then [] else (List.range j).flatMap fun i : Nat => bk s a ((a : Int) - 2 + (i : Int))
def scanB (s : ByteArray) (a j : Nat) : List (List UInt8) := (List.range a).flatMap (fun t => rowB s t 5) ++ rowB s a j
def upB (s : ByteArray) (a j : Nat) : List (List UInt8) := insAll (scanB s a j) []
theorem rowB_zero (s : ByteArray) (a : Nat) : rowB s a 0 = [] := by unfold rowB; split <;> rfl
theorem upB_zero (s : ByteArray) : upB s 0 0 = [] := by
  unfold upB scanB
  rw [rowB_zero]; rfl
theorem upB_row (s : ByteArray) (a : Nat) : upB s (a + 1) 0 = upB s a 5 := by
  unfold upB scanB
  rw [rowB_zero, List.range_succ, List.flatMap_append, List.append_nil]
  simp
theorem upB_skip (s : ByteArray) (a : Nat) (h : sgAt s a = 46) : upB s (a + 1) 0 = upB s a 0 := by
  rw [upB_row]
  unfold upB scanB rowB
  rw [if_pos h, if_pos h]
theorem upB_next (s : ByteArray) (a j : Nat) (h : sgAt s a ≠ 46) : upB s a (j + 1) = insAll (bk s a ((a : Int) - 2 + j)) (upB s a j) := by
  have e : rowB s a (j + 1) = rowB s a j ++ bk s a ((a : Int) - 2 + j) := by
    unfold rowB
    rw [if_neg h, if_neg h, List.range_succ, List.flatMap_append]
    simp
  unfold upB scanB
  rw [e, ← List.append_assoc, insAll_app]
theorem upB_rising (s : ByteArray) (a j : Nat) : Rising (upB s a j) := rising_insAll _ _ (by simp [Rising])
theorem insAll_len : ∀ (xs a : List (List UInt8)), (insAll xs a).length ≤ xs.length + a.length
  | [], a => by simp [insAll]
  | x :: xs, a => by
    have h1 := insAll_len xs (ins x a)
    have h2 := ins_len x a
    show (insAll xs (ins x a)).length ≤ _
    simp only [List.length_cons]
    omega
theorem bk_len (s : ByteArray) (a : Nat) (i : Int) : (bk s a i).length ≤ 1 := by unfold bk; split <;> simp
theorem flat_le {α : Type} (f : α → List (List UInt8)) (n : Nat) (l : List α) (h : ∀ x ∈ l, (f x).length ≤ n) : (l.flatMap f).length ≤ n * l.length := by
  induction l with
  | nil => simp
  | cons a l ih =>
    have h1 := h a (by simp)
    have h2 := ih fun x hx => h x (by simp [hx])
    simp only [List.flatMap_cons, List.length_append, List.length_cons, Nat.mul_add]
    omega
theorem rowB_len (s : ByteArray) (a j : Nat) : (rowB s a j).length ≤ j := by
  unfold rowB
  split
  · simp
  · have := flat_le (fun i : Nat => bk s a ((a : Int) - 2 + i)) 1 (List.range j) fun i _ => bk_len _ _ _
    simpa using this
theorem upB_len (s : ByteArray) (a j : Nat) : (upB s a j).length ≤ 5 * a + j := by
  have h1 := insAll_len (scanB s a j) []
  have h2 := flat_le (fun t => rowB s t 5) 5 (List.range a) fun t _ => rowB_len _ _ _
  have h3 := rowB_len s a j
  unfold upB
  unfold scanB at h1 ⊢
  rw [List.length_append] at h1
  simp at h1 h2
  omega
/-- A list of texts lies apart from an iterator. -/
theorem StOk.iter {w : World} {v : Value} {l : List (List UInt8)} {n : Nat} {s : ByteArray} {k : Nat} (h : StOk w v l) (hit : w.heap[n]? = some (.stringIter s k)) (p : Nat) : StOk (w.iterAt n s p) v l := by
  rcases h with h | ⟨h0, g, c, hv, h1, h2, h3, h4⟩
  · exact .inl h
  · have hne : g ≠ n := by
      rintro rfl
      have := h4 0 (List.length_pos_iff.2 h0)
      simp [World.cell?, hit] at this
    refine .inr ⟨h0, g, c, hv, h1, h2, by rw [Lib.iterAt_size]; exact h3, fun j hj => ?_⟩
    rw [← h4 j hj]
    exact World.cell?_of_block (a := ⟨g, j, none⟩) (Lib.iterAt_other w n g s p hne)

set_option maxRecDepth 100000 in
set_option maxHeartbeats 4000000 in
theorem sLinesBefore_yes (s : ByteArray) (w : World) (hs : s.size ≤ maxLen) (hr : reachB s = true) :
    Calls Try.prog 35 #[.string s] w fun e w' => ∃ v, e = .returned (.tuple #[v, .bool true]) ∧ StOk w' v (upB s s.size 0) ∧ Below w.heap.size w w' := by
  have hg : goodL s = true := by unfold reachB at hr; exact (Bool.and_eq_true_iff.1 hr).1
  have h1 := good1000 hg
  have hsg := Lib.hid (good_sign hg)
  have h12 := ((goodL_iff s).1 hg).2.1
  have HR := Lib.hid hr
  clear hg hr
  go_enter Try.func35, Try.ntmps35
  go_wp2_with fail
  refine (reFew_any _ _ hs).mono ?_
  rintro e w1 ⟨rfl, rfl⟩
  rw [HR.out]
  go_wp2
  go_loopw [4] (fun v wr => ∃ k : Nat, k ≤ s.size ∧ wr.heap[w.heap.size]? = some (.stringIter s k) ∧ StOk wr v (upB s k 0) ∧ Below w.heap.size w wr) (fun _ wr => s.size - wr.iterPos w.heap.size)
  case atStart => exact ⟨0, Nat.zero_le _, World.iter_heap w s 0, .inl ⟨upB_zero s, rfl⟩, (Below.refl _ _).alloc (Nat.le_refl _) _⟩
  case round =>
    obtain ⟨k, hk, hit, hown, hB⟩ := hrel
    have hpos0 := iterPos_of hit
    by_cases hlt : k < s.size
    · have hasc : s[k].toNat < 128 := by
        have := hsg.out k hlt
        rcases sign_cases s[k] with h | h | h | h
        · rw [h]; decide
        · rw [h]; decide
        · rw [h]; decide
        · rw [this] at h; cases h
      have hnx : ∀ ty, (Instr.next (.pointer (some ⟨w.heap.size, 0, none⟩)) true ty).run Try.prog wr = _ := fun ty => Lib.run_next_ascii_at wr w.heap.size s k ty hit hlt hasc
      have hit2 := Lib.iterAt_heap wr w.heap.size s k (k + 1) hit
      have hB2 := Lib.below_iterAt hB (k := w.heap.size) (Nat.le_refl _) s (k + 1)
      have hown2 := hown.iter hit (k + 1)
      obtain ⟨W1, hW1⟩ : ∃ W1, W1 = wr.iterAt w.heap.size s (k + 1) := ⟨_, rfl⟩
      rw [← hW1] at hnx hit2 hB2 hown2
      clear hW1 hit hown hB
      by_cases h46 : s[k] = 46
      · have hv : ((s[k].toNat : Int) == 46) = true := by rw [h46]; rfl
        have HU := Lib.hid (upB_skip s k (by rw [sgAt_in s k hlt]; exact h46))
        clear h46
        go_wp2
        go_roundw
        case rel => exact ⟨k + 1, by omega, hit2, by rw [HU.out]; exact hown2, hB2⟩
        case measure => rw [iterPos_of hit2, hpos0]; omega
      · have hv : ((s[k].toNat : Int) == 46) = false := bne_u8 (b := 46) h46
        have h46' : sgAt s k ≠ 46 := by rw [sgAt_in s k hlt]; exact h46
        have HN := Lib.hid (fun j => upB_next s k j h46')
        have HN46 := Lib.hid h46'
        clear h46 h46'
        obtain ⟨wo, hwo⟩ : ∃ wo : World, wo = W1 := ⟨_, rfl⟩
        subst hwo
        go_wp2
        go_loopw [4, 6] (fun v t wr => ∃ j : Nat, j ≤ 5 ∧ t = .int .i64 ((k : Int) - 2 + j) ∧ StOk wr v (upB s k j) ∧ Below w.heap.size w wr ∧ wr.heap[w.heap.size]? = some (.stringIter s (k + 1))) (fun _ t _ => ((k : Int) + 3 - intOf t).toNat)
        case atStart => exact ⟨0, by omega, by simp, hown2, hB2, hit2⟩
        case round =>
          obtain ⟨j, hj, rfl, hown, hB, hit⟩ := hrel
          clear hown2 hB2 hit2
          by_cases hj5 : j < 5
          · have HOK := Lib.hid hown
            have HB := Lib.hid hB
            have HIT := Lib.hid hit
            have hlen := upB_len s k j
            have hris := Lib.hid (upB_rising s k j)
            have HNJ := Lib.hid (HN.out j)
            clear hown hB hit
            by_cases hd : lat s ((k : Int) - 2 + j) = 46
            · obtain ⟨b, hb, hbs, hb46⟩ := lat_dot hd
              have hne : k ≠ b := by
                rintro rfl
                exact HN46.out hb46
              have HAT := Lib.hid (fun wx => liAt_any s ((k : Int) - 2 + j) wx h1)
              rw [hd] at HAT
              have HMK := Lib.hid (fun wx => liMake_any s k b wx h1 hlt hbs hne)
              have HCN := Lib.hid (fun wx => liCan_any (str (putL s k b)) b k wx (by rw [str_size, putL_len]; exact h1))
              have HBK : Hid (bk s k ((k : Int) - 2 + j) = if canM (str (putL s k b)) b k = true then [putL s k b] else []) := Lib.hid (by unfold bk; simp only [hd, true_and]; rw [hb]; rfl)
              rw [hb] at HAT
              have hb2 : (k : Int) - 2 + (j : Int) = (b : Int) := hb
              rw [hb2]
              clear hd hb
              go_wp2_with fail
              refine (HAT.out _).mono ?_
              rintro e w2 ⟨rfl, rfl⟩
              go_wp2_with fail
              refine (HMK.out _).mono ?_
              rintro e w2 ⟨rfl, hw2⟩
              go_wp2_with fail
              refine (HCN.out _).mono ?_
              rintro e w3 ⟨rfl, hw3⟩
              have HB3 := Lib.hid (hw2.trans (hw3.mono hw2.size))
              have HIT3 : Hid (w3.heap[w.heap.size]? = some (.stringIter s (k + 1))) := Lib.hid (by rw [HB3.out.block w.heap.size (lt_of_block HIT.out)]; exact HIT.out)
              clear hw2 hw3
              cases hc : canM (str (putL s k b)) b k
              · have HU : Hid (upB s k (j + 1) = upB s k j) := Lib.hid (by rw [HNJ.out, HBK.out, hc]; rfl)
                clear hc
                go_wp2
                go_roundw
                case rel => exact ⟨j + 1, by omega, congrArg (fun n => Value.int .i64 n) (by push_cast; omega), by rw [HU.out]; exact HOK.out.below HB3.out, HB.out.trans (HB3.out.mono HB.out.size), HIT3.out⟩
                case measure => simp [intOf]; omega
              · have HU : Hid (upB s k (j + 1) = ins (putL s k b) (upB s k j)) := Lib.hid (by rw [HNJ.out, HBK.out, hc]; rfl)
                clear hc
                go_wp2_with fail
                refine (reAdd_any (upB s k j) (putL s k b) _ _ hris.out (HOK.out.below HB3.out) (by omega)).mono ?_
                rintro e w4 ⟨v', rfl, hok', hb4⟩
                have HOK4 := Lib.hid hok'
                have HB4 := Lib.hid hb4
                clear hok' hb4
                go_wp2
                go_roundw
                case rel => exact ⟨j + 1, by omega, congrArg (fun n => Value.int .i64 n) (by push_cast; omega), by rw [HU.out]; exact HOK4.out, (HB.out.trans (HB3.out.mono HB.out.size)).trans (HB4.out.mono (Nat.le_trans HB.out.size HB3.out.size)), by rw [HB4.out.block w.heap.size (lt_of_block HIT3.out)]; exact HIT3.out⟩
                case measure => simp [intOf]; omega
            · have HAT := Lib.hid (fun wx => liAt_any s ((k : Int) - 2 + j) wx h1)
              have HU : Hid (upB s k (j + 1) = upB s k j) := Lib.hid (by rw [HNJ.out]; unfold bk; rw [if_neg (fun e => hd e.1)]; rfl)
              have hq : (((lat s ((k : Int) - 2 + j)).toNat : Int) == 46) = false := bne_u8 (b := 46) hd
              generalize lat s ((k : Int) - 2 + j) = c at HAT hq
              clear hd
              go_wp2_with fail
              refine (HAT.out _).mono ?_
              rintro e w2 ⟨rfl, rfl⟩
              go_wp2
              go_roundw
              case rel => exact ⟨j + 1, by omega, congrArg (fun n => Value.int .i64 n) (by push_cast; omega), by rw [HU.out]; exact HOK.out, HB.out, HIT.out⟩
              case measure => simp [intOf]; omega
          · obtain rfl : j = 5 := by omega
            go_wp2
            go_roundw
            case rel => exact ⟨k + 1, by omega, hit, by rw [upB_row]; exact hown, hB⟩
            case measure => rw [iterPos_of hit, hpos0]; omega
    · have hnx : ∀ ty, (Instr.next (.pointer (some ⟨w.heap.size, 0, none⟩)) true ty).run Try.prog wr = _ := fun ty => Lib.run_next_end_at wr w.heap.size s k ty hit hlt
      go_wp2
      go_ret2
      obtain rfl : k = s.size := by omega
      exact ⟨_, rfl, hown, hB⟩
end Go.Proofs.Ytdjfkhhlnkkilaa
