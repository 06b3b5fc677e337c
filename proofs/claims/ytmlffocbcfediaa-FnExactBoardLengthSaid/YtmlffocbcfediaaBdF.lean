/- First and last boards: the model's rows. -/
import Derived.Test.YtmlffocbcfediaaBdT
namespace Go.Proofs.Ytmlffocbcfediaa
open Go.RowKit

/-- The middle column, from above. -/
def midF (h : Nat) (a b : UInt8) : List UInt8 := List.replicate h a ++ [46] ++ List.replicate h b
theorem midF_len (h : Nat) (a b : UInt8) : (midF h a b).length = 2 * h + 1 := by simp [midF]; omega
theorem midF_at (h : Nat) (a b : UInt8) (k : Nat) (hk : k < (midF h a b).length) : (midF h a b)[k] = if k < h then a else if k = h then 46 else b := by
  have hk2 : k < 2 * h + 1 := by rw [midF_len] at hk; exact hk
  simp only [midF]
  by_cases h1 : k < h
  · rw [if_pos h1, List.getElem_append_left (by simp; omega), List.getElem_append_left (by simpa using h1)]
    simp
  · rw [if_neg h1]
    by_cases h2 : k = h
    · subst h2
      rw [if_pos rfl, List.getElem_append_left (by simp), List.getElem_append_right (by simp)]
      simp
    · rw [if_neg h2, List.getElem_append_right (by simp; omega)]
      simp
theorem midF_first (h : Nat) : midF h 84 70 = firstL h 1 h := rfl
/-- A row with a sign in the middle. -/
def rowF (w : Nat) (a b c : UInt8) : List UInt8 := List.replicate w a ++ [c] ++ List.replicate w b
def bdF (w h : Nat) (a b : UInt8) : List (List UInt8) := (midF h a b).map (rowF w a b)
theorem bdF_len (w h : Nat) (a b : UInt8) : (bdF w h a b).length = 2 * h + 1 := by unfold bdF; rw [List.length_map, midF_len]
theorem bdF_at (w h : Nat) (a b : UInt8) (k : Nat) (hk : k < (bdF w h a b).length) : (bdF w h a b)[k] = rowF w a b (if k < h then a else if k = h then 46 else b) := by
  simp only [bdF]
  rw [List.getElem_map, midF_at]
theorem bdF_row (w h : Nat) (a b : UInt8) (hw : w ≤ 2) : ∀ r ∈ bdF w h a b, r.length ≤ 12 := by
  intro r hr
  obtain ⟨c, _, rfl⟩ := List.mem_map.1 hr
  unfold rowF
  simp; omega
theorem rowF_str (w : Nat) (a b c : UInt8) : str (rowF w a b c) = str (List.replicate w a) ++ (⟨#[c]⟩ : ByteArray) ++ str (List.replicate w b) := by
  unfold rowF
  rw [← str_app, ← str_app]
  rfl
theorem txs_take1 (l : List (List UInt8)) (k : Nat) (h : k < l.length) : txs (l.take (k + 1)) = txs (l.take k) ++ [.string (str l[k])] := by
  rw [List.take_succ_eq_append_getElem h, txs_app]; rfl

set_option maxRecDepth 100000 in
set_option maxHeartbeats 1000000 in
theorem boFirst_any (wd hg : Nat) (a b : UInt8) (w : World) (hw : wd ≤ 2) (hh : hg ≤ 2) :
    Calls Try.prog 14 #[.int .i64 wd, .int .i64 hg, .string ⟨#[a]⟩, .string ⟨#[b]⟩] w (BtPost w (bdF wd hg a b)) := by
  obtain ⟨i0, hi, hz0, hz1, hz2⟩ := info_parts Try.infoS
  have HI := Lib.hid hi
  have HZ0 := Lib.hid hz0
  have HZ1 := Lib.hid hz1
  have HZ2 := Lib.hid hz2
  clear hi hz0 hz1 hz2
  have HLN := Lib.hid (bdF_len wd hg a b)
  have HAT := Lib.hid (bdF_at wd hg a b)
  have HT1 := Lib.hid (fun wx => liTimes_any a wd wx (by omega))
  have HT2 := Lib.hid (fun wx => liTimes_any b wd wx (by omega))
  rw [show ((wd : Int)).toNat = wd from rfl] at HT1 HT2
  have hs1 : (str (List.replicate wd a)).size ≤ 2 := by rw [str_size]; simp; omega
  have hs2 : (str (List.replicate wd b)).size ≤ 2 := by rw [str_size]; simp; omega
  have HRS := Lib.hid (rowF_str wd a b)
  generalize str (List.replicate wd a) = sa at HT1 hs1 HRS
  generalize str (List.replicate wd b) = sb at HT2 hs2 HRS
  generalize hR : bdF wd hg a b = R at HLN HAT
  have HTK := Lib.hid (txs_take1 R)
  clear hR
  go_enter Try.func14, Try.ntmps14
  go_wp2
  go_loopw [9, 10] (fun v y wr => ∃ k : Nat, k ≤ R.length ∧ y = .int .i64 ((k : Int) - hg) ∧ wr.ownsRow w.heap.size 9 1 v k (txs (R.take k)) ∧ Below w.heap.size w wr) (fun _ y _ => (hg + 1 - intOf y).toNat)
  case atStart => exact ⟨0, Nat.zero_le _, by go_num, World.ownsRow_nil _ _ _ _, Below.refl _ _⟩
  case round =>
    obtain ⟨k, hk, rfl, hown, hB⟩ := hrel
    by_cases hlt : k < R.length
    · have hle : (k : Int) - hg ≤ hg := by have := HLN.out; omega
      have hk5 : k ≤ 5 := by have := HLN.out; omega
      have HS : Hid (txs (R.take (k + 1)) = txs (R.take k) ++ [.string (sa ++ (⟨#[if k < hg then a else if k = hg then 46 else b]⟩ : ByteArray) ++ sb)]) := Lib.hid (by rw [HTK.out k hlt, HAT.out k hlt, HRS.out])
      have hlt' := Lib.hid hlt
      rcases Nat.lt_trichotomy k hg with h | h | h
      · rw [if_pos h] at HS
        have d1 : (k : Int) - hg < 0 := by omega
        have d2 : ¬ ((0 : Int) < (k : Int) - hg) := by omega
        have H3 : k + 1 ≤ maxLen := by unfold maxLen; omega
        have H4 : (k + 1) * 16 ≤ 140737488355328 := by omega
        clear h
        have H5 : w.heap.size ≤ (wr.alloc (Obj.cells #[Value.string (sa ++ (⟨#[a]⟩ : ByteArray) ++ sb)] 9)).heap.size := by have := hB.size; simp; omega
        have hx1 : (sa ++ (⟨#[a]⟩ : ByteArray)).size ≤ 10 := by rw [ByteArray.size_append]; show _ + 1 ≤ _; omega
        go_wp2_with (first | (go_at_call 22; first | (with_reducible refine (HT1.out _).mono ?_; rintro e w' ⟨rfl, rfl⟩) | (with_reducible refine (HT2.out _).mono ?_; rintro e w' ⟨rfl, rfl⟩)) | (at_builtin; refine wpList_append_own _ rfl _ _ 28 rfl w.heap.size 9 i0 (.string ByteArray.empty) 1 16 Try.underlying28 HI.out HZ0.out HZ1.out HZ2.out rfl (by decide) _ _ _ rfl (hown.alloc _) ⟨wr.heap.size, 0, none⟩ 1 1 [.string (sa ++ (⟨#[a]⟩ : ByteArray) ++ sb)] rfl rfl (cell_one_new _ _ _) (fun u hu => by simp at hu; subst hu; rfl) H3 H4 H5 ?_; intro v' w3 hown' hgrow _))
        go_roundw
        case rel =>
          refine ⟨k + 1, hlt'.out, by go_num, ?_, ((hB.alloc hB.size _).grown hgrow H5 fun j hj => (hown.lt _ hj).1)⟩
          rw [HS.out]
          exact hown'
        case measure => simp [intOf]; omega
      · rw [if_neg (by omega), if_pos h] at HS
        have d1 : ¬ ((k : Int) - hg < 0) := by omega
        have d2 : ¬ ((0 : Int) < (k : Int) - hg) := by omega
        have H3 : k + 1 ≤ maxLen := by unfold maxLen; omega
        have H4 : (k + 1) * 16 ≤ 140737488355328 := by omega
        clear h
        have H5 : w.heap.size ≤ (wr.alloc (Obj.cells #[Value.string (sa ++ (⟨#[46]⟩ : ByteArray) ++ sb)] 9)).heap.size := by have := hB.size; simp; omega
        have hx1 : (sa ++ (⟨#[46]⟩ : ByteArray)).size ≤ 10 := by rw [ByteArray.size_append]; show _ + 1 ≤ _; omega
        go_wp2_with (first | (go_at_call 22; first | (with_reducible refine (HT1.out _).mono ?_; rintro e w' ⟨rfl, rfl⟩) | (with_reducible refine (HT2.out _).mono ?_; rintro e w' ⟨rfl, rfl⟩)) | (at_builtin; refine wpList_append_own _ rfl _ _ 28 rfl w.heap.size 9 i0 (.string ByteArray.empty) 1 16 Try.underlying28 HI.out HZ0.out HZ1.out HZ2.out rfl (by decide) _ _ _ rfl (hown.alloc _) ⟨wr.heap.size, 0, none⟩ 1 1 [.string (sa ++ (⟨#[46]⟩ : ByteArray) ++ sb)] rfl rfl (cell_one_new _ _ _) (fun u hu => by simp at hu; subst hu; rfl) H3 H4 H5 ?_; intro v' w3 hown' hgrow _))
        go_roundw
        case rel =>
          refine ⟨k + 1, hlt'.out, by go_num, ?_, ((hB.alloc hB.size _).grown hgrow H5 fun j hj => (hown.lt _ hj).1)⟩
          rw [HS.out]
          exact hown'
        case measure => simp [intOf]; omega
      · rw [if_neg (by omega), if_neg (by omega)] at HS
        have d1 : ¬ ((k : Int) - hg < 0) := by omega
        have d2 : (0 : Int) < (k : Int) - hg := by omega
        have H3 : k + 1 ≤ maxLen := by unfold maxLen; omega
        have H4 : (k + 1) * 16 ≤ 140737488355328 := by omega
        clear h
        have H5 : w.heap.size ≤ (wr.alloc (Obj.cells #[Value.string (sa ++ (⟨#[b]⟩ : ByteArray) ++ sb)] 9)).heap.size := by have := hB.size; simp; omega
        have hx1 : (sa ++ (⟨#[b]⟩ : ByteArray)).size ≤ 10 := by rw [ByteArray.size_append]; show _ + 1 ≤ _; omega
        go_wp2_with (first | (go_at_call 22; first | (with_reducible refine (HT1.out _).mono ?_; rintro e w' ⟨rfl, rfl⟩) | (with_reducible refine (HT2.out _).mono ?_; rintro e w' ⟨rfl, rfl⟩)) | (at_builtin; refine wpList_append_own _ rfl _ _ 28 rfl w.heap.size 9 i0 (.string ByteArray.empty) 1 16 Try.underlying28 HI.out HZ0.out HZ1.out HZ2.out rfl (by decide) _ _ _ rfl (hown.alloc _) ⟨wr.heap.size, 0, none⟩ 1 1 [.string (sa ++ (⟨#[b]⟩ : ByteArray) ++ sb)] rfl rfl (cell_one_new _ _ _) (fun u hu => by simp at hu; subst hu; rfl) H3 H4 H5 ?_; intro v' w3 hown' hgrow _))
        go_roundw
        case rel =>
          refine ⟨k + 1, hlt'.out, by go_num, ?_, ((hB.alloc hB.size _).grown hgrow H5 fun j hj => (hown.lt _ hj).1)⟩
          rw [HS.out]
          exact hown'
        case measure => simp [intOf]; omega
    · have hd : ¬ ((k : Int) - hg ≤ hg) := by have := HLN.out; omega
      go_wp2
      go_ret
      obtain rfl : k = R.length := by omega
      refine ⟨_, rfl, ?_, hB⟩
      rwa [List.take_length] at hown
end Go.Proofs.Ytmlffocbcfediaa
