/- First and last boards, how many moves: both sides' contracts, the laws' walks. -/
import Derived.Test.YtmlffocbcfediaaBdG
namespace Go.Proofs.Ytmlffocbcfediaa
open Go.RowKit

theorem joinW_any (R : List (List UInt8)) (g cap : Nat) (w : World) (hA : StAt w (some ⟨g, 0, none⟩) R) (hg : g < w.heap.size) (h5 : R.length ≤ 5) (hcap : R.length ≤ cap) (h6 : (Lib.join R [47]).length ≤ 100) :
    Calls Try.prog 18 #[.slice (some ⟨g, 0, none⟩) R.length cap, .string ⟨#[47]⟩] w fun e w' => e = .returned (.string (str (Lib.join R [47]))) ∧ Below w.heap.size w w' := by
  have e : (R.map str).map (·.data.toList) = R := by
    rw [List.map_map]
    have : ((fun x : ByteArray => x.data.toList) ∘ str) = id := by funext x; exact byt_str x
    rw [this, List.map_id]
  have h := Try.strings_Join g 0 cap (R.map str) ⟨#[47]⟩ w (fun j x hx => by
    have hj : j < R.length := by have := (List.getElem?_eq_some_iff.1 hx).1; simpa using this
    obtain ⟨g', e1, _, hc⟩ := hA j hj
    injection e1 with e1
    injection e1 with e1 _
    subst e1
    have e2 : (R.map str)[j]? = some (str R[j]) := by simp [hj]
    rw [e2] at hx
    injection hx with hx
    rw [← hx, Nat.zero_add]
    exact hc) hg (by simp; omega) (by simpa using hcap) (by rw [e]; show (Lib.join R [47]).length ≤ _; omega)
  rw [e, List.length_map] at h
  exact h

set_option maxRecDepth 100000 in
set_option maxHeartbeats 400000 in
theorem sFstBoard_any (a b : Int) (w : World) :
    Calls Try.prog 6 #[.int .i64 a, .int .i64 b] w fun e w' => e = .returned (strOr (halves a b) (fstB a b 84 70)) ∧ Below w.heap.size w w' := by
  have HH := Lib.hid (fun wx => boHalves_any a b wx)
  cases hc : halves a b
  · rw [hc] at HH
    clear hc
    rw [strOr_no _ _ rfl]
    go_enter Try.func6, Try.ntmps6
    go_wp2_with (go_at_call 12; refine (HH.out _).mono ?_; rintro e w' ⟨rfl, rfl⟩)
    go_ret2
    exact ⟨rfl, Below.refl _ _⟩
  · obtain ⟨m, n, rfl, rfl, hm, hn⟩ := halves_nat hc
    rw [hc] at HH
    clear hc
    rw [strOr_yes _ _ rfl]
    have HF := Lib.hid (fun wx => boFirst_any m n 84 70 wx hm hn)
    have hl : (bdF m n 84 70).length ≤ 5 := by rw [bdF_len]; omega
    have HT := Lib.hid (fun A cap wx h => boText_any (bdF m n 84 70) A cap wx h (by omega) (bdF_row m n 84 70 hm))
    show Calls Try.prog 6 #[.int .i64 m, .int .i64 n] w fun e w' => e = .returned (.tuple #[.string (str (Lib.join (bdF m n 84 70) [47])), .bool true]) ∧ Below w.heap.size w w'
    generalize bdF m n 84 70 = R at HF HT hl ⊢
    go_enter Try.func6, Try.ntmps6
    go_wp2_with fail
    refine (HH.out _).mono ?_
    rintro e w0 ⟨rfl, rfl⟩
    go_wp2_with fail
    refine (HF.out _).mono ?_
    rintro e w1 ⟨v1, rfl, ho1, hb1⟩
    obtain ⟨A, cap, rfl, hle, hmx, AT, _⟩ := st_own ho1
    have HT2 := Lib.hid (HT.out A cap w1 AT)
    clear ho1 AT HT
    go_wp2_with fail
    refine HT2.out.mono ?_
    rintro e w2 ⟨rfl, rfl⟩
    go_wp2
    go_ret2
    exact ⟨rfl, hb1⟩

set_option maxRecDepth 100000 in
set_option maxHeartbeats 400000 in
theorem sLstBoard_any (a b : Int) (w : World) :
    Calls Try.prog 8 #[.int .i64 a, .int .i64 b] w fun e w' => e = .returned (strOr (halves a b) (fstB a b 70 84)) ∧ Below w.heap.size w w' := by
  have HH := Lib.hid (fun wx => boHalves_any a b wx)
  cases hc : halves a b
  · rw [hc] at HH
    clear hc
    rw [strOr_no _ _ rfl]
    go_enter Try.func8, Try.ntmps8
    go_wp2_with (go_at_call 12; refine (HH.out _).mono ?_; rintro e w' ⟨rfl, rfl⟩)
    go_ret2
    exact ⟨rfl, Below.refl _ _⟩
  · obtain ⟨m, n, rfl, rfl, hm, hn⟩ := halves_nat hc
    rw [hc] at HH
    clear hc
    rw [strOr_yes _ _ rfl]
    have HF := Lib.hid (fun wx => boFirst_any m n 70 84 wx hm hn)
    have hl : (bdF m n 70 84).length ≤ 5 := by rw [bdF_len]; omega
    have HT := Lib.hid (fun A cap wx h => boText_any (bdF m n 70 84) A cap wx h (by omega) (bdF_row m n 70 84 hm))
    show Calls Try.prog 8 #[.int .i64 m, .int .i64 n] w fun e w' => e = .returned (.tuple #[.string (str (Lib.join (bdF m n 70 84) [47])), .bool true]) ∧ Below w.heap.size w w'
    generalize bdF m n 70 84 = R at HF HT hl ⊢
    go_enter Try.func8, Try.ntmps8
    go_wp2_with fail
    refine (HH.out _).mono ?_
    rintro e w0 ⟨rfl, rfl⟩
    go_wp2_with fail
    refine (HF.out _).mono ?_
    rintro e w1 ⟨v1, rfl, ho1, hb1⟩
    obtain ⟨A, cap, rfl, hle, hmx, AT, _⟩ := st_own ho1
    have HT2 := Lib.hid (HT.out A cap w1 AT)
    clear ho1 AT HT
    go_wp2_with fail
    refine HT2.out.mono ?_
    rintro e w2 ⟨rfl, rfl⟩
    go_wp2
    go_ret2
    exact ⟨rfl, hb1⟩

theorem bdF_mid (m n : Nat) (k : Nat) (h : k < (bdF m n 84 70).length) (h2 : k < (str (firstL n 1 n)).size) : str (bdF m n 84 70)[k] = str (List.replicate m 84) ++ (str (firstL n 1 n)).extract k (k + 1) ++ str (List.replicate m 70) := by
  have e : (bdF m n 84 70)[k] = rowF m 84 70 ((firstL n 1 n)[k]'(by rw [str_size] at h2; exact h2)) := by
    simp only [bdF, midF_first]
    rw [List.getElem_map]
  rw [e, rowF_str, sign_at _ _ h2]
  rfl

set_option maxRecDepth 100000 in
set_option maxHeartbeats 400000 in
theorem fstBoard_any (a b : Int) (w : World) :
    Calls Try.prog 7 #[.int .i64 a, .int .i64 b] w fun e w' => e = .returned (strOr (halves a b) (fstB a b 84 70)) ∧ Below w.heap.size w w' := by
  have HH := Lib.hid (fun wx => areHalves_any a b wx)
  cases hc : halves a b
  · rw [hc] at HH
    clear hc
    rw [strOr_no _ _ rfl]
    go_enter Try.func7, Try.ntmps7
    go_wp2_with (go_at_call 15; refine (HH.out _).mono ?_; rintro e w' ⟨rfl, rfl⟩)
    go_ret2
    exact ⟨rfl, Below.refl _ _⟩
  · obtain ⟨m, n, rfl, rfl, hm, hn⟩ := halves_nat hc
    rw [hc] at HH
    clear hc
    rw [strOr_yes _ _ rfl]
    obtain ⟨i0, hi, hz0, hz1, hz2⟩ := info_parts Try.infoS
    have HI := Lib.hid hi
    have HZ0 := Lib.hid hz0
    have HZ1 := Lib.hid hz1
    have HZ2 := Lib.hid hz2
    clear hi hz0 hz1 hz2
    have h3 : three (n : Int) 1 n = true := (three_iff _ _ _).2 (by omega)
    have HFL := Lib.hid (fun wx => firstLine_any (n : Int) 1 n wx)
    rw [h3, strOr_yes _ _ rfl] at HFL
    have HR1 := Lib.hid (fun wx => repeat_any 84 (m : Int) wx (by omega) (by omega))
    have HR2 := Lib.hid (fun wx => repeat_any 70 (m : Int) wx (by omega) (by omega))
    rw [show ((m : Int)).toNat = m from rfl] at HR1 HR2
    rw [show ((n : Int)).toNat = n from rfl, show ((1 : Int)).toNat = 1 from rfl] at HFL
    have hl : (bdF m n 84 70).length ≤ 5 := by rw [bdF_len]; omega
    have hms : (str (firstL n 1 n)).size = (bdF m n 84 70).length := by rw [bdF_len, str_size]; simp [firstL]; omega
    have hpos : 0 < (bdF m n 84 70).length := by rw [bdF_len]; omega
    have HAT := Lib.hid (fun k h h2 => bdF_mid m n k h h2)
    have HTK := Lib.hid (txs_take1 (bdF m n 84 70))
    have hjl : (Lib.join (bdF m n 84 70) [47]).length ≤ 100 := by
      have h1 := join_len (bdF m n 84 70) 12 (bdF_row m n 84 70 hm)
      have h2 : (bdF m n 84 70).length * (12 + 1) ≤ 5 * 13 := Nat.mul_le_mul_right 13 (by omega)
      omega
    have HJ := Lib.hid (fun g cap wx h hg hcap => joinW_any (bdF m n 84 70) g cap wx h hg (by omega) hcap hjl)
    show Calls Try.prog 7 #[.int .i64 m, .int .i64 n] w fun e w' => e = .returned (.tuple #[.string (str (Lib.join (bdF m n 84 70) [47])), .bool true]) ∧ Below w.heap.size w w'
    have hs1 : (str (List.replicate m 84)).size ≤ 2 := by rw [str_size]; simp; omega
    have hs2 : (str (List.replicate m 70)).size ≤ 2 := by rw [str_size]; simp; omega
    clear h3 hjl
    generalize bdF m n 84 70 = R at HAT HTK HJ hl hms hpos ⊢
    generalize str (List.replicate m 84) = sa at HR1 HAT hs1
    generalize str (List.replicate m 70) = sb at HR2 HAT hs2
    generalize str (firstL n 1 n) = mid at HFL hms HAT
    go_enter Try.func7, Try.ntmps7
    go_wp2_with (first | (go_at_call 15; refine (HH.out _).mono ?_; rintro e w' ⟨rfl, rfl⟩) | (go_at_call 16; refine (HFL.out _).mono ?_; rintro e w1 ⟨rfl, hb1⟩) | (go_at_call 17; first | (with_reducible refine (HR1.out _).mono ?_; rintro e w2 ⟨rfl, hb2⟩) | (with_reducible refine (HR2.out _).mono ?_; rintro e w3 ⟨rfl, hb3⟩)))
    have HB3 := Lib.hid (hb1.trans ((hb2.trans (hb3.mono hb2.size)).mono hb1.size))
    have hz3 : w.heap.size ≤ w3.heap.size := HB3.out.size
    clear hb1 hb2 hb3
    go_loopw [10, 11, 28] (fun v _ i wr => ∃ k : Nat, k ≤ R.length ∧ i = .int .i64 k ∧ wr.ownsRow w3.heap.size 9 1 v k (txs (R.take k)) ∧ Below w3.heap.size w3 wr) (fun _ _ i _ => R.length - (intOf i).toNat)
    case atStart => exact ⟨0, Nat.zero_le _, rfl, World.ownsRow_nil _ _ _ _, Below.refl _ _⟩
    case round =>
      obtain ⟨k, hk, rfl, hown, hB⟩ := hrel
      by_cases hlt : k < R.length
      · have hk5 : k < mid.size := by omega
        have HS : Hid (txs (R.take (k + 1)) = txs (R.take k) ++ [.string (sa ++ mid.extract k (k + 1) ++ sb)]) := Lib.hid (by rw [HTK.out k hlt, HAT.out k hlt hk5])
        have hxz : (mid.extract k (k + 1)).size ≤ 1 := by rw [ByteArray.size_extract]; omega
        have hx1 : (sa ++ mid.extract k (k + 1)).size ≤ 10 := by rw [ByteArray.size_append]; omega
        have H3 : k + 1 ≤ maxLen := by unfold maxLen; omega
        have H4 : (k + 1) * 16 ≤ 140737488355328 := by omega
        have H5 : w3.heap.size ≤ (wr.alloc (Obj.cells #[Value.string (sa ++ mid.extract k (k + 1) ++ sb)] 9)).heap.size := by have := hB.size; simp; omega
        go_wp2_with (first | (at_builtin; refine wpList_append_own _ rfl _ _ 28 rfl w3.heap.size 9 i0 (.string ByteArray.empty) 1 16 Try.underlying28 HI.out HZ0.out HZ1.out HZ2.out rfl (by decide) _ _ _ rfl (hown.alloc _) ⟨wr.heap.size, 0, none⟩ 1 1 [.string (sa ++ mid.extract k (k + 1) ++ sb)] rfl rfl (cell_one_new _ _ _) (fun u hu => by simp at hu; subst hu; rfl) H3 H4 H5 ?_; intro v' w4 hown' hgrow _))
        go_roundw
        case rel =>
          refine ⟨k + 1, by omega, by go_num, ?_, ((hB.alloc hB.size _).grown hgrow H5 fun j hj => (hown.lt _ hj).1)⟩
          rw [HS.out]
          exact hown'
        case measure => simp [intOf]; omega
      · obtain rfl : k = R.length := by omega
        rw [List.take_length] at hown
        obtain ⟨A, cap, rfl, hle, hmx, AT, _⟩ := st_own hown
        obtain ⟨g, rfl, hg, _⟩ := AT 0 (by omega)
        have HJ2 := Lib.hid (HJ.out g cap wr AT hg hle)
        have HB := Lib.hid hB
        clear hown AT hB
        go_wp2_with fail
        refine HJ2.out.mono ?_
        rintro e w5 ⟨rfl, hb5⟩
        go_wp2
        go_ret2
        exact ⟨rfl, (HB3.out.trans (HB.out.mono hz3)).trans (hb5.mono (by have := HB.out.size; omega))⟩

theorem bd_other (m n : Nat) : (Lib.join (bdF m n 84 70) [47]).map oSg = Lib.join (bdF m n 70 84) [47] := by
  have e1 : ∀ R : List (List UInt8), (Lib.join R [47]).map oSg = Lib.join (R.map (·.map oSg)) [47] := by
    intro R
    cases R with
    | nil => rfl
    | cons a R =>
      rw [List.map_cons, Lib.join_cons, Lib.join_cons, List.map_append]
      congr 1
      unfold Lib.joinTail
      rw [List.map_flatten, List.map_map, List.map_map]
      congr 1
  rw [e1]
  congr 1
  unfold bdF midF
  rw [List.map_map]
  simp [rowF, oSg, List.map_append, List.map_replicate]

set_option maxRecDepth 100000 in
set_option maxHeartbeats 1000000 in
theorem lstBoard_any (a b : Int) (w : World) :
    Calls Try.prog 9 #[.int .i64 a, .int .i64 b] w fun e w' => e = .returned (strOr (halves a b) (fstB a b 70 84)) ∧ Below w.heap.size w w' := by
  have HF := Lib.hid (fun wx => fstBoard_any a b wx)
  cases hc : halves a b
  · rw [hc, strOr_no _ _ rfl] at HF
    rw [strOr_no _ _ rfl]
    have HW := Lib.hid (fun wx => withOther_any [] wx (by simp))
    go_enter Try.func9, Try.ntmps9
    go_wp2_with fail
    refine (HF.out _).mono ?_
    rintro e w1 ⟨rfl, hb1⟩
    go_wp2_with fail
    refine (HW.out _).mono ?_
    rintro e w2 ⟨rfl, hb2⟩
    go_wp2
    go_ret2
    exact ⟨rfl, hb1.trans (hb2.mono hb1.size)⟩
  · obtain ⟨m, n, rfl, rfl, hm, hn⟩ := halves_nat hc
    rw [hc, strOr_yes _ _ rfl] at HF
    rw [strOr_yes _ _ rfl]
    have hl := bdF_len m n 84 70
    have hjl : (Lib.join (bdF m n 84 70) [47]).length ≤ 1000 := by
      have h1 := join_len (bdF m n 84 70) 12 (bdF_row m n 84 70 hm)
      have h2 : (bdF m n 84 70).length * (12 + 1) ≤ 5 * 13 := Nat.mul_le_mul_right 13 (by omega)
      omega
    have HW := Lib.hid (fun wx => withOther_any (fstB m n 84 70) wx hjl)
    have he : (fstB m n 84 70).map oSg = fstB m n 70 84 := bd_other m n
    rw [he] at HW
    clear hc hjl hl he
    generalize fstB m n 84 70 = x at HF HW
    generalize fstB m n 70 84 = y at HW ⊢
    go_enter Try.func9, Try.ntmps9
    go_wp2_with fail
    refine (HF.out _).mono ?_
    rintro e w1 ⟨rfl, hb1⟩
    go_wp2_with fail
    refine (HW.out _).mono ?_
    rintro e w2 ⟨rfl, hb2⟩
    go_wp2
    go_ret2
    exact ⟨rfl, hb1.trans (hb2.mono hb1.size)⟩
end Go.Proofs.Ytmlffocbcfediaa
