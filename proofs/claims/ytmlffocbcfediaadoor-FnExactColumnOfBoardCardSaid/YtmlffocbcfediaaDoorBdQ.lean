/- OtherBoard: both sides' contracts. -/
import Derived.Test.YtmlffocbcfediaaDoorBdP
import Derived.Test.YtmlffocbcfediaaDoorBdT
import Derived.Test.YtmlffocbcfediaaDoorBdW
namespace Go.Proofs.YtmlffocbcfediaaDoor
open Go.RowKit

theorem join_map (f : UInt8 → UInt8) (h : f 47 = 47) (R : List (List UInt8)) : (Lib.join R [47]).map f = Lib.join (R.map (·.map f)) [47] := by
  cases R with
  | nil => rfl
  | cons a R =>
    rw [List.map_cons, Lib.join_cons, Lib.join_cons, List.map_append]
    congr 1
    unfold Lib.joinTail
    rw [List.map_flatten, List.map_map, List.map_map]
    congr 1
    apply List.map_congr_left
    intro r _
    simp [h]
theorem join_rev (R : List (List UInt8)) : (Lib.join R [47]).reverse = Lib.join (R.reverse.map List.reverse) [47] := by
  induction R with
  | nil => rfl
  | cons a R ih =>
    by_cases hR : R = []
    · subst hR; simp [Lib.join_one]
    · rw [List.reverse_cons, List.map_append, List.map_cons, List.map_nil, join_snoc _ _ (by simpa using hR), ← ih]
      have e : Lib.join (a :: R) [47] = a ++ 47 :: Lib.join R [47] := by
        cases R with
        | nil => exact absurd rfl hR
        | cons b R => simp [Lib.join_cons, Lib.joinTail]
      rw [e]
      simp
theorem txs_tk (l : List (List UInt8)) (k : Nat) (h : k < l.length) : txs (l.take (k + 1)) = txs (l.take k) ++ [.string (str l[k])] := by
  rw [List.take_succ_eq_append_getElem h, txs_app]; rfl
/-- The rows of the other board. -/
def otR (R : List (List UInt8)) : List (List UInt8) := R.reverse.map otherL
theorem otR_len (R : List (List UInt8)) : (otR R).length = R.length := by simp [otR]
theorem otR_at (R : List (List UInt8)) (k : Nat) (h : k < (otR R).length) (h2 : R.length - 1 - k < R.length) : (otR R)[k] = otherL R[R.length - 1 - k] := by
  simp only [otR]
  rw [List.getElem_map, List.getElem_reverse]
theorem other_row {r : List UInt8} (h : goodL (str r) = true) : (r.map oSg).reverse = otherL r := by
  unfold otherL
  congr 1
  apply List.map_congr_left
  intro c hc
  have := ((goodL_iff _).1 h).2.2
  rw [byt_str, List.all_eq_true] at this
  exact oSg_sign (this c hc)
theorem other_text {l : List UInt8} (h : goodB l = true) : (l.map oSg).reverse = Lib.join (otR (spl l)) [47] := by
  obtain ⟨_, h2⟩ := (boOk_iff _).1 h
  rw [← spl_join l, join_map oSg rfl, join_rev]
  rw [spl_join]
  congr 1
  unfold otR
  rw [← List.map_reverse, List.map_map]
  apply List.map_congr_left
  intro r hr
  exact other_row (h2 r (by simpa using hr)).1
theorem otR_row {R : List (List UInt8)} (h : ∀ r ∈ R, r.length ≤ 12) : ∀ r ∈ otR R, r.length ≤ 12 := by
  intro r hr
  obtain ⟨x, hx, rfl⟩ := List.mem_map.1 hr
  rw [otherL_len]
  exact h x (by simpa using hx)
theorem boRows_yes (s : ByteArray) (w : World) (hs : s.size ≤ maxLen) (hg : goodB (byt s) = true) :
    Calls Tryd.prog 40 #[.string s] w fun e w' => ∃ A cap, e = .returned (.tuple #[.slice A (spl (byt s)).length cap, .bool true]) ∧ (spl (byt s)).length ≤ cap ∧ StAt w' A (spl (byt s)) ∧ Below w.heap.size w w' := by
  refine (boRows_any s w hs).mono ?_
  rintro e w1 (⟨_, h⟩ | ⟨h, _⟩)
  · exact h
  · rw [hg] at h; cases h
theorem boRows_no (s : ByteArray) (w : World) (hs : s.size ≤ maxLen) (hg : goodB (byt s) = false) :
    Calls Tryd.prog 40 #[.string s] w fun e w' => e = .returned (.tuple #[.slice none 0 0, .bool false]) ∧ Below w.heap.size w w' := by
  refine (boRows_any s w hs).mono ?_
  rintro e w1 (⟨h, _⟩ | ⟨_, h⟩)
  · rw [hg] at h; cases h
  · exact h

set_option maxRecDepth 100000 in
set_option maxHeartbeats 1000000 in
theorem sOtherBoard_any (s : ByteArray) (w : World) (hs : s.size ≤ maxLen) :
    Calls Tryd.prog 34 #[.string s] w fun e w' => e = .returned (strOr (goodB (byt s)) (Lib.join (otR (spl (byt s))) [47])) ∧ Below w.heap.size w w' := by
  cases hc : goodB (byt s)
  · have HR := Lib.hid (fun wx => boRows_no s wx hs hc)
    rw [strOr_no _ _ rfl]
    clear hc
    go_enter Tryd.func34, Tryd.ntmps34
    go_wp2_with fail
    refine (HR.out _).mono ?_
    rintro e w1 ⟨rfl, hb1⟩
    go_wp2
    go_ret2
    exact ⟨rfl, hb1⟩
  · have HR := Lib.hid (fun wx => boRows_yes s wx hs hc)
    obtain ⟨h5, hrow⟩ := (boOk_iff _).1 hc
    have hr12 : ∀ r ∈ spl (byt s), r.length ≤ 12 := fun r hr => by have := (hrow r hr).2.1; omega
    rw [strOr_yes _ _ rfl]
    clear hrow hc
    generalize spl (byt s) = R at HR h5 hr12 ⊢
    have HRW := Lib.hid hr12
    have HAT := Lib.hid (otR_at R)
    have HT := Lib.hid (fun A cap wx h => boText_any (otR R) A cap wx h (by rw [otR_len]; omega) (otR_row hr12))
    have HLN : Hid ((otR R).length = R.length) := Lib.hid (otR_len R)
    have HTK := Lib.hid (txs_tk (otR R))
    clear hr12
    generalize otR R = O at HAT HT HLN HTK ⊢
    obtain ⟨i0, hi, hz0, hz1, hz2⟩ := info_parts Tryd.infoS
    have HI := Lib.hid hi
    have HZ0 := Lib.hid hz0
    have HZ1 := Lib.hid hz1
    have HZ2 := Lib.hid hz2
    clear hi hz0 hz1 hz2
    go_enter Tryd.func34, Tryd.ntmps34
    go_wp2_with fail
    refine (HR.out _).mono ?_
    rintro e w1 ⟨A, cap, rfl, hle, AT0, hb1⟩
    have AT := Lib.hid AT0
    have HB1 := Lib.hid hb1
    clear AT0 hb1
    go_wp2
    go_loopw [6, 7] (fun v i wr => ∃ k : Nat, k ≤ R.length ∧ i = .int .i64 ((R.length : Int) - 1 - k) ∧ wr.ownsRow w1.heap.size 9 1 v k (txs (O.take k)) ∧ Below w1.heap.size w1 wr) (fun _ i _ => (intOf i + 1).toNat)
    case atStart => exact ⟨0, Nat.zero_le _, by go_num, World.ownsRow_nil _ _ _ _, Below.refl _ _⟩
    case round =>
      obtain ⟨k, hk, rfl, hown, hB⟩ := hrel
      by_cases hlt : k < R.length
      · have hk2 : R.length - 1 - k < R.length := by omega
        have hkO : k < O.length := by rw [HLN.out]; exact hlt
        obtain ⟨g, rfl, hg, hcell⟩ := (AT.out.below hB) (R.length - 1 - k) hk2
        have hge : (0 : Int) ≤ (R.length : Int) - 1 - k := by omega
        have hcast : (((R.length - 1 - k : Nat)) : Int) = (R.length : Int) - 1 - k := by omega
        have hnat : ((R.length : Int) - 1 - k).toNat = R.length - 1 - k := by omega
        have i2 : (R.length : Int) - 1 - k < (R.length : Int) := by omega
        have HS : Hid (txs (O.take (k + 1)) = txs (O.take k) ++ [.string (str (otherL R[R.length - 1 - k]))]) := Lib.hid (by rw [HTK.out k hkO, HAT.out k hkO hk2])
        have hx := HRW.out _ (List.getElem_mem hk2)
        have HO := Lib.hid (fun wx => liOther_any (str R[R.length - 1 - k]) wx (by rw [str_size]; omega))
        rw [byt_str] at HO
        generalize R[R.length - 1 - k] = r at hcell HS hx HO
        generalize otherL r = o at HS HO
        have H3 : k + 1 ≤ maxLen := by unfold maxLen; omega
        have H4 : (k + 1) * 16 ≤ 140737488355328 := by omega
        have H5 : w1.heap.size ≤ (wr.alloc (Obj.cells #[Value.string (str o)] 9)).heap.size := by have := hB.size; simp; omega
        go_wp2_with (first | (go_at_call 62; refine (HO.out _).mono ?_; rintro e w' ⟨rfl, rfl⟩) | (at_builtin; refine wpList_append_own _ rfl _ _ 46 rfl w1.heap.size 9 i0 (.string ByteArray.empty) 1 16 Tryd.underlying46 HI.out HZ0.out HZ1.out HZ2.out rfl (by decide) _ _ _ rfl (hown.alloc _) ⟨wr.heap.size, 0, none⟩ 1 1 [.string (str o)] rfl rfl (cell_one_new _ _ _) (fun u hu => by simp at hu; subst hu; rfl) H3 H4 H5 ?_; intro v' w3 hown' hgrow _))
        go_roundw
        case rel =>
          refine ⟨k + 1, by omega, by go_num, ?_, ((hB.alloc hB.size _).grown hgrow H5 fun j hj => (hown.lt _ hj).1)⟩
          rw [HS.out]
          exact hown'
        case measure => simp [intOf]; omega
      · obtain rfl : k = R.length := by omega
        have hge : ¬ ((0 : Int) ≤ (R.length : Int) - 1 - R.length) := by omega
        rw [List.take_of_length_le (by rw [HLN.out]; exact Nat.le_refl _), ← HLN.out] at hown
        obtain ⟨A2, cap2, rfl, hle2, hmx, AT2, _⟩ := st_own hown
        have HT2 := Lib.hid (HT.out A2 cap2 wr AT2)
        have HB := Lib.hid hB
        clear hown AT2 hB
        go_wp2_with fail
        refine HT2.out.mono ?_
        rintro e w5 ⟨rfl, rfl⟩
        go_wp2
        go_ret2
        exact ⟨rfl, HB1.out.trans (HB.out.mono HB1.out.size)⟩

set_option maxRecDepth 100000 in
set_option maxHeartbeats 1000000 in
theorem otherBoard_any (s : ByteArray) (w : World) (hs : s.size ≤ 2000000) :
    Calls Tryd.prog 35 #[.string s] w fun e w' => e = .returned (strOr (goodB (byt s)) (Lib.join (otR (spl (byt s))) [47])) ∧ Below w.heap.size w w' := by
  have HI := Lib.hid (fun wx => isBoard_any s wx hs)
  cases hc : goodB (byt s)
  · rw [hc] at HI
    rw [strOr_no _ _ rfl]
    clear hc
    go_enter Tryd.func35, Tryd.ntmps35
    go_wp2_with fail
    refine (HI.out _).mono ?_
    rintro e w1 ⟨rfl, hb1⟩
    go_wp2
    go_ret2
    exact ⟨rfl, hb1⟩
  · rw [hc] at HI
    rw [strOr_yes _ _ rfl]
    have h30 := goodB_len hc
    have hne : 1 ≤ (byt s).length := by
      cases hb : byt s with
      | nil =>
        rw [hb] at hc
        have : goodB [] = false := by decide
        rw [this] at hc; cases hc
      | cons a l => simp
    have HW := Lib.hid (fun wx => withOther_any (byt s) wx (by omega))
    have HK := Lib.hid (fun wx => backwards_any ((byt s).map oSg) wx (by rw [List.length_map]; exact hne) (by rw [List.length_map]; omega))
    rw [other_text hc] at HK
    rw [str_byt] at HW
    clear hc h30 hne
    generalize (byt s).map oSg = m at HW HK
    generalize Lib.join (otR (spl (byt s))) [47] = y at HK ⊢
    go_enter Tryd.func35, Tryd.ntmps35
    go_wp2_with fail
    refine (HI.out _).mono ?_
    rintro e w1 ⟨rfl, hb1⟩
    go_wp2_with fail
    refine (HW.out _).mono ?_
    rintro e w2 ⟨rfl, hb2⟩
    go_wp2_with fail
    refine (HK.out _).mono ?_
    rintro e w3 ⟨rfl, hb3⟩
    go_wp2
    go_ret2
    exact ⟨rfl, hb1.trans ((hb2.trans (hb3.mono hb2.size)).mono hb1.size)⟩
set_option maxRecDepth 100000 in
set_option maxHeartbeats 2000000 in
theorem walk_FnExactOtherBoard (s : ByteArray) (hs : s.size ≤ maxLen) (w : World) :
    Calls Tryd.prog 11 #[.string s] w fun e w' => e = .returned (.bool true) ∧ Below w.heap.size w w' := by
  by_cases hbig0 : (1048576 : Int) < (s.size : Int)
  · go_enter Tryd.func11, Tryd.ntmps11
    go_wp2
    go_ret
    exact ⟨rfl, Below.refl _ _⟩
  · skip
    have HS := Lib.hid (fun wx => sOtherBoard_any s wx hs)
    have HM := Lib.hid (fun wx => otherBoard_any s wx (by omega))
    obtain ⟨x, y, hxy⟩ : ∃ x y, strOr (goodB (byt s)) (Lib.join (otR (spl (byt s))) [47]) = .tuple #[.string x, .bool y] := by cases goodB (byt s) <;> exact ⟨_, _, rfl⟩
    rw [hxy] at HS HM
    clear hxy
    go_enter Tryd.func11, Tryd.ntmps11
    go_wp2_with fail
    refine (HS.out _).mono ?_
    rintro e w1 ⟨rfl, hb1⟩
    go_wp2_with fail
    refine (HM.out _).mono ?_
    rintro e w2 ⟨rfl, hb2⟩
    go_wp2
    go_ret
    exact ⟨rfl, hb1.trans (hb2.mono hb1.size)⟩
end Go.Proofs.YtmlffocbcfediaaDoor
