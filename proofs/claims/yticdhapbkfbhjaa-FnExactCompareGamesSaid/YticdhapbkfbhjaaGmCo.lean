/- How two games compare: both sides, and the law's walk. -/
import Derived.Test.YticdhapbkfbhjaaGmX
import Derived.Test.YticdhapbkfbhjaaOtL
namespace Go.Proofs.Yticdhapbkfbhjaa
open Go.RowKit Go.Maps Go.Shelf

theorem two_slice (w : World) (x y : List UInt8) : StO (w.alloc (.cells #[.string (str x), .string (str y)] 9)) (some ⟨w.heap.size, 0, none⟩) [x, y] := fun k hk => by
  refine ⟨w.heap.size, 0, rfl, by simp, ?_⟩
  match k, hk with
  | 0, _ => rw [World.cell?_alloc_new]; rfl
  | 1, _ => rw [World.cell?_alloc_new]; rfl
theorem other_good (x : List UInt8) (h : goodL (str x) = true) : goodL (str (otherL x)) = true := by
  obtain ⟨h1, h2, h3⟩ := (goodL_iff _).1 h
  rw [str_size] at h1 h2
  rw [byt_str] at h3
  refine (goodL_iff _).2 ⟨by rw [str_size, otherL_len]; exact h1, by rw [str_size, otherL_len]; exact h2, ?_⟩
  rw [byt_str]
  rw [List.all_eq_true] at h3 ⊢
  intro c hc
  unfold otherL at hc
  simp only [List.mem_map, List.mem_reverse] at hc
  obtain ⟨d, hd, rfl⟩ := hc
  have := h3 d hd
  rcases sign_cases d with rfl | rfl | rfl | h
  · rfl
  · rfl
  · rfl
  · rw [h] at this; cases this
/-- The other line, or the empty text. -/
def othV (v : List UInt8) : List UInt8 := if goodL (str v) then otherL v else []
theorem sum_oth (x v : List UInt8) : sumOk [x, othV v] = sumOk [x, v] := by
  unfold othV
  cases hg : goodL (str v)
  · have e : goodL (str ([] : List UInt8)) = false := rfl
    simp [sumOk, hg, e]
  · have := other_good v hg
    simp [sumOk, hg, this, otherL_len]
theorem str_one (c d : UInt8) : ((str [c]).toList == [d]) = decide (c = d) := by
  have h := same_str [c] [d]
  have e : (str [d]).toList = [d] := by rw [Lib.toList_data]; rfl
  rw [e] at h
  rw [h]
  simp
/-- How lines compare, out of who wins. -/
def cmpC (a b : Bool) : UInt8 := if a && b then 124 else if a then 62 else if b then 60 else 61
set_option maxRecDepth 100000 in
set_option maxHeartbeats 2000000 in
theorem gaCompare_any (x v : List UInt8) (w : World) (hok : sumOk [x, v] = true) :
    Calls Try.prog 61 #[.string (str x), .string (str v)] w fun e w' => e = .returned (.string (str [cmpC (Wn true (joinG [x, otherL v])) (Wn false (joinG [x, otherL v]))])) ∧ Below w.heap.size w w' := by
  have hgv : goodL (str v) = true := ((sumOk_iff _).1 hok).2.2.1 v (by simp)
  have hok2 : sumOk [x, otherL v] = true := by
    have := sum_oth x v
    unfold othV at this
    rw [hgv, if_pos rfl] at this
    rw [this]; exact hok
  have hv12 := (good_len hgv).2
  have HOT := Lib.hid (fun wx => liOther_any (str v) wx (by rw [str_size]; omega))
  rw [byt_str] at HOT
  have hO : ∀ (wx : World), Calls Try.prog 89 #[.slice (some ⟨wx.heap.size, 0, none⟩) 2 2] (wx.alloc (.cells #[.string (str x), .string (str (otherL v))] 9)) fun e w' => e = .returned (.string (str [outC (Wn true (joinG [x, otherL v])) (Wn false (joinG [x, otherL v]))])) ∧ Below (wx.alloc (.cells #[.string (str x), .string (str (otherL v))] 9)).heap.size (wx.alloc (.cells #[.string (str x), .string (str (otherL v))] 9)) w' :=
    fun wx => gaOutcome_any [x, otherL v] (some ⟨wx.heap.size, 0, none⟩) 2 _ (two_slice wx x (otherL v)) (fun a e => by injection e with e; subst e; simp) hok2
  have HO := Lib.hid hO
  clear hO hok hok2 hgv
  generalize Wn true (joinG [x, otherL v]) = a at HO ⊢
  generalize Wn false (joinG [x, otherL v]) = b at HO ⊢
  generalize otherL v = y at HOT HO
  have t49_50 : ((str [49]).toList == [50]) = false := by rw [str_one]; decide
  have t84_50 : ((str [84]).toList == [50]) = false := by rw [str_one]; decide
  have t70_50 : ((str [70]).toList == [50]) = false := by rw [str_one]; decide
  have t50_50 : ((str [50]).toList == [50]) = true := by rw [str_one]; decide
  have t49_84 : ((str [49]).toList == [84]) = false := by rw [str_one]; decide
  have t84_84 : ((str [84]).toList == [84]) = true := by rw [str_one]; decide
  have t70_84 : ((str [70]).toList == [84]) = false := by rw [str_one]; decide
  have t49_70 : ((str [49]).toList == [70]) = false := by rw [str_one]; decide
  have t70_70 : ((str [70]).toList == [70]) = true := by rw [str_one]; decide
  cases a <;> cases b
  all_goals
    simp only [outC, cmpC, Bool.and_true, Bool.and_false, Bool.and_self, if_true, if_false, Bool.false_eq_true] at HO ⊢
    go_enter Try.func61, Try.ntmps61
    go_wp2_with fail
    refine (HOT.out _).mono ?_
    rintro e w1 ⟨rfl, rfl⟩
    go_wp2_with fail
    refine (HO.out _).mono ?_
    rintro e w2 ⟨rfl, hb2⟩
    go_wp2
    go_ret
    exact ⟨rfl, ((Below.refl _ w).alloc (Nat.le_refl _) _).trans (hb2.mono (by simp))⟩

set_option maxRecDepth 100000 in
set_option maxHeartbeats 2000000 in
theorem sCompare_any (x v : List UInt8) (w : World) (hx : (str x).size ≤ maxLen) (hv : (str v).size ≤ maxLen) :
    Calls Try.prog 30 #[.string (str x), .string (str v)] w fun e w' => e = .returned (strOr (sumOk [x, v]) [cmpC (Wn true (joinG [x, otherL v])) (Wn false (joinG [x, otherL v]))]) ∧ Below w.heap.size w w' := by
  have HS := Lib.hid (fun wx => gaSum_any [x, v] (some ⟨World.heap wx |>.size, 0, none⟩) 2 _ (two_slice wx x v) (by simp) (fun y hy => by
    rw [str_size] at hx hv
    rcases List.mem_cons.1 hy with rfl | hy
    · exact hx
    · rw [List.mem_singleton] at hy; subst hy; exact hv))
  have hb : Below w.heap.size w (w.alloc (.cells #[.string (str x), .string (str v)] 9)) := (Below.refl _ w).alloc (Nat.le_refl _) _
  cases hf : sumOk [x, v]
  · rw [hf] at HS
    have HS2 := Lib.hid (HS.out w)
    clear hf HS
    go_enter Try.func30, Try.ntmps30
    go_wp2_with fail
    refine HS2.out.mono ?_
    rintro e w1 ⟨rfl, rfl⟩
    go_wp2
    go_ret2
    exact ⟨rfl, hb⟩
  · have HC := Lib.hid (fun wx => gaCompare_any x v wx hf)
    rw [hf] at HS
    have HS2 := Lib.hid (HS.out w)
    clear hf HS
    go_enter Try.func30, Try.ntmps30
    go_wp2_with fail
    refine HS2.out.mono ?_
    rintro e w1 ⟨rfl, rfl⟩
    go_wp2_with fail
    refine (HC.out _).mono ?_
    rintro e w2 ⟨rfl, hb2⟩
    go_wp2
    go_ret2
    exact ⟨rfl, hb.trans (hb2.mono hb.size)⟩
set_option maxRecDepth 100000 in
set_option maxHeartbeats 4000000 in
theorem compareGames_any (x v : List UInt8) (w : World) (hx : (str x).size ≤ maxLen) (hv : (str v).size ≤ maxLen) :
    Calls Try.prog 31 #[.string (str x), .string (str v)] w fun e w' => e = .returned (strOr (sumOk [x, v]) [cmpC (Wn true (joinG [x, otherL v])) (Wn false (joinG [x, otherL v]))]) ∧ Below w.heap.size w w' := by
  have HOT : Hid (∀ wx, Calls Try.prog 21 #[.string (str v)] wx fun e w' => (∃ b, e = .returned (.tuple #[.string (str (othV v)), .bool b])) ∧ Below wx.heap.size wx w') := Lib.hid fun wx => by
    refine (otherLine_any (str v) wx hv).mono ?_
    rintro e w' ⟨rfl, hb⟩
    refine ⟨?_, hb⟩
    unfold othV strOr
    rw [byt_str]
    cases goodL (str v)
    · exact ⟨_, rfl⟩
    · exact ⟨_, rfl⟩
  have hsz : ∀ y ∈ [x, othV v], y.length ≤ maxLen := fun y hy => by
    rw [str_size] at hx hv
    rcases List.mem_cons.1 hy with rfl | hy
    · exact hx
    · rw [List.mem_singleton] at hy
      subst hy
      unfold othV
      split
      · rw [otherL_len]; exact hv
      · simp
  have hsum := sum_oth x v
  have HW := Lib.hid (fun wx => winning_ex (joinG [x, othV v]).length wx)
  cases hf : sumOk [x, v]
  · have HO := Lib.hid (fun Bt Br Bs (wx : World) => outcomeOf_no Bt Br Bs [x, othV v] (some ⟨wx.heap.size, 0, none⟩) 2 _ (two_slice wx x (othV v)) hsz (by rw [hsum]; exact hf))
    clear hf hsum hsz
    generalize othV v = y at HOT HO HW
    go_enter Try.func31, Try.ntmps31
    go_wp2_with fail
    refine (HOT.out _).mono ?_
    rintro e w0 ⟨⟨b, rfl⟩, hb0⟩
    go_wp2_with fail
    refine (HW.out _).mono ?_
    rintro e w1 ⟨B, Bt, Br, Bs, rfl, _, _, hb1⟩
    have HB1 := Lib.hid ((hb0.trans (hb1.mono hb0.size)).alloc (Nat.le_trans hb0.size hb1.size) (.cells #[.string (str x), .string (str y)] 9))
    clear hb0 hb1
    go_wp2_with fail
    refine (HO.out _ _ _ w1).mono ?_
    rintro e w2 ⟨rfl, hb2⟩
    go_wp2
    go_ret2
    exact ⟨rfl, HB1.out.trans (hb2.mono HB1.out.size)⟩
  · have hgv : goodL (str v) = true := ((sumOk_iff _).1 hf).2.2.1 v (by simp)
    have hoth : othV v = otherL v := by unfold othV; rw [hgv, if_pos rfl]
    rw [hoth] at HOT hsz hsum HW
    have hO : ∀ (B Bt Br Bs : Nat) (wx : World), TellI (wx.alloc (.cells #[.string (str x), .string (str (otherL v))] 9)) (joinG [x, otherL v]).length B Bt Br Bs → Calls Try.prog 62 #[telV Bt Br Bs, .slice (some ⟨wx.heap.size, 0, none⟩) 2 2] (wx.alloc (.cells #[.string (str x), .string (str (otherL v))] 9)) fun e w' => e = .returned (.tuple #[.int .i64 (outI (Wn true (joinG [x, otherL v])) (Wn false (joinG [x, otherL v]))), .bool true]) ∧ KpM B (wx.alloc (.cells #[.string (str x), .string (str (otherL v))] 9)) w' := fun B Bt Br Bs wx h2 => (outcomeOf_yes _ B Bt Br Bs [x, otherL v] (some ⟨wx.heap.size, 0, none⟩) 2 _ rfl (two_slice wx x (otherL v)) (by simp) (by rw [hsum]; exact hf) h2).mono fun _ _ ⟨a, _, c⟩ => ⟨a, c⟩
    have HO := Lib.hid hO
    clear hO hf hsum hsz hoth hgv
    show Calls Try.prog 31 #[.string (str x), .string (str v)] w fun e w' => e = .returned (.tuple #[.string (str [cmpC (Wn true (joinG [x, otherL v])) (Wn false (joinG [x, otherL v]))]), .bool true]) ∧ Below w.heap.size w w'
    generalize Wn true (joinG [x, otherL v]) = a at HO ⊢
    generalize Wn false (joinG [x, otherL v]) = b at HO ⊢
    generalize (joinG [x, otherL v]).length = L at HO HW
    generalize otherL v = y at HO HOT
    cases a <;> cases b
    all_goals
      simp only [outI, cmpC, Bool.and_true, Bool.and_false, Bool.and_self, if_true, if_false, Bool.false_eq_true] at HO ⊢
      go_enter Try.func31, Try.ntmps31
      go_wp2_with fail
      refine (HOT.out _).mono ?_
      rintro e w0 ⟨⟨b, rfl⟩, hb0⟩
      go_wp2_with fail
      refine (HW.out _).mono ?_
      rintro e w1 ⟨B, Bt, Br, Bs, rfl, hI1, hBB, hb1⟩
      have HI1 := Lib.hid (hI1.below ((Below.refl _ w1).alloc (Nat.le_refl _) (.cells #[.string (str x), .string (str y)] 9)))
      have HB1 := Lib.hid ((hb0.trans (hb1.mono hb0.size)).alloc (Nat.le_trans hb0.size hb1.size) (.cells #[.string (str x), .string (str y)] 9))
      have hB0 := Nat.le_trans hb0.size hBB
      clear hI1 hb0 hb1
      go_wp2_with fail
      refine (HO.out _ _ _ _ _ HI1.out).mono ?_
      rintro e w2 ⟨rfl, hk2⟩
      go_wp2
      go_ret2
      exact ⟨rfl, HB1.out.trans (hk2.to_below hB0 HB1.out.size)⟩

set_option maxHeartbeats 1000000 in
theorem walk_FnExactCompareGames (s : ByteArray) (hs : s.size ≤ maxLen) (t : ByteArray) (ht : t.size ≤ maxLen) (w : World) :
    Calls Try.prog 9 #[.string s, .string t] w fun e w' => e = .returned (.bool true) ∧ Below w.heap.size w w' := by
  obtain ⟨wl, hwl⟩ : ∃ wl, s = str wl := ⟨byt s, (str_byt s).symm⟩
  subst hwl
  obtain ⟨vt, hvt⟩ : ∃ vt, t = str vt := ⟨byt t, (str_byt t).symm⟩
  subst hvt
  by_cases hbig : (1048576 : Int) < ((str wl).size : Int)
  · go_enter Try.func9, Try.ntmps9
    go_wp2
    go_ret
    exact ⟨rfl, Below.refl _ _⟩
  · by_cases hbig2 : (1048576 : Int) < ((str vt).size : Int)
    · go_enter Try.func9, Try.ntmps9
      go_wp2
      go_ret
      exact ⟨rfl, Below.refl _ _⟩
    · have HS := Lib.hid (fun wx => sCompare_any wl vt wx hs ht)
      have HP := Lib.hid (fun wx => compareGames_any wl vt wx hs ht)
      generalize [cmpC (Wn true (joinG [wl, otherL vt])) (Wn false (joinG [wl, otherL vt]))] = r at HS HP
      have hq := same_str r r
      have hq0 := same_str [] []
      simp only [decide_true] at hq hq0
      unfold strOr at HS HP
      generalize sumOk [wl, vt] = q at HS HP
      cases q
      all_goals
        simp only [if_true, if_false, Bool.false_eq_true] at HS HP
        go_enter Try.func9, Try.ntmps9
        go_wp2_with fail
        refine (HS.out _).mono ?_
        rintro e w1 ⟨rfl, hb1⟩
        go_wp2_with fail
        refine (HP.out _).mono ?_
        rintro e w2 ⟨rfl, hb2⟩
        go_wp2
        go_ret
        exact ⟨rfl, hb1.trans (hb2.mono hb1.size)⟩
end Go.Proofs.Yticdhapbkfbhjaa
