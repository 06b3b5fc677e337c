/- The whole value of a game: both sides, and the law's walk. -/
import Derived.Test.YticdhapbkfbhjaaGmCo
namespace Go.Proofs.Yticdhapbkfbhjaa
open Go.RowKit Go.Maps Go.Shelf

/-- The line of a whole number. -/
def whL (n : Int) : List UInt8 := if n < 0 then List.replicate (-n).toNat 46 ++ [70] else 84 :: List.replicate n.toNat 46
theorem whL_good (n : Int) (h1 : -4 ≤ n) (h2 : n ≤ 4) : goodL (str (whL n)) = true ∧ (whL n).length ≤ 5 := by
  have hall : ∀ k : Nat, (List.replicate k (46 : UInt8)).all isSign = true := fun k => by
    rw [List.all_eq_true]
    intro c hc
    rw [(List.mem_replicate.1 hc).2]; rfl
  unfold whL
  by_cases h : n < 0
  · rw [if_pos h]
    refine ⟨(goodL_iff _).2 ⟨by rw [str_size]; simp, by rw [str_size]; simp; omega, ?_⟩, by simp; omega⟩
    rw [byt_str, List.all_append, hall]; rfl
  · rw [if_neg h]
    refine ⟨(goodL_iff _).2 ⟨by rw [str_size]; simp, by rw [str_size]; simp; omega, ?_⟩, by simp; omega⟩
    rw [byt_str, List.all_cons, hall]; rfl
theorem whL_sum {x : List UInt8} (hx : goodL (str x) = true) (h5 : x.length ≤ 5) (n : Int) (h1 : -4 ≤ n) (h2 : n ≤ 4) : sumOk [x, whL n] = true := by
  obtain ⟨hg, hl⟩ := whL_good n h1 h2
  refine (sumOk_iff _).2 ⟨by simp, by simp, fun y hy => ?_, by simp; omega⟩
  rcases List.mem_cons.1 hy with rfl | hy
  · exact hx
  · rw [List.mem_singleton] at hy; subst hy; exact hg
/-- The sign by which a line compares with a whole number's. -/
def cmW (x : List UInt8) (n : Int) : UInt8 := cmpC (Wn true (joinG [x, otherL (whL n)])) (Wn false (joinG [x, otherL (whL n)]))
/-- The answer: the first whole number that the line is the same as. -/
def WhP (x : List UInt8) (r : Int) (ok : Bool) : Prop :=
  (ok = true ∧ -4 ≤ r ∧ r ≤ 4 ∧ cmW x r = 61 ∧ ∀ m, -4 ≤ m → m < r → cmW x m ≠ 61) ∨ (ok = false ∧ r = 0 ∧ ∀ m, -4 ≤ m → m ≤ 4 → cmW x m ≠ 61)
/-- The answer, and what lies as it lay. -/
def WhQ (x : List UInt8) (w : World) (e : Ending) (w' : World) : Prop := ∃ r ok, e = .returned (.tuple #[.int .i64 r, .bool ok]) ∧ WhP x r ok ∧ Below w.heap.size w w'
theorem WhP.one {x : List UInt8} {r r' : Int} {ok ok' : Bool} (h : WhP x r ok) (h' : WhP x r' ok') : r = r' ∧ ok = ok' := by
  rcases h with ⟨h1, h2, h3, h4, h5⟩ | ⟨h1, h2, h3⟩ <;> rcases h' with ⟨g1, g2, g3, g4, g5⟩ | ⟨g1, g2, g3⟩
  · refine ⟨?_, by rw [h1, g1]⟩
    rcases Int.lt_trichotomy r r' with h | h | h
    · exact absurd h4 (g5 r h2 h)
    · exact h
    · exact absurd g4 (h5 r' g2 h)
  · exact absurd h4 (g3 r h2 h3)
  · exact absurd g4 (h3 r' g2 g3)
  · exact ⟨by rw [h2, g2], by rw [h1, g1]⟩
set_option maxHeartbeats 1000000 in
theorem gaWhole_any (n : Int) (w : World) (h1 : -4 ≤ n) (h2 : n ≤ 4) :
    Calls Try.prog 64 #[.int .i64 n] w fun e w' => e = .returned (.string (str (whL n))) ∧ w = w' := by
  by_cases h : n < 0
  · have hL : Hid (whL n = List.replicate (-n).toNat 46 ++ [70]) := Lib.hid (by unfold whL; rw [if_pos h])
    have HT := Lib.hid (fun wx => liTimes_any 46 (-n) wx (by omega))
    have hz : (str (List.replicate (-n).toNat (46 : UInt8))).size ≤ 100 := by rw [str_size]; simp; omega
    go_enter Try.func64, Try.ntmps64
    go_wp2_with fail
    refine (HT.out _).mono ?_
    rintro e w1 ⟨rfl, rfl⟩
    go_wp2
    go_ret
    refine ⟨?_, rfl⟩
    rw [hL.out, ← str_app]
    rfl
  · have hL : Hid (whL n = 84 :: List.replicate n.toNat 46) := Lib.hid (by unfold whL; rw [if_neg h])
    have HT := Lib.hid (fun wx => liTimes_any 46 n wx (by omega))
    have hz : (str (List.replicate n.toNat (46 : UInt8))).size ≤ 100 := by rw [str_size]; simp; omega
    go_enter Try.func64, Try.ntmps64
    go_wp2_with fail
    refine (HT.out _).mono ?_
    rintro e w1 ⟨rfl, rfl⟩
    go_wp2
    go_ret
    refine ⟨?_, rfl⟩
    rw [hL.out, show (84 :: List.replicate n.toNat (46 : UInt8)) = [84] ++ List.replicate n.toNat 46 from rfl, ← str_app]
    rfl
set_option maxHeartbeats 1000000 in
theorem lineOfWhole_any (n : Int) (w : World) (h1 : -4 ≤ n) (h2 : n ≤ 4) :
    Calls Try.prog 65 #[.int .i64 n] w fun e w' => e = .returned (.string (str (whL n))) ∧ Below w.heap.size w w' := by
  by_cases h : n < 0
  · have hL : Hid (whL n = List.replicate (-n).toNat 46 ++ [70]) := Lib.hid (by unfold whL; rw [if_pos h])
    have hth : three 0 (-n) 1 = true := (three_iff _ _ _).2 (by omega)
    have HF := Lib.hid (fun wx => firstLine_any 0 (-n) 1 wx)
    rw [hth] at HF
    unfold strOr at HF
    simp only [if_true] at HF
    go_enter Try.func65, Try.ntmps65
    go_wp2_with fail
    refine (HF.out _).mono ?_
    rintro e w1 ⟨rfl, hb1⟩
    go_wp2
    go_ret
    refine ⟨?_, hb1⟩
    rw [hL.out]
    rfl
  · have hL : Hid (whL n = 84 :: List.replicate n.toNat 46) := Lib.hid (by unfold whL; rw [if_neg h])
    have hth : three 1 n 0 = true := (three_iff _ _ _).2 (by omega)
    have HF := Lib.hid (fun wx => firstLine_any 1 n 0 wx)
    rw [hth] at HF
    unfold strOr at HF
    simp only [if_true] at HF
    go_enter Try.func65, Try.ntmps65
    go_wp2_with fail
    refine (HF.out _).mono ?_
    rintro e w1 ⟨rfl, hb1⟩
    go_wp2
    go_ret
    refine ⟨?_, hb1⟩
    rw [hL.out]
    simp [str, firstL]

set_option maxRecDepth 100000 in
set_option maxHeartbeats 2000000 in
theorem sWhole_no (x : List UInt8) (w : World) (hs : (str x).size ≤ maxLen) (hf : (goodL (str x) && decide (x.length ≤ 5)) = false) :
    Calls Try.prog 32 #[.string (str x)] w fun e w' => e = .returned (.tuple #[.int .i64 0, .bool false]) ∧ w = w' := by
  cases hg : goodL (str x)
  · have HGB := Lib.hid hg
    clear hf hg
    go_enter Try.func32, Try.ntmps32
    go_wp2_with (go_at_call 47; refine (liGood_any _ _ hs).mono ?_; rintro e w' ⟨rfl, rfl⟩; rw [HGB.out])
    go_ret2
    exact ⟨rfl, rfl⟩
  · rw [hg, Bool.true_and, decide_eq_false_iff_not] at hf
    have hd : ((str x).size : Int) > 5 := by rw [str_size]; omega
    have HGB := Lib.hid hg
    clear hf hg
    go_enter Try.func32, Try.ntmps32
    go_wp2_with (go_at_call 47; refine (liGood_any _ _ hs).mono ?_; rintro e w' ⟨rfl, rfl⟩; rw [HGB.out])
    go_ret2
    exact ⟨rfl, rfl⟩
set_option maxRecDepth 100000 in
set_option maxHeartbeats 2000000 in
theorem sWhole_yes (x : List UInt8) (w : World) (hg : goodL (str x) = true) (h5 : x.length ≤ 5) :
    Calls Try.prog 32 #[.string (str x)] w (WhQ x w) := by
  have HG := Lib.hid hg
  have HGB := Lib.hid hg
  have hs : (str x).size ≤ maxLen := by rw [str_size]; unfold maxLen; omega
  have hd : ¬ ((str x).size : Int) > 5 := by rw [str_size]; omega
  clear hg
  go_enter Try.func32, Try.ntmps32
  go_wp2_with (go_at_call 47; refine (liGood_any _ _ hs).mono ?_; rintro e w' ⟨rfl, rfl⟩; rw [HGB.out])
  go_loopw [4] (fun i wr => ∃ n : Int, i = .int .i64 n ∧ -4 ≤ n ∧ n ≤ 5 ∧ Hid (∀ m, -4 ≤ m → m < n → cmW x m ≠ 61) ∧ Below w.heap.size w wr) (fun i _ => (5 - intOf i).toNat)
  case atStart => exact ⟨-4, rfl, by omega, by omega, Lib.hid fun m h1 h2 => by omega, Below.refl _ _⟩
  case round =>
    obtain ⟨n, rfl, hn1, hn5, HNO, hB⟩ := hrel
    by_cases hlt : n ≤ 4
    · have hn2 : n ≤ 4 := hlt
      have hcm := str_one (cmW x n) 61
      have HWH := Lib.hid (fun wx => gaWhole_any n wx hn1 hn2)
      have HC := Lib.hid (fun wx => gaCompare_any x (whL n) wx (whL_sum HG.out h5 n hn1 hn2))
      change Hid (∀ wx, Calls Try.prog 61 #[.string (str x), .string (str (whL n))] wx fun e w' => e = .returned (.string (str [cmW x n])) ∧ Below wx.heap.size wx w') at HC
      by_cases hc : cmW x n = 61
      · rw [decide_eq_true hc] at hcm
        have HE := Lib.hid hc
        generalize hq : cmW x n = q at HC hcm
        clear hc hq
        · go_wp2_with fail
          refine (HWH.out _).mono ?_
          rintro e w1 ⟨rfl, rfl⟩
          go_wp2_with fail
          refine (HC.out _).mono ?_
          rintro e w2 ⟨rfl, hb2⟩
          have HB := Lib.hid (hB.trans (hb2.mono hB.size))
          clear hb2
          go_wp2
          go_ret2
          exact ⟨n, true, rfl, .inl ⟨rfl, hn1, hn2, HE.out, HNO.out⟩, HB.out⟩
      · rw [decide_eq_false hc] at hcm
        have HNO2 : Hid (∀ m, -4 ≤ m → m < n + 1 → cmW x m ≠ 61) := Lib.hid fun m h1 h2 => by
          by_cases e : m = n
          · subst e; exact hc
          · exact HNO.out m h1 (by omega)
        generalize hq : cmW x n = q at HC hcm
        clear hc hq
        · go_wp2_with fail
          refine (HWH.out _).mono ?_
          rintro e w1 ⟨rfl, rfl⟩
          go_wp2_with fail
          refine (HC.out _).mono ?_
          rintro e w2 ⟨rfl, hb2⟩
          have HB := Lib.hid (hB.trans (hb2.mono hB.size))
          clear hb2
          go_wp2
          go_roundw
          case rel => exact ⟨n + 1, rfl, by omega, by omega, HNO2, HB.out⟩
          case measure => simp [intOf]; omega
    · go_wp2
      go_ret2
      exact ⟨0, false, rfl, .inr ⟨rfl, rfl, fun m h1 h2 => HNO.out m h1 (by omega)⟩, hB⟩

set_option maxRecDepth 100000 in
set_option maxHeartbeats 2000000 in
theorem whole_no (x : List UInt8) (w : World) (hs : (str x).size ≤ maxLen) (hf : (goodL (str x) && decide (x.length ≤ 5)) = false) :
    Calls Try.prog 33 #[.string (str x)] w fun e w' => e = .returned (.tuple #[.int .i64 0, .bool false]) ∧ w = w' := by
  cases hg : goodL (str x)
  · have HGB := Lib.hid hg
    clear hf hg
    go_enter Try.func33, Try.ntmps33
    go_wp2_with (go_at_call 49; refine (isLine_any _ _ hs).mono ?_; rintro e w' ⟨rfl, rfl⟩; rw [HGB.out])
    go_ret2
    exact ⟨rfl, rfl⟩
  · rw [hg, Bool.true_and, decide_eq_false_iff_not] at hf
    have hd : ((str x).size : Int) > 5 := by rw [str_size]; omega
    have HGB := Lib.hid hg
    clear hf hg
    go_enter Try.func33, Try.ntmps33
    go_wp2_with (go_at_call 49; refine (isLine_any _ _ hs).mono ?_; rintro e w' ⟨rfl, rfl⟩; rw [HGB.out])
    go_ret2
    exact ⟨rfl, rfl⟩
set_option maxRecDepth 100000 in
set_option maxHeartbeats 2000000 in
theorem whole_yes (x : List UInt8) (w : World) (hg : goodL (str x) = true) (h5 : x.length ≤ 5) :
    Calls Try.prog 33 #[.string (str x)] w (WhQ x w) := by
  have HG := Lib.hid hg
  have HGB := Lib.hid hg
  have hs : (str x).size ≤ maxLen := by rw [str_size]; unfold maxLen; omega
  have hd : ¬ ((str x).size : Int) > 5 := by rw [str_size]; omega
  clear hg
  go_enter Try.func33, Try.ntmps33
  go_wp2_with (go_at_call 49; refine (isLine_any _ _ hs).mono ?_; rintro e w' ⟨rfl, rfl⟩; rw [HGB.out])
  go_loopw [4] (fun i wr => ∃ n : Int, i = .int .i64 n ∧ -4 ≤ n ∧ n ≤ 5 ∧ Hid (∀ m, -4 ≤ m → m < n → cmW x m ≠ 61) ∧ Below w.heap.size w wr) (fun i _ => (5 - intOf i).toNat)
  case atStart => exact ⟨-4, rfl, by omega, by omega, Lib.hid fun m h1 h2 => by omega, Below.refl _ _⟩
  case round =>
    obtain ⟨n, rfl, hn1, hn5, HNO, hB⟩ := hrel
    by_cases hlt : n ≤ 4
    · have hn2 : n ≤ 4 := hlt
      have hcm := str_one (cmW x n) 61
      have HWH := Lib.hid (fun wx => lineOfWhole_any n wx hn1 hn2)
      have HC : Hid (∀ wx, Calls Try.prog 31 #[.string (str x), .string (str (whL n))] wx fun e w' => e = .returned (.tuple #[.string (str [cmW x n]), .bool true]) ∧ Below wx.heap.size wx w') := Lib.hid fun wx => by
        have h := compareGames_any x (whL n) wx (by rw [str_size]; unfold maxLen; omega) (by rw [str_size]; have := (whL_good n hn1 hn2).2; unfold maxLen; omega)
        rw [whL_sum HG.out h5 n hn1 hn2] at h
        exact h
      by_cases hc : cmW x n = 61
      · rw [decide_eq_true hc] at hcm
        have HE := Lib.hid hc
        generalize hq : cmW x n = q at HC hcm
        clear hc hq
        · go_wp2_with fail
          refine (HWH.out _).mono ?_
          rintro e w1 ⟨rfl, hb1⟩
          go_wp2_with fail
          refine (HC.out _).mono ?_
          rintro e w2 ⟨rfl, hb2⟩
          have HB := Lib.hid ((hB.trans (hb1.mono hB.size)).trans (hb2.mono (Nat.le_trans hB.size hb1.size)))
          clear hb1 hb2
          go_wp2
          go_ret2
          exact ⟨n, true, rfl, .inl ⟨rfl, hn1, hn2, HE.out, HNO.out⟩, HB.out⟩
      · rw [decide_eq_false hc] at hcm
        have HNO2 : Hid (∀ m, -4 ≤ m → m < n + 1 → cmW x m ≠ 61) := Lib.hid fun m h1 h2 => by
          by_cases e : m = n
          · subst e; exact hc
          · exact HNO.out m h1 (by omega)
        generalize hq : cmW x n = q at HC hcm
        clear hc hq
        · go_wp2_with fail
          refine (HWH.out _).mono ?_
          rintro e w1 ⟨rfl, hb1⟩
          go_wp2_with fail
          refine (HC.out _).mono ?_
          rintro e w2 ⟨rfl, hb2⟩
          have HB := Lib.hid ((hB.trans (hb1.mono hB.size)).trans (hb2.mono (Nat.le_trans hB.size hb1.size)))
          clear hb1 hb2
          go_wp2
          go_roundw
          case rel => exact ⟨n + 1, rfl, by omega, by omega, HNO2, HB.out⟩
          case measure => simp [intOf]; omega
    · go_wp2
      go_ret2
      exact ⟨0, false, rfl, .inr ⟨rfl, rfl, fun m h1 h2 => HNO.out m h1 (by omega)⟩, hB⟩

set_option maxHeartbeats 1000000 in
theorem walk_FnExactWholeValue (s : ByteArray) (hs : s.size ≤ maxLen) (w : World) :
    Calls Try.prog 10 #[.string s] w fun e w' => e = .returned (.bool true) ∧ Below w.heap.size w w' := by
  obtain ⟨x, hx⟩ : ∃ x, s = str x := ⟨byt s, (str_byt s).symm⟩
  subst hx
  by_cases hbig : (1048576 : Int) < ((str x).size : Int)
  · go_enter Try.func10, Try.ntmps10
    go_wp2
    go_ret
    exact ⟨rfl, Below.refl _ _⟩
  · cases hf : (goodL (str x) && decide (x.length ≤ 5))
    · have HS := Lib.hid (fun wx => sWhole_no x wx hs hf)
      have HP := Lib.hid (fun wx => whole_no x wx hs hf)
      clear hf
      go_enter Try.func10, Try.ntmps10
      go_wp2_with fail
      refine (HS.out _).mono ?_
      rintro e w1 ⟨rfl, rfl⟩
      go_wp2_with fail
      refine (HP.out _).mono ?_
      rintro e w2 ⟨rfl, rfl⟩
      go_wp2
      go_ret
      exact ⟨rfl, Below.refl _ _⟩
    · rw [Bool.and_eq_true, decide_eq_true_iff] at hf
      have HS := Lib.hid (fun wx => sWhole_yes x wx hf.1 hf.2)
      have HP := Lib.hid (fun wx => whole_yes x wx hf.1 hf.2)
      clear hf
      go_enter Try.func10, Try.ntmps10
      go_wp2_with fail
      refine (HS.out _).mono ?_
      rintro e w1 ⟨r, ok, rfl, h1, hb1⟩
      have H1 := Lib.hid h1
      clear h1
      go_wp2_with fail
      refine (HP.out _).mono ?_
      rintro e w2 ⟨r', ok', rfl, h2, hb2⟩
      obtain ⟨rfl, rfl⟩ := H1.out.one h2
      clear h2
      go_wp2
      go_ret
      exact ⟨rfl, hb1.trans (hb2.mono hb1.size)⟩
end Go.Proofs.Yticdhapbkfbhjaa
