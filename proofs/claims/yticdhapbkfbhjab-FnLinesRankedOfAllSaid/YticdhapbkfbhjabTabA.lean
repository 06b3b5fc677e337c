/- Plain facts, laid out for the walk of the law on ranked lines. -/
import Derived.Test.YticdhapbkfbhjabPlayM
import Derived.Test.YticdhapbkfbhjabEnds
import Derived.Test.YticdhapbkfbhjabUnrI
namespace Go.Proofs.Yticdhapbkfbhjab
open Go.RowKit

theorem strOr_is (c : Bool) (l : List UInt8) : strOr c l = .tuple #[.string (if c then str l else str []), .bool c] := by cases c <;> rfl
theorem intOr_is (c : Bool) (n : Int) : intOr c n = .tuple #[.int .i64 (if c then n else 0), .bool c] := by cases c <;> rfl
theorem countsOr_is (s : ByteArray) : countsOr s = .tuple #[.int .i64 (if goodL s then (cnt 84 (byt s) : Int) else 0), .int .i64 (if goodL s then (cnt 46 (byt s) : Int) else 0), .int .i64 (if goodL s then (cnt 70 (byt s) : Int) else 0), .bool (goodL s)] := by
  unfold countsOr
  cases goodL s <;> rfl

theorem lex_facts {s : ByteArray} {X : List UInt8} (h : lexLt (byt s) X) : Op.bytesLess (str X).toList s.toList = false ∧ ((str X).toList == s.toList) = false := by
  rw [Lib.toList_data, Lib.toList_data]
  show Op.bytesLess X (byt s) = false ∧ (X == byt s) = false
  exact ⟨lexLt_not _ _ h, by simpa using fun e => lexLt_ne h e.symm⟩

/-- What is known of a line's rank, its numbers and its last line. -/
structure Ranked (s L : ByteArray) (R N T G F : Int) : Prop where
  many : Hid (intOr (three T G F) (manyI T G F) = .tuple #[.int .i64 N, .bool true])
  back : Hid (strOr (three T G F && inR R 0 (manyI T G F - 1)) (unr (T + G + F).toNat T G F R) = .tuple #[.string s, .bool true])
  way : Hid (intOr (goodL L) (wayL (byt L)) = .tuple #[.int .i64 0, .bool true])
  same : Hid (countsOr L = .tuple #[.int .i64 T, .int .i64 G, .int .i64 F, .bool true])
  lsize : L.size ≤ maxLen
  r0 : 0 ≤ R
  r1 : R < N
  n1 : N ≤ 8916100448256
  t0 : 0 ≤ T ∧ T ≤ 12
  g0 : 0 ≤ G ∧ G ≤ 12
  f0 : 0 ≤ F ∧ F ≤ 12
  sum : Hid (T + G + F = (s.size : Int))
  next : R + 1 < N → ∃ X : ByteArray, Hid (strOr (three T G F && inR (R + 1) 0 (manyI T G F - 1)) (unr (T + G + F).toNat T G F (R + 1)) = .tuple #[.string X, .bool true]) ∧ Op.bytesLess X.toList s.toList = false ∧ (X.toList == s.toList) = false

theorem ranked_of (s : ByteArray) (h : goodL s = true) :
    Ranked s (str (lastL (byt s))) (rkAt s s.size) (manyI (cnt 84 (byt s)) (cnt 46 (byt s)) (cnt 70 (byt s))) (cnt 84 (byt s)) (cnt 46 (byt s)) (cnt 70 (byt s)) := by
  obtain ⟨h1, h12, hall⟩ := (goodL_iff s).1 h
  have hsum := cnt_sum (byt s) hall
  have hlen := byt_len s
  obtain ⟨⟨k0, k1⟩, k2⟩ := unr_rkL (byt s) hall (by omega)
  rw [rkAt_all]
  have h3 : three (cnt 84 (byt s)) (cnt 46 (byt s)) (cnt 70 (byt s)) = true := (three_iff _ _ _).2 (by omega)
  have hL : goodL (str (lastL (byt s))) = true := by
    refine (goodL_iff _).2 ⟨?_, ?_, ?_⟩
    · rw [str_size, lastL_same _ hall]; omega
    · rw [str_size, lastL_same _ hall]; omega
    · rw [byt_str]; exact lastL_all _
  have hn : ((cnt 84 (byt s) : Int) + cnt 46 (byt s) + cnt 70 (byt s)).toNat = (byt s).length := by omega
  have hm := (manyI_le (cnt 84 (byt s)) (cnt 46 (byt s)) (cnt 70 (byt s)) (by omega)).2
  refine ⟨?_, ?_, ?_, ?_, ?_, k0, k1, hm, by omega, by omega, by omega, ?_, ?_⟩
  · show _ = _
    rw [intOr_yes _ _ h3]
  · show _ = _
    rw [strOr_yes _ _ (by rw [h3]; simp [inR]; omega), hn, k2, str_byt]
  · show _ = _
    rw [intOr_yes _ _ hL, byt_str, lastL_way]
  · show _ = _
    rw [countsOr_is, hL, byt_str, (lastL_cnt _).1, (lastL_cnt _).2.1, (lastL_cnt _).2.2]
    rfl
  · rw [str_size, lastL_same _ hall]; unfold maxLen; omega
  · show _ = _
    omega
  · intro hlt
    refine ⟨str (unr (byt s).length (cnt 84 (byt s)) (cnt 46 (byt s)) (cnt 70 (byt s)) (rkL (byt s) + 1)), ?_, lex_facts ?_⟩
    · show _ = _
      rw [strOr_yes _ _ (by rw [h3]; simp [inR]; omega), hn]
    · have := unr_lt (byt s).length (cnt 84 (byt s)) (cnt 46 (byt s)) (cnt 70 (byt s)) (rkL (byt s)) (rkL (byt s) + 1) (by omega) (by omega) (by omega) (by omega) (by omega) k0 (by omega) hlt
      rw [k2] at this
      exact this

/-- The first answers of the law, opened: what they are, and what they mean. -/
theorem ranked_open (s : ByteArray) : ∃ (b : Bool) (R T G F : Int) (L : ByteArray),
    Hid (intOr (goodL s) (rkAt s s.size) = .tuple #[.int .i64 R, .bool b]) ∧
    Hid (countsOr s = .tuple #[.int .i64 T, .int .i64 G, .int .i64 F, .bool b]) ∧
    Hid (strOr (goodL s) (lastL (byt s)) = .tuple #[.string L, .bool b]) ∧
    Hid (b = false ∨ b = true ∧ ∃ N, Ranked s L R N T G F) := by
  cases h : goodL s
  · exact ⟨false, 0, 0, 0, 0, str [], by show _ = _; rfl, by show _ = _; rw [countsOr_is, h]; rfl, by show _ = _; rfl, .inl rfl⟩
  · exact ⟨true, _, _, _, _, _, by show _ = _; rfl, by show _ = _; rw [countsOr_is, h]; rfl, by show _ = _; rfl, .inr ⟨rfl, _, ranked_of s h⟩⟩

/-- What is known of a first line. -/
structure Firsts (fl : ByteArray) (i j k N : Int) : Prop where
  pairs : Hid (intOr (goodL fl) (pairSt (byt fl)).1 = .tuple #[.int .i64 (i * k), .bool true])
  way : Hid (intOr (goodL fl) (wayL (byt fl)) = .tuple #[.int .i64 (i * (j + k) + k * (i + j)), .bool true])
  size : fl.size ≤ maxLen
  i0 : 0 ≤ i ∧ i ≤ 12
  j0 : 0 ≤ j ∧ j ≤ 12
  k0 : 0 ≤ k ∧ k ≤ 12
  p0 : 0 ≤ i * k ∧ i * k ≤ 144
  p1 : 0 ≤ i * (j + k) ∧ i * (j + k) ≤ 144
  p2 : 0 ≤ k * (i + j) ∧ k * (i + j) ≤ 144
  n1 : N ≤ 8916100448256
theorem mul_12 {a b : Int} (h1 : 0 ≤ a) (h2 : a ≤ 12) (h3 : 0 ≤ b) (h4 : b ≤ 12) : 0 ≤ a * b ∧ a * b ≤ 144 :=
  ⟨Int.mul_nonneg h1 h3, by have := Int.mul_le_mul h2 h4 h3 (by omega : (0 : Int) ≤ 12); omega⟩
theorem firsts_of {i j k : Int} (h : three i j k = true) : Firsts (str (firstL i.toNat j.toNat k.toNat)) i j k (manyI i j k) := by
  obtain ⟨⟨a1, a2⟩, ⟨b1, b2⟩, ⟨c1, c2⟩, s1, s2⟩ := (three_iff i j k).1 h
  have hg : goodL (str (firstL i.toNat j.toNat k.toNat)) = true := by
    refine (goodL_iff _).2 ⟨?_, ?_, ?_⟩
    · rw [str_size, firstL_len]; omega
    · rw [str_size, firstL_len]; omega
    · rw [byt_str]; exact firstL_all _ _ _
  refine ⟨?_, ?_, ?_, ⟨a1, a2⟩, ⟨b1, b2⟩, ⟨c1, c2⟩, mul_12 a1 a2 c1 c2, mul_12 a1 a2 (by omega) (by omega), mul_12 c1 c2 (by omega) (by omega), (manyI_le i j k (by omega)).2⟩
  · show _ = _
    rw [intOr_yes _ _ hg, byt_str, firstL_pairs]
    obtain ⟨x, rfl⟩ := Int.eq_ofNat_of_zero_le a1
    obtain ⟨z, rfl⟩ := Int.eq_ofNat_of_zero_le c1
    simp
  · show _ = _
    rw [intOr_yes _ _ hg, byt_str, firstL_way]
    obtain ⟨x, rfl⟩ := Int.eq_ofNat_of_zero_le a1
    obtain ⟨y, rfl⟩ := Int.eq_ofNat_of_zero_le b1
    obtain ⟨z, rfl⟩ := Int.eq_ofNat_of_zero_le c1
    simp
  · rw [str_size, firstL_len]; unfold maxLen; omega

/-- The answers on a rank and on numbers, opened. -/
theorem firsts_open (i j k r : Int) : ∃ (b5 b7 : Bool) (x fl : ByteArray) (N : Int),
    Hid (strOr (three i j k && inR r 0 (manyI i j k - 1)) (unr (i + j + k).toNat i j k r) = .tuple #[.string x, .bool b5]) ∧
    Hid (strOr (three i j k) (firstL i.toNat j.toNat k.toNat) = .tuple #[.string fl, .bool b7]) ∧
    Hid (intOr (three i j k) (manyI i j k) = .tuple #[.int .i64 N, .bool b7]) ∧
    Hid (b7 = false ∨ b7 = true ∧ Firsts fl i j k N) ∧
    Hid (b5 = false ∨ b5 = true ∧ x.size ≤ maxLen ∧ 0 ≤ r ∧ r < N ∧ Hid (intOr (goodL x) (rkAt x x.size) = .tuple #[.int .i64 r, .bool true])) := by
  cases h : three i j k
  · exact ⟨false, false, str [], str [], 0, by show _ = _; rfl, by show _ = _; rfl, by show _ = _; rfl, .inl rfl, .inl rfl⟩
  · cases hr : inR r 0 (manyI i j k - 1)
    · exact ⟨false, true, str [], _, _, by show _ = _; rfl, by show _ = _; rfl, by show _ = _; rfl, .inr ⟨rfl, firsts_of h⟩, .inl rfl⟩
    · obtain ⟨⟨a1, a2⟩, ⟨b1, b2⟩, ⟨c1, c2⟩, s1, s2⟩ := (three_iff i j k).1 h
      have hr2 : 0 ≤ r ∧ r ≤ manyI i j k - 1 := by simpa [inR] using hr
      obtain ⟨u1, u2, u3, u4, u5⟩ := rkL_unr (i + j + k).toNat i j k r a1 b1 c1 (by omega) (by omega) hr2.1 (by omega)
      have hg : goodL (str (unr (i + j + k).toNat i j k r)) = true := by
        refine (goodL_iff _).2 ⟨?_, ?_, ?_⟩
        · rw [str_size, unr_len]; omega
        · rw [str_size, unr_len]; omega
        · rw [byt_str]; exact u1
      refine ⟨true, true, _, _, _, by show _ = _; rfl, by show _ = _; rfl, by show _ = _; rfl, .inr ⟨rfl, firsts_of h⟩, .inr ⟨rfl, ?_, hr2.1, by omega, ?_⟩⟩
      · show (str _).size ≤ _
        rw [str_size, unr_len]; unfold maxLen; omega
      · show intOr (goodL (str (unr (i + j + k).toNat i j k r))) _ = _
        rw [intOr_yes _ _ hg, rkAt_all, byt_str, u5]

/-- What is known of a play that can be made, and of one that cannot. -/
def AllMade (v : ByteArray) (l : List (Int × Int)) (e : ByteArray) : Prop := goodL v = true ∧ l.length ≤ 100 ∧ (playS v l).2 = l.length ∧ e = (playS v l).1
structure Fails (v : ByteArray) (l : List (Int × Int)) (q : Nat) : Prop where
  lt : q < l.length
  le : l.length ≤ 100
  part : Hid (plVal v (l.take q) = .tuple #[.string (playS v l).1, .bool true])
  no : Hid (∃ h : q < l.length, boolOr (goodL (playS v l).1) (canM (playS v l).1 l[q].1 l[q].2) = .tuple #[.bool false, .bool true])
  size : (playS v l).1.size ≤ maxLen
theorem plays_open (v : ByteArray) (l : List (Int × Int)) : ∃ (e : ByteArray) (b11 b13 : Bool) (q : Nat),
    Hid (plVal v l = .tuple #[.string e, .bool b11]) ∧ Hid (mfVal v l = .tuple #[.int .i64 q, .bool b13]) ∧
    Hid ((b11 = false ∧ b13 = false) ∨ (b11 = true ∧ b13 = false ∧ AllMade v l e) ∨ (b11 = false ∧ b13 = true ∧ Fails v l q)) := by
  cases ha : askedB v l.length
  · exact ⟨str [], false, false, 0, by show _ = _; simp [plVal, ha], by show _ = _; simp [mfVal, ha], .inl ⟨rfl, rfl⟩⟩
  · have hg : goodL v = true := by unfold askedB at ha; rw [Bool.and_eq_true] at ha; exact ha.1
    obtain ⟨h1, h100⟩ := asked_in ha
    cases hb : allB v l
    · have hle := playS_le v l
      have hlt : (playS v l).2 < l.length := by
        have : (playS v l).2 ≠ l.length := by intro e; simp [allB, e] at hb
        omega
      refine ⟨str [], false, true, (playS v l).2, by show _ = _; simp [plVal, ha, hb], by show _ = _; simp [mfVal, ha, hb], .inr (.inr ⟨rfl, rfl, hlt, h100, ?_, ?_, ?_⟩)⟩
      · show _ = _
        have e := playS_take l v
        have e1 : (l.take (playS v l).2).length = (playS v l).2 := by rw [List.length_take]; omega
        unfold plVal allB askedB
        rw [e, e1, hg]
        simp
        omega
      · refine ⟨hlt, ?_⟩
        rw [playS_good l v hg, playS_fails l v hlt]
        rfl
      · rw [playS_size]; unfold maxLen; omega
    · exact ⟨_, true, false, 0, by show _ = _; simp [plVal, ha, hb], by show _ = _; simp [mfVal, ha, hb], .inr (.inl ⟨rfl, rfl, hg, h100, by simpa [allB] using hb, rfl⟩)⟩
end Go.Proofs.Yticdhapbkfbhjab
