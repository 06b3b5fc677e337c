/- The way to go: the program's sum and the model's agree. -/
import Derived.Test.YtjadnfnpbacfdaaDoorSpecA
namespace Go.Proofs.YtjadnfnpbacfdaaDoor
open Go.RowKit

/-- b, b + 1, .. : the sum of the first m. -/
def pl (b : Nat) : Nat → Nat
  | 0 => 0
  | m + 1 => pl b m + (b + m)
theorem pl_le (b m : Nat) (hb : b ≤ 100) (hm : m ≤ 100) : pl b m ≤ 200 * m := by
  induction m with
  | zero => simp [pl]
  | succ m ih => simp only [pl]; have := ih (by omega); omega
theorem sumSt_same (c : UInt8) (l : List UInt8) : ∀ m, (sumSt c (l ++ List.replicate m c)).1 = (sumSt c l).1 + pl l.length m
  | 0 => by simp [pl]
  | m + 1 => by
    have h2 := (sumSt_le c (l ++ List.replicate m c)).1
    rw [List.replicate_succ', ← List.append_assoc, sumSt_snoc, sumStep, if_pos rfl, sumSt_same c l m, h2]
    simp [pl]; omega
theorem sumSt_other (c d : UInt8) (h : d ≠ c) (l : List UInt8) : ∀ m, (sumSt c (l ++ List.replicate m d)).1 = (sumSt c l).1
  | 0 => by simp
  | m + 1 => by
    rw [List.replicate_succ', ← List.append_assoc, sumSt_snoc, sumStep, if_neg h, sumSt_other c d h l m]
theorem cnt_cons (c d : UInt8) (l : List UInt8) : cnt c (d :: l) = (if d = c then 1 else 0) + cnt c l := by
  unfold cnt
  by_cases h : d = c <;> simp [h] <;> omega
theorem cnt_sum : ∀ (l : List UInt8), l.all isSign = true → cnt 84 l + cnt 46 l + cnt 70 l = l.length
  | [], _ => rfl
  | c :: l, h => by
    rw [List.all_cons, Bool.and_eq_true] at h
    have ih := cnt_sum l h.2
    rw [cnt_cons, cnt_cons, cnt_cons, List.length_cons]
    rcases sign_cases c with rfl | rfl | rfl | h3
    · simp; omega
    · simp; omega
    · simp; omega
    · rw [h3] at h; simp at h
theorem last84 (l : List UInt8) (h : l.all isSign = true) : (sumSt 84 (lastL l)).1 = pl (l.length - cnt 84 l) (cnt 84 l) := by
  have hs := cnt_sum l h
  unfold lastL
  rw [sumSt_same, sumSt_other 84 46 (by decide)]
  have e : (sumSt 84 (List.replicate (cnt 70 l) 70)).1 = 0 := by
    have := sumSt_other 84 70 (by decide) [] (cnt 70 l)
    simpa [sumSt] using this
  rw [e]
  have e2 : (List.replicate (cnt 70 l) (70 : UInt8) ++ List.replicate (cnt 46 l) 46).length = l.length - cnt 84 l := by simp; omega
  rw [e2]; omega
theorem last70 (l : List UInt8) : (sumSt 70 (lastL l)).1 = pl 0 (cnt 70 l) := by
  unfold lastL
  rw [sumSt_other 70 84 (by decide), sumSt_other 70 46 (by decide)]
  have := sumSt_same 70 [] (cnt 70 l)
  simpa [sumSt] using this

/-- What the program has gathered behind k cells. -/
def wayAt (b : Nat) (l : List UInt8) : Int := (pl b (cnt 84 l) : Int) - (sumSt 84 l).1 + (sumSt 70 l).1 - (pl 0 (cnt 70 l) : Int)
theorem wayAt_all (l : List UInt8) (h : l.all isSign = true) : wayAt (l.length - cnt 84 l) l = wayL l := by
  unfold wayAt wayL
  rw [last84 l h, last70 l]
theorem wayAt_snoc (b : Nat) (l : List UInt8) (c : UInt8) : wayAt b (l ++ [c]) = wayAt b l + (if c = 84 then (b : Int) + cnt 84 l - l.length else if c = 70 then (l.length : Int) - cnt 70 l else 0) := by
  unfold wayAt
  have h1 := (sumSt_le 84 l).1
  have h2 := (sumSt_le 70 l).1
  rw [sumSt_snoc, sumSt_snoc, cnt_snoc, cnt_snoc]
  unfold sumStep
  by_cases e1 : c = 84
  · subst e1
    simp [pl, h1]; omega
  · by_cases e2 : c = 70
    · subst e2
      simp [pl, h2]; omega
    · simp [e1, e2]
theorem wayAt_small (b : Nat) (l : List UInt8) (hb : b ≤ 100) (hl : l.length ≤ 100) : -50000 ≤ wayAt b l ∧ wayAt b l ≤ 50000 := by
  have h1 := sumSt_small 84 l hl
  have h2 := sumSt_small 70 l hl
  have c1 := cnt_le 84 l
  have c2 := cnt_le 70 l
  have p1 := pl_le b (cnt 84 l) hb (by omega)
  have p2 := pl_le 0 (cnt 70 l) (by omega) (by omega)
  unfold wayAt
  omega

set_option maxHeartbeats 400000 in
theorem way_any (s : ByteArray) (w : World) (hs : s.size ≤ maxLen) :
    Calls Tryd.prog 113 #[.string s] w fun e w' => e = .returned (intOr (goodL s) (wayL (byt s))) ∧ w = w' := by
  cases hc : goodL s
  · have hR : Hid (countsOr s = .tuple #[.int .i64 0, .int .i64 0, .int .i64 0, .bool false]) := by show _ = _; unfold countsOr; rw [hc]; rfl
    clear hc
    go_enter Tryd.func113, Tryd.ntmps113
    go_wp2_with (go_at_call 102; refine (countOf_any _ _ hs).mono ?_; rintro e w' ⟨rfl, rfl⟩; rw [hR.out])
    go_ret2
    exact ⟨rfl, rfl⟩
  · have hR : Hid (countsOr s = .tuple #[.int .i64 (cnt 84 (byt s)), .int .i64 (cnt 46 (byt s)), .int .i64 (cnt 70 (byt s)), .bool true]) := by show _ = _; unfold countsOr; rw [hc]; rfl
    obtain ⟨_, _, hall⟩ := (goodL_iff s).1 hc
    have hw : Hid (wayAt (s.size - cnt 84 (byt s)) (byt s) = wayL (byt s)) := by
      show _ = _
      have := wayAt_all (byt s) hall
      rwa [byt_len] at this
    have hcnt := cnt_le 84 (byt s)
    rw [byt_len] at hcnt
    obtain ⟨b, hb⟩ : ∃ b, s.size = b + cnt 84 (byt s) := ⟨s.size - cnt 84 (byt s), by omega⟩
    have hbi : Hid ((s.size : Int) - (cnt 84 (byt s) : Int) = (b : Int)) := by show _ = _; omega
    have hbn : Hid (s.size - cnt 84 (byt s) = b) := by show _ = _; omega
    have hb12 : b ≤ 12 := by omega
    clear hc hall hb
    go_enter Tryd.func113, Tryd.ntmps113
    go_wp2_with (go_at_call 102; refine (countOf_any _ _ hs).mono ?_; rintro e w' ⟨rfl, rfl⟩; rw [hR.out])
    rw [hbi.out]
    go_loop [8, 9, 10, 11, 27] (fun y f t _ i => ∃ k : Nat, k ≤ s.size ∧ i = .int .i64 k ∧ y = .int .i64 (wayAt b ((byt s).take k)) ∧ f = .int .i64 (cnt 70 ((byt s).take k)) ∧ t = .int .i64 ((b : Int) + cnt 84 ((byt s).take k))) (fun _ _ _ _ i => s.size - (intOf i).toNat)
    case atStart => exact ⟨0, Nat.zero_le _, rfl, rfl, rfl, by simp [cnt]⟩
    case round =>
      obtain ⟨k, hk, rfl, rfl, rfl, rfl⟩ := hrel
      have hl : ((byt s).take k).length = k := by rw [List.length_take, byt_len]; omega
      have hsm := wayAt_small b ((byt s).take k) (by omega) (by omega)
      have c1 := cnt_le 84 ((byt s).take k)
      have c2 := cnt_le 70 ((byt s).take k)
      by_cases hlt : k < s.size
      · have HS := Lib.hid (wayAt_snoc b ((byt s).take k) s[k])
        have H1 := Lib.hid (cnt_snoc 84 s[k] ((byt s).take k))
        have H2 := Lib.hid (cnt_snoc 70 s[k] ((byt s).take k))
        have HT := Lib.hid (take_snoc s k hlt)
        have HL := Lib.hid hl
        rw [hl] at c1 c2
        clear hl
        generalize wayAt b ((byt s).take k) = y at HS hsm
        generalize cnt 84 ((byt s).take k) = t at HS H1 c1
        generalize cnt 70 ((byt s).take k) = f at HS H2 c2
        obtain ⟨_, _⟩ := hsm
        rcases byte_split s[k] with ⟨hc, hv⟩ | ⟨hc, hv⟩ | ⟨hc, hv, hv2⟩
        all_goals
          have hC := Lib.hid hc
          clear hc
          go_wp2
          go_round
          case rel =>
            refine ⟨k + 1, by omega, by go_num, ?_, ?_, ?_⟩
            · rw [HT.out, HS.out, HL.out]; simp only [hC.out]; exact congrArg (fun n => Value.int .i64 n) (by simp; try omega)
            · rw [HT.out, H2.out]; simp only [hC.out]; exact congrArg (fun n => Value.int .i64 n) (by simp; try omega)
            · rw [HT.out, H1.out]; simp only [hC.out]; exact congrArg (fun n => Value.int .i64 n) (by simp; try omega)
          case measure => simp [intOf]; omega
      · go_wp2
        go_ret2
        obtain rfl : k = s.size := by omega
        refine ⟨congrArg (fun n => Ending.returned (.tuple #[.int .i64 n, .bool true])) ?_, rfl⟩
        show wayAt b ((byt s).take s.size) = wayL (byt s)
        rw [take_all, ← hw.out, hbn.out]

end Go.Proofs.YtjadnfnpbacfdaaDoor
