/- How many words: both sides. -/
import Derived.Test.YtoefeooldcbfiaaCnt
import Derived.Test.YtoefeooldcbfiaaSum
namespace Go.Proofs.Ytoefeooldcbfiaa
open Go.RowKit Go.Maps

/-- A line with one gap. -/
def oneB (s : ByteArray) : Bool := reachB s && decide (cnt 46 (byt s) = 1)
set_option maxHeartbeats 400000 in
theorem hasOneGap_any (s : ByteArray) (w : World) (hs : s.size ≤ maxLen) :
    Calls Try.prog 44 #[.string s] w fun e w' => e = .returned (.bool (oneB s)) ∧ w = w' := by
  cases hc : reachB s
  · have hR : Hid (oneB s = false) := Lib.hid (by unfold oneB; rw [hc]; rfl)
    have hC := Lib.hid hc
    clear hc
    go_enter Try.func44, Try.ntmps44
    go_wp2_with (go_at_call 69; refine (isReach_any _ _ hs).mono ?_; rintro e w' ⟨rfl, rfl⟩; rw [hC.out])
    go_ret
    exact ⟨congrArg (fun b => Ending.returned (.bool b)) hR.out.symm, rfl⟩
  · have hR : Hid (oneB s = ((cnt 46 (byt s) : Int) == 1)) := Lib.hid (by unfold oneB; rw [hc, Bool.eq_iff_iff]; simp; omega)
    have hC := Lib.hid hc
    clear hc
    go_enter Try.func44, Try.ntmps44
    go_wp2_with fail
    refine (isReach_any _ _ hs).mono ?_; rintro e w' ⟨rfl, rfl⟩; rw [hC.out]
    go_wp2_with fail
    refine (count_any s 46 _).mono ?_; rintro e w' ⟨rfl, rfl⟩
    go_wp2
    go_ret
    exact ⟨congrArg (fun b => Ending.returned (.bool b)) hR.out.symm, rfl⟩
set_option maxHeartbeats 400000 in
theorem woOne_any (s : ByteArray) (w : World) (hs : s.size ≤ maxLen) :
    Calls Try.prog 37 #[.string s] w fun e w' => e = .returned (.bool (oneB s)) ∧ w = w' := by
  cases hc : reachB s
  · have hR : Hid (oneB s = false) := Lib.hid (by unfold oneB; rw [hc]; rfl)
    have hC := Lib.hid hc
    clear hc
    go_enter Try.func37, Try.ntmps37
    go_wp2_with (go_at_call 61; refine (reFew_any _ _ hs).mono ?_; rintro e w' ⟨rfl, rfl⟩; rw [hC.out])
    go_ret
    exact ⟨congrArg (fun b => Ending.returned (.bool b)) hR.out.symm, rfl⟩
  · have hR : Hid (oneB s = ((cnt 46 (byt s) : Int) == 1)) := Lib.hid (by unfold oneB; rw [hc, Bool.eq_iff_iff]; simp; omega)
    have hC := Lib.hid hc
    clear hc
    go_enter Try.func37, Try.ntmps37
    go_wp2_with fail
    refine (reFew_any _ _ hs).mono ?_; rintro e w' ⟨rfl, rfl⟩; rw [hC.out]
    go_wp2_with fail
    refine (liCount_any s 46 _ hs).mono ?_; rintro e w' ⟨rfl, rfl⟩
    go_wp2
    go_ret
    exact ⟨congrArg (fun b => Ending.returned (.bool b)) hR.out.symm, rfl⟩

/-- How many plays have so many moves. -/
def cwN (wl : List UInt8) (m : Nat) : Nat := ((lay nxL wl m).map (pc nxL wl m)).sum
theorem cwN_none {wl : List UInt8} {m : Nat} (h : lay nxL wl m = []) : cwN wl m = 0 := by unfold cwN; rw [h]; rfl
theorem sum_filter (B : List (List UInt8)) (g : List UInt8 → Nat) : ∀ A : List (List UInt8), (A.map fun v => if v ∈ B then g v else 0).sum = ((A.filter fun v => decide (v ∈ B)).map g).sum
  | [] => rfl
  | a :: A => by
    have ih := sum_filter B g A
    rw [List.map_cons, List.sum_cons, List.filter_cons, ih]
    by_cases h : a ∈ B
    · rw [if_pos h, if_pos (by simpa using h), List.map_cons, List.sum_cons]
    · rw [if_neg h, if_neg (by simpa using h), Nat.zero_add]
theorem sum_pick {A B : List (List UInt8)} (g : List UInt8 → Nat) (hA : A.Nodup) (hB : B.Nodup) (hs : ∀ v, v ∈ B → v ∈ A) : (A.map fun v => if v ∈ B then g v else 0).sum = (B.map g).sum := by
  rw [sum_filter]
  refine sum_perm ((List.perm_ext_iff_of_nodup (hA.filter _) hB).2 fun v => ?_)
  rw [List.mem_filter, decide_eq_true_iff]
  exact ⟨fun h => h.2, fun h => ⟨hs v h, h⟩⟩
theorem sum_zeros : ∀ l : List (List UInt8), (l.map fun _ => 0).sum = 0
  | [] => rfl
  | a :: l => by rw [List.map_cons, List.sum_cons, sum_zeros l]
/-- What a line adds. -/
def adds (wl : List UInt8) (m : Nat) (v : List UInt8) : Nat := if v ∈ lay nxL wl m then pc nxL wl m v else 0

def cwB (s : ByteArray) (mv : Int) : Bool := oneB s && inR mv 0 40
set_option maxHeartbeats 1000000 in
theorem countWords_no (s : ByteArray) (mv : Int) (w : World) (hs : s.size ≤ maxLen) (hc : cwB s mv = false) :
    Calls Try.prog 21 #[.string s, .int .i64 mv] w fun e w' => e = .returned (.tuple #[.int .i64 0, .bool false]) ∧ w = w' := by
  cases h1 : oneB s
  · have hC := Lib.hid h1
    clear h1 hc
    go_enter Try.func21, Try.ntmps21
    go_wp2_with (go_at_call 44; refine (hasOneGap_any _ _ hs).mono ?_; rintro e w' ⟨rfl, rfl⟩; rw [hC.out])
    go_ret2
    exact ⟨rfl, rfl⟩
  · have hC := Lib.hid h1
    have h2 : mv < 0 ∨ 40 < mv := by
      unfold cwB inR at hc
      rw [h1] at hc
      simp at hc
      omega
    clear h1 hc
    rcases Int.lt_or_le mv 0 with h3 | h3
    · go_enter Try.func21, Try.ntmps21
      go_wp2_with (go_at_call 44; refine (hasOneGap_any _ _ hs).mono ?_; rintro e w' ⟨rfl, rfl⟩; rw [hC.out])
      go_ret2
      exact ⟨rfl, rfl⟩
    · have h4 : 40 < mv := by omega
      clear h2
      go_enter Try.func21, Try.ntmps21
      go_wp2_with (go_at_call 44; refine (hasOneGap_any _ _ hs).mono ?_; rintro e w' ⟨rfl, rfl⟩; rw [hC.out])
      go_ret2
      exact ⟨rfl, rfl⟩
set_option maxHeartbeats 1000000 in
theorem sCountWords_no (s : ByteArray) (mv : Int) (w : World) (hs : s.size ≤ maxLen) (hc : cwB s mv = false) :
    Calls Try.prog 20 #[.string s, .int .i64 mv] w fun e w' => e = .returned (.tuple #[.int .i64 0, .bool false]) ∧ w = w' := by
  cases h1 : oneB s
  · have hC := Lib.hid h1
    clear h1 hc
    go_enter Try.func20, Try.ntmps20
    go_wp2_with (go_at_call 37; refine (woOne_any _ _ hs).mono ?_; rintro e w' ⟨rfl, rfl⟩; rw [hC.out])
    go_ret2
    exact ⟨rfl, rfl⟩
  · have hC := Lib.hid h1
    have h2 : inR mv 0 40 = false := by
      unfold cwB at hc
      rw [h1] at hc
      exact hc
    have H2 := Lib.hid h2
    clear h1 hc h2
    go_enter Try.func20, Try.ntmps20
    go_wp2_with fail
    refine (woOne_any _ _ hs).mono ?_; rintro e w' ⟨rfl, rfl⟩; rw [hC.out]
    go_wp2_with fail
    refine (l1In_any _ _ _ _).mono ?_; rintro e w' ⟨rfl, rfl⟩; rw [H2.out]
    go_wp2
    go_ret2
    exact ⟨rfl, rfl⟩

set_option maxRecDepth 100000 in
set_option maxHeartbeats 2000000 in
theorem countWords_yes (d : Nat) (wl : List UInt8) (m : Nat) (w : World) (h1 : oneB (str wl) = true) (hm : m ≤ 40) (hd : IsDep nxL wl d) (hd2 : d ≤ 60000) :
    Calls Try.prog 21 #[.string (str wl), .int .i64 m] w fun e w' => e = .returned (.tuple #[.int .i64 (wr (cwN wl m)), .bool true]) ∧ Below w.heap.size w w' := by
  have hr : reachB (str wl) = true := by unfold oneB at h1; rw [Bool.and_eq_true] at h1; exact h1.1
  have hR := Lib.hid hr
  have hO := Lib.hid h1
  have HD := Lib.hid hd
  have HG := Lib.hid (reach_good hr)
  have hs : (str wl).size ≤ maxLen := by have := (reach_good hr).2; rw [str_size]; unfold maxLen; omega
  clear hr hd h1
  go_enter Try.func21, Try.ntmps21
  go_wp2_with fail
  refine (hasOneGap_any _ _ hs).mono ?_; rintro e w' ⟨rfl, rfl⟩; rw [hO.out]
  go_wp2_with fail
  refine (arrivals_yes d wl _ hR.out HD.out hd2).mono ?_
  rintro e w1 ⟨ba, rfl, hba, ⟨D, hown, hA⟩, hb1⟩
  have HA := Lib.hid (arrV_all hA)
  have HB1 := Lib.hid hb1
  have hlt := hown.lt
  clear hA hb1
  go_wp2_with (first
    | (at_range; refine wpList_range_own _ rfl _ 60 rfl 9 64 Try.keysS Try.underlying60 _ ba _ _ rfl hown ?_; intro w2 hrg0 hg0 hs0)
    | go_in)
  try go_frame
  go_loopw [8] (fun v wq => ∃ (us : List (List UInt8)) (left : Lit → Bool) (cnt : Nat) (S : Int), v = .int .i64 S ∧ Hid (S = wr ((us.map (adds wl m)).sum)) ∧ wq.ranges Try.prog 9 arrR ba w1.heap.size 59049 D left cnt ∧ Collected D left us ∧ Below w.heap.size w wq)
    (fun _ wq => wq.rangeLeft ba w1.heap.size)
  case atStart => exact ⟨[], _, _, 0, rfl, Lib.hid (by simp [wr_zero]), hrg0, Collected.start D, HB1.out.grown hg0 HB1.out.size (fun j hj => by cases hj)⟩
  case round =>
    obtain ⟨us, left, cnt, S, rfl, HS, hrg, hC, hB⟩ := hrel
    obtain ⟨wq, hwq⟩ : ∃ wq : World, wq = wr := ⟨_, rfl⟩
    subst hwq
    have hrg00 := hrg
    go_wp2_with (first
      | (at_next; refine wpList_next_ranges _ rfl _ rfl 9 Try.keysS arrR (fun l : List UInt8 => Value.string (str l)) (fun q : Int × Int => Value.agg #[.int .i64 q.1, .int .i64 q.2]) (fun key kl hk => by obtain ⟨x, hx, _⟩ := Maps.keyOf_str Try.underlying9 hk; exact ⟨x, hx⟩) (fun v y hv => by obtain ⟨a, b, rfl, _⟩ := arrR_inv hv; exact ⟨(a, b), rfl⟩) ba w1.heap.size 59049 _ _ _ rfl hrg ?_ ?_)
      | go_in)
    · intro hc0 hl0
      have HB := Lib.hid hB
      have he : S = wr (cwN wl m) := by
        rw [HS.out]
        by_cases hmd : m < d
        · congr 1
          refine sum_pick _ hC.1 (rising_nodup (lay_rising m)) fun v hv => (hC.2 v).2 ⟨(HA.out.1 m v hmd hv rfl).1, hl0 _⟩
        · have hn : lay nxL wl m = [] := lay_nil HD.out.2.1 m (by omega)
          rw [cwN_none hn]
          congr 1
          have : us.map (adds wl m) = us.map fun _ => 0 := List.map_congr_left fun v _ => by unfold adds; rw [hn]; simp
          rw [this]
          exact sum_zeros us
      have HE := Lib.hid he
      clear hB hC hrg hrg00 he
      go_wp2
      go_ret2
      exact ⟨by rw [HE.out]; rfl, HB.out⟩
    · intro x a b kl yd yp w2' cnt2 hkey hlk hv hat hrg2 hlt2 hg2 hs2 hen
      obtain ⟨x', ex, rfl, hxl⟩ := Maps.keyOf_str Try.underlying9 hkey
      obtain rfl : x = x' := by
        have : str x = str x' := by injection ex
        exact str_inj.1 this
      clear ex
      have hyd : yd = arrD a b := by
        rw [show arrR (Value.agg #[.int .i64 a, .int .i64 b]) = some (arrD a b, []) from rfl] at hv
        injection hv with hv
        injection hv with hv _
        exact hv.symm
      subst hyd
      have hhas : Maps.has D (.string x) = true := has_true_of_atKey hat
      obtain ⟨j, hj, hxj, hpx, ea, eb⟩ := arrV_at HA.out hhas hat
      have HC2 := Lib.hid (hC.step hlk hat)
      have hB2 := hB.grown hg2 hB.size (fun j hj => by injection hj with hj; have := HB1.out.size; omega)
      have HRG2 := Lib.hid hrg2
      have hrg3 := HRG2.out.alloc (Obj.cells #[.int .i64 a, .int .i64 b] 64)
      by_cases hjm : j = m
      · have hadd : adds wl m x = pc nxL wl m x := by unfold adds; rw [if_pos (by rw [← hjm]; exact hxj)]
        have hq : (a == (m : Int)) = true := by rw [ea, hjm]; simp
        obtain ⟨K, hK⟩ : ∃ K, K = wr ((us.map (adds wl m)).sum + adds wl m x) := ⟨_, rfl⟩
        have hs1 : (S + b + 9223372036854775808) % 18446744073709551616 - 9223372036854775808 = K := by rw [hK, HS.out, eb, hadd, hjm]; exact wr_add _ _
        have hs0 : IntKind.i64.wrap (S + b) = K := by rw [IntKind.wrap_i64]; exact hs1
        have HK := Lib.hid hK
        clear hkey hlk hv hat hhas ea eb hC hg2 hB hs2 hrg2 hrg hj hxj hpx hK hjm hadd
        go_wp2
        refine ⟨⟨us ++ [x], _, cnt2, K, rfl, Lib.hid ?_, hrg3, HC2.out, hB2.alloc hB2.size _⟩, ?_⟩
        · rw [HK.out, List.map_append, List.sum_append]; simp
        · rw [hrg3.left_eq, hrg00.left_eq]; exact hlt2
      · have hadd : Hid (adds wl m x = 0) := Lib.hid (by
          unfold adds
          rw [if_neg]
          exact fun h => hjm (lay_apart (steps_line _) HG.out hxj h))
        have hq : (a == (m : Int)) = false := by rw [ea]; simp; omega
        clear hkey hlk hv hat hhas ea eb hC hg2 hB hs2 hrg2 hrg hj hxj hpx hjm
        go_wp2
        refine ⟨⟨us ++ [x], _, cnt2, S, rfl, Lib.hid ?_, hrg3, HC2.out, hB2.alloc hB2.size _⟩, ?_⟩
        · rw [HS.out, List.map_append, List.sum_append]; simp [hadd.out]
        · rw [hrg3.left_eq, hrg00.left_eq]; exact hlt2
end Go.Proofs.Ytoefeooldcbfiaa
