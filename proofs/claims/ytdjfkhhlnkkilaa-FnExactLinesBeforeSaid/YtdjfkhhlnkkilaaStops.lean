/- Contract: the program's dead ends. -/
import Derived.Test.YtdjfkhhlnkkilaaMvsA
namespace Go.Proofs.Ytdjfkhhlnkkilaa
open Go.RowKit Go.Maps

/-- A line from which no move leads on. -/
def endP (v : List UInt8) (_ : Nat) : Bool := (nxL v).isEmpty
theorem blocked_is {c : Nat} {x : List UInt8} (hg : goodT c x) : ((mvsOr (canM (str x)) (str x)).length == 0) = endP x 0 := by
  have : (nxL x).length = (mvsOr (canM (str x)) (str x)).length := by rw [nxL_at x hg.1]; simp
  unfold endP
  rw [← this]
  cases nxL x <;> rfl
/-- The map while dead ends are picked. -/
def EndV (wl : List UInt8) (d : Nat) (us : List (List UInt8)) (D : DataW Unit) : Prop :=
  (∀ j v, j < d → v ∈ lay nxL wl j → (v ∉ us ∨ endP v 0 = true) → hasV D v (arrD j (wr (pc nxL wl j v)))) ∧
    ∀ v, Maps.has D (.string v) = true → ∃ j, j < d ∧ v ∈ lay nxL wl j ∧ (v ∉ us ∨ endP v 0 = true)
theorem endV_start {wl : List UInt8} {d : Nat} {D : DataW Unit} (h : AllV nxL wl D d []) : EndV wl d [] D :=
  ⟨fun j v hj hv _ => h.1 j v hj hv, fun v hv => by
    rcases h.2.2 v hv with ⟨j, hj, hv⟩ | hv
    · exact ⟨j, hj, hv, .inl (by simp)⟩
    · simp at hv⟩
theorem endV_keep {wl : List UInt8} {d : Nat} {us : List (List UInt8)} {x : List UInt8} {D : DataW Unit} (h : EndV wl d us D) (hx : endP x 0 = true) : EndV wl d (us ++ [x]) D := by
  refine ⟨fun j v hj hv hc => h.1 j v hj hv ?_, fun v hv => ?_⟩
  · rcases hc with hc | hc
    · exact .inl (by simp at hc; exact hc.1)
    · exact .inr hc
  · obtain ⟨j, hj, hvl, hc⟩ := h.2 v hv
    refine ⟨j, hj, hvl, ?_⟩
    rcases hc with hc | hc
    · by_cases e : v = x
      · subst e; exact .inr hx
      · exact .inl (by simp [hc, e])
    · exact .inr hc
theorem endV_drop {wl : List UInt8} {d : Nat} {us : List (List UInt8)} {x : List UInt8} {D : DataW Unit} (h : EndV wl d us D) (hx : endP x 0 = false) : EndV wl d (us ++ [x]) (D.del (.string x)) := by
  refine ⟨fun j v hj hv hc => ?_, fun v hv => ?_⟩
  · rcases hc with hc | hc
    · simp at hc
      exact hasV_del (h.1 j v hj hv (.inl hc.1)) hc.2
    · exact hasV_del (h.1 j v hj hv (.inr hc)) fun e => by rw [e, hx] at hc; cases hc
  · obtain ⟨hne, hv⟩ := has_del hv
    obtain ⟨j, hj, hvl, hc⟩ := h.2 v hv
    refine ⟨j, hj, hvl, ?_⟩
    rcases hc with hc | hc
    · exact .inl (by simp [hc, hne])
    · exact .inr hc
theorem endV_end {wl : List UInt8} {d : Nat} {us : List (List UInt8)} {D : DataW Unit} (h : EndV wl d us D) (hall : ∀ j v, j < d → v ∈ lay nxL wl j → v ∈ us) : ArrV wl d endP D :=
  ⟨fun j v hj hv hp => h.1 j v hj hv (.inr hp), fun v hv => by
    obtain ⟨j, hj, hvl, hc⟩ := h.2 v hv
    rcases hc with hc | hc
    · exact absurd (hall j v hj hvl) hc
    · exact ⟨j, hj, hvl, hc⟩⟩

set_option maxRecDepth 100000 in
set_option maxHeartbeats 1000000 in
theorem ends_no (wl : List UInt8) (w : World) (hs : (str wl).size ≤ maxLen) (hr : reachB (str wl) = false) :
    Calls Try.prog 72 #[.string (str wl)] w fun e w' => e = .returned (.tuple #[.map none, .bool false]) ∧ Below w.heap.size w w' := by
  have hR := Lib.hid hr
  have hrg := run_range_nilMap (P := Try.prog) w 46 9 53 Try.underlying46
  have hnx : ∀ ty, (Instr.next (.pointer (some ⟨w.heap.size, 0, none⟩)) false ty).run Try.prog (w.alloc (.mapIter none 0 #[] 0)) = _ := fun ty => run_next_nilMap w ty 0 0 #[]
  clear hr
  go_enter Try.func72, Try.ntmps72
  go_wp2_with (go_at_call 53; refine (arrivals_no wl _ hs hR.out).mono ?_; rintro e w' ⟨rfl, rfl⟩)
  refine wp_loop_rounds 1 ?_
  rw [rounds_succ]
  go_wp2
  go_ret2
  exact ⟨rfl, (Below.refl _ _).alloc (Nat.le_refl _) _⟩

set_option maxRecDepth 100000 in
set_option maxHeartbeats 2000000 in
theorem ends_yes (d : Nat) (wl : List UInt8) (w : World) (hr : reachB (str wl) = true) (hd : IsDep nxL wl d) (hd2 : d ≤ 60000) :
    Calls Try.prog 72 #[.string (str wl)] w fun e w' => ∃ ba, e = .returned (.tuple #[.map (some ba), .bool true]) ∧ w.heap.size ≤ ba ∧
      (∃ D, w'.ownsMap Try.prog 9 arrR ba 59049 D ∧ ArrV wl d endP D) ∧ Below w.heap.size w w' := by
  have hR := Lib.hid hr
  have HD := Lib.hid hd
  have HG := Lib.hid (reach_good hr)
  have HGL : Hid (∀ j v, v ∈ lay nxL wl j → goodT wl.length v) := Lib.hid fun j v hv => (lay_good (steps_line _) (reach_good hr) j v hv).1
  clear hr hd
  go_enter Try.func72, Try.ntmps72
  go_wp2_with fail
  refine (arrivals_yes d wl _ hR.out HD.out hd2).mono ?_
  rintro e w1 ⟨ba, rfl, hba, ⟨D0, hown, hA⟩, hb1⟩
  have HV0 := Lib.hid (endV_start hA)
  have hAll := hA
  have HB1 := Lib.hid hb1
  have hlt := hown.lt
  clear hb1
  go_wp2_with (first
    | (at_range; refine wpList_range_own _ rfl _ 46 rfl 9 53 Try.keysS Try.underlying46 _ ba _ _ rfl hown ?_; intro w2 hrg0 hg0 hs0)
    | go_in)
  try go_frame
  go_loopw [6] (fun _ wq => ∃ (us : List (List UInt8)) (left : Lit → Bool) (cnt : Nat) (D : DataW Unit), wq.ranges Try.prog 9 arrR ba w1.heap.size 59049 D left cnt ∧ EndV wl d us D ∧
      (∀ j v, j < d → v ∈ lay nxL wl j → v ∉ us → left (.string v) = true) ∧ (∀ v, left (.string v) = true → ∃ j, j < d ∧ v ∈ lay nxL wl j) ∧ Below w.heap.size w wq)
    (fun _ wq => wq.rangeLeft ba w1.heap.size)
  case atStart =>
    refine ⟨[], _, _, D0, hrg0, HV0.out, fun j v hj hv _ => (hAll.1 j v hj hv).1, fun v hv => ?_, HB1.out.grown hg0 HB1.out.size (fun j hj => by cases hj)⟩
    rcases hAll.2.2 v hv with h | h
    · exact h
    · simp at h
  case round =>
    obtain ⟨us, left, cnt, D, hrg, hV, hleft, hleft2, hB⟩ := hrel
    obtain ⟨wq, hwq⟩ : ∃ wq : World, wq = wr := ⟨_, rfl⟩
    subst hwq
    have hrg00 := hrg
    go_wp2_with (first
      | (at_next; refine wpList_next_ranges _ rfl _ rfl 9 Try.keysS arrR (fun l : List UInt8 => Value.string (str l)) (fun q : Int × Int => Value.agg #[.int .i64 q.1, .int .i64 q.2]) (fun key kl hk => by obtain ⟨x, hx, _⟩ := Maps.keyOf_str Try.underlying9 hk; exact ⟨x, hx⟩) (fun v y hv => by obtain ⟨a, b, rfl, _⟩ := arrR_inv hv; exact ⟨(a, b), rfl⟩) ba w1.heap.size 59049 _ _ _ rfl hrg ?_ ?_)
      | go_in)
    · intro hc0 hl0
      have HB := Lib.hid hB
      have HO := Lib.hid hrg.owns
      have HV := Lib.hid (endV_end hV fun j v hj hv => by
        by_cases hin : v ∈ us
        · exact hin
        · have := hleft j v hj hv hin
          rw [hl0] at this; cases this)
      clear hB hV hleft hleft2 hrg hrg00
      go_wp2
      go_ret2
      exact ⟨ba, rfl, hba, ⟨D, HO.out, HV.out⟩, HB.out⟩
    · intro x a b kl yd yp w2' cnt2 hkey hlk hv hat hrg2 hlt2 hg2 hs2 hen
      obtain ⟨x', ex, rfl, hxl⟩ := Maps.keyOf_str Try.underlying9 hkey
      obtain rfl : x = x' := by
        have : str x = str x' := by injection ex
        exact str_inj.1 this
      obtain ⟨j, hj, hxj⟩ := hleft2 x hlk
      have hgx := HGL.out j x hxj
      have hsx : (str x).size ≤ maxLen := by rw [str_size]; exact hxl
      have hbl := fun wx => isBlocked_any (str x) wx hsx
      rw [hgx.1, blocked_is hgx, show boolOr true (endP x 0) = .tuple #[.bool (endP x 0), .bool true] from rfl] at hbl
      have HBL := Lib.hid hbl
      have HKX := Lib.hid (keyStr hxl)
      have hB2 := hB.grown hg2 hB.size (fun j hj => by injection hj with hj; have := HB1.out.size; omega)
      have HRG2 := Lib.hid hrg2
      have hn1 : ∀ j v, j < d → v ∈ lay nxL wl j → v ∉ us ++ [x] → (left (.string v) && !(Lit.string v).sameKey (.string x)) = true := fun j v hj hv hn => by
        simp at hn
        rw [hleft j v hj hv hn.1, sameKey_ne (key_ne hn.2)]; rfl
      have hn2 : ∀ v, (left (.string v) && !(Lit.string v).sameKey (.string x)) = true → ∃ j, j < d ∧ v ∈ lay nxL wl j := fun v hv => by
        rw [Bool.and_eq_true] at hv
        exact hleft2 v hv.1
      have HN1 := Lib.hid hn1
      have HN2 := Lib.hid hn2
      have HV := Lib.hid hV
      clear ex hkey hlk hv hat hg2 hs2 hrg2 hrg hB hn1 hn2 hleft hleft2 hV hbl
      cases hp : endP x 0
      · have hbl := HBL.out
        rw [hp] at hbl
        have HBL := Lib.hid hbl
        have HP := Lib.hid hp
        clear hbl hp
        go_wp2_with fail
        refine (HBL.out _).mono ?_
        rintro e w3 ⟨rfl, hb3⟩
        have hrg3 := HRG2.out.kept (grown_of_below hb3) (by simp) (by simp)
        have hB3 := hB2.trans (hb3.mono hB2.size)
        have hkx := HKX.out
        clear hb3 hB2
        go_wp2_with (first
          | (at_delete; refine wpList_delete_ranges _ rfl _ _ 46 9 rfl 53 Try.keysS Try.underlying46 _ ba w1.heap.size 59049 _ _ _ rfl hrg3 _ (.string x) rfl hkx ?_; intro w6 cnt6 hrg6 hle6 hturn6; try go_frame)
          | go_in)
        rw [Maps.strike_twice] at hrg6
        go_roundw
        case rel => exact ⟨us ++ [x], _, cnt6, _, hrg6, endV_drop HV.out HP.out, HN1.out, HN2.out, hB3.grown hturn6.grown hB3.size (fun j hj => by injection hj with hj; omega)⟩
        case measure => rw [hrg6.left_eq, hrg00.left_eq]; omega
      · have hbl := HBL.out
        rw [hp] at hbl
        have HBL := Lib.hid hbl
        have HP := Lib.hid hp
        clear hbl hp
        go_wp2_with fail
        refine (HBL.out _).mono ?_
        rintro e w3 ⟨rfl, hb3⟩
        have hrg3 := HRG2.out.kept (grown_of_below hb3) (by simp) (by simp)
        have HB3 := Lib.hid (hB2.trans (hb3.mono hB2.size))
        have HRG3 := Lib.hid hrg3
        clear hb3 hB2 hrg3
        go_wp2
        go_roundw
        case rel => exact ⟨us ++ [x], _, cnt2, _, HRG3.out, endV_keep HV.out HP.out, HN1.out, HN2.out, HB3.out⟩
        case measure => rw [HRG3.out.left_eq, hrg00.left_eq]; exact hlt2
end Go.Proofs.Ytdjfkhhlnkkilaa
