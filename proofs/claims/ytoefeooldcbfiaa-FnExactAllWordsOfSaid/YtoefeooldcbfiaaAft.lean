/- What is reached by just so many moves: both sides, and the law's walk. -/
import Derived.Test.YtoefeooldcbfiaaReF
namespace Go.Proofs.Ytoefeooldcbfiaa
open Go.RowKit Go.Maps

/-- The map while those of one layer are picked. -/
def KeepV (wl : List UInt8) (d : Nat) (p : Nat → Bool) (us : List (List UInt8)) (D : DataW Unit) : Prop :=
  (∀ j v, j < d → v ∈ lay nxL wl j → (v ∉ us ∨ p j = true) → hasV D v (arrD j (wr (pc nxL wl j v)))) ∧
    ∀ v, Maps.has D (.string v) = true → ∃ j, j < d ∧ v ∈ lay nxL wl j ∧ (v ∉ us ∨ p j = true)
theorem keepV_start {wl : List UInt8} {d : Nat} {p : Nat → Bool} {D : DataW Unit} (h : AllV nxL wl D d []) : KeepV wl d p [] D :=
  ⟨fun j v hj hv _ => h.1 j v hj hv, fun v hv => by
    rcases h.2.2 v hv with ⟨j, hj, hv⟩ | hv
    · exact ⟨j, hj, hv, .inl (by simp)⟩
    · simp at hv⟩
theorem keepV_keep {n : Nat} {wl : List UInt8} (hg : goodT n wl) {d : Nat} {p : Nat → Bool} {us : List (List UInt8)} {x : List UInt8} {D : DataW Unit} (h : KeepV wl d p us D) {j0 : Nat} (hx : x ∈ lay nxL wl j0) (hp : p j0 = true) : KeepV wl d p (us ++ [x]) D := by
  refine ⟨fun j v hj hv hc => h.1 j v hj hv ?_, fun v hv => ?_⟩
  · rcases hc with hc | hc
    · exact .inl (by simp at hc; exact hc.1)
    · exact .inr hc
  · obtain ⟨j, hj, hvl, hc⟩ := h.2 v hv
    refine ⟨j, hj, hvl, ?_⟩
    rcases hc with hc | hc
    · by_cases e : v = x
      · subst e
        rw [lay_apart (steps_line n) hg hvl hx]
        exact .inr hp
      · exact .inl (by simp [hc, e])
    · exact .inr hc
theorem keepV_drop {n : Nat} {wl : List UInt8} (hg : goodT n wl) {d : Nat} {p : Nat → Bool} {us : List (List UInt8)} {x : List UInt8} {D : DataW Unit} (h : KeepV wl d p us D) {j0 : Nat} (hx : x ∈ lay nxL wl j0) (hp : p j0 = false) : KeepV wl d p (us ++ [x]) (D.del (.string x)) := by
  refine ⟨fun j v hj hv hc => ?_, fun v hv => ?_⟩
  · rcases hc with hc | hc
    · simp at hc
      exact hasV_del (h.1 j v hj hv (.inl hc.1)) hc.2
    · refine hasV_del (h.1 j v hj hv (.inr hc)) fun e => ?_
      subst e
      rw [lay_apart (steps_line n) hg hv hx, hp] at hc
      cases hc
  · obtain ⟨hne, hv⟩ := has_del hv
    obtain ⟨j, hj, hvl, hc⟩ := h.2 v hv
    refine ⟨j, hj, hvl, ?_⟩
    rcases hc with hc | hc
    · exact .inl (by simp [hc, hne])
    · exact .inr hc
/-- The layer after so many moves, if it is one. -/
def aftL (wl : List UInt8) (d : Nat) (mv : Int) : List (List UInt8) := if mv.toNat < d then lay nxL wl mv.toNat else []
theorem aftL_rising (wl : List UInt8) (d : Nat) (mv : Int) : Rising (aftL wl d mv) := by
  unfold aftL
  split
  · exact lay_rising _
  · simp [Rising]
def in60 (mv : Int) : Bool := inR mv 0 60

set_option maxRecDepth 100000 in
set_option maxHeartbeats 2000000 in
theorem after_yes (d : Nat) (wl : List UInt8) (mv : Int) (w : World) (hr : reachB (str wl) = true) (hd : IsDep nxL wl d) (hd2 : d ≤ 60000) (h0 : 0 ≤ mv) (h60 : mv ≤ 60) :
    Calls Try.prog 41 #[.string (str wl), .int .i64 mv] w (RsPost (aftL wl d mv) true w) := by
  have hR := Lib.hid hr
  have HD := Lib.hid hd
  have HG := Lib.hid (reach_good hr)
  clear hr hd
  go_enter Try.func41, Try.ntmps41
  go_wp2_with fail
  refine (arrivals_yes d wl _ hR.out HD.out hd2).mono ?_
  rintro e w1 ⟨ba, rfl, hba, ⟨D0, hown, hA⟩, hb1⟩
  have HV0 := Lib.hid (keepV_start (p := fun j => decide ((j : Int) = mv)) hA)
  have HAL := Lib.hid hA
  have HB1 := Lib.hid hb1
  have hlt := hown.lt
  clear hb1 hA
  go_wp2_with (first
    | (at_range; refine wpList_range_own _ rfl _ 60 rfl 9 64 Try.keysS Try.underlying60 _ ba _ _ rfl hown ?_; intro w2 hrg0 hg0 hs0)
    | go_in)
  try go_frame
  go_loopw [8] (fun _ wq => ∃ (us : List (List UInt8)) (left : Lit → Bool) (cnt : Nat) (D : DataW Unit), wq.ranges Try.prog 9 arrR ba w1.heap.size 59049 D left cnt ∧ KeepV wl d (fun j => decide ((j : Int) = mv)) us D ∧
      (∀ j v, j < d → v ∈ lay nxL wl j → v ∉ us → left (.string v) = true) ∧ (∀ v, left (.string v) = true → v ∉ us) ∧ Below w.heap.size w wq)
    (fun _ wq => wq.rangeLeft ba w1.heap.size)
  case atStart => exact ⟨[], _, _, D0, hrg0, HV0.out, fun j v hj hv _ => (HAL.out.1 j v hj hv).1, fun v hv => by simp, HB1.out.grown hg0 HB1.out.size (fun j hj => by cases hj)⟩
  case round =>
    obtain ⟨us, left, cnt, D, hrg, hV, hleft, hleft2, hB⟩ := hrel
    obtain ⟨wq, hwq⟩ : ∃ wq : World, wq = wr := ⟨_, rfl⟩
    subst hwq
    have hrg00 := hrg
    go_wp2_with (first
      | (at_next; refine wpList_next_ranges _ rfl _ rfl 9 Try.keysS arrR (fun l : List UInt8 => Value.string (str l)) (fun q : Int × Int => Value.agg #[.int .i64 q.1, .int .i64 q.2]) (fun key kl hk => by obtain ⟨x, hx, _⟩ := Maps.keyOf_str Try.underlying9 hk; exact ⟨x, hx⟩) (fun v y hv => by obtain ⟨a, b, rfl, _⟩ := arrR_inv hv; exact ⟨(a, b), rfl⟩) ba w1.heap.size 59049 _ _ _ rfl hrg ?_ ?_)
      | go_in)
    · intro hc0 hl0
      have HB := Lib.hid hB
      have HO := Lib.hid (inOrder_any ba D (aftL wl d mv) wq hrg.owns (aftL_rising wl d mv) fun v => by
        constructor
        · intro hv
          unfold aftL at hv
          by_cases h : mv.toNat < d
          · rw [if_pos h] at hv
            exact (hV.1 _ v h hv (.inr (by simp; omega))).1
          · rw [if_neg h] at hv; cases hv
        · intro hv
          obtain ⟨j, hj, hvl, hc⟩ := hV.2 v hv
          rcases hc with hc | hc
          · have := hleft j v hj hvl hc
            rw [hl0] at this; cases this
          · have e : j = mv.toNat := by simp at hc; omega
            subst e
            unfold aftL
            rw [if_pos hj]
            exact hvl)
      clear hB hV hleft hleft2 hrg hrg00
      go_wp2_with fail
      refine HO.out.mono ?_
      rintro e w3 ⟨v3, rfl, ho3, hb3⟩
      have HO3 := Lib.hid (own_base ho3 HB.out.size)
      have HB3 := Lib.hid (HB.out.trans (hb3.mono HB.out.size))
      clear ho3 hb3
      go_wp2
      go_ret2
      exact ⟨v3, rfl, HO3.out, HB3.out⟩
    · intro x a b kl yd yp w2' cnt2 hkey hlk hv hat hrg2 hlt2 hg2 hs2 hen
      obtain ⟨x', ex, rfl, hxl⟩ := Maps.keyOf_str Try.underlying9 hkey
      obtain rfl : x = x' := by
        have : str x = str x' := by injection ex
        exact str_inj.1 this
      clear ex
      have hyd : yd = arrD a b := by
        rw [show arrR (Value.agg #[.int .i64 a, .int .i64 b]) = some (arrD a b, []) from rfl] at hv
        injection hv with hv
        injection hv with hv _
        exact hv.symm
      subst hyd
      obtain ⟨j, hj, hxj, hcx⟩ := hV.2 x (has_true_of_atKey hat)
      have ea : a = (j : Int) := by
        have := (hV.1 j x hj hxj hcx).2 .nil
        rw [hat] at this
        exact (arrD_inj this).1
      have HKX := Lib.hid (keyStr hxl)
      have hB2 := hB.grown hg2 hB.size (fun j hj => by injection hj with hj; have := HB1.out.size; omega)
      have HRG2 := Lib.hid hrg2
      have HN1 : Hid (∀ j v, j < d → v ∈ lay nxL wl j → v ∉ us ++ [x] → (left (.string v) && !(Lit.string v).sameKey (.string x)) = true) := Lib.hid fun j v hj hv hn => by
        simp at hn
        rw [hleft j v hj hv hn.1, sameKey_ne (key_ne hn.2)]; rfl
      have HN2 : Hid (∀ v, (left (.string v) && !(Lit.string v).sameKey (.string x)) = true → v ∉ us ++ [x]) := Lib.hid fun v hv => by
        rw [Bool.and_eq_true] at hv
        have h1 := hleft2 v hv.1
        have h2 := hv.2
        intro h
        rcases List.mem_append.1 h with h | h
        · exact h1 h
        · obtain rfl : v = x := by simpa using h
          simp [Lit.sameKey] at h2
      have HV := Lib.hid hV
      have HX := Lib.hid hxj
      clear hkey hlk hv hat hg2 hs2 hrg2 hrg hB hleft hleft2 hV hxj hcx
      by_cases hm : a = mv
      · have hp : decide ((j : Int) = mv) = true := by rw [← ea]; simp [hm]
        have HV2 := Lib.hid (keepV_keep HG.out HV.out HX.out hp)
        clear ea hp
        subst hm
        go_wp2
        have hrg3 := HRG2.out.alloc (Obj.cells #[.int .i64 a, .int .i64 b] 64)
        first
          | exact ⟨⟨us ++ [x], _, cnt2, _, hrg3, HV2.out, HN1.out, HN2.out, hB2.alloc hB2.size _⟩, by rw [hrg3.left_eq, hrg00.left_eq]; exact hlt2⟩
          | (go_roundw
             case rel => exact ⟨us ++ [x], _, cnt2, _, hrg3, HV2.out, HN1.out, HN2.out, hB2.alloc hB2.size _⟩
             case measure => rw [hrg3.left_eq, hrg00.left_eq]; exact hlt2)
      · have hp : decide ((j : Int) = mv) = false := by rw [← ea]; simp [hm]
        have hb : (a == mv) = false := by simp [hm]
        have hb2 : (a != mv) = true := by simp [hm]
        have HV2 := Lib.hid (keepV_drop HG.out HV.out HX.out hp)
        have hrg3 := HRG2.out.alloc (Obj.cells #[.int .i64 a, .int .i64 b] 64)
        have hkx := HKX.out
        clear ea hp
        go_wp2_with (first
          | (at_delete; refine wpList_delete_ranges _ rfl _ _ 60 9 rfl 64 Try.keysS Try.underlying60 _ ba w1.heap.size 59049 _ _ _ rfl hrg3 _ (.string x) rfl hkx ?_; intro w6 cnt6 hrg6 hle6 hturn6; try go_frame)
          | go_in)
        rw [Maps.strike_twice] at hrg6
        have hB3 := hB2.alloc hB2.size (Obj.cells #[.int .i64 a, .int .i64 b] 64)
        go_roundw
        case rel => exact ⟨us ++ [x], _, cnt6, _, hrg6, HV2.out, HN1.out, HN2.out, hB3.grown hturn6.grown hB3.size (fun j hj => by injection hj with hj; omega)⟩
        case measure => rw [hrg6.left_eq, hrg00.left_eq]; omega

set_option maxRecDepth 100000 in
set_option maxHeartbeats 1000000 in
theorem after_no (wl : List UInt8) (mv : Int) (w : World) (hs : (str wl).size ≤ maxLen) (hr : (reachB (str wl) && in60 mv) = false) :
    Calls Try.prog 41 #[.string (str wl), .int .i64 mv] w (RsPost [] false w) := by
  cases hw : reachB (str wl)
  · have hR := Lib.hid hw
    clear hr hw
    go_enter Try.func41, Try.ntmps41
    go_wp2_with (go_at_call 45; refine (arrivals_no wl _ hs hR.out).mono ?_; rintro e w' ⟨rfl, rfl⟩)
    go_ret2
    exact ⟨_, rfl, World.ownsRow_nil _ _ _ _, Below.refl _ _⟩
  · rw [hw, Bool.true_and] at hr
    obtain ⟨d, hd, hd2⟩ := dep_of hw
    have hR := Lib.hid hw
    have HD := Lib.hid hd
    have hcase : mv < 0 ∨ (¬ mv < 0 ∧ 60 < mv) := by
      simp [in60, inR] at hr
      omega
    clear hr hw hd
    rcases hcase with h | ⟨h, h2⟩
    all_goals
      go_enter Try.func41, Try.ntmps41
      go_wp2_with fail
      refine (arrivals_yes d wl _ hR.out HD.out hd2).mono ?_
      rintro e w1 ⟨ba, rfl, hba, _, hb1⟩
      have HB := Lib.hid hb1
      clear hb1
      go_wp2
      go_ret2
      exact ⟨_, rfl, World.ownsRow_nil _ _ _ _, HB.out⟩

end Go.Proofs.Ytoefeooldcbfiaa
