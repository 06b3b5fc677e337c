/- Contracts: rings that are not the least of their turned ones are deleted from a list. -/
import Derived.Test.YtfjjdelmfohaeaaDoorCiC
import Derived.Test.YtfjjdelmfohaeaaDoorUnrI
import Derived.Lib.SliceRun

namespace Go.Proofs.YtfjjdelmfohaeaaDoor
open Go.RowKit

def delB (x : List UInt8) : Bool := !decide (x = leastL x)
def keepL (L : List (List UInt8)) : List (List UInt8) := L.filter fun x => !delB x

set_option maxHeartbeats 400000 in
theorem del_any (x : List UInt8) (w : World) (hr : ringB (str x) = true) :
    Calls Tryd.prog 88 #[.string (str x)] w fun e w' => e = .returned (.bool (delB x)) ∧ Below w.heap.size w w' := by
  have hs : (str x).size ≤ maxLen := by have := (ring_sz hr).2; unfold maxLen; omega
  have hq := Lib.hid (same_str x (leastL x))
  have HR : Hid (∀ wx, Calls Tryd.prog 89 #[.string (str x)] wx fun e w' => e = .returned (.tuple #[.string (str (leastL x)), .bool true]) ∧ Below wx.heap.size wx w') := Lib.hid fun wx => by
    have := leastRing_any (str x) wx hs
    rw [byt_str, hr] at this
    exact this
  clear hr hs
  go_enter Tryd.func88, Tryd.ntmps88
  go_wp2_with fail
  refine (HR.out _).mono ?_
  rintro e w1 ⟨rfl, hb⟩
  cases hc : decide (x = leastL x)
  · have hb1 : ((str x).toList == (str (leastL x)).toList) = false := by rw [hq.out]; exact hc
    have hb2 : ((str x).toList != (str (leastL x)).toList) = true := by unfold bne; rw [hb1]; rfl
    have HD : Hid (delB x = true) := Lib.hid (by unfold delB; rw [hc]; rfl)
    clear hc
    go_wp2
    go_ret
    exact ⟨congrArg (fun b => Ending.returned (.bool b)) HD.out.symm, hb⟩
  · have hb1 : ((str x).toList == (str (leastL x)).toList) = true := by rw [hq.out]; exact hc
    have hb2 : ((str x).toList != (str (leastL x)).toList) = false := by unfold bne; rw [hb1]; rfl
    have HD : Hid (delB x = false) := Lib.hid (by unfold delB; rw [hc]; rfl)
    clear hc
    go_wp2
    go_ret
    exact ⟨congrArg (fun b => Ending.returned (.bool b)) HD.out.symm, hb⟩

/-- What a search tells: no one, or the first one. -/
def IxIs (L : List (List UInt8)) (r : Int) : Prop := (r = -1 ∧ ∀ x ∈ L, delB x = false) ∨ ∃ i : Nat, r = i ∧ ∃ h : i < L.length, delB L[i] = true ∧ ∀ j (hj : j < L.length), j < i → delB L[j] = false

set_option maxHeartbeats 1000000 in
theorem indexDel_any (L : List (List UInt8)) (A : Option Addr) (c : Nat) (w : World) (hat : StAt w A L) (hr : ∀ x ∈ L, ringB (str x) = true) (hn : L.length ≤ 100000) :
    Calls Tryd.prog 113 #[.slice A L.length c, .func (.func 88) #[] #[]] w fun e w' => ∃ r : Int, e = .returned (.int .i64 r) ∧ IxIs L r ∧ Below w.heap.size w w' := by
  have HAT := Lib.hid hat
  have HR := Lib.hid hr
  clear hat hr
  go_enter Tryd.func113, Tryd.ntmps113
  go_wp2
  go_loopw [5, 8] (fun _ x wr => ∃ j : Nat, j ≤ L.length ∧ x = .int .i64 j ∧ Hid (∀ k (h : k < L.length), k < j → delB L[k] = false) ∧ Below w.heap.size w wr) (fun _ x _ => L.length - (intOf x).toNat)
  case atStart => exact ⟨0, Nat.zero_le _, rfl, Lib.hid fun k _ hk => absurd hk (by omega), Below.refl _ _⟩
  case round =>
    obtain ⟨j, hj, rfl, hno, hB⟩ := hrel
    by_cases hlt : j < L.length
    · obtain ⟨g, rfl, hg, c0⟩ := (HAT.out.below hB) j hlt
      have i1 : (0 : Int) ≤ (j : Int) := by omega
      have i2 : (j : Int) < (L.length : Int) := by omega
      have HX := Lib.hid (HR.out L[j] (List.getElem_mem hlt))
      have HN : Hid (delB L[j] = false → ∀ k (h : k < L.length), k < j + 1 → delB L[k] = false) := Lib.hid fun h0 k h hk => by
        by_cases e : k = j
        · subst e; exact h0
        · exact hno.out k h (by omega)
      have HY : Hid (delB L[j] = true → IxIs L j) := Lib.hid fun h0 => .inr ⟨j, rfl, hlt, h0, fun k hk h => hno.out k hk h⟩
      generalize L[j] = x at c0 HX HN HY
      go_wp2_with fail
      refine (del_any x _ HX.out).mono ?_
      rintro e w1 ⟨rfl, hb1⟩
      have hB2 := hB.trans (hb1.mono hB.size)
      clear hB hb1 c0
      cases hd : delB x
      · have HD := Lib.hid hd
        clear hd
        go_wp2
        go_roundw
        case rel => exact ⟨j + 1, by omega, by go_num, Lib.hid (HN.out HD.out), hB2⟩
        case measure => simp [intOf]; omega
      · have HD := Lib.hid hd
        clear hd
        go_wp2
        go_ret
        exact ⟨j, rfl, HY.out HD.out, hB2⟩
    · obtain rfl : j = L.length := by omega
      go_wp2
      go_ret
      refine ⟨-1, rfl, .inl ⟨rfl, fun x hx => ?_⟩, hB⟩
      obtain ⟨k, hk, e⟩ := List.getElem_of_mem hx
      rw [← e]
      exact hno.out k hk hk
/-- The kept ones, of the first ones. -/
theorem keep_all (L : List (List UInt8)) (h : ∀ x ∈ L, delB x = false) : keepL L = L := by
  unfold keepL
  exact List.filter_eq_self.2 fun x hx => by rw [h x hx]; rfl
theorem keep_first (L : List (List UInt8)) (i : Nat) (h : i < L.length) (hd : delB L[i] = true) (hno : ∀ j (hj : j < L.length), j < i → delB L[j] = false) : keepL (L.take (i + 1)) = L.take i := by
  rw [List.take_succ_eq_append_getElem h]
  unfold keepL
  rw [List.filter_append]
  have h1 : List.filter (fun x => !delB x) [L[i]] = [] := by simp [hd]
  rw [h1, List.append_nil]
  refine List.filter_eq_self.2 fun x hx => ?_
  obtain ⟨k, hk, e⟩ := List.getElem_of_mem hx
  rw [List.getElem_take] at e
  rw [List.length_take] at hk
  rw [← e, hno k (by omega) (by omega)]
  rfl
theorem keep_next (L : List (List UInt8)) (j : Nat) (h : j < L.length) : keepL (L.take (j + 1)) = keepL (L.take j) ++ if delB L[j] then [] else [L[j]] := by
  rw [List.take_succ_eq_append_getElem h]
  unfold keepL
  rw [List.filter_append]
  cases hd : delB L[j] <;> simp [hd]
theorem keep_len (L : List (List UInt8)) : (keepL L).length ≤ L.length := List.length_filter_le _ _
theorem txs_set (L : List (List UInt8)) (i : Nat) (x : List UInt8) : (txs L).set i (.string (str x)) = txs (L.set i x) := by simp [txs, List.map_set]
/-- What the first cells hold while others are moved up: the kept ones in front, the rest as it was. -/
structure DelSt (L C : List (List UInt8)) (a b : Nat) : Prop where
  len : C.length = L.length
  lt : a < b
  ble : b ≤ L.length
  front : C.take a = keepL (L.take b)
  back : C.drop b = L.drop b
theorem DelSt.alen {L C : List (List UInt8)} {a b : Nat} (h : DelSt L C a b) : a = (keepL (L.take b)).length := by
  rw [← h.front, List.length_take, h.len]
  have := h.lt; have := h.ble
  omega
theorem DelSt.at {L C : List (List UInt8)} {a b : Nat} (h : DelSt L C a b) (hb : b < L.length) : ∃ hc : b < C.length, C[b] = L[b] := by
  have hc : b < C.length := by rw [h.len]; exact hb
  refine ⟨hc, ?_⟩
  have h1 := h.back
  rw [List.drop_eq_getElem_cons hc, List.drop_eq_getElem_cons hb] at h1
  injection h1
theorem DelSt.skip {L C : List (List UInt8)} {a b : Nat} (h : DelSt L C a b) (hb : b < L.length) (hd : delB L[b] = true) : DelSt L C a (b + 1) := by
  refine ⟨h.len, by have := h.lt; omega, by omega, ?_, ?_⟩
  · rw [keep_next L b hb, hd, if_pos rfl, List.append_nil]; exact h.front
  · rw [← List.drop_drop, ← List.drop_drop, h.back]
theorem DelSt.put {L C : List (List UInt8)} {a b : Nat} (h : DelSt L C a b) (hb : b < L.length) (hd : delB L[b] = false) : DelSt L (C.set a L[b]) (a + 1) (b + 1) := by
  have hlt := h.lt
  have hl := h.len
  refine ⟨by rw [List.length_set]; exact hl, by omega, by omega, ?_, ?_⟩
  · rw [keep_next L b hb, hd, if_neg (by decide), ← h.front, List.take_succ_eq_append_getElem (by rw [List.length_set]; omega), List.take_set_of_le (Nat.le_refl _)]
    simp
  · rw [List.drop_set_of_lt (by omega), ← List.drop_drop, ← List.drop_drop, h.back]
theorem DelSt.start {L : List (List UInt8)} {i : Nat} (h : i < L.length) (hd : delB L[i] = true) (hno : ∀ j (hj : j < L.length), j < i → delB L[j] = false) : DelSt L L i (i + 1) :=
  ⟨rfl, by omega, by omega, (keep_first L i h hd hno).symm, rfl⟩
end Go.Proofs.YtfjjdelmfohaeaaDoor
