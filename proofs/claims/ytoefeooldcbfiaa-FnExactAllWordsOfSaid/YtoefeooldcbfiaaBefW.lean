/- LinesBefore: the program's side, and the law's walk. -/
import Derived.Test.YtoefeooldcbfiaaBefM
import Derived.Test.YtoefeooldcbfiaaBack
import Derived.Test.YtoefeooldcbfiaaLs
namespace Go.Proofs.Ytoefeooldcbfiaa
open Go.RowKit Go.Maps Go.Sort

set_option maxHeartbeats 1000000 in
theorem sortRow_any (v : Value) (base : Nat) (ss : List (List UInt8)) (w : World) (hown : w.ownsRow base 9 1 v ss.length (txs ss)) (hbase : base ≤ w.heap.size) (hl : ss.length ≤ 1000) :
    Calls Try.prog 100 #[v] w fun e w' => e = .returned (.tuple #[]) ∧ w'.ownsRow base 9 1 v ss.length (txs (ss.mergeSort fun x y => decide (x ≤ y))) ∧ Below base w w' := by
  rcases hown with ⟨hlen, ⟨hv, h0⟩ | ⟨g, cap, cur, rfl, hg0, hg, hle, hm, hs, ht⟩⟩
  · have h2 : ss.length = 0 := by have h3 := txs_len ss; omega
    obtain rfl := List.eq_nil_of_length_eq_zero h2
    subst hv
    refine (AnyM.slices_Sort_string_none Try.sort100 none 0 w).mono ?_
    rintro e w' ⟨rfl, rfl⟩
    exact ⟨rfl, ⟨by simp [txs], .inl ⟨rfl, rfl⟩⟩, Below.refl _ _⟩
  · rw [Nat.mul_one] at ht
    refine (AnyM.slices_Sort_string Try.sort100 g 0 cap ss w (holds_of_block hg ht) (lt_of_block hg) (by omega)).mono ?_
    rintro e w' ⟨rfl, n, os, rfl⟩
    refine ⟨rfl, ownsRow_sorted (by rw [List.length_mergeSort]) hg0 hg hle hm hs, (Below.refl base w).grown (grownBy_sorted _) hbase fun i hi => ?_⟩
    injection hi with hi
    omega
/-- The lines, the first j told backwards. -/
def rvd (N : List (List UInt8)) (j : Nat) : List (List UInt8) := (N.take j).map List.reverse ++ N.drop j
theorem rvd_len (N : List (List UInt8)) (j : Nat) : (rvd N j).length = N.length := by simp [rvd]; omega
theorem rvd_zero (N : List (List UInt8)) : rvd N 0 = N := by simp [rvd]
theorem rvd_all (N : List (List UInt8)) : rvd N N.length = N.map List.reverse := by simp [rvd]
theorem rvd_at (N : List (List UInt8)) (j : Nat) (h : j < N.length) : (rvd N j)[j]? = some N[j] := by
  unfold rvd
  rw [List.getElem?_append_right (by simp; omega)]
  simp
  rw [Nat.min_eq_left (by omega)]
  simp [h]
theorem rvd_next (N : List (List UInt8)) (j : Nat) (h : j < N.length) : (rvd N j).set j N[j].reverse = rvd N (j + 1) := by
  unfold rvd
  rw [List.take_succ_eq_append_getElem h, List.map_append]
  have hl : ((N.take j).map List.reverse).length = j := by simp; omega
  rw [List.set_append_right _ _ (by omega), hl, Nat.sub_self, List.drop_eq_getElem_cons h]
  simp only [List.set_cons_zero, List.append_assoc, List.map_cons, List.map_nil, List.cons_append, List.nil_append]

set_option maxRecDepth 100000 in
set_option maxHeartbeats 2000000 in
theorem linesBefore_yes (l : List UInt8) (w : World) (hr : reachB (str l) = true) :
    Calls Try.prog 86 #[.string (str l)] w (RsPost (befL l) true w) := by
  have hg : goodL (str l) = true := by unfold reachB at hr; exact (Bool.and_eq_true_iff.1 hr).1
  obtain ⟨h1, h2, h3⟩ := (goodL_iff _).1 hg
  rw [str_size] at h1 h2
  rw [byt_str] at h3
  have hgr : goodL (str l.reverse) = true := (goodL_iff _).2 ⟨by rw [str_size, List.length_reverse]; exact h1, by rw [str_size, List.length_reverse]; exact h2, by rw [byt_str, List.all_reverse]; exact h3⟩
  have hs : (str l).size ≤ maxLen := by rw [str_size]; unfold maxLen; omega
  have HR := Lib.hid hr
  have HBW := Lib.hid (fun wx => backwards_any l wx h1 (by omega))
  have HLB := Lib.hid (fun wx => linesBehind_any l.reverse wx hgr)
  have hNl := nxL_len l.reverse
  rw [List.length_reverse] at hNl
  have HX : Hid (∀ x ∈ nxL l.reverse, x.length = l.length) := Lib.hid fun x hx => by
    obtain ⟨m, _, rfl⟩ := mem_nxL hx
    rw [behind_len, str_size, List.length_reverse]
  have HS := Lib.hid (bef_sorted l)
  obtain ⟨N, hN⟩ : ∃ N, nxL l.reverse = N := ⟨_, rfl⟩
  rw [hN] at HLB hNl HX HS
  clear hr hg hgr h3 hN
  go_enter Try.func86, Try.ntmps86
  go_wp2_with fail
  refine (isReach_any _ _ hs).mono ?_
  rintro e w1 ⟨rfl, rfl⟩
  rw [HR.out]
  go_wp2_with fail
  refine (HBW.out _).mono ?_
  rintro e w1 ⟨rfl, hb1⟩
  go_wp2_with fail
  refine (HLB.out _).mono ?_
  rintro e w2 ⟨v, rfl, hown, hb2⟩
  obtain ⟨A, cap, rfl, hcap, hmx, _⟩ := st_own hown
  have hown := own_base hown hb1.size
  have hB0 := hb1.trans (hb2.mono hb1.size)
  clear hb1 hb2
  go_wp2
  go_loopw [15] (fun i wr => ∃ j : Nat, j ≤ N.length ∧ i = .int .i64 j ∧ wr.ownsRow w.heap.size 9 1 (.slice A N.length cap) N.length (txs (rvd N j)) ∧ Below w.heap.size w wr) (fun i _ => N.length - (intOf i).toNat)
  case atStart => exact ⟨0, Nat.zero_le _, rfl, by rw [rvd_zero]; exact hown, hB0⟩
  case round =>
    clear hown hB0
    obtain ⟨j, hj, rfl, hown, hB⟩ := hrel
    obtain ⟨wq, hwq⟩ : ∃ wq : World, wq = wr := ⟨_, rfl⟩
    subst hwq
    by_cases hlt : j < N.length
    · obtain ⟨g, c, hv, hg, hg2⟩ := row_form hown (by omega)
      injection hv with e1 _ e3
      subst e1 e3
      have hat : (txs (rvd N j))[j]? = some (.string (str N[j])) := by
        unfold txs
        rw [List.getElem?_map, rvd_at N j hlt]; rfl
      have c0 := (hown.cellAt j (by omega)).trans hat
      have hx := HX.out N[j] (List.getElem_mem hlt)
      have HNX := Lib.hid (rvd_next N j hlt)
      have HOW := Lib.hid hown
      have HBq := Lib.hid hB
      clear hat hown hB
      generalize N[j] = x at c0 hx HNX
      go_wp2_with fail
      refine (backwards_any x _ (by omega) (by omega)).mono ?_
      rintro e w3 ⟨rfl, hb3⟩
      have hown2 := own_below HOW.out hb3
      have f0 := hown2.frozenAt j
      have e0 := (hb3.cell (p := ⟨g, j, none⟩) hg2).trans c0
      have hs1 := (hown2.stored j (.string (str x.reverse))).1
      rw [txs_set, HNX.out] at hs1
      have HS1 := Lib.hid hs1
      have HB3 := Lib.hid (HBq.out.trans (hb3.mono HBq.out.size))
      clear hown2 hs1 hb3
      go_wp2
      go_roundw
      case rel => exact ⟨j + 1, by omega, by go_num, HS1.out, HB3.out.setCell hg _⟩
      case measure => simp [intOf]; omega
    · obtain rfl : j = N.length := by omega
      rw [rvd_all] at hown
      have hSR := sortRow_any (.slice A N.length cap) w.heap.size (N.map List.reverse) wq (by rw [List.length_map]; exact hown) hB.size (by rw [List.length_map]; omega)
      rw [HS.out, List.length_map] at hSR
      have HSR := Lib.hid hSR
      have HB := Lib.hid hB
      have hlen : (befL l).length = N.length := by rw [← HS.out, List.length_mergeSort, List.length_map]
      clear hSR hB hown
      go_wp2_with fail
      refine HSR.out.mono ?_
      rintro e w4 ⟨rfl, hown4, hb4⟩
      have HO4 := Lib.hid hown4
      have HB4 := Lib.hid (HB.out.trans hb4)
      clear hown4 hb4
      go_wp2
      go_ret2
      exact ⟨_, rfl, by rw [hlen]; exact HO4.out, HB4.out⟩

theorem befNo (w : World) : LsPost [] false w (.returned (.tuple #[.slice none 0 0, .bool false])) w := ⟨none, 0, rfl, fun k hk => by simp at hk, Below.refl _ _⟩
set_option maxHeartbeats 1000000 in
theorem before_no (s : ByteArray) (w : World) (hs : s.size ≤ maxLen) (hr : reachB s = false) : Calls Try.prog 86 #[.string s] w (RsPost [] false w) := by
  have hR := Lib.hid hr
  clear hr
  go_enter Try.func86, Try.ntmps86
  go_wp2_with (go_at_call 69; refine (isReach_any _ _ hs).mono ?_; rintro e w' ⟨rfl, rfl⟩; rw [hR.out])
  go_ret2
  exact ⟨_, rfl, World.ownsRow_nil _ _ _ _, Below.refl _ _⟩
theorem befL_len (l : List UInt8) : (befL l).length ≤ l.length := by
  rw [← bef_sorted, List.length_mergeSort, List.length_map]
  have := nxL_len l.reverse
  rwa [List.length_reverse] at this
end Go.Proofs.Ytoefeooldcbfiaa
