/- Contract: the lines of some arrivals, in order. -/
import Derived.Test.YtoefeooldcbfiaaStops
import Derived.Test.YtoefeooldcbfiaaLay
import Derived.Test.YtoefeooldcbfiaaSrt
namespace Go.Proofs.Ytoefeooldcbfiaa
open Go.RowKit Go.Maps

theorem sorted_is {ss l : List (List UInt8)} (hn : ss.Nodup) (hr : Rising l) (hm : ∀ v, v ∈ ss ↔ v ∈ l) : ss.mergeSort (fun x y => decide (x ≤ y)) = l := by
  have tr : ∀ a b c : List UInt8, decide (a ≤ b) = true → decide (b ≤ c) = true → decide (a ≤ c) = true := fun a b c h1 h2 => by simp only [decide_eq_true_eq] at *; exact List.le_trans h1 h2
  have tot : ∀ a b : List UInt8, (decide (a ≤ b) || decide (b ≤ a)) = true := fun a b => by simp only [Bool.or_eq_true, decide_eq_true_eq]; exact List.le_total a b
  have hs := List.pairwise_mergeSort tr tot ss
  have hp := List.mergeSort_perm ss (fun x y => decide (x ≤ y))
  have hn2 : (ss.mergeSort (fun x y => decide (x ≤ y))).Nodup := hp.nodup_iff.2 hn
  refine rising_ext ?_ hr fun v => (hp.mem_iff).trans (hm v)
  refine (hs.and hn2).imp fun {a b} h => ?_
  have h1 : a ≤ b := by simpa using h.1
  by_cases hlt : a < b
  · exact hlt
  · exact absurd (List.le_antisymm h1 (List.not_lt.1 hlt)) h.2

set_option maxRecDepth 100000 in
set_option maxHeartbeats 1000000 in
theorem inOrder_any (ba : Nat) (D : DataW Unit) (l : List (List UInt8)) (w : World) (hown : w.ownsMap Try.prog 9 arrR ba 59049 D) (hr : Rising l) (hm : ∀ v, v ∈ l ↔ Maps.has D (.string v) = true) :
    Calls Try.prog 65 #[.map (some ba)] w (TxPost w l) := by
  obtain ⟨h1, h2, h3⟩ := keys_nodup hown Try.keysS Try.underlying9
  have hsz := hown.size_le
  have HK := Lib.hid (fun wx => (callsIn_wide (n := 5)).1 (Try.maps_Keys_84 (some ba) wx))
  have HS := Lib.hid ((callsIn_wide (n := 5)).1 (Try.slices_Sorted_keys_83_84 ba 59049 D arrR w hown (by unfold maxLen; omega) (by omega)))
  have HP : Hid (∀ ss : List (List UInt8), ss.Perm (strKeys D) → ss.mergeSort (fun x y => decide (x ≤ y)) = l ∧ ss.length = l.length) := Lib.hid fun ss hp => by
    have e := sorted_is (hp.nodup_iff.2 h1) hr (fun v => (hp.mem_iff.trans (h2 v)).trans (hm v).symm)
    exact ⟨e, by rw [← e, List.length_mergeSort]⟩
  clear h1 h2 h3
  go_enter Try.func65, Try.ntmps65
  go_wp2_with fail
  refine (HK.out _).mono ?_
  rintro e w1 ⟨rfl, rfl⟩
  go_wp2_with fail
  refine HS.out.mono ?_
  rintro e w2 ⟨v, ss, rfl, hp, hrow, _, hb⟩
  obtain ⟨e1, e2⟩ := HP.out ss hp
  rw [e1, e2] at hrow
  have HR := Lib.hid (own_base hrow (by simp : w.heap.size ≤ _))
  have HB := Lib.hid (((Below.refl w.heap.size w).alloc (Nat.le_refl _) (.cells #[.map (some ba)] 60)).trans (hb.mono (by simp)))
  clear hrow hb hp e1 e2
  go_wp2
  go_ret
  exact ⟨v, rfl, HR.out, HB.out⟩

set_option maxRecDepth 100000 in
set_option maxHeartbeats 1000000 in
theorem inOrder_nil (w : World) : Calls Try.prog 65 #[.map none] w (TxPost w []) := by
  have HK := Lib.hid (fun wx => (callsIn_wide (n := 5)).1 (Try.maps_Keys_84 none wx))
  have HS := Lib.hid ((callsIn_wide (n := 5)).1 (Try.slices_Sorted_keys_nil_83_84 w))
  go_enter Try.func65, Try.ntmps65
  go_wp2_with fail
  refine (HK.out _).mono ?_
  rintro e w1 ⟨rfl, rfl⟩
  go_wp2_with fail
  refine HS.out.mono ?_
  rintro e w2 ⟨v, ss, rfl, rfl, hrow, _, hb⟩
  have hrow : w2.ownsRow (w.alloc (.cells #[.map none] 60)).heap.size 9 1 v 0 [] := by simpa using hrow
  have HR := Lib.hid (own_base hrow (by simp : w.heap.size ≤ _))
  have HB := Lib.hid (((Below.refl w.heap.size w).alloc (Nat.le_refl _) (.cells #[.map none] 60)).trans (hb.mono (by simp)))
  clear hrow hb
  go_wp2
  go_ret
  exact ⟨v, rfl, HR.out, HB.out⟩
end Go.Proofs.Ytoefeooldcbfiaa
