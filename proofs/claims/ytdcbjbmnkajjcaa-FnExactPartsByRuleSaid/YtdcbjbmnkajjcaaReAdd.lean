/- Contract: the model puts a text into a rising list. -/
import Derived.Test.YtdcbjbmnkajjcaaSl
namespace Go.Proofs.Ytdcbjbmnkajjcaa
open Go.RowKit

theorem half_in (a b : Nat) (h : a < b) (hb : b ≤ 100000) : IntKind.i64.wrap ((a : Int) + (b : Int)) = ((a + b : Nat) : Int) ∧ (((a + b : Nat) : Int).tdiv 2 = (((a + b) / 2 : Nat) : Int)) := by
  constructor
  · rw [IntKind.wrap_i64]; omega
  · rw [Int.tdiv_eq_ediv_of_nonneg (by omega)]; omega
theorem rising_lt {l : List (List UInt8)} (h : Rising l) {i j : Nat} (hj : j < l.length) (hij : i < j) : l[i]'(by omega) < l[j] := List.pairwise_iff_getElem.1 h i j (by omega) hj hij

theorem empty_own (w : World) : (w.alloc (Obj.cells #[] 9)).ownsRow w.heap.size 9 1 (.slice (some ⟨w.heap.size, 0, none⟩) 0 0) 0 [] := World.ownsRow_made w #[] 0 (Nat.le_refl _) (by decide) rfl
set_option maxRecDepth 100000 in
set_option maxHeartbeats 1000000 in
theorem reAdd_nil (x : List UInt8) (w : World) :
    Calls Try.prog 38 #[.slice none 0 0, .string (str x)] w fun e w' => ∃ v', e = .returned v' ∧ StOk w' v' [x] ∧ Below w.heap.size w w' := by
  obtain ⟨i0, hi, hz0, hz1, hz2⟩ := info_parts Try.infoS
  have HI := Lib.hid hi
  have HZ0 := Lib.hid hz0
  have HZ1 := Lib.hid hz1
  have HZ2 := Lib.hid hz2
  clear hi hz0 hz1 hz2
  go_enter Try.func38, Try.ntmps38
  go_wp2
  go_loop [5, 6] (fun a b => a = .int .i64 0 ∧ b = .int .i64 0) (fun _ _ => 0)
  case atStart => exact ⟨rfl, rfl⟩
  case round =>
    obtain ⟨rfl, rfl⟩ := hrel
    go_wp2_with (first
      | (at_builtin; refine wpList_append_st _ rfl _ _ 36 rfl w.heap.size 9 i0 (.string ByteArray.empty) 1 16 Try.underlying36 HI.out HZ0.out HZ1.out HZ2.out rfl (by decide) _ 1 (txs [x]) rfl ho2 none 0 0 [] rfl (fun _ => ⟨rfl, rfl⟩) rfl (fun _ e => by cases e) (by simp) (by decide) (by decide) hz2 ?_; intro v3 w3 ho3 hg3)
      | (at_builtin; refine wpList_append_st _ rfl _ _ 36 rfl w.heap.size 9 i0 (.string ByteArray.empty) 1 16 Try.underlying36 HI.out HZ0.out HZ1.out HZ2.out rfl (by decide) _ 0 [] rfl (ho1.alloc _) (some ⟨w1.heap.size, 0, none⟩) 1 1 (txs [x]) rfl (fun e => by cases e) rfl (fun _ e => by cases e; exact cell_one_new _ _ _) (txs_one _) (by decide) (by decide) hz1 ?_; intro v2 w2 ho2 hg2; have hz2 : w.heap.size ≤ w2.heap.size := Nat.le_trans hz1 hg2.size)
      | (at_builtin; refine wpList_append_st _ rfl _ _ 36 rfl w.heap.size 9 i0 (.string ByteArray.empty) 1 16 Try.underlying36 HI.out HZ0.out HZ1.out HZ2.out rfl (by decide) _ 0 [] rfl (empty_own w) none 0 0 [] rfl (fun _ => ⟨rfl, rfl⟩) rfl (fun _ e => by cases e) (by simp) (by decide) (by decide) (by simp) ?_; intro v1 w1 ho1 hg1; have hz1 : w.heap.size ≤ (w1.alloc (Obj.cells #[.string (str x)] 9)).heap.size := by have := hg1.size; simp at this ⊢; omega))
    go_ret
    have b1 := ((Below.refl w.heap.size w).alloc (Nat.le_refl _) (Obj.cells #[] 9)).grown hg1 (by simp) (fun j hj => ((empty_own w).lt _ hj).1)
    have b2 := (b1.alloc b1.size (Obj.cells #[.string (str x)] 9)).grown hg2 hz1 (fun j hj => (ho1.lt _ hj).1)
    have b3 := b2.grown hg3 hz2 (fun j hj => (ho2.lt _ hj).1)
    exact ⟨_, rfl, st_ok (l := [x]) (by simpa using ho3) (by simp), b3⟩

theorem addr_at (g o j : Nat) : (⟨g, o, none⟩ : Addr).add j = ⟨g, o + j, none⟩ := by
  unfold Addr.add
  split
  · simp_all
  · rfl
theorem cells_txs {w : World} {g : Nat} {l : List (List UInt8)} (h : ∀ k (hk : k < l.length), w.cell? ⟨g, k, none⟩ = some (.string (str l[k]))) (o : Nat) :
    ∀ (m : List (List UInt8)), (∀ j (hj : j < m.length), ∃ h2 : o + j < l.length, m[j] = l[o + j]) → ∀ j u, (txs m)[j]? = some u → w.cell? ((⟨g, o, none⟩ : Addr).add j) = some u := by
  intro m hm j u hu
  rw [addr_at]
  have hj : j < m.length := by
    have := (List.getElem?_eq_some_iff.1 hu).1
    rwa [txs_len] at this
  obtain ⟨h2, e⟩ := hm j hj
  have e2 : (txs m)[j]? = some (.string (str m[j])) := by simp [txs, hj]
  rw [e2] at hu
  injection hu with hu
  rw [← hu, e]
  exact h (o + j) h2

set_option maxRecDepth 100000 in
set_option maxHeartbeats 4000000 in
theorem reAdd_some (l : List (List UInt8)) (x : List UInt8) (g c : Nat) (w : World) (hr : Rising l) (hne : l ≠ []) (hle : l.length ≤ c) (hc : c ≤ maxLen) (hg : g < w.heap.size)
    (hcell : ∀ k (h : k < l.length), w.cell? ⟨g, k, none⟩ = some (.string (str l[k]))) (hl : l.length ≤ 100000) :
    Calls Try.prog 38 #[.slice (some ⟨g, 0, none⟩) l.length c, .string (str x)] w fun e w' => ∃ v', e = .returned v' ∧ StOk w' v' (ins x l) ∧ Below w.heap.size w w' := by
  obtain ⟨i0, hi, hz0, hz1, hz2⟩ := info_parts Try.infoS
  have HI := Lib.hid hi
  have HZ0 := Lib.hid hz0
  have HZ1 := Lib.hid hz1
  have HZ2 := Lib.hid hz2
  clear hi hz0 hz1 hz2
  have HC := Lib.hid hcell
  have HR := Lib.hid hr
  have HNE := Lib.hid hne
  have hc2 : c ≤ 9223372036854775807 := by unfold maxLen at hc; omega
  clear hcell hr hne
  go_enter Try.func38, Try.ntmps38
  go_wp2
  go_loop [5, 6] (fun a b => ∃ lo hi : Nat, lo ≤ hi ∧ hi ≤ l.length ∧ a = .int .i64 lo ∧ b = .int .i64 hi ∧ Hid (∀ j (h : j < l.length), j < lo → l[j] < x) ∧ Hid (∀ j (h : j < l.length), hi ≤ j → ¬ l[j] < x)) (fun a b => (intOf b).toNat - (intOf a).toNat)
  case atStart => exact ⟨0, l.length, Nat.zero_le _, Nat.le_refl _, rfl, rfl, Lib.hid (fun j _ h => by omega), Lib.hid (fun j h h2 => by omega)⟩
  case round =>
    obtain ⟨lo, hi, hlh, hhl, rfl, rfl, HLO, HHI⟩ := hrel
    by_cases hlt : lo < hi
    · obtain ⟨hw1, hw2⟩ := half_in lo hi hlt (by omega)
      have hm1 : lo ≤ (lo + hi) / 2 := by omega
      have hm2 : (lo + hi) / 2 < hi := by omega
      have hml : (lo + hi) / 2 < l.length := by omega
      have hcm := HC.out ((lo + hi) / 2) hml
      have HLT := Lib.hid (less_str (l[(lo + hi) / 2]'hml) x)
      have HU : Hid (l[(lo + hi) / 2]'hml < x → ∀ j (h : j < l.length), j < (lo + hi) / 2 + 1 → l[j] < x) := Lib.hid fun hx j h hj => by
        rcases Nat.lt_or_ge j ((lo + hi) / 2) with h2 | h2
        · exact List.lt_trans (rising_lt HR.out hml h2) hx
        · have e : j = (lo + hi) / 2 := by omega
          subst e
          exact hx
      have HD : Hid (¬ l[(lo + hi) / 2]'hml < x → ∀ j (h : j < l.length), (lo + hi) / 2 ≤ j → ¬ l[j] < x) := Lib.hid fun hx j h hj h3 => by
        rcases Nat.lt_or_ge ((lo + hi) / 2) j with h2 | h2
        · exact hx (List.lt_trans (rising_lt HR.out h h2) h3)
        · have e : j = (lo + hi) / 2 := by omega
          subst e
          exact hx h3
      generalize l[(lo + hi) / 2]'hml = y at hcm HLT HU HD
      by_cases hyx : y < x
      · have hb : Op.bytesLess (str y).toList (str x).toList = true := by rw [HLT.out]; simp [hyx]
        go_wp2
        go_round
        case rel => exact ⟨(lo + hi) / 2 + 1, hi, by omega, hhl, by go_num, rfl, Lib.hid (HU.out hyx), HHI⟩
        case measure => simp [intOf]; omega
      · have hb : Op.bytesLess (str y).toList (str x).toList = false := by rw [HLT.out]; simp [hyx]
        go_wp2
        go_round
        case rel => exact ⟨lo, (lo + hi) / 2, by omega, by omega, rfl, by go_num, HLO, Lib.hid (HD.out hyx)⟩
        case measure => simp [intOf]; omega
    · obtain rfl : hi = lo := by omega
      have HA := Lib.hid (ins_at x l hi hhl (fun j h hj => HLO.out j h hj) (fun h => HHI.out hi h (Nat.le_refl _)))
      clear HLO HHI
      by_cases hend : hi < l.length
      · have hcm := HC.out hi hend
        have HS := Lib.hid (same_str l[hi] x)
        have hq : l[hi]? = some l[hi] := List.getElem?_eq_getElem hend
        rw [hq] at HA
        clear hq
        generalize l[hi] = y at hcm HS HA
        by_cases hyx : y = x
        · have hb : ((str y).toList == (str x).toList) = true := by rw [HS.out]; simp [hyx]
          go_wp2
          go_ret
          refine ⟨_, rfl, ?_, Below.refl _ _⟩
          rw [HA.out, if_pos (by rw [hyx])]
          exact .inr ⟨HNE.out, g, c, rfl, hle, hc, hg, HC.out⟩
        · have hb : ((str y).toList == (str x).toList) = false := by rw [HS.out]; simp [hyx]
          have HA : Hid (ins x l = l.take hi ++ x :: l.drop hi) := by show _ = _; rw [HA.out, if_neg (by simpa using hyx)]
          have HT : Hid ((txs (l.take hi)).length = hi * 1) := by show _ = _; rw [txs_len, List.length_take]; omega
          have hm1 : 0 + hi + 1 ≤ maxLen := by unfold maxLen; omega
          have hm2 : (0 + hi + 1) * 16 ≤ 140737488355328 := by omega
          go_wp2_with (first
            | (at_builtin; refine wpList_append_st _ rfl _ _ 36 rfl w.heap.size 9 i0 (.string ByteArray.empty) 1 16 Try.underlying36 HI.out HZ0.out HZ1.out HZ2.out rfl (by decide) _ _ _ rfl ho2 _ (l.length - hi) (c - hi) (txs (l.drop hi)) rfl ?_ ?_ ?_ ?_ ?_ ?_ ?_ ?_; rotate_right; intro v3 w3 ho3 hg3)
            | (at_builtin; refine wpList_append_st _ rfl _ _ 36 rfl w.heap.size 9 i0 (.string ByteArray.empty) 1 16 Try.underlying36 HI.out HZ0.out HZ1.out HZ2.out rfl (by decide) _ _ _ rfl (ho1.alloc _) (some ⟨w1.heap.size, 0, none⟩) 1 1 (txs [x]) rfl (fun e => by cases e) rfl (fun _ e => by cases e; exact cell_one_new _ _ _) (txs_one _) hm1 hm2 hz1 ?_; intro v2 w2 ho2 hg2; have hz2 : w.heap.size ≤ w2.heap.size := Nat.le_trans hz1 hg2.size)
            | (at_builtin; refine wpList_append_st _ rfl _ _ 36 rfl w.heap.size 9 i0 (.string ByteArray.empty) 1 16 Try.underlying36 HI.out HZ0.out HZ1.out HZ2.out rfl (by decide) _ 0 [] rfl (empty_own w) (some ⟨g, 0, none⟩) hi c (txs (l.take hi)) rfl (fun e => by cases e) ?_ ?_ ?_ ?_ ?_ ?_ ?_; rotate_right; intro v1 w1 ho1 hg1; have hz1 : w.heap.size ≤ (w1.alloc (Obj.cells #[.string (str x)] 9)).heap.size := by have := hg1.size; simp at this ⊢; omega))
          · go_ret
            have b1 := ((Below.refl w.heap.size w).alloc (Nat.le_refl _) (Obj.cells #[] 9)).grown hg1 (by simp) (fun j hj => ((empty_own w).lt _ hj).1)
            have b2 := (b1.alloc b1.size (Obj.cells #[.string (str x)] 9)).grown hg2 hz1 (fun j hj => (ho1.lt _ hj).1)
            have b3 := b2.grown hg3 hz2 (fun j hj => (ho2.lt _ hj).1)
            refine ⟨_, rfl, ?_, b3⟩
            have e : ([] ++ txs (l.take hi) ++ txs [x] ++ txs (l.drop hi)) = txs (ins x l) := by rw [HA.out, txs_app]; simp [txs]
            rw [e] at ho3
            have e2 : 0 + hi + 1 + (l.length - hi) = (ins x l).length := by rw [HA.out]; simp; omega
            rw [e2] at ho3
            exact st_ok ho3 (by rw [HA.out]; simp)
          · rw [txs_len, List.length_drop]
          · have b1 := ((Below.refl w.heap.size w).alloc (Nat.le_refl _) (Obj.cells #[] 9)).grown hg1 (by simp) (fun j hj => ((empty_own w).lt _ hj).1)
            have b2 := (b1.alloc b1.size (Obj.cells #[.string (str x)] 9)).grown hg2 hz1 (fun j hj => (ho1.lt _ hj).1)
            intro j u hu
            have h3 := cells_txs HC.out hi (l.drop hi) (fun j hj => ⟨by simp at hj; omega, by simp⟩) j u hu
            rw [addr_at] at h3
            exact (b2.cell (p := ⟨g, hi + j, none⟩) hg).trans h3
          · exact txs_one _
          · unfold maxLen; omega
          · omega
          · rw [txs_len, List.length_take]; omega
          · intro j u hu
            have h3 := cells_txs HC.out 0 (l.take hi) (fun j hj => ⟨by simp at hj; omega, by simp⟩) j u hu
            rw [addr_at] at h3
            simpa using h3
          · exact txs_one _
          · unfold maxLen; omega
          · omega
      · obtain rfl : hi = l.length := by omega
        have hq : l[l.length]? = none := List.getElem?_eq_none (Nat.le_refl _)
        have HA : Hid (ins x l = l ++ [x]) := by show _ = _; rw [HA.out, hq]; simp
        clear hq hend
        rcases Classical.em (c = l.length) with rfl | hcl
        all_goals
          have hm1 : 0 + l.length + 1 ≤ maxLen := by unfold maxLen; omega
          have hm2 : (0 + l.length + 1) * 16 ≤ 140737488355328 := by omega
          have hq1 : l.length * 16 ≤ 140737488355328 := by omega
          have hq2 : (l.length + 1) * 16 ≤ 140737488355328 := by omega
          have hq3 : l.length + 1 ≤ maxLen := by unfold maxLen; omega
          have hq4 : l.length ≤ maxLen := by unfold maxLen; omega
          go_wp2_with (first
            | (at_builtin; refine wpList_append_st _ rfl _ _ 36 rfl w.heap.size 9 i0 (.string ByteArray.empty) 1 16 Try.underlying36 HI.out HZ0.out HZ1.out HZ2.out rfl (by decide) _ _ _ rfl ho2 _ 0 _ [] rfl ?_ ?_ ?_ ?_ ?_ ?_ ?_ ?_; rotate_right; intro v3 w3 ho3 hg3)
            | (at_builtin; refine wpList_append_st _ rfl _ _ 36 rfl w.heap.size 9 i0 (.string ByteArray.empty) 1 16 Try.underlying36 HI.out HZ0.out HZ1.out HZ2.out rfl (by decide) _ _ _ rfl (ho1.alloc _) (some ⟨w1.heap.size, 0, none⟩) 1 1 (txs [x]) rfl (fun e => by cases e) rfl (fun _ e => by cases e; exact cell_one_new _ _ _) (txs_one _) hm1 hm2 hz1 ?_; intro v2 w2 ho2 hg2; have hz2 : w.heap.size ≤ w2.heap.size := Nat.le_trans hz1 hg2.size)
            | (at_builtin; refine wpList_append_st _ rfl _ _ 36 rfl w.heap.size 9 i0 (.string ByteArray.empty) 1 16 Try.underlying36 HI.out HZ0.out HZ1.out HZ2.out rfl (by decide) _ 0 [] rfl (empty_own w) (some ⟨g, 0, none⟩) l.length _ (txs l) rfl (fun e => by cases e) ?_ ?_ ?_ ?_ ?_ ?_ ?_; rotate_right; intro v1 w1 ho1 hg1; have hz1 : w.heap.size ≤ (w1.alloc (Obj.cells #[.string (str x)] 9)).heap.size := by have := hg1.size; simp at this ⊢; omega))
          · go_ret
            have b1 := ((Below.refl w.heap.size w).alloc (Nat.le_refl _) (Obj.cells #[] 9)).grown hg1 (by simp) (fun j hj => ((empty_own w).lt _ hj).1)
            have b2 := (b1.alloc b1.size (Obj.cells #[.string (str x)] 9)).grown hg2 hz1 (fun j hj => (ho1.lt _ hj).1)
            have b3 := b2.grown hg3 hz2 (fun j hj => (ho2.lt _ hj).1)
            refine ⟨_, rfl, ?_, b3⟩
            have e : ([] ++ txs l ++ txs [x] ++ []) = txs (ins x l) := by rw [HA.out, txs_app]; simp [txs]
            rw [e] at ho3
            have e2 : 0 + l.length + 1 + 0 = (ins x l).length := by rw [HA.out]; simp
            rw [e2] at ho3
            exact st_ok ho3 (by rw [HA.out]; simp)
          all_goals first
            | assumption
            | (rw [txs_len]; done)
            | (intro j u hu
               have h3 := cells_txs HC.out 0 l (fun j hj => ⟨by omega, by simp⟩) j u hu
               rw [addr_at] at h3
               simpa using h3)
            | (intro u hu; exact txs_one _ u hu)

theorem reAdd_any (l : List (List UInt8)) (x : List UInt8) (v : Value) (w : World) (hr : Rising l) (hok : StOk w v l) (hl : l.length ≤ 100000) :
    Calls Try.prog 38 #[v, .string (str x)] w fun e w' => ∃ v', e = .returned v' ∧ StOk w' v' (ins x l) ∧ Below w.heap.size w w' := by
  rcases hok with ⟨rfl, rfl⟩ | ⟨hne, g, c, rfl, hle, hc, hg, hcell⟩
  · exact reAdd_nil x w
  · exact reAdd_some l x g c w hr hne hle hc hg hcell hl
end Go.Proofs.Ytdcbjbmnkajjcaa
