/- Contract: texts put in order, the model's. -/
import Derived.Test.YtdcbjbmnkajjcaaDoorCiF
import Derived.Test.YtdcbjbmnkajjcaaDoorReAdd
namespace Go.Proofs.YtdcbjbmnkajjcaaDoor
open Go.RowKit

theorem own_lowR {w : World} {b b' : Nat} {e : TypeId} {size n : Nat} {v : Value} {xs : List Value} (h : w.ownsRow b e size v n xs) (hle : b' ≤ b) : w.ownsRow b' e size v n xs :=
  ⟨h.1, h.2.imp id fun ⟨g, cap, cur, a1, a2, r⟩ => ⟨g, cap, cur, a1, Nat.le_trans hle a2, r⟩⟩
theorem own_noneR (w : World) : (w.alloc (Obj.cells #[] 9)).ownsRow w.heap.size 9 1 (.slice (some ⟨w.heap.size, 0, none⟩) 0 0) 0 [] := World.ownsRow_made w #[] 0 (Nat.le_refl _) (by decide) rfl
set_option maxRecDepth 100000 in
set_option maxHeartbeats 1000000 in
theorem l1OwnR_any (ls : List (List UInt8)) (g cap : Nat) (w : World) (hA : ∀ j, (hj : j < ls.length) → w.cell? ⟨g, j, none⟩ = some (.string (str ls[j]))) (hg : g < w.heap.size) (hl : ls.length ≤ 100000) :
    Calls Tryd.prog 40 #[.slice (some ⟨g, 0, none⟩) ls.length cap] w fun e w' => ∃ v, e = .returned v ∧ w'.ownsRow w.heap.size 9 1 v ls.length (txs ls) ∧ Below w.heap.size w w' := by
  obtain ⟨i0, hi, hz0, hz1, hz2⟩ := info_parts Tryd.infoS
  have HI := Lib.hid hi
  have HZ0 := Lib.hid hz0
  have HZ1 := Lib.hid hz1
  have HZ2 := Lib.hid hz2
  clear hi hz0 hz1 hz2
  have HCE : Hid (∀ j u, (txs ls)[j]? = some u → (w.alloc (Obj.cells #[] 9)).cell? ((⟨g, 0, none⟩ : Addr).add j) = some u) := Lib.hid fun j u hu => by
    have hj : j < ls.length := by have := (List.getElem?_eq_some_iff.1 hu).1; rwa [txs_len] at this
    rw [addr_at, Nat.zero_add]
    have e2 : (txs ls)[j]? = some (.string (str ls[j])) := by simp [txs, hj]
    rw [e2] at hu
    injection hu with hu
    rw [← hu, ← hA j hj]
    rw [World.cell?_alloc_lt]; exact hg
  clear hA
  go_enter Tryd.func40, Tryd.ntmps40
  go_wp2_with (first
    | (at_builtin; refine wpList_append_st _ rfl _ _ 22 rfl w.heap.size 9 i0 (.string ByteArray.empty) 1 16 Tryd.underlying22 HI.out HZ0.out HZ1.out HZ2.out rfl (by decide) _ 0 [] rfl (own_noneR w) (some ⟨g, 0, none⟩) ls.length cap (txs ls) rfl (fun e => by cases e) (by rw [txs_len, Nat.mul_one]) (fun _ e => by cases e; exact HCE.out) (txs_one _) (by unfold maxLen; omega) (by omega) (by simp) ?_; intro v1 w1 ho1 hg1))
  go_ret
  have b1 := ((Below.refl w.heap.size w).alloc (Nat.le_refl _) (Obj.cells #[] 9)).grown hg1 (by simp) (fun j hj => ((own_noneR w).lt _ hj).1)
  exact ⟨v1, rfl, by simpa using ho1, b1⟩
set_option maxRecDepth 100000 in
set_option maxHeartbeats 1000000 in
theorem l1OwnZ_any (w : World) :
    Calls Tryd.prog 40 #[.slice none 0 0] w fun e w' => ∃ v, e = .returned v ∧ w'.ownsRow w.heap.size 9 1 v 0 (txs []) ∧ Below w.heap.size w w' := by
  obtain ⟨i0, hi, hz0, hz1, hz2⟩ := info_parts Tryd.infoS
  have HI := Lib.hid hi
  have HZ0 := Lib.hid hz0
  have HZ1 := Lib.hid hz1
  have HZ2 := Lib.hid hz2
  clear hi hz0 hz1 hz2
  go_enter Tryd.func40, Tryd.ntmps40
  go_wp2_with (first
    | (at_builtin; refine wpList_append_st _ rfl _ _ 22 rfl w.heap.size 9 i0 (.string ByteArray.empty) 1 16 Tryd.underlying22 HI.out HZ0.out HZ1.out HZ2.out rfl (by decide) _ 0 [] rfl (own_noneR w) none 0 0 [] rfl (fun _ => ⟨rfl, rfl⟩) rfl (fun _ e => by cases e) (by simp) (by decide) (by decide) (by simp) ?_; intro v1 w1 ho1 hg1))
  go_ret
  have b1 := ((Below.refl w.heap.size w).alloc (Nat.le_refl _) (Obj.cells #[] 9)).grown hg1 (by simp) (fun j hj => ((own_noneR w).lt _ hj).1)
  exact ⟨v1, rfl, by simpa [txs] using ho1, b1⟩
/-- The texts of the first j rings, in order. -/
structure SoI (R : List ByteArray) (j : Nat) (O : List (List UInt8)) : Prop where
  ris : Rising O
  mem : ∀ x, x ∈ O ↔ ∃ i, i < j ∧ R[i]? = some (str x)
  len : O.length = j
theorem SoI.start (R : List ByteArray) : SoI R 0 [] := ⟨by simp [Rising], fun x => by simp, rfl⟩
theorem SoI.put {R : List ByteArray} {j k : Nat} {O : List (List UInt8)} {x : List UInt8} (h : SoI R j O) (hn : R.Nodup) (hx : R[j]? = some (str x)) (hk : k ≤ O.length) (h1 : ∀ i (hi : i < O.length), i < k → O[i] < x) (h2 : ∀ hi : k < O.length, ¬ O[k] < x) : SoI R (j + 1) (O.take k ++ x :: O.drop k) := by
  have hxO : x ∉ O := fun hm => by
    obtain ⟨i, hi, e⟩ := (h.mem x).1 hm
    have hli := List.getElem?_eq_some_iff.1 e
    have hlj := List.getElem?_eq_some_iff.1 hx
    have := (List.getElem_inj hn (i := i) (j := j) (h₀ := hli.1) (h₁ := hlj.1)).1 (hli.2.trans hlj.2.symm)
    omega
  have hins : ins x O = O.take k ++ x :: O.drop k := by
    rw [ins_at x O k hk h1 h2, if_neg]
    intro e
    exact hxO (List.mem_of_getElem? e)
  rw [← hins]
  refine ⟨ins_rising x O h.ris, fun y => ?_, by rw [hins]; simp; have := h.len; omega⟩
  rw [mem_ins, h.mem y]
  constructor
  · rintro (rfl | ⟨i, hi, e⟩)
    · exact ⟨j, by omega, hx⟩
    · exact ⟨i, by omega, e⟩
  · rintro ⟨i, hi, e⟩
    by_cases e2 : i = j
    · subst e2
      rw [hx] at e
      injection e with e
      exact .inl (str_inj.1 e).symm
    · exact .inr ⟨i, by omega, e⟩
def SoPost (R : List ByteArray) (w : World) (e : Ending) (w' : World) : Prop :=
  ∃ v O, e = .returned v ∧ SoI R R.length O ∧ w'.ownsRow w.heap.size 9 1 v O.length (txs O) ∧ Below w.heap.size w w'
set_option maxRecDepth 100000 in
set_option maxHeartbeats 8000000 in
theorem ciSorted_any (R : List ByteArray) (A0 : Option Addr) (cap0 : Nat) (w : World) (hn : R.Nodup) (hl : R.length ≤ 100000) (hR : ∀ j, (hj : j < R.length) → ∃ g, A0 = some ⟨g, 0, none⟩ ∧ g < w.heap.size ∧ w.cell? ⟨g, j, none⟩ = some (.string R[j])) :
    Calls Tryd.prog 25 #[.slice A0 R.length cap0] w (SoPost R w) := by
  obtain ⟨i0, hi, hz0, hz1, hz2⟩ := info_parts Tryd.infoS
  have HI := Lib.hid hi
  have HZ0 := Lib.hid hz0
  have HZ1 := Lib.hid hz1
  have HZ2 := Lib.hid hz2
  clear hi hz0 hz1 hz2
  have HR := Lib.hid hR
  have HN := Lib.hid hn
  clear hR hn
  have HO0 : Hid (w.ownsRow w.heap.size 9 1 (.slice none 0 0) ([] : List (List UInt8)).length (txs [])) := Lib.hid (World.ownsRow_nil _ _ _ _)
  go_enter Tryd.func25, Tryd.ntmps25
  go_wp2_with fail
  go_loopw [3, 10] (fun v q wr => ∃ (j : Nat) (O : List (List UInt8)), j ≤ R.length ∧ q = .int .i64 j ∧ Hid (SoI R j O) ∧ Hid (wr.ownsRow w.heap.size 9 1 v O.length (txs O)) ∧ Hid (Below w.heap.size w wr)) (fun _ q _ => R.length - (intOf q).toNat)
  case atStart => exact ⟨0, [], Nat.zero_le _, rfl, Lib.hid (SoI.start R), HO0, Lib.hid (Below.refl _ _)⟩
  case round =>
    obtain ⟨j, O, hj, rfl, HSO, HO, HB⟩ := hrel
    obtain ⟨W, hW⟩ : ∃ W : World, W = wr := ⟨_, rfl⟩
    subst hW
    clear HO0
    by_cases hlt : j < R.length
    · obtain ⟨g0, rfl, zg, c0⟩ := HR.out j hlt
      have c0 := (HB.out.cell (p := ⟨g0, j, none⟩) zg).trans c0
      obtain ⟨x, hx⟩ : ∃ x, R[j] = str x := ⟨byt R[j], (str_byt _).symm⟩
      rw [hx] at c0
      have hxj : R[j]? = some (str x) := by rw [List.getElem?_eq_getElem hlt, hx]
      have j1 : (0 : Int) ≤ (j : Int) := by omega
      have j2 : (j : Int) < (R.length : Int) := by omega
      have hOl : O.length ≤ 100000 := by have := HSO.out.len; omega
      have HPUT := Lib.hid (fun k h1 h2 h3 => HSO.out.put (k := k) HN.out hxj h1 h2 h3)
      have hwW : w.heap.size ≤ W.heap.size := HB.out.size
      clear hx hxj
      rcases HO.out.2 with ⟨hv, h0⟩ | ⟨g, cap, cur, hv, hgb, hgc, hle, hcm, _, _⟩
      · obtain rfl : O = [] := List.eq_nil_of_length_eq_zero h0
        subst hv
        have HP0 := Lib.hid (HPUT.out 0 (Nat.zero_le _) (fun i hi h => by omega) (fun h => by simp at h))
        have l0 : (([] : List (List UInt8)).length : Int) = 0 := rfl
        go_wp2_with fail
        go_loop [6] (fun q => q = .int .i64 0) (fun _ => 0)
        case atStart => exact rfl
        case round =>
          obtain rfl := hrel
          go_wp2_with fail
          refine (l1OwnZ_any _).mono ?_
          rintro e w1 ⟨v1, rfl, ho1, hb1⟩
          have HB1 := Lib.hid (HB.out.trans (hb1.mono hwW))
          have HO1 := Lib.hid (own_lowR ho1 hwW)
          have hz1 : w.heap.size ≤ (w1.alloc (Obj.cells #[.string (str x)] 9)).heap.size := by have := HB1.out.size; simp; omega
          clear ho1 hb1
          go_wp2_with (first
            | (at_builtin; refine wpList_append_st _ rfl _ _ 22 rfl w.heap.size 9 i0 (.string ByteArray.empty) 1 16 Tryd.underlying22 HI.out HZ0.out HZ1.out HZ2.out rfl (by decide) _ 1 (txs [x]) rfl ho2 none 0 0 [] rfl (fun _ => ⟨rfl, rfl⟩) rfl (fun _ e => by cases e) (by simp) (by decide) (by decide) hz2 ?_; intro v3 w3 ho3 hg3)
            | (at_builtin; refine wpList_append_st _ rfl _ _ 22 rfl w.heap.size 9 i0 (.string ByteArray.empty) 1 16 Tryd.underlying22 HI.out HZ0.out HZ1.out HZ2.out rfl (by decide) _ 0 [] rfl (HO1.out.alloc _) (some ⟨w1.heap.size, 0, none⟩) 1 1 (txs [x]) rfl (fun e => by cases e) rfl (fun _ e => by cases e; exact cell_one_atF _ _ rfl _ _) (txs_one _) (by decide) (by decide) hz1 ?_; intro v2 w2 ho2 hg2; have hz2 : w.heap.size ≤ w2.heap.size := Nat.le_trans hz1 hg2.size))
          have hB2 := (HB1.out.alloc HB1.out.size (Obj.cells #[.string (str x)] 9)).grown hg2 hz1 (fun i hi => ((HO1.out.alloc (Obj.cells #[.string (str x)] 9)).lt i hi).1)
          have HB3 := Lib.hid (hB2.grown hg3 hz2 (fun i hi => (ho2.lt i hi).1))
          have HO3 : Hid (w3.ownsRow w.heap.size 9 1 v3 (([] : List (List UInt8)).take 0 ++ x :: ([] : List (List UInt8)).drop 0).length (txs (([] : List (List UInt8)).take 0 ++ x :: ([] : List (List UInt8)).drop 0))) := Lib.hid (by simpa [txs] using ho3)
          clear ho2 ho3 hg2 hg3 hB2
          go_roundw
          case rel => exact ⟨j + 1, _, by omega, by go_num, HP0, HO3, HB3⟩
          case measure => simp [intOf]; omega
      · subst hv
        have hgW : g < W.heap.size := (Array.getElem?_eq_some_iff.1 hgc).1
        have HC : Hid (∀ i, (hi : i < O.length) → W.cell? ⟨g, i, none⟩ = some (.string (str O[i]))) := Lib.hid fun i hi => by
          have := HO.out.cellAt i (by omega)
          rw [this]
          simp [txs, hi]
        go_wp2_with fail
        go_loop [6] (fun q => ∃ k : Nat, k ≤ O.length ∧ q = .int .i64 k ∧ Hid (∀ i (hi : i < O.length), i < k → O[i] < x)) (fun q => O.length - (intOf q).toNat)
        case atStart => exact ⟨0, Nat.zero_le _, rfl, Lib.hid fun i _ h => by omega⟩
        case round =>
          obtain ⟨k, hk, rfl, HLO⟩ := hrel
          have k1 : (0 : Int) ≤ (k : Int) := by omega
          by_cases hkn : k < O.length
          · have k2 : (k : Int) < (O.length : Int) := by omega
            have hcm := HC.out k hkn
            obtain ⟨y, hy⟩ : ∃ y, y = O[k] := ⟨_, rfl⟩
            rw [← hy] at hcm
            have HY := Lib.hid hy
            clear hy
            by_cases hyx : y < x
            · have hb : Op.bytesLess (str y).toList (str x).toList = true := by rw [less_str]; simp [hyx]
              have HYX := Lib.hid hyx
              clear hyx
              go_wp2_with fail
              go_round
              case rel => exact ⟨k + 1, by omega, by go_num, Lib.hid fun i hi h => by
                rcases Nat.lt_or_ge i k with h2 | h2
                · exact HLO.out i hi h2
                · obtain rfl : i = k := by omega
                  rw [← HY.out]; exact HYX.out⟩
              case measure => simp [intOf]; omega
            · have hb : Op.bytesLess (str y).toList (str x).toList = false := by rw [less_str]; simp [hyx]
              have HP := Lib.hid (HPUT.out k hk (fun i hi h => HLO.out i hi h) (fun hi => by rw [← HY.out]; exact hyx))
              clear hyx HPUT HLO
              have hd : (O.drop k).length = O.length - k := by rw [List.length_drop]
              have hT : (O.take k).length = k := by rw [List.length_take]; omega
              have hcall := l1OwnR_any (O.take k) g cap W (fun j hj => by
                have hj2 : j < O.length := by rw [hT] at hj; omega
                have := HC.out j hj2
                rw [this, List.getElem_take]) hgW (by rw [hT]; omega)
              rw [hT] at hcall
              have HCALL := Lib.hid hcall
              clear hcall
              go_wp2_with fail
              refine HCALL.out.mono ?_
              rintro e w1 ⟨v1, rfl, ho1, hb1⟩
              have HB1 := Lib.hid (HB.out.trans (hb1.mono hwW))
              have HO1 := Lib.hid (own_lowR ho1 hwW)
              have hz1 : w.heap.size ≤ (w1.alloc (Obj.cells #[.string (str x)] 9)).heap.size := by have := HB1.out.size; simp; omega
              have HBW := Lib.hid hb1
              have HBWlow := Lib.hid (fun i hi => ((ho1.alloc (Obj.cells #[.string (str x)] 9)).lt i hi).1)
              clear ho1 hb1
              have hm1 : k + 1 ≤ maxLen := by unfold maxLen; omega
              have hm2 : (k + 1) * 16 ≤ 140737488355328 := by omega
              go_wp2_with (first
                | (at_builtin; refine wpList_append_st _ rfl _ _ 22 rfl w.heap.size 9 i0 (.string ByteArray.empty) 1 16 Tryd.underlying22 HI.out HZ0.out HZ1.out HZ2.out rfl (by decide) _ _ _ rfl ho2 _ (O.length - k) (cap - k) (txs (O.drop k)) rfl ?_ ?_ ?_ ?_ ?_ ?_ ?_ ?_; rotate_right; intro v3 w3 ho3 hg3)
                | (at_builtin; refine wpList_append_st _ rfl _ _ 22 rfl w.heap.size 9 i0 (.string ByteArray.empty) 1 16 Tryd.underlying22 HI.out HZ0.out HZ1.out HZ2.out rfl (by decide) _ _ _ rfl (HO1.out.alloc _) (some ⟨w1.heap.size, 0, none⟩) 1 1 (txs [x]) rfl (fun e => by cases e) rfl (fun _ e => by cases e; exact cell_one_atF _ _ rfl _ _) (txs_one _) hm1 hm2 hz1 ?_; intro v2 w2 ho2 hg2; have hz2 : w.heap.size ≤ w2.heap.size := Nat.le_trans hz1 hg2.size))
              · have hB2 := (HB1.out.alloc HB1.out.size (Obj.cells #[.string (str x)] 9)).grown hg2 hz1 (fun i hi => ((HO1.out.alloc (Obj.cells #[.string (str x)] 9)).lt i hi).1)
                have HB3 := Lib.hid (hB2.grown hg3 hz2 (fun i hi => (ho2.lt i hi).1))
                have HO3 : Hid (w3.ownsRow w.heap.size 9 1 v3 (O.take k ++ x :: O.drop k).length (txs (O.take k ++ x :: O.drop k))) := Lib.hid (by
                  have e1 : txs (O.take k) ++ txs [x] ++ txs (O.drop k) = txs (O.take k ++ x :: O.drop k) := by simp [txs]
                  have e2 : k + 1 + (O.length - k) = (O.take k ++ x :: O.drop k).length := by simp; omega
                  rw [e1, e2] at ho3
                  exact ho3)
                clear ho2 ho3 hg2 hg3 hB2
                go_roundw
                case rel => exact ⟨j + 1, _, by omega, by go_num, HP, HO3, HB3⟩
                case measure => simp [intOf]; omega
              all_goals first
                | assumption
                | (intro e; cases e; done)
                | (rw [txs_len, List.length_drop]; omega)
                | (intro ad e; cases e; intro i u hu
                   have hB2 := (HBW.out.alloc HBW.out.size (Obj.cells #[.string (str x)] 9)).grown hg2 (by have := HBW.out.size; simp; omega) HBWlow.out
                   have h3 := cells_txs HC.out k (O.drop k) (fun j hj => ⟨by simp at hj; omega, by simp⟩) i u hu
                   rw [addr_at] at h3 ⊢
                   exact (hB2.cell (p := ⟨g, k + i, none⟩) hgW).trans h3)
                | (exact txs_one _)
                | (unfold maxLen; omega)
                | omega
          · obtain rfl : k = O.length := by omega
            have HP := Lib.hid (HPUT.out O.length (Nat.le_refl _) (fun i hi h => HLO.out i hi h) (fun hi => by omega))
            clear HPUT HLO hkn
            have hT : (O.take O.length).length = O.length := by rw [List.length_take]; omega
            have hcall := l1OwnR_any (O.take O.length) g cap W (fun j hj => by
              have hj2 : j < O.length := by rw [hT] at hj; omega
              have := HC.out j hj2
              rw [this, List.getElem_take]) hgW (by rw [hT]; omega)
            rw [hT] at hcall
            have HCALL := Lib.hid hcall
            clear hcall
            rcases Classical.em (O.length = cap) with hcl | hcl
            all_goals
              first
              | subst hcl
              | skip
              go_wp2_with fail
              refine HCALL.out.mono ?_
              rintro e w1 ⟨v1, rfl, ho1, hb1⟩
              have HB1 := Lib.hid (HB.out.trans (hb1.mono hwW))
              have HO1 := Lib.hid (own_lowR ho1 hwW)
              have hz1 : w.heap.size ≤ (w1.alloc (Obj.cells #[.string (str x)] 9)).heap.size := by have := HB1.out.size; simp; omega
              have HBW := Lib.hid hb1
              have HBWlow := Lib.hid (fun i hi => ((ho1.alloc (Obj.cells #[.string (str x)] 9)).lt i hi).1)
              clear ho1 hb1
              have hm1 : O.length + 1 ≤ maxLen := by unfold maxLen; omega
              have hm2 : (O.length + 1) * 16 ≤ 140737488355328 := by omega
              go_wp2_with (first
                | (at_builtin; refine wpList_append_st _ rfl _ _ 22 rfl w.heap.size 9 i0 (.string ByteArray.empty) 1 16 Tryd.underlying22 HI.out HZ0.out HZ1.out HZ2.out rfl (by decide) _ _ _ rfl ho2 _ 0 _ [] rfl ?_ ?_ ?_ ?_ ?_ ?_ ?_ ?_; rotate_right; intro v3 w3 ho3 hg3)
                | (at_builtin; refine wpList_append_st _ rfl _ _ 22 rfl w.heap.size 9 i0 (.string ByteArray.empty) 1 16 Tryd.underlying22 HI.out HZ0.out HZ1.out HZ2.out rfl (by decide) _ _ _ rfl (HO1.out.alloc _) (some ⟨w1.heap.size, 0, none⟩) 1 1 (txs [x]) rfl (fun e => by cases e) rfl (fun _ e => by cases e; exact cell_one_atF _ _ rfl _ _) (txs_one _) hm1 hm2 hz1 ?_; intro v2 w2 ho2 hg2; have hz2 : w.heap.size ≤ w2.heap.size := Nat.le_trans hz1 hg2.size))
              · have hB2 := (HB1.out.alloc HB1.out.size (Obj.cells #[.string (str x)] 9)).grown hg2 hz1 (fun i hi => ((HO1.out.alloc (Obj.cells #[.string (str x)] 9)).lt i hi).1)
                have HB3 := Lib.hid (hB2.grown hg3 hz2 (fun i hi => (ho2.lt i hi).1))
                have HO3 : Hid (w3.ownsRow w.heap.size 9 1 v3 (O.take O.length ++ x :: O.drop O.length).length (txs (O.take O.length ++ x :: O.drop O.length))) := Lib.hid (by
                  have e1 : txs (O.take O.length) ++ txs [x] ++ [] = txs (O.take O.length ++ x :: O.drop O.length) := by simp [txs]
                  have e2 : O.length + 1 + 0 = (O.take O.length ++ x :: O.drop O.length).length := by simp
                  rw [e1, e2] at ho3
                  exact ho3)
                clear ho2 ho3 hg2 hg3 hB2
                go_roundw
                case rel => exact ⟨j + 1, _, by omega, by go_num, HP, HO3, HB3⟩
                case measure => simp [intOf]; omega
              all_goals first
                | assumption
                | (intro e; cases e; exact ⟨rfl, by omega⟩)
                | (rfl; done)
                | (intro ad e i u hu; simp at hu; done)
                | (intro u hu; simp at hu; done)
                | (unfold maxLen; omega)
                | omega

    · obtain rfl : j = R.length := by omega
      go_wp2_with fail
      go_ret
      exact ⟨_, O, rfl, HSO.out, HO.out, HB.out⟩
end Go.Proofs.YtdcbjbmnkajjcaaDoor
