/- The lengths of runs: the model's contract. -/
import Derived.Test.YtoefeooldcbfiaaDoorWoC
import Derived.Test.YtoefeooldcbfiaaDoorIntS
import Derived.Maps.AppendAt
namespace Go.Proofs.YtoefeooldcbfiaaDoor
open Go.RowKit

/-- The lengths of the runs of the first k signs. -/
def rnL (s : ByteArray) : Nat → List Int
  | 0 => []
  | k + 1 => if k = 0 ∨ (byt s).getD k 0 ≠ (byt s).getD (k - 1) 0 then rnL s k ++ [1] else (rnL s k).dropLast ++ [(rnL s k).getLastD 0 + 1]
theorem rnL_form (s : ByteArray) : ∀ k, ∃ D m, rnL s (k + 1) = D ++ [m] ∧ 1 ≤ m ∧ m ≤ (k : Int) + 1 ∧ D.length ≤ k
  | 0 => ⟨[], 1, by simp [rnL], by omega, by omega, by simp⟩
  | k + 1 => by
    obtain ⟨D, m, e, h1, h2, h3⟩ := rnL_form s k
    by_cases h : k + 1 = 0 ∨ (byt s).getD (k + 1) 0 ≠ (byt s).getD (k + 1 - 1) 0
    · refine ⟨rnL s (k + 1), 1, ?_, by omega, by push_cast; omega, by rw [e]; simp; omega⟩
      rw [rnL, if_pos h]
    · refine ⟨D, m + 1, ?_, by omega, by push_cast; omega, by omega⟩
      rw [rnL, if_neg h, e]
      simp
theorem rnL_new {s : ByteArray} {k : Nat} (h : k = 0 ∨ (byt s).getD k 0 ≠ (byt s).getD (k - 1) 0) : rnL s (k + 1) = rnL s k ++ [1] := by rw [rnL, if_pos h]
theorem rnL_more {s : ByteArray} {k : Nat} (h0 : k ≠ 0) (h : (byt s).getD k 0 = (byt s).getD (k - 1) 0) {D : List Int} {m : Int} (e : rnL s k = D ++ [m]) : rnL s (k + 1) = D ++ [m + 1] := by
  rw [rnL, if_neg (by rintro (h1 | h1); exact h0 h1; exact h1 h), e]
  simp
theorem rnL_len (s : ByteArray) (k : Nat) : (rnL s k).length ≤ k := by
  cases k with
  | zero => simp [rnL]
  | succ k =>
    obtain ⟨D, m, e, _, _, h⟩ := rnL_form s k
    rw [e]; simp; omega
theorem byt_at (s : ByteArray) (k : Nat) (h : k < s.size) : (byt s).getD k 0 = s[k] := by
  rw [List.getD_eq_getElem?_getD, List.getElem?_eq_getElem (by rw [byt_len]; exact h)]; rfl
/-- A row of ints of the call's own, and a flag. -/
def RnPost (l : List Int) (c : Bool) (w : World) (e : Ending) (w' : World) : Prop :=
  ∃ v, e = .returned (.tuple #[v, .bool c]) ∧ w'.ownsRow w.heap.size 3 1 v l.length (itx l) ∧ Below w.heap.size w w'
theorem cell_one_at (w : World) (a : Value) (t : TypeId) : ∀ j u, [a][j]? = some u → (w.alloc (.cells #[a] t)).cell? ((⟨w.heap.size, 0, none⟩ : Addr).add j) = some u := by
  intro j u h
  rw [addr_at, World.cell?_alloc_new]
  simpa using h

set_option maxRecDepth 100000 in
set_option maxHeartbeats 2000000 in
theorem sRuns_any (s : ByteArray) (w : World) (hs : s.size ≤ maxLen) :
    Calls Tryd.prog 27 #[.string s] w (RnPost (if wordB s then rnL s s.size else []) (wordB s) w) := by
  cases hc : wordB s
  · have hC := Lib.hid hc
    clear hc
    rw [if_neg (by decide)]
    go_enter Tryd.func27, Tryd.ntmps27
    go_wp2_with (go_at_call 37; refine (woGood_any _ _ hs).mono ?_; rintro e w' ⟨rfl, rfl⟩; rw [hC.out])
    go_ret2
    exact ⟨_, rfl, World.ownsRow_nil _ _ _ _, Below.refl _ _⟩
  · have hC := Lib.hid hc
    obtain ⟨h40, _⟩ := (wordB_iff s).1 hc
    clear hc
    rw [if_pos rfl]
    obtain ⟨i0, hi, hz0, hz1, hz2⟩ := info_parts Tryd.infoN
    have HI := Lib.hid hi
    have HZ0 := Lib.hid hz0
    have HZ1 := Lib.hid hz1
    have HZ2 := Lib.hid hz2
    clear hi hz0 hz1 hz2
    go_enter Tryd.func27, Tryd.ntmps27
    go_wp2_with (go_at_call 37; refine (woGood_any _ _ hs).mono ?_; rintro e w' ⟨rfl, rfl⟩; rw [hC.out])
    go_loopw [4, 5] (fun v i wr => ∃ k : Nat, k ≤ s.size ∧ i = .int .i64 k ∧ Hid (wr.ownsRow w.heap.size 3 1 v (rnL s k).length (itx (rnL s k))) ∧ Below w.heap.size w wr) (fun _ i _ => s.size - (intOf i).toNat)
    case atStart => exact ⟨0, Nat.zero_le _, rfl, Lib.hid (World.ownsRow_nil _ _ _ _), Below.refl _ _⟩
    case round =>
      obtain ⟨k, hk, rfl, hO, hB⟩ := hrel
      by_cases hlt : k < s.size
      · have hln := rnL_len s k
        have HB := Lib.hid hB
        clear hB
        by_cases hnew : k = 0 ∨ (byt s).getD k 0 ≠ (byt s).getD (k - 1) 0
        · have HN := Lib.hid (rnL_new hnew)
          generalize rnL s k = L at hO hln HN
          have H3 : L.length + 1 ≤ maxLen := by unfold maxLen; omega
          have H4 : (L.length + 1) * 8 ≤ 140737488355328 := by omega
          rcases Nat.eq_zero_or_pos k with rfl | hpos
          · have hz : (((0 : Nat) : Int) == 0) = true := rfl
            clear hnew
            go_wp2
            go_region
            obtain ⟨wq, hwq⟩ : ∃ wq : World, wq = wr.drew := ⟨_, rfl⟩
            rw [← hwq]
            have HOq : Hid (wq.ownsRow w.heap.size 3 1 u4 L.length (itx L)) := Lib.hid (by rw [hwq]; exact own_below hO.out (Below.drew (Below.refl _ _)))
            have hBq : Below w.heap.size w wq := by rw [hwq]; exact Below.drew HB.out
            have hBs := hBq.size
            have HBq := Lib.hid hBq
            have j1 : (0 : Int) ≤ (L.length : Int) := by omega
            have j2 : (L.length : Int) < (L.length : Int) + 1 := by omega
            clear hwq hO HB hBq
            go_wp2_with (first | (at_builtin; refine wpList_append_own _ rfl _ _ 35 rfl w.heap.size 3 i0 (.int .i64 0) 1 8 Tryd.underlying35 HI.out HZ0.out HZ1.out HZ2.out rfl (by decide) _ _ _ rfl (HOq.out.alloc _) ⟨wq.heap.size, 0, none⟩ 1 1 [.int .i64 0] rfl rfl (cell_one_at _ _ _) (fun u hu => by simp at hu; subst hu; rfl) H3 H4 (by simp; omega) ?_; intro v' w3 hown' hgrow _; obtain ⟨g, cap, rfl, hg, hgl⟩ := irow_form hown' (by omega); have f0 := hown'.frozenAt L.length; have e0 := (hown'.cellAt L.length (by omega)).trans (show _ = some (Value.int .i64 0) by rw [List.getElem?_append_right (by rw [itx_len]; exact Nat.le_refl _), itx_len, Nat.sub_self]; rfl); have HO3 := Lib.hid hown'; have HB3 := Lib.hid ((HBq.out.alloc HBq.out.size (Obj.cells #[Value.int .i64 0] 3)).grown hgrow (by simp; omega) (fun q hq => (HOq.out.lt q hq).1)); clear hown' hgrow))
            go_roundw
            case rel =>
              refine ⟨0 + 1, by omega, by go_num, Lib.hid ?_, HB3.out.setCell hg _⟩
              have h := (HO3.out.stored L.length (.int .i64 1)).1
              rw [HN.out]
              have e : (itx L ++ [Value.int .i64 0]).set L.length (.int .i64 1) = itx (L ++ [1]) := by
                rw [show itx L ++ [Value.int .i64 0] = itx (L ++ [0]) by rw [itx_app]; rfl, itx_set]
                congr 1
                simp
              rw [e] at h
              rw [List.length_append]
              exact h
            case measure => simp [intOf]; omega
          · obtain ⟨j, rfl⟩ : ∃ j, k = j + 1 := ⟨k - 1, by omega⟩
            have hd : (((s[j + 1]'hlt).toNat : Int) != (s[j].toNat : Int)) = true := by
              have h := hnew.resolve_left (by omega)
              rw [byt_at s (j + 1) hlt, Nat.add_sub_cancel, byt_at s j (by omega)] at h
              simp only [bne_iff_ne]
              exact fun e => h ((u8_int _ _).1 e)
            have hj1 : ((j : Int) + 1 - 1) = j := by omega
            have hj2 : (((j : Int) + 1) == 0) = false := by simp; omega
            have i1 : (0 : Int) ≤ (j : Int) + 1 := by omega
            have i2 : (j : Int) + 1 < (s.size : Int) := by omega
            have i3 : (0 : Int) ≤ (j : Int) := by omega
            have i4 : (j : Int) < (s.size : Int) := by omega
            clear hnew
            go_wp2
            go_region
            obtain ⟨wq, hwq⟩ : ∃ wq : World, wq = wr.drew := ⟨_, rfl⟩
            rw [← hwq]
            have HOq : Hid (wq.ownsRow w.heap.size 3 1 u4 L.length (itx L)) := Lib.hid (by rw [hwq]; exact own_below hO.out (Below.drew (Below.refl _ _)))
            have hBq : Below w.heap.size w wq := by rw [hwq]; exact Below.drew HB.out
            have hBs := hBq.size
            have HBq := Lib.hid hBq
            have j1 : (0 : Int) ≤ (L.length : Int) := by omega
            have j2 : (L.length : Int) < (L.length : Int) + 1 := by omega
            clear hwq hO HB hBq
            go_wp2_with (first | (at_builtin; refine wpList_append_own _ rfl _ _ 35 rfl w.heap.size 3 i0 (.int .i64 0) 1 8 Tryd.underlying35 HI.out HZ0.out HZ1.out HZ2.out rfl (by decide) _ _ _ rfl (HOq.out.alloc _) ⟨wq.heap.size, 0, none⟩ 1 1 [.int .i64 0] rfl rfl (cell_one_at _ _ _) (fun u hu => by simp at hu; subst hu; rfl) H3 H4 (by simp; omega) ?_; intro v' w3 hown' hgrow _; obtain ⟨g, cap, rfl, hg, hgl⟩ := irow_form hown' (by omega); have f0 := hown'.frozenAt L.length; have e0 := (hown'.cellAt L.length (by omega)).trans (show _ = some (Value.int .i64 0) by rw [List.getElem?_append_right (by rw [itx_len]; exact Nat.le_refl _), itx_len, Nat.sub_self]; rfl); have HO3 := Lib.hid hown'; have HB3 := Lib.hid ((HBq.out.alloc HBq.out.size (Obj.cells #[Value.int .i64 0] 3)).grown hgrow (by simp; omega) (fun q hq => (HOq.out.lt q hq).1)); clear hown' hgrow))
            go_roundw
            case rel =>
              refine ⟨(j + 1) + 1, by omega, by go_num, Lib.hid ?_, HB3.out.setCell hg _⟩
              have h := (HO3.out.stored L.length (.int .i64 1)).1
              rw [HN.out]
              have e : (itx L ++ [Value.int .i64 0]).set L.length (.int .i64 1) = itx (L ++ [1]) := by
                rw [show itx L ++ [Value.int .i64 0] = itx (L ++ [0]) by rw [itx_app]; rfl, itx_set]
                congr 1
                simp
              rw [e] at h
              rw [List.length_append]
              exact h
            case measure => simp [intOf]; omega
        · have h0 : k ≠ 0 := fun e => hnew (.inl e)
          have he : (byt s).getD k 0 = (byt s).getD (k - 1) 0 := by
            by_cases e : (byt s).getD k 0 = (byt s).getD (k - 1) 0
            · exact e
            · exact absurd (.inr e) hnew
          obtain ⟨j, rfl⟩ : ∃ j, k = j + 1 := ⟨k - 1, by omega⟩
          obtain ⟨D, m, eD, m1, m2, hD⟩ := rnL_form s j
          have HN := Lib.hid (rnL_more h0 he eD)
          rw [eD, List.length_append] at hO
          have hd : (((s[j + 1]'hlt).toNat : Int) != (s[j].toNat : Int)) = false := by
            rw [byt_at s (j + 1) hlt, Nat.add_sub_cancel, byt_at s j (by omega)] at he
            rw [he]
            simp
          have hj1 : ((j : Int) + 1 - 1) = j := by omega
          have hj2 : (((j : Int) + 1) == 0) = false := by simp; omega
          have i1 : (0 : Int) ≤ (j : Int) + 1 := by omega
          have i2 : (j : Int) + 1 < (s.size : Int) := by omega
          have i3 : (0 : Int) ≤ (j : Int) := by omega
          have i4 : (j : Int) < (s.size : Int) := by omega
          have hO1 : Hid (wr.ownsRow w.heap.size 3 1 u4 (D.length + 1) (itx (D ++ [m]))) := hO
          obtain ⟨g, cap, rfl, hg, hgl⟩ := irow_form hO1.out (by omega)
          have f0 := hO1.out.frozenAt D.length
          have e0 := (hO1.out.cellAt D.length (by omega)).trans (show _ = some (Value.int .i64 m) by rw [itx_app, List.getElem?_append_right (by rw [itx_len]; exact Nat.le_refl _), itx_len, Nat.sub_self]; rfl)
          have j1 : (0 : Int) ≤ (D.length : Int) := by omega
          have j2 : (D.length : Int) < (D.length : Int) + 1 := by omega
          clear hnew he h0 eD hln hO
          go_wp2
          go_region
          go_wp2
          go_roundw
          case rel =>
            refine ⟨j + 1 + 1, by omega, by go_num, Lib.hid ?_, (Below.drew HB.out).setCell hg _⟩
            have h := ((own_below hO1.out (Below.drew (Below.refl _ _))).stored D.length (.int .i64 (m + 1))).1
            rw [HN.out]
            have e : (itx (D ++ [m])).set D.length (.int .i64 (m + 1)) = itx (D ++ [m + 1]) := by
              rw [itx_set]
              congr 1
              simp
            rw [e] at h
            rw [List.length_append]
            exact h
          case measure => simp [intOf]; omega
      · obtain rfl : k = s.size := by omega
        go_wp2
        go_ret2
        exact ⟨_, rfl, hO.out, hB⟩
end Go.Proofs.YtoefeooldcbfiaaDoor
