/- Contracts: all moves on a ring, the model's. -/
import Derived.Test.YtdcbjbmnkajjcaaDoorCiD
import Derived.Test.YtdcbjbmnkajjcaaDoorItr
namespace Go.Proofs.YtdcbjbmnkajjcaaDoor
open Go.RowKit

set_option maxRecDepth 100000 in
set_option maxHeartbeats 4000000 in
theorem ciMoves_any (s : ByteArray) (w : World) (hr : ringB s = true) :
    Calls Tryd.prog 34 #[.string s] w (SpPost w (rgTo s s.size)) := by
  obtain ⟨i0, hi, hz0, hz1, hz2⟩ := info_parts Tryd.infoM
  have HI := Lib.hid hi
  have HZ0 := Lib.hid hz0
  have HZ1 := Lib.hid hz1
  have HZ2 := Lib.hid hz2
  clear hi hz0 hz1 hz2
  have hg := ring_good hr
  obtain ⟨h3, h9⟩ := ring_sz hr
  have HASC := Lib.hid (good_asc hg)
  clear hg hr
  go_enter Tryd.func34, Tryd.ntmps34
  go_wp2
  go_loopw [3, 4, 5, 6] (fun v _ _ _ wr => ∃ k : Nat, k ≤ s.size ∧ wr.heap[w.heap.size]? = some (.stringIter s k) ∧ wr.ownsRow (w.heap.size + 1) 58 2 v (rgTo s k).length (flat (rgTo s k)) ∧ Below w.heap.size w wr) (fun _ _ _ _ wr => s.size - wr.iterPos (w.heap.size))
  case atStart => exact ⟨0, Nat.zero_le _, World.iter_heap w s 0, World.ownsRow_nil _ _ _ _, (Below.refl _ _).alloc (Nat.le_refl _) _⟩
  case round =>
    obtain ⟨k, hk, hit, hown, hB⟩ := hrel
    have hpos0 := iterPos_of hit
    have hle := rgTo_le s k
    by_cases hlt : k < s.size
    · have hS : Hid (rgTo s (k + 1) = rgTo s k ++ rgIn s k s.size) := Lib.hid rfl
      have hle2 : (rgTo s k).length ≤ 1000 := by
        have : k * s.size ≤ 12 * 12 := Nat.mul_le_mul (by omega) (by omega)
        omega
      clear hle
      generalize rgTo s k = L at hown hS hle2
      have hasc := HASC.out k hlt
      have hnx : ∀ ty, (Instr.next (.pointer (some ⟨w.heap.size, 0, none⟩)) true ty).run Tryd.prog wr = _ := fun ty => Lib.run_next_ascii_at wr (w.heap.size) s k ty hit hlt hasc
      have hit2 := Lib.iterAt_heap wr (w.heap.size) s k (k + 1) hit
      have hB2 := Lib.below_iterAt hB (k := w.heap.size) (by omega) s (k + 1)
      have hown2 := own_iterAt hown (k := w.heap.size) (by omega) s (k + 1)
      obtain ⟨W1, hW1⟩ : ∃ W1, W1 = wr.iterAt (w.heap.size) s (k + 1) := ⟨_, rfl⟩
      rw [← hW1] at hnx hit2 hB2 hown2
      clear hW1 hit hown hB hasc
      have hl1 := lt_of_block hit2
      go_wp2
      go_loopw [3, 5, 6] (fun v _ _ wr => ∃ j : Nat, j ≤ s.size ∧ wr.heap[W1.heap.size]? = some (.stringIter s j) ∧ wr.heap[w.heap.size]? = some (.stringIter s (k + 1)) ∧ wr.ownsRow (w.heap.size + 1) 58 2 v (L ++ rgIn s k j).length (flat (L ++ rgIn s k j)) ∧ Below w.heap.size w wr) (fun _ _ _ wr => s.size - wr.iterPos W1.heap.size)
      case atStart => exact ⟨0, Nat.zero_le _, World.iter_heap W1 s 0, (Below.heap_alloc _ _ _ hl1).trans hit2, (by have h := hown2.alloc (.stringIter s 0); rw [show L ++ rgIn s k 0 = L by simp [rgIn]]; exact h), hB2.alloc hB2.size _⟩
      case round =>
        obtain ⟨j, hj, hit, hito, hown, hB⟩ := hrel
        have hposj := iterPos_of hit
        clear hnx hit2 hB2 hown2
        by_cases hltj : j < s.size
        · have hN : Hid (rgIn s k (j + 1) = rgIn s k j ++ if rgCi s k j then [((k : Int), (j : Int))] else []) := Lib.hid (by rw [rgCi_nat s k j hlt hltj]; exact rgIn_next s k j)
          have hle1 := rgIn_le s k j
          generalize rgIn s k j = M at hown hN hle1
          have hasc := HASC.out j hltj
          have hnx : ∀ ty, (Instr.next (.pointer (some ⟨W1.heap.size, 0, none⟩)) true ty).run Tryd.prog wr = _ := fun ty => Lib.run_next_ascii_at wr W1.heap.size s j ty hit hltj hasc
          have hitj := Lib.iterAt_heap wr W1.heap.size s j (j + 1) hit
          have hB3 := Lib.below_iterAt hB (k := W1.heap.size) (by omega) s (j + 1)
          have hown3 := own_iter_any hown hit (j + 1)
          have hito3 : (wr.iterAt W1.heap.size s (j + 1)).heap[w.heap.size]? = some (.stringIter s (k + 1)) := by rw [Lib.iterAt_other _ _ _ _ _ (by omega)]; exact hito
          obtain ⟨W2, hW2⟩ : ∃ W2, W2 = wr.iterAt W1.heap.size s (j + 1) := ⟨_, rfl⟩
          rw [← hW2] at hnx hitj hB3 hown3 hito3
          clear hW2 hit hown hB hasc hito
          have hl2 := lt_of_block hitj
          have hsz2 : w.heap.size < W2.heap.size := by omega
          have HITJ := Lib.hid hitj
          have HITO := Lib.hid hito3
          clear hitj hito3
          go_wp2_with fail
          refine (ciCan_any s k j _ h3 h9).mono ?_
          rintro e w2 ⟨rfl, hb2⟩
          have hown4 := own_below (hown3.alloc (mvB k j)) hb2
          have hB4 := (hB3.alloc hB3.size (mvB k j)).trans (hb2.mono (by have := hB3.size; simp; omega))
          obtain ⟨hcell, _⟩ := bcell hb2
          have hz := hb2.size
          have hz2 : W2.heap.size < w2.heap.size := by simp at hz; omega
          have hitj4 : w2.heap[W1.heap.size]? = some (.stringIter s (j + 1)) := by
            rw [hb2.block W1.heap.size (by simp; omega), Below.heap_alloc _ _ _ hl2]; exact HITJ.out
          have hito4 : w2.heap[w.heap.size]? = some (.stringIter s (k + 1)) := by
            rw [hb2.block (w.heap.size) (by simp; omega), Below.heap_alloc _ _ _ (by omega)]; exact HITO.out
          have d0 : w2.cell? ⟨W2.heap.size, 0, none⟩ = some (.int .i64 k) := by rw [hcell _ _ (by simp), World.cell?_alloc_new]; rfl
          have d1 : w2.cell? ⟨W2.heap.size, 1, none⟩ = some (.int .i64 j) := by rw [hcell _ _ (by simp), World.cell?_alloc_new]; rfl
          have KI := Lib.hid (And.intro hitj4 hito4)
          clear hown3 hB3 hb2 hcell hz hitj4 hito4
          cases hwd : rgCi s k j
          · have HW := Lib.hid hwd
            clear hwd
            go_wp2
            go_roundw
            case rel => exact ⟨j + 1, by omega, KI.out.1, KI.out.2, by rw [hN.out, HW.out]; simpa using hown4, hB4⟩
            case measure => rw [iterPos_of KI.out.1, hposj]; omega
          · have HW := Lib.hid hwd
            clear hwd
            have H2 : ∀ x ∈ [Value.int .i64 (k : Int), Value.int .i64 (j : Int)], x.oneCell' = true := fun x hx => by simp at hx; rcases hx with rfl | rfl <;> rfl
            have H3 : (L ++ M).length + 1 ≤ maxLen := by rw [List.length_append]; unfold maxLen; omega
            have H4 : ((L ++ M).length + 1) * 16 ≤ 140737488355328 := by rw [List.length_append]; omega
            have H5 : w.heap.size + 1 ≤ (w2.alloc (mvB k j)).heap.size := by simp; omega
            go_wp2_with (first | (at_builtin; refine wpList_append_own _ rfl _ _ 33 rfl (w.heap.size + 1) 58 i0 (.agg #[.int .i64 0, .int .i64 0]) 2 16 Tryd.underlying33 HI.out HZ0.out HZ1.out HZ2.out rfl (by decide) _ _ _ rfl (hown4.alloc _) ⟨w2.heap.size, 0, none⟩ 1 1 [.int .i64 k, .int .i64 j] rfl rfl (cell_two_new _ _ _ _) H2 H3 H4 H5 ?_; intro v' w3 hown' hgrow _))
            have hi1 : (w2.alloc (mvB k j)).heap[W1.heap.size]? = some (.stringIter s (j + 1)) := by rw [Below.heap_alloc _ _ _ (by omega)]; exact KI.out.1
            have hi2 : (w2.alloc (mvB k j)).heap[w.heap.size]? = some (.stringIter s (k + 1)) := by rw [Below.heap_alloc _ _ _ (by omega)]; exact KI.out.2
            have n1 := own_ne_iter (hown4.alloc (mvB k j)) hi1
            have n2 := own_ne_iter (hown4.alloc (mvB k j)) hi2
            have i1 : w3.heap[W1.heap.size]? = some (.stringIter s (j + 1)) := (hgrow.block W1.heap.size (by simp; omega) (fun h => n1 h.symm)).trans hi1
            have i2 : w3.heap[w.heap.size]? = some (.stringIter s (k + 1)) := (hgrow.block (w.heap.size) (by simp; omega) (fun h => n2 h.symm)).trans hi2
            have KJ := Lib.hid (And.intro i1 i2)
            clear hi1 hi2 n1 n2 i1 i2
            go_roundw
            case rel =>
              refine ⟨j + 1, by omega, KJ.out.1, KJ.out.2, ?_, ((hB4.alloc hB4.size (mvB k j)).grown hgrow (by omega) fun i hi => by have := (hown4.lt _ hi).1; omega)⟩
              rw [hN.out, HW.out, if_pos rfl, ← List.append_assoc, flat_app, List.length_append]
              exact hown'
            case measure => rw [iterPos_of KJ.out.1, hposj]; omega
        · have hnx : ∀ ty, (Instr.next (.pointer (some ⟨W1.heap.size, 0, none⟩)) true ty).run Tryd.prog wr = _ := fun ty => Lib.run_next_end_at wr W1.heap.size s j ty hit hltj
          go_wp2
          go_roundw
          case rel =>
            obtain rfl : j = s.size := by omega
            exact ⟨k + 1, by omega, hito, by rw [hS.out]; exact hown, hB⟩
          case measure => rw [iterPos_of hito, hpos0]; omega
    · have hnx : ∀ ty, (Instr.next (.pointer (some ⟨w.heap.size, 0, none⟩)) true ty).run Tryd.prog wr = _ := fun ty => Lib.run_next_end_at wr (w.heap.size) s k ty hit hlt
      go_wp2
      go_ret
      obtain rfl : k = s.size := by omega
      exact ⟨_, rfl, own_base hown (by omega), hB⟩
end Go.Proofs.YtdcbjbmnkajjcaaDoor
