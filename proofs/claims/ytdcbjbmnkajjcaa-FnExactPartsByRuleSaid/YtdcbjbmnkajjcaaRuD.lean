/- Contracts: all moves by a rule, the model's. -/
import Derived.Test.YtdcbjbmnkajjcaaRuC
import Derived.Test.YtdcbjbmnkajjcaaItr
namespace Go.Proofs.Ytdcbjbmnkajjcaa
open Go.RowKit

set_option maxHeartbeats 2000000 in
theorem ruCan_any (s : ByteArray) (o b l : Bool) (f t : Int) (w : World) (hs : s.size ≤ 1000) :
    Calls Try.prog 37 #[.string s, .agg #[.int .i64 f, .int .i64 t], ruV o b l] w fun e w' => e = .returned (.bool (ruC s o b l f t)) ∧ Below w.heap.size w w' := by
  have hend : Below w.heap.size w ((w.alloc (mvB f t)).alloc (ruO o b l)) := ((Below.refl _ _).alloc (Nat.le_refl _) _).alloc (by simp) _
  cases h1 : inR f 0 (s.size - 1)
  · have HR : Hid (ruC s o b l f t = false) := Lib.hid (by unfold ruC; rw [h1]; rfl)
    have H1 := Lib.hid h1
    clear h1
    go_enter Try.func37, Try.ntmps37
    go_wp2_with (go_at_call 52; refine (l1In_any _ _ _ _).mono ?_; rintro e w' ⟨rfl, rfl⟩; rw [H1.out])
    go_ret
    exact ⟨congrArg (fun b => Ending.returned (.bool b)) HR.out.symm, hend⟩
  · cases h2 : inR t 0 (s.size - 1)
    · have HR : Hid (ruC s o b l f t = false) := Lib.hid (by unfold ruC; rw [h1, h2]; rfl)
      have H1 := Lib.hid h1
      have H2 := Lib.hid h2
      clear h1 h2
      go_enter Try.func37, Try.ntmps37
      go_wp2_with fail
      refine (l1In_any _ _ _ _).mono ?_; rintro e w' ⟨rfl, rfl⟩; rw [H1.out]
      go_wp2_with fail
      refine (l1In_any _ _ _ _).mono ?_; rintro e w' ⟨rfl, rfl⟩; rw [H2.out]
      go_wp2
      go_ret
      exact ⟨congrArg (fun b => Ending.returned (.bool b)) HR.out.symm, hend⟩
    · have hf : 0 ≤ f ∧ f < s.size := by simp [inR] at h1; omega
      have ht : 0 ≤ t ∧ t < s.size := by simp [inR] at h2; omega
      have H1 := Lib.hid h1
      have H2 := Lib.hid h2
      clear h1 h2
      obtain ⟨a, rfl⟩ := Int.eq_ofNat_of_zero_le hf.1
      obtain ⟨c, rfl⟩ := Int.eq_ofNat_of_zero_le ht.1
      have ha : a < s.size := by omega
      have hc : c < s.size := by omega
      have ga := Lib.hid (sgAt_in s a ha)
      have gc := Lib.hid (sgAt_in s c hc)
      clear hf ht
      rcases is_or2 s[a] 46 46 rfl with ⟨e1, hv1⟩ | ⟨e1, hv1⟩
      · have HR : Hid (ruC s o b l a c = false) := Lib.hid (by unfold ruC; rw [ga.out, e1]; simp)
        clear e1
        go_enter Try.func37, Try.ntmps37
        go_wp2_with fail
        refine (l1In_any _ _ _ _).mono ?_; rintro e w' ⟨rfl, rfl⟩; rw [H1.out]
        go_wp2_with fail
        refine (l1In_any _ _ _ _).mono ?_; rintro e w' ⟨rfl, rfl⟩; rw [H2.out]
        go_wp2
        go_ret
        exact ⟨congrArg (fun b => Ending.returned (.bool b)) HR.out.symm, hend⟩
      · rcases is_or2 s[c] 46 46 rfl with ⟨e2, hv2⟩ | ⟨e2, hv2⟩
        · have hne : a ≠ c := fun e => by subst e; exact e1 e2
          rcases Nat.lt_or_gt_of_ne hne with h | h
          · exact ruCan_right s o b l a c w hs ha hc h e1 e2
          · exact ruCan_left s o b l a c w hs ha hc h e1 e2
        · have HR : Hid (ruC s o b l a c = false) := Lib.hid (by unfold ruC; rw [gc.out, show (s[c] == 46) = false by simpa using e2]; simp)
          have hv3 : ((s[c].toNat : Int) != 46) = true := by simpa [bne] using hv2
          clear e1 e2
          go_enter Try.func37, Try.ntmps37
          go_wp2_with fail
          refine (l1In_any _ _ _ _).mono ?_; rintro e w' ⟨rfl, rfl⟩; rw [H1.out]
          go_wp2_with fail
          refine (l1In_any _ _ _ _).mono ?_; rintro e w' ⟨rfl, rfl⟩; rw [H2.out]
          go_wp2
          go_ret
          exact ⟨congrArg (fun b => Ending.returned (.bool b)) HR.out.symm, hend⟩

/-- The moves from one cell to the first cells. -/
def ruIn (s : ByteArray) (o b l : Bool) (f n : Nat) : List (Int × Int) := ((List.range n).filter fun t : Nat => ruC s o b l f t).map fun t : Nat => ((f : Int), (t : Int))
theorem ruIn_all (s : ByteArray) (o b l : Bool) (f : Nat) : ruIn s o b l f s.size = ruRow s o b l f := rfl
theorem ruIn_next (s : ByteArray) (o b l : Bool) (f n : Nat) : ruIn s o b l f (n + 1) = ruIn s o b l f n ++ if ruC s o b l f n then [((f : Int), (n : Int))] else [] := by
  unfold ruIn
  rw [List.range_succ, List.filter_append, List.map_append]
  cases h : ruC s o b l f n <;> simp [h]
theorem ruIn_le (s : ByteArray) (o b l : Bool) (f n : Nat) : (ruIn s o b l f n).length ≤ n := by
  unfold ruIn
  rw [List.length_map]
  have := List.length_filter_le (fun t : Nat => ruC s o b l f t) (List.range n)
  simpa using this
set_option maxRecDepth 100000 in
set_option maxHeartbeats 4000000 in
theorem ruMoves_any (s : ByteArray) (o b l : Bool) (w : World) (hg : goodL s = true) :
    Calls Try.prog 16 #[.string s, ruV o b l] w (SpPost w (ruTo s o b l s.size)) := by
  obtain ⟨i0, hi, hz0, hz1, hz2⟩ := info_parts Try.infoM
  have HI := Lib.hid hi
  have HZ0 := Lib.hid hz0
  have HZ1 := Lib.hid hz1
  have HZ2 := Lib.hid hz2
  clear hi hz0 hz1 hz2
  have h1 := good1000 hg
  have HASC := Lib.hid (good_asc hg)
  obtain ⟨_, _, _⟩ := (goodL_iff s).1 hg
  clear hg
  go_enter Try.func16, Try.ntmps16
  go_wp2
  obtain ⟨W0, hW0⟩ : ∃ W0, W0 = w.alloc (ruO o b l) := ⟨_, rfl⟩
  rw [← hW0]
  have hzw : W0.heap.size = w.heap.size + 1 := by rw [hW0]; simp
  have HZW := Lib.hid hzw
  have hzl : W0.heap.size ≤ w.heap.size + 1 := by omega
  have hzg : w.heap.size + 1 ≤ W0.heap.size := by omega
  clear hzw
  have HB0 : Hid (Below w.heap.size w W0) := Lib.hid (by rw [hW0]; exact (Below.refl _ _).alloc (Nat.le_refl _) _)
  have r0 : W0.cell? ⟨w.heap.size, 0, none⟩ = some (.bool o) := by rw [hW0, World.cell?_alloc_new]; rfl
  have r1 : W0.cell? ⟨w.heap.size, 1, none⟩ = some (.bool b) := by rw [hW0, World.cell?_alloc_new]; rfl
  have r2 : W0.cell? ⟨w.heap.size, 2, none⟩ = some (.bool l) := by rw [hW0, World.cell?_alloc_new]; rfl
  clear hW0
  go_loopw [5, 6, 7, 8] (fun v _ _ _ wr => ∃ k : Nat, k ≤ s.size ∧ wr.heap[w.heap.size + 1]? = some (.stringIter s k) ∧ wr.ownsRow (W0.heap.size + 1) 44 2 v (ruTo s o b l k).length (flat (ruTo s o b l k)) ∧ Below W0.heap.size W0 wr) (fun _ _ _ _ wr => s.size - wr.iterPos (w.heap.size + 1))
  case atStart => exact ⟨0, Nat.zero_le _, by have := World.iter_heap W0 s 0; rwa [HZW.out] at this, World.ownsRow_nil _ _ _ _, (Below.refl _ _).alloc (Nat.le_refl _) _⟩
  case round =>
    obtain ⟨k, hk, hit, hown, hB⟩ := hrel
    have hpos0 := iterPos_of hit
    have hle := ruTo_le s o b l k
    by_cases hlt : k < s.size
    · have hS : Hid (ruTo s o b l (k + 1) = ruTo s o b l k ++ ruIn s o b l k s.size) := Lib.hid rfl
      have hle2 : (ruTo s o b l k).length ≤ 1000 := by
        have : k * s.size ≤ 12 * 12 := Nat.mul_le_mul (by omega) (by omega)
        omega
      clear hle
      generalize ruTo s o b l k = L at hown hS hle2
      have hasc := HASC.out k hlt
      have hnx : ∀ ty, (Instr.next (.pointer (some ⟨w.heap.size + 1, 0, none⟩)) true ty).run Try.prog wr = _ := fun ty => Lib.run_next_ascii_at wr (w.heap.size + 1) s k ty hit hlt hasc
      have hit2 := Lib.iterAt_heap wr (w.heap.size + 1) s k (k + 1) hit
      have hB2 := Lib.below_iterAt hB (k := w.heap.size + 1) (by omega) s (k + 1)
      have hown2 := own_iterAt hown (k := w.heap.size + 1) (by omega) s (k + 1)
      obtain ⟨W1, hW1⟩ : ∃ W1, W1 = wr.iterAt (w.heap.size + 1) s (k + 1) := ⟨_, rfl⟩
      rw [← hW1] at hnx hit2 hB2 hown2
      clear hW1 hit hown hB hasc
      have hl1 := lt_of_block hit2
      go_wp2
      go_loopw [5, 7, 8] (fun v _ _ wr => ∃ j : Nat, j ≤ s.size ∧ wr.heap[W1.heap.size]? = some (.stringIter s j) ∧ wr.heap[w.heap.size + 1]? = some (.stringIter s (k + 1)) ∧ wr.ownsRow (W0.heap.size + 1) 44 2 v (L ++ ruIn s o b l k j).length (flat (L ++ ruIn s o b l k j)) ∧ Below W0.heap.size W0 wr) (fun _ _ _ wr => s.size - wr.iterPos W1.heap.size)
      case atStart => exact ⟨0, Nat.zero_le _, World.iter_heap W1 s 0, (Below.heap_alloc _ _ _ hl1).trans hit2, (by have h := hown2.alloc (.stringIter s 0); rw [show L ++ ruIn s o b l k 0 = L by simp [ruIn]]; exact h), hB2.alloc hB2.size _⟩
      case round =>
        obtain ⟨j, hj, hit, hito, hown, hB⟩ := hrel
        have hposj := iterPos_of hit
        clear hnx hit2 hB2 hown2
        by_cases hltj : j < s.size
        · have hN := Lib.hid (ruIn_next s o b l k j)
          have hle1 := ruIn_le s o b l k j
          generalize ruIn s o b l k j = M at hown hN hle1
          have hasc := HASC.out j hltj
          have hnx : ∀ ty, (Instr.next (.pointer (some ⟨W1.heap.size, 0, none⟩)) true ty).run Try.prog wr = _ := fun ty => Lib.run_next_ascii_at wr W1.heap.size s j ty hit hltj hasc
          have hitj := Lib.iterAt_heap wr W1.heap.size s j (j + 1) hit
          have hB3 := Lib.below_iterAt hB (k := W1.heap.size) (by omega) s (j + 1)
          have hown3 := own_iter_any hown hit (j + 1)
          have hito3 : (wr.iterAt W1.heap.size s (j + 1)).heap[w.heap.size + 1]? = some (.stringIter s (k + 1)) := by rw [Lib.iterAt_other _ _ _ _ _ (by omega)]; exact hito
          obtain ⟨W2, hW2⟩ : ∃ W2, W2 = wr.iterAt W1.heap.size s (j + 1) := ⟨_, rfl⟩
          rw [← hW2] at hnx hitj hB3 hown3 hito3
          clear hW2 hit hown hB hasc hito
          have c0 : W2.cell? ⟨w.heap.size, 0, none⟩ = some (.bool o) := (hB3.cell (p := ⟨w.heap.size, 0, none⟩) (by show w.heap.size < _; omega)).trans r0
          have c1 : W2.cell? ⟨w.heap.size, 1, none⟩ = some (.bool b) := (hB3.cell (p := ⟨w.heap.size, 1, none⟩) (by show w.heap.size < _; omega)).trans r1
          have c2 : W2.cell? ⟨w.heap.size, 2, none⟩ = some (.bool l) := (hB3.cell (p := ⟨w.heap.size, 2, none⟩) (by show w.heap.size < _; omega)).trans r2
          have hl2 := lt_of_block hitj
          have hsz2 : w.heap.size < W2.heap.size := by omega
          have HITJ := Lib.hid hitj
          have HITO := Lib.hid hito3
          clear hitj hito3
          go_wp2_with fail
          refine (ruCan_any s o b l k j _ h1).mono ?_
          rintro e w2 ⟨rfl, hb2⟩
          have hown4 := own_below (hown3.alloc (mvB k j)) hb2
          have hB4 := (hB3.alloc hB3.size (mvB k j)).trans (hb2.mono (by have := hB3.size; simp; omega))
          obtain ⟨hcell, _⟩ := bcell hb2
          have hz := hb2.size
          have hz2 : W2.heap.size < w2.heap.size := by simp at hz; omega
          have hitj4 : w2.heap[W1.heap.size]? = some (.stringIter s (j + 1)) := by
            rw [hb2.block W1.heap.size (by simp; omega), Below.heap_alloc _ _ _ hl2]; exact HITJ.out
          have hito4 : w2.heap[w.heap.size + 1]? = some (.stringIter s (k + 1)) := by
            rw [hb2.block (w.heap.size + 1) (by simp; omega), Below.heap_alloc _ _ _ (by omega)]; exact HITO.out
          have d0 : w2.cell? ⟨W2.heap.size, 0, none⟩ = some (.int .i64 k) := by rw [hcell _ _ (by simp), World.cell?_alloc_new]; rfl
          have d1 : w2.cell? ⟨W2.heap.size, 1, none⟩ = some (.int .i64 j) := by rw [hcell _ _ (by simp), World.cell?_alloc_new]; rfl
          have KI := Lib.hid (And.intro hitj4 hito4)
          clear hown3 hB3 hb2 hcell hz hitj4 hito4
          cases hwd : ruC s o b l k j
          · have HW := Lib.hid hwd
            clear hwd
            go_wp2
            go_roundw
            case rel => exact ⟨j + 1, by omega, KI.out.1, KI.out.2, by rw [hN.out, HW.out]; simpa using hown4, hB4⟩
            case measure => rw [iterPos_of KI.out.1, hposj]; omega
          · have HW := Lib.hid hwd
            clear hwd
            have H2 : ∀ x ∈ [Value.int .i64 (k : Int), Value.int .i64 (j : Int)], x.oneCell' = true := fun x hx => by simp at hx; rcases hx with rfl | rfl <;> rfl
            have H3 : (L ++ M).length + 1 ≤ maxLen := by rw [List.length_append]; unfold maxLen; omega
            have H4 : ((L ++ M).length + 1) * 16 ≤ 140737488355328 := by rw [List.length_append]; omega
            have H5 : W0.heap.size + 1 ≤ (w2.alloc (mvB k j)).heap.size := by simp; omega
            go_wp2_with (first | (at_builtin; refine wpList_append_own _ rfl _ _ 24 rfl (W0.heap.size + 1) 44 i0 (.agg #[.int .i64 0, .int .i64 0]) 2 16 Try.underlying24 HI.out HZ0.out HZ1.out HZ2.out rfl (by decide) _ _ _ rfl (hown4.alloc _) ⟨w2.heap.size, 0, none⟩ 1 1 [.int .i64 k, .int .i64 j] rfl rfl (cell_two_new _ _ _ _) H2 H3 H4 H5 ?_; intro v' w3 hown' hgrow _))
            have hi1 : (w2.alloc (mvB k j)).heap[W1.heap.size]? = some (.stringIter s (j + 1)) := by rw [Below.heap_alloc _ _ _ (by omega)]; exact KI.out.1
            have hi2 : (w2.alloc (mvB k j)).heap[w.heap.size + 1]? = some (.stringIter s (k + 1)) := by rw [Below.heap_alloc _ _ _ (by omega)]; exact KI.out.2
            have n1 := own_ne_iter (hown4.alloc (mvB k j)) hi1
            have n2 := own_ne_iter (hown4.alloc (mvB k j)) hi2
            have i1 : w3.heap[W1.heap.size]? = some (.stringIter s (j + 1)) := (hgrow.block W1.heap.size (by simp; omega) (fun h => n1 h.symm)).trans hi1
            have i2 : w3.heap[w.heap.size + 1]? = some (.stringIter s (k + 1)) := (hgrow.block (w.heap.size + 1) (by simp; omega) (fun h => n2 h.symm)).trans hi2
            have KJ := Lib.hid (And.intro i1 i2)
            clear hi1 hi2 n1 n2 i1 i2
            go_roundw
            case rel =>
              refine ⟨j + 1, by omega, KJ.out.1, KJ.out.2, ?_, ((hB4.alloc hB4.size (mvB k j)).grown hgrow (by omega) fun i hi => by have := (hown4.lt _ hi).1; omega)⟩
              rw [hN.out, HW.out, if_pos rfl, ← List.append_assoc, flat_app, List.length_append]
              exact hown'
            case measure => rw [iterPos_of KJ.out.1, hposj]; omega
        · have hnx : ∀ ty, (Instr.next (.pointer (some ⟨W1.heap.size, 0, none⟩)) true ty).run Try.prog wr = _ := fun ty => Lib.run_next_end_at wr W1.heap.size s j ty hit hltj
          go_wp2
          go_roundw
          case rel =>
            obtain rfl : j = s.size := by omega
            exact ⟨k + 1, by omega, hito, by rw [hS.out]; exact hown, hB⟩
          case measure => rw [iterPos_of hito, hpos0]; omega
    · have hnx : ∀ ty, (Instr.next (.pointer (some ⟨w.heap.size + 1, 0, none⟩)) true ty).run Try.prog wr = _ := fun ty => Lib.run_next_end_at wr (w.heap.size + 1) s k ty hit hlt
      go_wp2
      go_ret
      obtain rfl : k = s.size := by omega
      exact ⟨_, rfl, own_base hown (by omega), HB0.out.trans (hB.mono (by omega))⟩
end Go.Proofs.Ytdcbjbmnkajjcaa
