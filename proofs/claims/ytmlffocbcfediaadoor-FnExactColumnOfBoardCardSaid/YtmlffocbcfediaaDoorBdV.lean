/- CrossBoard, ColumnOfBoard: both sides' contracts. -/
import Derived.Test.YtmlffocbcfediaaDoorBdJ
namespace Go.Proofs.YtmlffocbcfediaaDoor
open Go.RowKit

/-- The columns of rows. -/
def colsR (R : List (List UInt8)) (wd : Nat) : List (List UInt8) := (List.range wd).map fun x => colC R.flatten wd R.length x
theorem colsR_len (R : List (List UInt8)) (wd : Nat) : (colsR R wd).length = wd := by simp [colsR]
theorem colsR_at (R : List (List UInt8)) (wd k : Nat) (h : k < (colsR R wd).length) : (colsR R wd)[k] = colC R.flatten wd R.length k := by simp [colsR]
theorem colsR_row {R : List (List UInt8)} {wd : Nat} : ∀ r ∈ colsR R wd, r.length = R.length := by
  intro r hr
  obtain ⟨x, _, rfl⟩ := List.mem_map.1 hr
  exact colC_len _ _ _ _
theorem spl_back : ∀ R : List (List UInt8), R ≠ [] → (∀ r ∈ R, (47 : UInt8) ∉ r) → spl (Lib.join R [47]) = R
  | [], h, _ => absurd rfl h
  | [r], _, h => by rw [Lib.join_one]; exact spl_whole (h r (by simp))
  | r :: q :: R, _, h => by
    have ih := spl_back (q :: R) (by simp) fun x hx => h x (by simp [hx])
    have e : Lib.join (r :: q :: R) [47] = r ++ 47 :: Lib.join (q :: R) [47] := by simp [Lib.join_cons, Lib.joinTail]
    rw [e, spl_wall _ _ (h r (by simp)), ih]
theorem good_no_wall {r : List UInt8} (h : goodL (str r) = true) : (47 : UInt8) ∉ r := by
  intro hm
  have := ((goodL_iff _).1 h).2.2
  rw [byt_str, List.all_eq_true] at this
  have := this 47 hm
  simp [isSign] at this
/-- Columns of a board are rows of one. -/
theorem cols_good {l : List UInt8} (h : goodB l = true) : boOk (colsR (spl l) ((spl l).headD []).length) = true ∧ spl (Lib.join (colsR (spl l) ((spl l).headD []).length) [47]) = colsR (spl l) ((spl l).headD []).length := by
  obtain ⟨h1, h2⟩ := (boOk_iff _).1 h
  obtain ⟨g1, g2, g3, g4, g5⟩ := good_size h
  have hlen : ∀ r ∈ spl l, r.length = ((spl l).headD []).length := fun r hr => (h2 r hr).2.2
  have hsig : ∀ r ∈ spl l, ∀ c ∈ r, isSign c = true := fun r hr c hc => by
    have := ((goodL_iff _).1 (h2 r hr).1).2.2
    rw [byt_str, List.all_eq_true] at this
    exact this c hc
  generalize ((spl l).headD []).length = wd at g1 g2 g5 hlen ⊢
  generalize spl l = R at g3 g4 g5 hlen hsig ⊢
  have hgood : ∀ r ∈ colsR R wd, goodL (str r) = true := by
    intro r hr
    obtain ⟨x, hx, rfl⟩ := List.mem_map.1 hr
    have hx : x < wd := by simpa using hx
    refine (goodL_iff _).2 ⟨by rw [str_size, colC_len]; omega, by rw [str_size, colC_len]; omega, ?_⟩
    rw [byt_str, List.all_eq_true]
    intro c hc
    obtain ⟨y, hy, rfl⟩ := List.mem_map.1 hc
    have hy : y < R.length := by simpa using hy
    rw [flat_get R wd y x hlen hy hx]
    have e1 : R.getD y [] = R[y] := by rw [List.getD_eq_getElem?_getD, List.getElem?_eq_getElem hy]; rfl
    have hyl := hlen _ (List.getElem_mem hy)
    have e2 : R[y].getD x 0 = R[y][x] := by rw [List.getD_eq_getElem?_getD, List.getElem?_eq_getElem (by omega)]; rfl
    rw [e1, e2]
    exact hsig _ (List.getElem_mem hy) _ (List.getElem_mem _)
  have hne : colsR R wd ≠ [] := fun e => by have := congrArg List.length e; rw [colsR_len] at this; simp at this; omega
  refine ⟨(boOk_iff _).2 ⟨by rw [colsR_len]; exact g2, fun r hr => ⟨hgood r hr, by rw [colsR_row r hr]; exact g4, ?_⟩⟩, spl_back _ hne fun r hr => good_no_wall (hgood r hr)⟩
  have hd : (colsR R wd).headD [] ∈ colsR R wd := by
    cases hc : colsR R wd with
    | nil => exact absurd hc hne
    | cons a t => simp
  rw [colsR_row r hr, colsR_row _ hd]
def crossL (l : List UInt8) : List UInt8 := Lib.join (colsR (spl l) ((spl l).headD []).length) [47]
theorem cross_good {l : List UInt8} (h : goodB l = true) : goodB (crossL l) = true := by
  obtain ⟨h1, h2⟩ := cols_good h
  unfold goodB crossL
  rw [h2]
  exact h1

set_option maxRecDepth 100000 in
set_option maxHeartbeats 2000000 in
theorem boCross_any (R : List (List UInt8)) (wd : Nat) (A : Option Addr) (cap : Nat) (w : World) (hA : StAt w A R) (h1 : 1 ≤ R.length) (h5 : R.length ≤ 5) (hw5 : wd ≤ 5) (hl : ∀ r ∈ R, r.length = wd) (hg : ∀ r ∈ R, goodL (str r) = true) :
    Calls Tryd.prog 59 #[.slice A R.length cap] w (BtPost w (colsR R wd)) := by
  obtain ⟨i0, hi, hz0, hz1, hz2⟩ := info_parts Tryd.infoS
  have HI := Lib.hid hi
  have HZ0 := Lib.hid hz0
  have HZ1 := Lib.hid hz1
  have HZ2 := Lib.hid hz2
  clear hi hz0 hz1 hz2
  have HA := Lib.hid hA
  obtain ⟨g, rfl, hgw, hcell0⟩ := hA 0 h1
  have HS0 : Hid ((str (R[0]'h1)).size = wd) := Lib.hid (by rw [str_size]; exact hl _ (List.getElem_mem h1))
  have HG0 := Lib.hid (hg _ (List.getElem_mem (show 0 < R.length from h1)))
  have HAT := Lib.hid (fun x y (h : y < R.length) => colC_at R.flatten wd R.length x y h)
  have HCL := Lib.hid (colC_len R.flatten wd R.length)
  have HEX : Hid (∀ y (hy : y < R.length) x, x < wd → (str R[y]).extract x (x + 1) = str [R.flatten.getD (y * wd + x) 0] ∧ x < (str R[y]).size) := Lib.hid fun y hy x hx => by
    have hyl := hl _ (List.getElem_mem hy)
    have hxs : x < (str R[y]).size := by rw [str_size]; omega
    refine ⟨?_, hxs⟩
    rw [sign_at _ _ hxs, flat_get R wd y x hl hy hx]
    have e1 : R.getD y [] = R[y] := by rw [List.getD_eq_getElem?_getD, List.getElem?_eq_getElem hy]; rfl
    have e2 : R[y].getD x 0 = R[y][x] := by rw [List.getD_eq_getElem?_getD, List.getElem?_eq_getElem (by omega)]; rfl
    rw [e1, e2]
    rfl
  have HKA := Lib.hid (colsR_at R wd)
  have HKL := Lib.hid (colsR_len R wd)
  have HTK := Lib.hid (txs_tk (colsR R wd))
  have HZR : Hid (∀ y (hy : y < R.length), (str R[y]).size = wd) := Lib.hid fun y hy => by rw [str_size]; exact hl _ (List.getElem_mem hy)
  clear hA hl hg
  generalize colsR R wd = O at HKA HKL HTK ⊢
  generalize hC : colC R.flatten wd R.length = C at HAT HCL HKA
  clear hC
  generalize str (R[0]'h1) = s0 at hcell0 HS0 HG0
  obtain rfl : s0.size = wd := HS0.out
  have i0' : (0 : Int) < (R.length : Int) := by omega
  obtain ⟨n, hn⟩ : ∃ n, n = R.length := ⟨_, rfl⟩
  have HN := Lib.hid hn
  rw [← hn] at h1 h5 i0' ⊢
  clear hn
  go_enter Tryd.func59, Tryd.ntmps59
  go_wp2
  go_loopw [3] (fun v wr => ∃ x : Nat, x ≤ s0.size ∧ wr.heap[w.heap.size]? = some (.stringIter s0 x) ∧ wr.ownsRow (w.heap.size + 1) 9 1 v x (txs (O.take x)) ∧ Below w.heap.size w wr) (fun _ wr => s0.size - wr.iterPos w.heap.size)
  case atStart => exact ⟨0, Nat.zero_le _, World.iter_heap w s0 0, World.ownsRow_nil _ _ _ _, (Below.refl _ _).alloc (Nat.le_refl _) _⟩
  case round =>
    obtain ⟨x, hx, hit, hown, hB⟩ := hrel
    have hpos0 := iterPos_of hit
    obtain ⟨wo, hwo⟩ : ∃ wo : World, wo = wr := ⟨_, rfl⟩
    subst hwo
    by_cases hlt : x < s0.size
    · have hasc := good_asc HG0.out x hlt
      have hnx : ∀ ty, (Instr.next (.pointer (some ⟨w.heap.size, 0, none⟩)) true ty).run Tryd.prog wo = _ := fun ty => Lib.run_next_ascii_at wo w.heap.size s0 x ty hit hlt hasc
      have hit2 := Lib.iterAt_heap wo w.heap.size s0 x (x + 1) hit
      have hB2 := Lib.below_iterAt hB (k := w.heap.size) (Nat.le_refl _) s0 (x + 1)
      have hown2 := own_iter_any hown hit (x + 1)
      obtain ⟨W1, hW1⟩ : ∃ W1, W1 = wo.iterAt w.heap.size s0 (x + 1) := ⟨_, rfl⟩
      rw [← hW1] at hnx hit2 hB2 hown2
      clear hW1 hit hown hB
      have HCX := Lib.hid (HCL.out x)
      go_wp2
      go_loop [5, 17] (fun t i => ∃ y : Nat, y ≤ n ∧ i = .int .i64 y ∧ t = .string (str ((C x).take y))) (fun _ i => n - (intOf i).toNat)
      case atStart => exact ⟨0, Nat.zero_le _, rfl, rfl⟩
      case round =>
        obtain ⟨y, hy, rfl, rfl⟩ := hrel
        by_cases hlty : y < n
        · have hyR : y < R.length := by rw [← HN.out]; exact hlty
          obtain ⟨g1, e1, hg1, hcell⟩ := (HA.out.below hB2) y hyR
          injection e1 with e1
          injection e1 with e1
          subst e1
          obtain ⟨hex, hxs⟩ := HEX.out y hyR x hlt
          have HS := Lib.hid (HAT.out x y hyR)
          have HEX2 := Lib.hid hex
          have hsy := HZR.out y hyR
          have hz0 : (str ((C x).take y)).size ≤ 1000 := by rw [str_size, List.length_take]; omega
          generalize str R[y] = sr at hcell hxs HEX2 hsy
          have hz1 : (sr.extract x (x + 1)).size ≤ 1 := by rw [ByteArray.size_extract]; omega
          have i1 : (0 : Int) ≤ (y : Int) := by omega
          have i2 : (y : Int) < (n : Int) := by omega
          clear hex
          go_wp2
          go_round
          case rel => exact ⟨y + 1, by omega, by go_num, by rw [HS.out, ← str_app, HEX2.out]⟩
          case measure => simp [intOf]; omega
        · obtain rfl : y = n := by omega
          have HFULL : Hid (str ((C x).take y) = str (C x)) := Lib.hid (by rw [List.take_of_length_le (by rw [HCX.out]; exact Nat.le_of_eq HN.out.symm)])
          rw [HFULL.out]
          have hxO : x < O.length := by rw [HKL.out]; exact hlt
          have HS : Hid (txs (O.take (x + 1)) = txs (O.take x) ++ [.string (str (C x))]) := Lib.hid (by rw [HTK.out x hxO, HKA.out x hxO])
          have H3 : x + 1 ≤ maxLen := by unfold maxLen; omega
          have H4 : (x + 1) * 16 ≤ 140737488355328 := by omega
          have hzW := hB2.size
          have hzI : w.heap.size < W1.heap.size := (Array.getElem?_eq_some_iff.1 hit2).1
          have H5 : w.heap.size + 1 ≤ (W1.alloc (Obj.cells #[Value.string (str (C x))] 9)).heap.size := by simp; omega
          go_wp2_with (first | (at_builtin; refine wpList_append_own _ rfl _ _ 46 rfl (w.heap.size + 1) 9 i0 (.string ByteArray.empty) 1 16 Tryd.underlying46 HI.out HZ0.out HZ1.out HZ2.out rfl (by decide) _ _ _ rfl (hown2.alloc _) ⟨W1.heap.size, 0, none⟩ 1 1 [.string (str (C x))] rfl rfl (cell_one_new _ _ _) (fun u hu => by simp at hu; subst hu; rfl) H3 H4 H5 ?_; intro v' w3 hown' hgrow _))
          go_roundw
          case rel =>
            have hi3 : w3.heap[w.heap.size]? = some (.stringIter s0 (x + 1)) := by
              rw [hgrow.block w.heap.size (by simp; omega) (fun h => by have := (hown2.lt _ h.symm).1; omega), Below.heap_alloc _ _ _ hzI]
              exact hit2
            refine ⟨x + 1, by omega, hi3, ?_, ((hB2.alloc hB2.size _).grown hgrow (by simp; omega) fun j hj => by have := (hown2.lt _ hj).1; omega)⟩
            rw [HS.out]
            exact hown'
          case measure =>
            have hi3 : w3.heap[w.heap.size]? = some (.stringIter s0 (x + 1)) := by
              rw [hgrow.block w.heap.size (by simp; omega) (fun h => by have := (hown2.lt _ h.symm).1; omega), Below.heap_alloc _ _ _ hzI]
              exact hit2
            rw [iterPos_of hi3, hpos0]
            omega
    · have hnx : ∀ ty, (Instr.next (.pointer (some ⟨w.heap.size, 0, none⟩)) true ty).run Tryd.prog wo = _ := fun ty => Lib.run_next_end_at wo w.heap.size s0 x ty hit hlt
      obtain rfl : x = s0.size := by omega
      have HB := Lib.hid hB
      clear hB
      go_wp2
      go_ret
      rw [List.take_of_length_le (by rw [HKL.out]; exact Nat.le_refl _)] at hown
      refine ⟨_, rfl, ?_, HB.out⟩
      rw [HKL.out]
      exact own_lo hown (by omega)
end Go.Proofs.YtmlffocbcfediaaDoor
