/- Contracts: the live moves of a line, both sides. -/
import Derived.Test.YtfiifjcjmnhbnaaDoorSwRb
import Derived.Test.YtfiifjcjmnhbnaaDoorSwG
import Derived.Deep.LoopGhost
namespace Go.Proofs.YtfiifjcjmnhbnaaDoor
open Go.RowKit Go.Shelf Go.Maps

/-- The live ones of a line's first moves. -/
def ftk (l : List UInt8) (j : Nat) : List (Int × Int) := ((mvL l).take j).filter (lvM l)
theorem ftk_zero (l : List UInt8) : ftk l 0 = [] := by simp [ftk]
theorem ftk_all (l : List UInt8) : ftk l (mvL l).length = lvL l := by unfold ftk lvL; rw [List.take_length]
theorem ftk_next (l : List UInt8) (j : Nat) (h : j < (mvL l).length) : ftk l (j + 1) = if lvM l (mvL l)[j] then ftk l j ++ [(mvL l)[j]] else ftk l j := by
  unfold ftk
  rw [List.take_succ_eq_append_getElem h, List.filter_append]
  by_cases hl : lvM l (mvL l)[j] = true
  · rw [if_pos hl, List.filter_cons_of_pos hl]; rfl
  · rw [if_neg hl, List.filter_cons_of_neg hl]; simp
theorem ftk_len (l : List UInt8) (j : Nat) : (ftk l j).length ≤ (mvL l).length := Nat.le_trans (List.length_filter_le _ _) (by rw [List.length_take]; omega)
/-- A row of moves that grows, the box kept. -/
structure ReM (W0 : World) (B n : Nat) (F : List (Int × Int)) (v : Value) (W : World) : Prop where
  kn : ∃ ks, EnW W B n ks
  row : OwM W0.heap.size v F W
  kp : KpX B W0 W
section
variable {W W' W0 w3 : World} {B n : Nat} {v v' : Value} {F : List (Int × Int)} {m : Int × Int}
theorem ReM.lt (h : ReM W0 B n F v W) : B < W.heap.size := by
  obtain ⟨ks, hk⟩ := h.kn
  exact hk.lt
theorem ReM.below (h : ReM W0 B n F v W) (hb : Below W.heap.size W W') : ReM W0 B n F v W' := by
  obtain ⟨ks, hk⟩ := h.kn
  exact ⟨⟨ks, hk.below hb⟩, h.row.below hb, h.kp.trans (KpX.below hk.lt hb)⟩
theorem ReM.known (h : ReM W0 B n F v W) (hk : KpX B W W') {ks : List (List UInt8)} (hn : EnW W' B n ks) : ReM W0 B n F v W' := by
  obtain ⟨kx, hx⟩ := h.kn
  exact ⟨⟨ks, hn⟩, h.row.known hx hk, h.kp.trans hk⟩
theorem ReM.more (h : ReM W0 B n F v W) (hB : B < W0.heap.size) {o : Obj} (hg : (W.alloc o).grownBy w3 v.ownBlock) (hr : w3.ownsRow W0.heap.size 55 2 v' (F.length + 1) (flat F ++ [.int .i64 m.1, .int .i64 m.2])) : ReM W0 B n (F ++ [m]) v' w3 := by
  have hb : Below W.heap.size W (W.alloc o) := (Below.refl _ _).alloc (Nat.le_refl _) _
  have h1 := h.below hb
  obtain ⟨ks1, hk1⟩ := h1.kn
  have ha := hk1.apartE (by decide) (by decide) (by decide) h1.row
  refine ⟨⟨ks1, hk1.grownX ha hg⟩, ?_, h1.kp.grown hB hg fun r e => (World.ownsRow.lt h1.row r e).1⟩
  have e1 : flat (F ++ [m]) = flat F ++ [.int .i64 m.1, .int .i64 m.2] := by simp [flat]
  unfold OwM
  rw [e1, List.length_append]
  exact hr
end
/-- What the model's live moves are. -/
def LmAns (B n : Nat) (l : List UInt8) (W : World) (e : Ending) (w' : World) : Prop :=
  ∃ v, e = .returned v ∧ OwM W.heap.size v (lvL l) w' ∧ (∃ ks, EnW w' B n ks) ∧ KpX B W w'
set_option maxRecDepth 100000 in
set_option maxHeartbeats 8000000 in
theorem movesOn_any (n : Nat) (f l : List UInt8) (bm k : Nat) (D : DataW Unit) (w : World) (hgf : goodT n f) (h8 : n ≤ 8) (hin : l ∈ swA f) (hm : w.ownsMap Tryd.prog 39 iRw bm k D) (hv : LiveV D (swA f)) :
    Calls Tryd.prog 31 #[.map (some bm), swpV l] w fun e w' => ∃ v, e = .returned v ∧ w'.ownsRow w.heap.size 55 2 v (lvL l).length (flat (lvL l)) ∧ Below w.heap.size w w' := by
  obtain ⟨i0, hi, hz0, hz1, hz2⟩ := info_parts Tryd.infoM
  have HI := Lib.hid hi
  have HZ0 := Lib.hid hz0
  have HZ1 := Lib.hid hz1
  have HZ2 := Lib.hid hz2
  clear hi hz0 hz1 hz2
  have hg := swA_good hgf l hin
  have hl8 := (G8.of hg h8).len
  have HG8 := Lib.hid (fun z (hz : z ∈ swA f) => G8.of (swA_good hgf z hz) h8)
  have HCL := Lib.hid (fun y (h : y ∈ nxL l) => swA_closed hgf hin h)
  have HV := Lib.hid hv
  have HM := Lib.hid hm
  obtain ⟨c0, c1, c2, c3, c4, c5, c6, c7, hc⟩ := eight_of hl8
  have HMV := Lib.hid (fun wx => swpMoves_any n l wx hg h8)
  have HBH := Lib.hid (fun a c wx ha hc hne => swBehind_any n l a c wx hg h8 ha hc hne)
  rw [hc.val] at HMV HBH ⊢
  have HAT := Lib.hid (fun i (h : i < (mvL l).length) => mvL_at l i h)
  have HMM := Lib.hid (fun i (h : i < (mvL l).length) => mv_nx (List.getElem_mem h))
  have HF1 := Lib.hid (ftk_next l)
  have HFA := Lib.hid (ftk_all l)
  have HFL := Lib.hid (ftk_len l)
  have HF0 := Lib.hid (ftk_zero l)
  have hMle : (mvL l).length ≤ 8 := Nat.le_trans (mvL_le l) hl8
  clear hg hgf hin hv hm hc
  go_enter Tryd.func31, Tryd.ntmps31
  go_upto_region 2 with fail
  generalize hW0 : w.alloc (Obj.cells #[.int .u8 c0, .int .u8 c1, .int .u8 c2, .int .u8 c3, .int .u8 c4, .int .u8 c5, .int .u8 c6, .int .u8 c7] 39) = W0
  have hb0 : Below w.heap.size w W0 := by rw [← hW0]; exact (Below.refl _ _).alloc (Nat.le_refl _) _
  have hx0 : Box8 W0 w.heap.size c0 c1 c2 c3 c4 c5 c6 c7 := by rw [← hW0]; exact Box8.new _ _ _ _ _ _ _ _ _
  have hm0 : W0.ownsMap Tryd.prog 39 iRw bm k D := by rw [← hW0]; exact HM.out.alloc _
  have HB0 := Lib.hid hb0
  have HX0 := Lib.hid hx0
  have HM0 := Lib.hid hm0
  obtain ⟨q0, q1, q2, q3, q4, q5, q6, q7⟩ := hx0.cells.zero
  clear hW0 hb0 hx0 hm0
  go_wp2_with fail
  refine (HMV.out _).mono ?_
  rintro e w2 ⟨v2, rfl, ho2, hb2⟩
  obtain ⟨A2, cap2, rfl, at2⟩ := at_of_own ho2
  have AT2 := Lib.hid at2
  have HX2 := Lib.hid (HX0.out.kept (grown_of_below hb2) (by simp))
  have HM2 := Lib.hid (HM0.out.kept (grown_of_below hb2) (by simp))
  have HB2 := Lib.hid (HB0.out.trans (hb2.mono HB0.out.size))
  have HR2 : Hid (w2.ownsRow w2.heap.size 55 2 (.slice none 0 0) (ftk l 0).length (flat (ftk l 0))) := Lib.hid (by rw [HF0.out]; exact World.ownsRow_nil _ _ _ _)
  clear at2 ho2 hb2 q0 q1 q2 q3 q4 q5 q6 q7 HMV HF0
  generalize hMe : mvL l = M at AT2 HAT HMM HF1 HFA HFL hMle ⊢
  clear hMe
  go_wp2_with fail
  go_loopg [5, 11] M.length (fun gj v t wr => ∃ j : Nat, j + gj = M.length ∧ t = .int .i64 j ∧ Hid (wr.ownsRow w2.heap.size 55 2 v (ftk l j).length (flat (ftk l j))) ∧ Hid (Below w2.heap.size w2 wr))
  case atStart => exact ⟨0, by omega, rfl, HR2, Lib.hid (Below.refl _ _)⟩
  case round =>
    obtain ⟨j, hjk, rfl, HR, HBJ⟩ := hrel
    obtain ⟨V, hV⟩ : ∃ V : World, V = wr := ⟨_, rfl⟩
    subst hV
    clear HR2
    by_cases hltj : j < M.length
    · obtain ⟨a, c, e1, e2, ha, hc', hne, _⟩ := HAT.out j hltj
      have hyx := HMM.out j hltj
      obtain ⟨gm, rfl, hgm, m0, m1⟩ := (AT2.out.below HBJ.out) j hltj
      have hMj : M[j] = ((a : Int), (c : Int)) := Prod.ext e1 e2
      have hnext := HF1.out j hltj
      have hlvM : lvM l M[j] = decide (0 < swN (behind (str l) (a : Int) (c : Int))) := by rw [hMj]; rfl
      rw [e1] at m0 hyx
      rw [e2] at m1 hyx
      have hHBH := fun wx => HBH.out a c wx ha hc' hne
      have hyin := HCL.out _ hyx
      rw [hlvM, hMj] at hnext
      generalize behind (str l) (a : Int) (c : Int) = y at hHBH hyin hyx hnext
      have hy8 := HG8.out y hyin
      have HDEC : Hid (decide (0 < lvN (swA f) y) = decide (0 < swN y)) := Lib.hid (by unfold lvN; rw [if_pos hyin])
      obtain ⟨e0, e1', e2', e3, e4, e5, e6, e7, he⟩ := eight_of hy8.len
      have HHAS := Lib.hid (fun wx hm => liveHas_any y (swA f) bm k D wx hy8 hm HV.out HG8.out)
      rw [he.val] at hHBH HHAS
      rw [HDEC.out] at HHAS
      have HBH2 := Lib.hid hHBH
      have HNE := Lib.hid hnext
      have hFl := HFL.out j
      have hjn : (j : Int) < (M.length : Int) := by omega
      have hj0 : (0 : Int) ≤ (j : Int) := by omega
      generalize hF : ftk l j = F at *
      clear e1 e2 hyx hHBH hyin hlvM hy8 he hMj hne hnext hF HDEC
      go_upto_region 5 with fail
      generalize hV1 : V.alloc (Obj.cells #[Value.int IntKind.i64 ↑a, Value.int IntKind.i64 ↑c] 55) = V1
      have hbv1 : Below V.heap.size V V1 := by rw [← hV1]; exact (Below.refl _ _).alloc (Nat.le_refl _) _
      have p0 : V1.cell? ⟨V.heap.size, 0, none⟩ = some (.int .i64 a) := by rw [← hV1, World.cell?_alloc_new]; rfl
      have p1 : V1.cell? ⟨V.heap.size, 1, none⟩ = some (.int .i64 c) := by rw [← hV1, World.cell?_alloc_new]; rfl
      have zv1 : V.heap.size < V1.heap.size := by rw [← hV1]; simp
      have HBV := Lib.hid (HBJ.out.trans (hbv1.mono HBJ.out.size))
      have HR1 := Lib.hid (own_below HR.out hbv1)
      have hxv := HX2.out.kept (grown_of_below HBV.out) (by simp)
      obtain ⟨q0, q1, q2, q3, q4, q5, q6, q7⟩ := hxv.cells.zero
      clear hV1 m0 m1 hbv1 hxv HR
      go_wp2_with fail
      refine (HBH2.out _).mono ?_
      rintro e w3 ⟨rfl, hb3⟩
      replace p0 := (hb3.cell (p := ⟨V.heap.size, 0, none⟩) zv1).trans p0
      replace p1 := (hb3.cell (p := ⟨V.heap.size, 1, none⟩) zv1).trans p1
      have zv3 : V.heap.size < w3.heap.size := Nat.lt_of_lt_of_le zv1 hb3.size
      have HB3 := Lib.hid (HBV.out.trans (hb3.mono HBV.out.size))
      have HR3 := Lib.hid (own_below HR1.out hb3)
      have HM3 := Lib.hid (HM2.out.kept (grown_of_below HB3.out) (by simp))
      clear hb3 q0 q1 q2 q3 q4 q5 q6 q7 HR1 HBV
      go_wp2_with fail
      refine (HHAS.out _ HM3.out).mono ?_
      rintro e w5 ⟨rfl, hb5⟩
      replace p0 := (hb5.cell (p := ⟨V.heap.size, 0, none⟩) zv3).trans p0
      replace p1 := (hb5.cell (p := ⟨V.heap.size, 1, none⟩) zv3).trans p1
      have HB5 := Lib.hid (HB3.out.trans (hb5.mono HB3.out.size))
      have HR5 := Lib.hid (own_below HR3.out hb5)
      clear hb5 HR3 HB3 HM3
      cases hb : decide (0 < swN y)
      · have HNO : Hid (ftk l (j + 1) = F) := Lib.hid (by rw [HNE.out, hb]; rfl)
        clear hb
        go_wp2_with fail
        go_roundg (gk - 1)
        case measure => omega
        case rel => exact ⟨j + 1, by omega, by go_num, by rw [HNO.out]; exact HR5, HB5⟩
      · have HYES : Hid (ftk l (j + 1) = F ++ [((a : Int), (c : Int))]) := Lib.hid (by rw [HNE.out, hb]; rfl)
        clear hb
        have hrow := HR5.out
        have H2 : ∀ u ∈ [Value.int .i64 (a : Int), Value.int .i64 (c : Int)], u.oneCell' = true := fun u hu => by simp at hu; rcases hu with rfl | rfl <;> rfl
        have H3 : F.length + 1 ≤ maxLen := by unfold maxLen; omega
        have H4 : (F.length + 1) * 16 ≤ 140737488355328 := by omega
        have H5 : w2.heap.size ≤ (w5.alloc (Obj.cells #[.int .i64 (a : Int), .int .i64 (c : Int)] 55)).heap.size := by have := HB5.out.size; simp; omega
        go_wp2_with (first | (at_builtin; refine wpList_append_own _ rfl _ _ 36 rfl w2.heap.size 55 i0 (.agg #[.int .i64 0, .int .i64 0]) 2 16 Tryd.underlying36 HI.out HZ0.out HZ1.out HZ2.out rfl (by decide) _ _ _ rfl (hrow.alloc _) ⟨w5.heap.size, 0, none⟩ 1 1 [.int .i64 (a : Int), .int .i64 (c : Int)] rfl rfl (cell_two_new _ _ _ _) H2 H3 H4 H5 ?_; intro v' w6 hown' hgrow _))
        have HR6 : Hid (w6.ownsRow w2.heap.size 55 2 v' (F ++ [((a : Int), (c : Int))]).length (flat (F ++ [((a : Int), (c : Int))]))) := Lib.hid (by
          have e1 : flat (F ++ [((a : Int), (c : Int))]) = flat F ++ [.int .i64 (a : Int), .int .i64 (c : Int)] := by simp [flat]
          rw [e1, List.length_append]
          exact hown')
        have HB6 := Lib.hid ((HB5.out.alloc HB5.out.size (Obj.cells #[.int .i64 (a : Int), .int .i64 (c : Int)] 55)).grown hgrow H5 (fun g e => (hrow.lt g e).1))
        clear hown' hgrow hrow
        go_roundg (gk - 1)
        case measure => omega
        case rel => exact ⟨j + 1, by omega, by go_num, by rw [HYES.out]; exact HR6, HB6⟩
    · obtain rfl : j = M.length := by omega
      have hR := HR.out
      rw [HFA.out] at hR
      have HRE := Lib.hid hR
      clear hR
      obtain ⟨vR, hvR⟩ : ∃ v : Value, v = u5 := ⟨_, rfl⟩
      subst hvR
      go_wp2_with fail
      go_ret
      exact ⟨_, rfl, own_lowerW HRE.out HB2.out.size, HB2.out.trans (HBJ.out.mono HB2.out.size)⟩
end Go.Proofs.YtfiifjcjmnhbnaaDoor
