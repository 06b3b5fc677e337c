/- Contract: all plays from a live line, the program's recursion. -/
import Derived.Test.YtfiifjcjmnhbnaaDoorSwAd
import Derived.Deep.CutBlock
namespace Go.Proofs.YtfiifjcjmnhbnaaDoor
open Go.RowKit Go.Shelf Go.Maps

/-- What the recursion promises at so many moves left. -/
def AdAll (bm q : Nat) (f : List UInt8) (D : DataW Unit) (k : Nat) : Prop :=
  ∀ (l : List UInt8) (base : Nat) (vp : Value) (vs : List Value) (PS : List (List (Int × Int))) (vm : Value) (F : List (Int × Int)) (w : World), l ∈ swA f → 0 < swN l → msL l = (k : Int) →
    w.ownsMap Tryd.prog 39 iRw bm q D → bm < base → base ≤ w.heap.size → PlW w base vp vs PS → w.ownsRow base 55 2 vm F.length (flat F) → (∀ x ∈ vs, ∀ g, x.ownBlock = some g → vm.ownBlock ≠ some g) →
    PS.length + swN l ≤ 1000 → F.length + k ≤ 60000 → Calls Tryd.prog 15 #[.map (some bm), vp, swpV l, vm] w (AdPost base vp vs PS vm F (allF k l) w)
set_option maxRecDepth 100000 in
set_option maxHeartbeats 8000000 in
theorem addPlays_more (n bm q : Nat) (f : List UInt8) (D : DataW Unit) (hgf : goodT n f) (h8 : n ≤ 8) (hv : LiveV D (swA f)) (k : Nat) (ih : AdAll bm q f D k) : AdAll bm q f D (k + 1) := by
  intro l base vp vs PS vm F w hin h0 hk hm hbb hbw hp hvm hap hPS hF
  obtain ⟨i0, hi, hz0, hz1, hz2⟩ := info_parts Tryd.infoM
  have HI := Lib.hid hi
  have HZ0 := Lib.hid hz0
  have HZ1 := Lib.hid hz1
  have HZ2 := Lib.hid hz2
  clear hi hz0 hz1 hz2
  have hg := swA_good hgf l hin
  have hl8 := (G8.of hg h8).len
  have HMO := Lib.hid (fun wx hm => movesOn_any n f l bm q D wx hgf h8 hin hm hv)
  have HBH := Lib.hid (fun a c wx ha hc hne => swBehind_any n l a c wx hg h8 ha hc hne)
  obtain ⟨c0, c1, c2, c3, c4, c5, c6, c7, hc⟩ := eight_of hl8
  rw [hc.val] at HMO HBH ⊢
  have hMne : 0 < (lvL l).length := by
    have := lv_some hg h0 hk
    exact List.length_pos_iff.2 this
  have hMle : (lvL l).length ≤ 8 := Nat.le_trans (List.length_filter_le _ _) (Nat.le_trans (mvL_le l) hl8)
  have HTL := Lib.hid (allF_len (k + 1) l hg h0 hk)
  have HT0 := Lib.hid (allT_zero k l)
  have HTA := Lib.hid (allT_all k l)
  have HTN := Lib.hid (allT_next k l)
  have HTLE := Lib.hid (allT_le k l)
  have HAT : Hid (∀ j (h : j < (lvL l).length), ∃ a c : Nat, (lvL l)[j] = ((a : Int), (c : Int)) ∧ a < (str l).size ∧ c < (str l).size ∧ a ≠ c ∧ behind (str l) (a : Int) (c : Int) ∈ swA f ∧ 0 < swN (behind (str l) (a : Int) (c : Int)) ∧ msL (behind (str l) (a : Int) (c : Int)) = (k : Int)) := Lib.hid fun j h => by
    have hmem : (lvL l)[j] ∈ lvL l := List.getElem_mem h
    obtain ⟨h1, h2, h3, h4⟩ := lv_next hg hmem
    obtain ⟨i, hi, e⟩ := List.getElem_of_mem (List.mem_filter.1 hmem).1
    obtain ⟨a, c, e1, e2, ha, hc, hne, _⟩ := mvL_at l i hi
    rw [e] at e1 e2
    refine ⟨a, c, Prod.ext e1 e2, ha, hc, hne, ?_⟩
    rw [e1, e2] at h1 h2 h4
    exact ⟨swA_closed hgf hin h1, h2, by omega⟩
  have HP := Lib.hid hp
  have HVM := Lib.hid hvm
  have HM := Lib.hid hm
  have HAP := Lib.hid hap
  have HIH := Lib.hid ih
  have HY8 := Lib.hid (fun y (hy : y ∈ swA f) => G8.of (swA_good hgf y hy) h8)
  have HALL := Lib.hid (fun y (hy : y ∈ swA f) (hy0 : 0 < swN y) (hyk : msL y = (k : Int)) => allF_len k y (swA_good hgf y hy) hy0 hyk)
  clear hp hvm hm hap hc hin hl8 hv hgf hg ih h0 hk h8
  generalize hAF : allF (k + 1) l = AF at HTL HTA HTLE ⊢
  clear hAF
  generalize hTT : allT k l = TT at HT0 HTA HTN HTLE
  clear hTT
  go_enter Tryd.func15, Tryd.ntmps15
  go_upto_region 1 with fail
  generalize hW0 : w.alloc (Obj.cells #[.int .u8 c0, .int .u8 c1, .int .u8 c2, .int .u8 c3, .int .u8 c4, .int .u8 c5, .int .u8 c6, .int .u8 c7] 39) = W0
  have hb0 : Below w.heap.size w W0 := by rw [← hW0]; exact (Below.refl _ _).alloc (Nat.le_refl _) _
  have hx0 : Box8 W0 w.heap.size c0 c1 c2 c3 c4 c5 c6 c7 := by rw [← hW0]; exact Box8.new _ _ _ _ _ _ _ _ _
  have HM0 := Lib.hid (HM.out.kept (grown_of_below hb0) (by simp))
  have HB0 := Lib.hid hb0
  have HX0 := Lib.hid hx0
  obtain ⟨q0, q1, q2, q3, q4, q5, q6, q7⟩ := hx0.cells.zero
  clear hW0 hb0 hx0
  go_wp2_with fail
  refine (HMO.out _ HM0.out).mono ?_
  rintro e w2 ⟨v2, rfl, ho2, hb2⟩
  obtain ⟨A2, cap2, rfl, at2⟩ := at_of_own ho2
  have HB2 := Lib.hid (HB0.out.trans (hb2.mono HB0.out.size))
  have HX2 := Lib.hid (HX0.out.kept (grown_of_below hb2) (by simp))
  have HG2 : Hid (∀ g, A2 = some ⟨g, 0, none⟩ → w.heap.size ≤ g) := Lib.hid fun g e => Nat.le_trans HB0.out.size (ho2.lt g (by rw [e]; rfl)).1
  have AT2 := Lib.hid at2
  have hw2 : w.heap.size ≤ w2.heap.size := HB2.out.size
  have HR2 : Hid (AdR base vp vs vm F w2 (PS ++ (TT 0).map (F ++ ·)) vp w2) := Lib.hid (by
    rw [HT0.out]
    simp only [List.map_nil, List.append_nil]
    exact AdR.start (HP.out.below HB2.out) (own_below HVM.out HB2.out))
  have hne0 : (((lvL l).length : Int) == 0) = false := by
    have : ((lvL l).length : Int) ≠ 0 := by omega
    simpa using this
  clear ho2 hb2 at2 q0 q1 q2 q3 q4 q5 q6 q7 HMO HM0
  generalize hMe : lvL l = M at *
  clear hMe
  go_wp2_with fail
  go_loopw [1, 25] (fun v t wr => ∃ j : Nat, j ≤ M.length ∧ t = .int .i64 j ∧ AdR base vp vs vm F w2 (PS ++ (TT j).map (F ++ ·)) v wr) (fun _ t _ => M.length - (intOf t).toNat)
  case atStart => exact ⟨0, Nat.zero_le _, rfl, HR2.out⟩
  case round =>
    obtain ⟨j, hj, rfl, hR⟩ := hrel
    obtain ⟨U, hU⟩ : ∃ U : World, U = wr := ⟨_, rfl⟩
    subst hU
    have HR := Lib.hid hR
    clear HR2
    by_cases hlt : j < M.length
    · obtain ⟨a, c, hMj, ha, hc', hne, hyin, hy0, hyk⟩ := HAT.out j hlt
      obtain ⟨gm, rfl, hgm, m0, m1⟩ := AT2.out j hlt
      have hgw := HG2.out gm rfl
      have hvp : ∀ g, vp.ownBlock = some g → g < w.heap.size := fun g hg => (HP.out.out.lt g hg).2
      have hvmb : ∀ g, vm.ownBlock = some g → g < w.heap.size := fun g hg => (HVM.out.lt g hg).2
      have hblk : ∀ g, w.heap.size ≤ g → g < w2.heap.size → U.heap[g]? = w2.heap[g]? := fun g h1 h2 => hR.fr.block g h2 (fun e => by have := hvp g e.symm; omega) (fun e => by have := hvmb g e.symm; omega)
      replace m0 := (World.cell?_of_block (a := ⟨gm, j * 2, none⟩) (hblk gm hgw hgm)).trans m0
      replace m1 := (World.cell?_of_block (a := ⟨gm, j * 2 + 1, none⟩) (hblk gm hgw hgm)).trans m1
      have hxU : Box8 U w.heap.size c0 c1 c2 c3 c4 c5 c6 c7 := (hblk w.heap.size (Nat.le_refl _) HX2.out.lt).trans HX2.out
      rw [hMj] at m0 m1
      have m0 : U.cell? ⟨gm, j * 2, none⟩ = some (.int .i64 (a : Int)) := m0
      have m1 : U.cell? ⟨gm, j * 2 + 1, none⟩ = some (.int .i64 (c : Int)) := m1
      have j1 : (0 : Int) ≤ (j : Int) := by omega
      have j2 : (j : Int) < (M.length : Int) := by omega
      obtain ⟨e0, e1, e2, e3, e4, e5, e6, e7, he⟩ := eight_of (HY8.out _ hyin).len
      have HBH2 := Lib.hid (fun wx => HBH.out a c wx ha hc' hne)
      have hnext := HTN.out j hlt
      rw [hMj] at hnext
      have hnext : TT (j + 1) = TT j ++ (allF k (behind (str l) (a : Int) (c : Int))).map (((a : Int), (c : Int)) :: ·) := hnext
      have hcnt : (PS ++ (TT j).map (F ++ ·)).length + swN (behind (str l) (a : Int) (c : Int)) ≤ 1000 := by
        have h1 := HTLE.out (j + 1)
        have h2 := HTL.out
        rw [hnext, List.length_append, List.length_map, HALL.out _ hyin hy0 hyk] at h1
        rw [List.length_append, List.length_map]
        omega
      go_upto_block 1 with fail
      go_cut [1, 11] from 27 to 39 (fun s1 s11 wz => Hid (AdR base vp vs vm F w2 (PS ++ (TT (j + 1)).map (F ++ ·)) s1 wz))
      case first =>
        go_upto_region 7 with fail
        generalize hV1 : U.alloc (Obj.cells #[Value.int IntKind.i64 ↑a, Value.int IntKind.i64 ↑c] 55) = V1
        have hbv : Below U.heap.size U V1 := by rw [← hV1]; exact (Below.refl _ _).alloc (Nat.le_refl _) _
        have p0 : V1.cell? ⟨U.heap.size, 0, none⟩ = some (.int .i64 a) := by rw [← hV1, World.cell?_alloc_new]; rfl
        have p1 : V1.cell? ⟨U.heap.size, 1, none⟩ = some (.int .i64 c) := by rw [← hV1, World.cell?_alloc_new]; rfl
        have zv1 : U.heap.size < V1.heap.size := by rw [← hV1]; simp
        have hxV : Box8 V1 w.heap.size c0 c1 c2 c3 c4 c5 c6 c7 := hxU.kept (grown_of_below hbv) (by simp)
        obtain ⟨q0, q1, q2, q3, q4, q5, q6, q7⟩ := hxV.cells.zero
        have zvw : w.heap.size < V1.heap.size := hxV.lt
        have HRX : Hid (∀ wx, Below V1.heap.size V1 wx → AdR base vp vs vm F w2 (PS ++ (TT j).map (F ++ ·)) u1 wx) := Lib.hid fun wx hb => (HR.out.below hbv).below hb
        have HBW : Hid (∀ wx, Below V1.heap.size V1 wx → base ≤ wx.heap.size) := Lib.hid fun wx hb => by have h1 := (HRX.out wx hb).fr.size; omega
        have HFIN : Hid (∀ wp w8 v', Below V1.heap.size V1 wp → wp.grownBy w8 vm.ownBlock → Lies wp w8 vm v' F.length 1 → w8.ownsRow base 55 2 v' (F.length + 1) (flat F ++ [.int .i64 (a : Int), .int .i64 (c : Int)]) →
            Calls Tryd.prog 15 #[.map (some bm), u1, swpV (behind (str l) (a : Int) (c : Int)), v'] w8 fun e w9 => ∃ v9, e = .returned v9 ∧ AdR base vp vs vm F w2 (PS ++ (TT (j + 1)).map (F ++ ·)) v9 w9) := Lib.hid fun wp w8 v' hbp hg8 hL8 hrow8 => by
          obtain ⟨vs9, b1, b2, b3, b4, b5⟩ := (HRX.out wp hbp).ready (m := ((a : Int), (c : Int))) (own_below HVM.out HB2.out) HAP.out hg8 hL8 hrow8 (Below.refl _ _)
          have hmap := map_belowS HM.out (HB2.out.mono hbw |>.trans (b4.below (Nat.le_trans hbw hw2) (fun g e => (HP.out.out.lt g e).1) (fun g e => (HVM.out.lt g e).1))) hbb
          refine (HIH.out _ base u1 vs9 _ v' (F ++ [((a : Int), (c : Int))]) w8 hyin hy0 hyk hmap hbb (by have := b4.size; omega) b1 b2 b3 hcnt (by rw [List.length_append]; show F.length + 1 + k ≤ 60000; omega)).mono ?_
          rintro e w9 ⟨v9, rfl, h9⟩
          refine ⟨v9, rfl, ?_⟩
          have := b5 _ _ _ h9
          rw [hnext, List.map_append, List.map_map, ← List.append_assoc]
          simpa [Function.comp_def] using this
        rw [he.val] at HBH2 HFIN
        have HCB : Hid (∀ W1 wx : World, W1.heap = (V1.alloc (Obj.cells #[.int .i64 (a : Int), .int .i64 (c : Int)] 55)).heap → Below W1.heap.size W1 wx → ∀ j u, [Value.int .i64 (a : Int), Value.int .i64 (c : Int)][j]? = some u → wx.cell? ((⟨V1.heap.size, 0, none⟩ : Addr).add j) = some u) := Lib.hid fun W1 wx hW hb j u hu => by
          rw [← cell_two_new V1 (.int .i64 (a : Int)) (.int .i64 (c : Int)) 55 j u hu]
          have h1 : W1.cell? ((⟨V1.heap.size, 0, none⟩ : Addr).add j) = (V1.alloc (Obj.cells #[.int .i64 (a : Int), .int .i64 (c : Int)] 55)).cell? ((⟨V1.heap.size, 0, none⟩ : Addr).add j) := World.cell?_of_block (by rw [hW])
          rw [← h1]
          refine hb.cell ?_
          rw [hW]
          simp [addr_add]
        have H1 : ∀ u ∈ [Value.int .i64 (a : Int), Value.int .i64 (c : Int)], u.oneCell' = true := fun u hu => by simp at hu; rcases hu with rfl | rfl <;> rfl
        have H3 : F.length + 1 ≤ maxLen := by unfold maxLen; omega
        have H4 : (F.length + 1) * 16 ≤ 140737488355328 := by omega
        clear hV1 hbv hxU hxV m0 m1 hR he hcnt hnext hblk hvp hvmb HR hMj
        go_region_law (first
          | (go_simp; go_at_call 33; refine (HBH2.out _).mono ?_; rintro e wa ⟨rfl, hba⟩; have hB : Below V1.heap.size V1 wa := Below.trans (by repeat first | with_reducible exact hB | with_reducible exact Below.refl _ _ | with_reducible refine Below.drew ?_ | with_reducible refine Below.alloc ?_ (Nat.le_refl _) _) (hba.mono (Below.size (B := V1.heap.size) (w := V1) (by repeat first | with_reducible exact hB | with_reducible exact Below.refl _ _ | with_reducible refine Below.drew ?_ | with_reducible refine Below.alloc ?_ (Nat.le_refl _) _))); have p0 := (hB.cell (p := ⟨U.heap.size, 0, none⟩) zv1).trans p0; have p1 := (hB.cell (p := ⟨U.heap.size, 1, none⟩) zv1).trans p1)
          | (refine step_append_made _ rfl _ _ 36 rfl base 55 i0 (.agg #[.int .i64 0, .int .i64 0]) 2 16 Tryd.underlying36 HI.out HZ0.out HZ1.out HZ2.out rfl (by decide) vm F.length _ rfl ((HRX.out wa hB).made.alloc _) ⟨wa.heap.size, 0, none⟩ 1 1 [.int .i64 (a : Int), .int .i64 (c : Int)] rfl rfl (cell_two_new wa _ _ _) H1 (by decide) H3 H4 (by have := HBW.out wa hB; simp; omega) ?_; intro v8 w8 hrow8 hg8 hL8; have hBp : Below V1.heap.size V1 (wa.alloc (Obj.cells #[.int .i64 (a : Int), .int .i64 (c : Int)] 55)) := hB.alloc hB.size _)
          | (go_simp; go_at_call 15; refine (HFIN.out _ _ _ hBp hg8 hL8 hrow8).mono ?_; rintro e w9 ⟨v9, rfl, hr9⟩)
          | (refine step_append_made _ rfl _ _ 36 rfl base 55 i0 (.agg #[.int .i64 0, .int .i64 0]) 2 16 Tryd.underlying36 HI.out HZ0.out HZ1.out HZ2.out rfl (by decide) vm F.length _ rfl (HRX.out wa hB).made ⟨V1.heap.size, 0, none⟩ 1 1 [.int .i64 (a : Int), .int .i64 (c : Int)] rfl rfl (HCB.out _ wa (by exact rfl) hba) H1 (by decide) H3 H4 (HBW.out wa hB) ?_; intro v8 w8 hrow8 hg8 hL8; have hBp := hB))
        all_goals (go_wp2_with fail; go_meet)
        all_goals exact Lib.hid hr9
      case rest =>
        have HR9 := hcut
        go_wp2_with fail
        go_roundw
        case rel => exact ⟨j + 1, by omega, by go_num, HR9.out⟩
        case measure => simp [intOf]; omega
    · obtain rfl : j = M.length := by omega
      have hR2 := HR.out
      rw [HTA.out] at hR2
      have HRE := Lib.hid hR2
      clear hR2 HR hR
      go_wp2_with fail
      go_ret
      exact ⟨_, rfl, AdR.from HRE.out HB2.out⟩
theorem addPlays_any (n bm q : Nat) (f : List UInt8) (D : DataW Unit) (hgf : goodT n f) (h8 : n ≤ 8) (hv : LiveV D (swA f)) : ∀ k, AdAll bm q f D k
  | 0 => fun l base vp vs PS vm F w hin _ hk hm _ hbw hp hvm _ hPS hF => addPlays_end n bm q f l D base vp vs PS vm F w hgf h8 hv hin (lv_nil (swA_good hgf l hin) hk) hm hbw hp hvm (by omega) (by omega)
  | k + 1 => addPlays_more n bm q f D hgf h8 hv k (addPlays_any n bm q f D hgf h8 hv k)
end Go.Proofs.YtfiifjcjmnhbnaaDoor
