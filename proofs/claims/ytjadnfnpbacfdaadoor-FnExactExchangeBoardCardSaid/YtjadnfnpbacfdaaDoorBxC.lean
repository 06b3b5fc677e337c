/- ExchangeBoard: the model's side. -/
import Derived.Test.YtjadnfnpbacfdaaDoorBxB
import Derived.Test.YtjadnfnpbacfdaaDoorSwG
namespace Go.Proofs.YtjadnfnpbacfdaaDoor
open Go.RowKit

theorem Tryd.infoBoX : (Tryd.prog.info? 4).map (fun i => (i.zero, i.size, i.bytes)) = some (some (.bool false), 1, 1) := by kernel_rfl
/-- Where the gap has been, as marks. -/
def DnAt (w : World) (g N : Nat) (G : List Int) : Prop := ∀ j, j < N → w.cell? ⟨g, j, none⟩ = some (.bool (decide ((j : Int) ∈ G))) ∧ w.frozen? ⟨g, j, none⟩ = false
theorem DnAt.same {w : World} {g N x : Nat} {G : List Int} (h : DnAt w g N G) (hx : (x : Int) ∈ G) : DnAt w g N (G ++ [(x : Int)]) := fun j hj => by
  obtain ⟨h1, h2⟩ := h j hj
  refine ⟨?_, h2⟩
  rw [h1]
  by_cases e : (j : Int) = x
  · rw [e]; simp [hx]
  · simp [e]
theorem DnAt.set {w : World} {g N x : Nat} {G : List Int} (h : DnAt w g N G) (hx : x < N) : DnAt (w.setCell ⟨g, x, none⟩ (.bool true)) g N (G ++ [(x : Int)]) := fun j hj => by
  obtain ⟨h1, h2⟩ := h j hj
  refine ⟨?_, by simpa using h2⟩
  by_cases e : j = x
  · subst e
    rw [World.cell?_setCell_same _ _ _ h1]
    simp
  · rw [World.cell?_setCell_other _ _ _ _ (by intro e2; injection e2 with _ e2; omega), h1]
    have : ¬ (j : Int) = x := by omega
    simp [this]
theorem DnAt.grown {w w' : World} {g N : Nat} {G : List Int} {o : Option Nat} (h : DnAt w g N G) (hg : w.grownBy w' o) (hlt : g < w.heap.size) (hne : some g ≠ o) : DnAt w' g N G := fun j hj => by
  obtain ⟨h1, h2⟩ := h j hj
  exact ⟨(cell_of_blk (hg.block g hlt hne)).trans h1, (World.frozen?_of_block (a := ⟨g, j, none⟩) (hg.block g hlt hne)).trans h2⟩
theorem wrp {p wd q : Nat} (hp : p ≤ 5) (hw : wd ≤ 5) (hq : q ≤ 5) : IntKind.i64.wrap ((p : Int) * (wd : Int)) = (p : Int) * (wd : Int) ∧ IntKind.i64.wrap ((p : Int) * (wd : Int) + (q : Int)) = (p : Int) * (wd : Int) + (q : Int) := by
  have h : p * wd ≤ 5 * 5 := Nat.mul_le_mul hp hw
  have h2 : ((p * wd : Nat) : Int) = (p : Int) * (wd : Int) := by push_cast; rfl
  constructor
  · rw [IntKind.wrap_i64]; omega
  · rw [IntKind.wrap_i64]; omega
set_option maxRecDepth 100000 in
set_option maxHeartbeats 16000000 in
theorem boExchange_any (wide high : Nat) (w : World) (hw : wide ≤ 2) (hh : high ≤ 2) :
    Calls Tryd.prog 73 #[.int .i64 wide, .int .i64 high] w fun e w' => ∃ v, e = .returned v ∧ w'.ownsRow w.heap.size 64 2 v (xbL wide high).length (flat (xbL wide high)) ∧ Below w.heap.size w w' := by
  obtain ⟨i0, hi, hz0, hz1, hz2⟩ := info_parts Tryd.infoM
  have HI := Lib.hid hi
  have HZ0 := Lib.hid hz0
  have HZ1 := Lib.hid hz1
  have HZ2 := Lib.hid hz2
  clear hi hz0 hz1 hz2
  obtain ⟨iB, hi, hz0, hz1, hz2⟩ := info_parts Tryd.infoBoX
  have BI := Lib.hid hi
  have BZ0 := Lib.hid hz0
  have BZ1 := Lib.hid hz1
  have hbytes : iB.bytes * (2 * high + 1) ≤ 281474976710656 := by rw [hz2]; omega
  have hmx : 2 * high + 1 ≤ maxLen := by unfold maxLen; omega
  clear hi hz0 hz1 hz2
  have HFH := Lib.hid (fun wx => swOne_first (high : Int) 1 (high : Int) wx (half_has hh))
  have HFW := Lib.hid (fun wx => swOne_first (wide : Int) 1 (wide : Int) wx (half_has hw))
  unfold FxYes at HFH HFW
  rw [show movX false (high : Int) 1 (high : Int) = exA high from rfl] at HFH
  rw [show movX false (wide : Int) 1 (wide : Int) = exA wide from rfl] at HFW
  have HIA := Lib.hid (exA_in (n := wide))
  have HID := Lib.hid (exA_in (n := high))
  have hAl := exA_len hw
  have hDl := exA_len hh
  have e1 : ((2 * wide + 1 : Nat) : Int) = 2 * (wide : Int) + 1 := by push_cast; rfl
  have e2 : ((2 * high + 1 : Nat) : Int) = 2 * (high : Int) + 1 := by push_cast; rfl
  have ew1 : IntKind.i64.wrap (2 * (wide : Int)) = 2 * (wide : Int) := by rw [IntKind.wrap_i64]; omega
  have ew2 : IntKind.i64.wrap (2 * (wide : Int) + 1) = ((2 * wide + 1 : Nat) : Int) := by rw [IntKind.wrap_i64]; omega
  have eh1 : IntKind.i64.wrap (2 * (high : Int)) = 2 * (high : Int) := by rw [IntKind.wrap_i64]; omega
  have eh2 : IntKind.i64.wrap (2 * (high : Int) + 1) = ((2 * high + 1 : Nat) : Int) := by rw [IntKind.wrap_i64]; omega
  have hwd : wide < 2 * wide + 1 := by omega
  have hhd : high < 2 * high + 1 := by omega
  have HXN := Lib.hid (fun k => xbY_next (2 * wide + 1) wide high (exA wide) (exA high) k)
  have HXX : Hid (∀ k, xbX (2 * wide + 1) wide high (exA wide) (exA high) k = xbY (2 * wide + 1) wide high (exA wide) (exA high) k ++ rowsk (2 * wide + 1) high (exA wide) (exA high) k) := Lib.hid fun k => rfl
  have HGN := Lib.hid (fun k => gaps_next high (exA high) k)
  have HGI := Lib.hid (gapk_in hhd (fun m hm => HID.out m hm))
  have HXL := Lib.hid (fun k => xbX_len (2 * wide + 1) wide high (exA wide) (exA high) k)
  have HYL := Lib.hid (fun k => xbY_len (2 * wide + 1) wide high (exA wide) (exA high) k)
  have HRK : Hid (∀ k, rowsk (2 * wide + 1) high (exA wide) (exA high) k = if gapk high (exA high) k ∈ gaps high (exA high) k then [] else (exA wide).map (rowm (2 * wide + 1) (gapk high (exA high) k))) := Lib.hid fun k => rfl
  have HGD : Hid (∀ k (h : k < (exA high).length), gapk high (exA high) (k + 1) = (exA high)[k].1) := Lib.hid fun k h => by
    show ((exA high).getD k (0, 0)).1 = _
    rw [getD_D h]
  have HG0 : Hid (gapk high (exA high) 0 = (high : Int)) := Lib.hid rfl
  have HGS0 : Hid (gaps high (exA high) 0 = []) := Lib.hid rfl
  have HY0 : Hid (xbY (2 * wide + 1) wide high (exA wide) (exA high) 0 = []) := Lib.hid rfl
  unfold xbL
  generalize hwdE : 2 * wide + 1 = wd at *
  generalize hhtE : 2 * high + 1 = ht at *
  generalize xbX wd wide high (exA wide) (exA high) = X at *
  generalize xbY wd wide high (exA wide) (exA high) = Y at *
  generalize rowsk wd high (exA wide) (exA high) = R at *
  generalize gapk high (exA high) = G at *
  generalize gaps high (exA high) = GS at *
  generalize exA wide = A at *
  generalize exA high = D at *
  have hwd5 : wd ≤ 5 := by omega
  have hht5 : ht ≤ 5 := by omega
  have HWDE := Lib.hid hwdE
  have HHTE := Lib.hid hhtE
  clear hwdE hhtE e1 e2
  go_enter Tryd.func73, Tryd.ntmps73
  go_wp2_with fail
  refine (HFW.out _).mono ?_
  rintro e w1 ⟨vA, rfl, hoA, hb1⟩
  obtain ⟨Tryd', cA, rfl, _, _, hatA⟩ := mv_ownX hoA
  have HA1 := Lib.hid hatA
  have HB1 := Lib.hid hb1
  clear hoA hatA hb1
  go_wp2_with fail
  refine (HFH.out _).mono ?_
  rintro e w2 ⟨vD, rfl, hoD, hb2⟩
  obtain ⟨AD, cD, rfl, _, _, hatD⟩ := mv_ownX hoD
  have HD2 := Lib.hid hatD
  have HA2 := Lib.hid (HA1.out.below hb2)
  have HB2 := Lib.hid (HB1.out.trans (hb2.mono HB1.out.size))
  clear hoD hatD hb2 HA1 HB1 HFH HFW
  go_wp2_with (at_make; refine wpList_make_full _ rfl (.tmp 33) (.tmp 33) 120 rfl w2.heap.size 4 iB (.bool false) 1 Tryd.underlying120 BI.out BZ0.out BZ1.out .i64 .i64 (ht : Int) (ht : Int) ht rfl rfl rfl rfl hbytes hmx (Nat.le_refl _) ?_; intro w3 hown hgrow)
  have HB3 : Hid (Below w2.heap.size w2 w3) := Lib.hid ((Below.refl _ _).grown hgrow (Nat.le_refl _) (fun k e => by cases e))
  rw [Nat.mul_one, made_one _ rfl] at hown
  have hz23 : w2.heap.size < w3.heap.size := by
    obtain ⟨q, c, e1, _, b2, _⟩ := own_op hown (by omega)
    injection e1 with e1 _ _
    injection e1 with e1
    injection e1 with e1
    omega
  have HD3 : Hid (DnAt w3 w2.heap.size ht (GS 0)) := Lib.hid (by
    rw [HGS0.out]
    obtain ⟨q, c, e1, _, _, _, _, b4⟩ := own_op hown (by omega)
    injection e1 with e1 _ _
    injection e1 with e1
    injection e1 with e1
    subst e1
    intro j hj
    refine ⟨?_, hown.frozenAt j⟩
    rw [b4 j (by simpa using hj)]
    simp)
  have hzw2 := HB2.out.size
  have HO3 : Hid (w3.ownsRow (w2.heap.size + 1) 64 2 (.slice none 0 0) (Y 0).length (flat (Y 0))) := Lib.hid (by rw [HY0.out]; exact World.ownsRow_nil _ _ _ _)
  clear hown hgrow
  go_loopw [11, 12, 13] (fun v g i wr => ∃ k : Nat, k ≤ D.length ∧ i = .int .i64 k ∧ g = .int .i64 (G k) ∧ Hid (wr.ownsRow (w2.heap.size + 1) 64 2 v (Y k).length (flat (Y k))) ∧ Hid (DnAt wr w2.heap.size ht (GS k)) ∧ Hid (Below w2.heap.size w2 wr) ∧ w2.heap.size < wr.heap.size) (fun _ _ i _ => D.length - (intOf i).toNat)
  case atStart => exact ⟨0, Nat.zero_le _, rfl, by rw [HG0.out], HO3, HD3, HB3, hz23⟩
  case round =>
    obtain ⟨k, hk, rfl, rfl, HO, HDN, HB, hzr⟩ := hrel
    obtain ⟨W, hW⟩ : ∃ W : World, W = wr := ⟨_, rfl⟩
    subst hW
    obtain ⟨v0, hv0⟩ : ∃ v0, v0 = u11 := ⟨_, rfl⟩
    subst hv0
    clear HO3 HD3 HB3
    obtain ⟨x, hGx, hx⟩ := HGI.out k hk
    obtain ⟨cdn, fdn⟩ := HDN.out x hx
    have hRk := HRK.out k
    have hXk := HXX.out k
    have hGk := HGN.out k
    rw [hGx] at hRk hGk
    rw [hGx]
    have x1 : (0 : Int) ≤ (x : Int) := by omega
    have x2 : (x : Int) < (ht : Int) := by omega
    by_cases hin : (x : Int) ∈ GS k
    · rw [decide_eq_true hin] at cdn
      rw [if_pos hin] at hRk
      have HOX : Hid (W.ownsRow (w2.heap.size + 1) 64 2 v0 (X k).length (flat (X k))) := Lib.hid (by rw [hXk, hRk, List.append_nil]; exact HO.out)
      have HDX : Hid (DnAt W w2.heap.size ht (GS (k + 1))) := Lib.hid (by rw [hGk]; exact HDN.out.same hin)
      have HBX := HB
      clear hRk hXk hGk HO HDN HB
      have hxk := HXL.out k
      have hxl : (X k).length ≤ 100 := by
        have h1 : k * (A.length + 1) ≤ 8 * 9 := Nat.mul_le_mul (by omega) (by omega)
        omega
      by_cases hlt : k < D.length
      · obtain ⟨gd, rfl, z1, p0, q0⟩ := HD2.out k hlt
        obtain ⟨a, b, e1', ha, hb⟩ := HID.out D[k] (List.getElem_mem hlt)
        have HGK0 := HGD.out k hlt
        have HYK0 := HXN.out k
        rw [getD_D hlt, e1'] at HYK0
        rw [e1'] at HGK0 p0 q0
        have p1 := (HBX.out.cell (p := ⟨gd, k * 2, none⟩) z1).trans p0
        have q1 := (HBX.out.cell (p := ⟨gd, k * 2 + 1, none⟩) z1).trans q0
        have HP0 := Lib.hid p0
        clear p0 q0
        have HGK := Lib.hid HGK0
        have HYK : Hid (Y (k + 1) = X k ++ [((a : Int) * (wd : Int) + (wide : Int), (b : Int) * (wd : Int) + (wide : Int))]) := Lib.hid HYK0
        clear HGK0 HYK0 e1'
        have i5 : (0 : Int) ≤ (k : Int) := by omega
        have i6 : (k : Int) < (D.length : Int) := by omega
        have hke : ((k : Int) == (D.length : Int)) = false := by simp; omega
        obtain ⟨wa1, wa2⟩ := wrp (p := a) (wd := wd) (q := wide) (by omega) hwd5 (by omega)
        obtain ⟨wb1, wb2⟩ := wrp (p := b) (wd := wd) (q := wide) (by omega) hwd5 (by omega)
        have H1 : ∀ u ∈ [Value.int .i64 ((a : Int) * (wd : Int) + (wide : Int)), Value.int .i64 ((b : Int) * (wd : Int) + (wide : Int))], u.oneCell' = true := fun u hu => by simp at hu; rcases hu with rfl | rfl <;> rfl
        have H3 : (X k).length + 1 ≤ maxLen := by unfold maxLen; omega
        have H4 : ((X k).length + 1) * 16 ≤ 140737488355328 := by omega
        have H5 : ∀ o, ((W.alloc o).drew).heap.size = W.heap.size + 1 := fun o => by show (W.alloc _).heap.size = _; simp
        go_wp2_with fail
        go_region_law (first | (refine step_append_lies _ rfl _ _ 22 rfl (w2.heap.size + 1) 64 i0 (.agg #[.int .i64 0, .int .i64 0]) 2 16 Tryd.underlying22 HI.out HZ0.out HZ1.out HZ2.out rfl (by decide) _ (X k).length _ rfl (show ((W.alloc (Obj.cells #[.int .i64 ((a : Int) * (wd : Int) + (wide : Int)), .int .i64 ((b : Int) * (wd : Int) + (wide : Int))] 64)).drew).ownsRow (w2.heap.size + 1) 64 2 _ (X k).length (flat (X k)) from HOX.out.alloc _) ⟨W.heap.size, 0, none⟩ 1 1 [.int .i64 ((a : Int) * (wd : Int) + (wide : Int)), .int .i64 ((b : Int) * (wd : Int) + (wide : Int))] rfl rfl (fun j u h => cell_two_a8 W W.heap.size rfl _ _ 64 j u h) H1 (by decide) H3 H4 (by rw [H5]; omega) _ rfl ?_; intro g8 c8 w8 hrow8 hg8 hat8 hlt8; have HB8 : Hid (Below w2.heap.size w2 w8) := Lib.hid (Below.grown ((HBX.out.alloc (by omega) (Obj.cells #[.int .i64 ((a : Int) * (wd : Int) + (wide : Int)), .int .i64 ((b : Int) * (wd : Int) + (wide : Int))] 64)).drew) hg8 (by rw [H5]; omega) (fun j hj => by have := (HOX.out.lt j hj).1; omega)); have hz8 : w2.heap.size < w8.heap.size := (by have h1 := hg8.size; rw [H5] at h1; omega); have HD8 : Hid (DnAt w8 w2.heap.size ht (GS (k + 1))) := Lib.hid (DnAt.grown (w := (W.alloc (Obj.cells #[.int .i64 ((a : Int) * (wd : Int) + (wide : Int)), .int .i64 ((b : Int) * (wd : Int) + (wide : Int))] 64)).drew) (fun j hj => (HDX.out.grown (World.grownBy_alloc W (Obj.cells #[.int .i64 ((a : Int) * (wd : Int) + (wide : Int)), .int .i64 ((b : Int) * (wd : Int) + (wide : Int))] 64) none) (by omega) (by simp)) j hj) hg8 (by rw [H5]; omega) (fun e => by have := (HOX.out.lt _ e.symm).1; omega)); have p8 := (HB8.out.cell (p := ⟨gd, k * 2, none⟩) z1).trans HP0.out))
        all_goals
          clear p1 q1
          go_wp2
          go_roundw
          case rel =>
            refine ⟨k + 1, by omega, by go_num, by rw [HGK.out], Lib.hid ?_, HD8, HB8, hz8⟩
            rw [HYK.out, List.length_append, flat_app]
            exact hrow8
          case measure => simp [intOf]; omega
      · obtain rfl : k = D.length := by omega
        go_wp2
        go_ret
        exact ⟨_, rfl, own_lowerW HOX.out (by omega), HB2.out.trans (HBX.out.mono hzw2)⟩
    · rw [decide_eq_false hin] at cdn
      rw [if_neg hin] at hRk
      go_wp2_with fail
      obtain ⟨W1, hW1⟩ : ∃ W1, W1 = W.setCell ⟨w2.heap.size, x, none⟩ (.bool true) := ⟨_, rfl⟩
      rw [← hW1]
      have hgs : W.grownBy W1 (some w2.heap.size) := by rw [hW1]; exact ⟨rfl, rfl, rfl, by simp, fun k _ hk => Below.heap_setCell _ _ _ _ (fun e => hk (by rw [e]))⟩
      have HO1 : Hid (W1.ownsRow (w2.heap.size + 1) 64 2 v0 ((Y k).length + 0) (flat (Y k ++ (A.take 0).map (rowm wd (x : Int))))) := Lib.hid (by
        rw [List.take_zero, List.map_nil, List.append_nil, Nat.add_zero]
        exact HO.out.kept hgs (.inr (fun e => by have := (HO.out.lt _ e).1; omega)))
      have HD1 : Hid (DnAt W1 w2.heap.size ht (GS (k + 1))) := Lib.hid (by rw [hGk, hW1]; exact HDN.out.set hx)
      have HB1 : Hid (Below w2.heap.size w2 W1) := Lib.hid (by rw [hW1]; exact HB.out.setCell (Nat.le_refl _) _)
      have hz1 : w2.heap.size < W1.heap.size := by rw [hW1]; simpa using hzr
      have HXK : Hid (X k = Y k ++ A.map (rowm wd (x : Int))) := Lib.hid (by rw [hXk, hRk])
      have hyl : (Y k).length ≤ 100 := by
        have h1 : k * (A.length + 1) ≤ 8 * 9 := Nat.mul_le_mul (by omega) (by omega)
        have := HYL.out k
        omega
      clear hRk hXk hGk HO HDN HB hgs hW1 cdn fdn hzr
      go_loopw [11, 48] (fun v i wr => ∃ j : Nat, j ≤ A.length ∧ i = .int .i64 j ∧ Hid (wr.ownsRow (w2.heap.size + 1) 64 2 v ((Y k).length + j) (flat (Y k ++ (A.take j).map (rowm wd (x : Int))))) ∧ Hid (DnAt wr w2.heap.size ht (GS (k + 1))) ∧ Hid (Below w2.heap.size w2 wr) ∧ w2.heap.size < wr.heap.size) (fun _ i _ => A.length - (intOf i).toNat)
      case atStart => exact ⟨0, Nat.zero_le _, rfl, HO1, HD1, HB1, hz1⟩
      case round =>
        obtain ⟨j, hj, rfl, HO, HDX, HBX, hzr⟩ := hrel
        obtain ⟨V, hV⟩ : ∃ V : World, V = wr := ⟨_, rfl⟩
        subst hV
        obtain ⟨v1, hv1⟩ : ∃ v1, v1 = u11 := ⟨_, rfl⟩
        subst hv1
        clear HO1 HD1 HB1 hz1
        by_cases hlt2 : j < A.length
        · obtain ⟨ga, rfl, z1, p0, q0⟩ := HA2.out j hlt2
          obtain ⟨a, b, e1', ha, hb⟩ := HIA.out A[j] (List.getElem_mem hlt2)
          rw [e1'] at p0 q0
          have HTK : Hid (Y k ++ (A.take (j + 1)).map (rowm wd (x : Int)) = (Y k ++ (A.take j).map (rowm wd (x : Int))) ++ [((x : Int) * (wd : Int) + (a : Int), (x : Int) * (wd : Int) + (b : Int))]) := Lib.hid (by
            rw [List.take_succ_eq_append_getElem hlt2, List.map_append, e1', List.append_assoc]
            rfl)
          have p1 := (HBX.out.cell (p := ⟨ga, j * 2, none⟩) z1).trans p0
          have q1 := (HBX.out.cell (p := ⟨ga, j * 2 + 1, none⟩) z1).trans q0
          clear p0 q0 e1'
          have j5 : (0 : Int) ≤ (j : Int) := by omega
          have j6 : (j : Int) < (A.length : Int) := by omega
          obtain ⟨wa1, wa2⟩ := wrp (p := x) (wd := wd) (q := a) (by omega) hwd5 (by omega)
          obtain ⟨_, wb2⟩ := wrp (p := x) (wd := wd) (q := b) (by omega) hwd5 (by omega)
          have H1 : ∀ u ∈ [Value.int .i64 ((x : Int) * (wd : Int) + (a : Int)), Value.int .i64 ((x : Int) * (wd : Int) + (b : Int))], u.oneCell' = true := fun u hu => by simp at hu; rcases hu with rfl | rfl <;> rfl
          have H3 : (Y k).length + j + 1 ≤ maxLen := by unfold maxLen; omega
          have H4 : ((Y k).length + j + 1) * 16 ≤ 140737488355328 := by omega
          have H6 : ((V.alloc (Obj.cells #[.int .i64 (a : Int), .int .i64 (b : Int)] 64)).alloc (Obj.cells #[.int .i64 ((x : Int) * (wd : Int) + (a : Int)), .int .i64 ((x : Int) * (wd : Int) + (b : Int))] 64)).heap.size = V.heap.size + 2 := by simp
          have HO2 : Hid (((V.alloc (Obj.cells #[.int .i64 (a : Int), .int .i64 (b : Int)] 64)).alloc (Obj.cells #[.int .i64 ((x : Int) * (wd : Int) + (a : Int)), .int .i64 ((x : Int) * (wd : Int) + (b : Int))] 64)).ownsRow (w2.heap.size + 1) 64 2 v1 ((Y k).length + j) (flat (Y k ++ (A.take j).map (rowm wd (x : Int))))) := Lib.hid ((HO.out.alloc _).alloc _)
          have HB2' : Hid (Below w2.heap.size w2 ((V.alloc (Obj.cells #[.int .i64 (a : Int), .int .i64 (b : Int)] 64)).alloc (Obj.cells #[.int .i64 ((x : Int) * (wd : Int) + (a : Int)), .int .i64 ((x : Int) * (wd : Int) + (b : Int))] 64))) := Lib.hid ((HBX.out.alloc (by omega) _).alloc (by simp; omega) _)
          have HD2' : Hid (DnAt ((V.alloc (Obj.cells #[.int .i64 (a : Int), .int .i64 (b : Int)] 64)).alloc (Obj.cells #[.int .i64 ((x : Int) * (wd : Int) + (a : Int)), .int .i64 ((x : Int) * (wd : Int) + (b : Int))] 64)) w2.heap.size ht (GS (k + 1))) := Lib.hid ((HDX.out.grown (World.grownBy_alloc V (Obj.cells #[.int .i64 (a : Int), .int .i64 (b : Int)] 64) none) hzr (by simp)).grown (World.grownBy_alloc _ (Obj.cells #[.int .i64 ((x : Int) * (wd : Int) + (a : Int)), .int .i64 ((x : Int) * (wd : Int) + (b : Int))] 64) none) (by simp; omega) (by simp))
          have HLO : Hid (∀ y, v1.ownBlock = some y → w2.heap.size + 1 ≤ y) := Lib.hid fun y hy => (HO.out.lt y hy).1
          clear HO HDX HBX
          go_wp2_with (first | (at_builtin; refine wpList_append_st _ rfl _ _ 22 rfl (w2.heap.size + 1) 64 i0 (.agg #[.int .i64 0, .int .i64 0]) 2 16 Tryd.underlying22 HI.out HZ0.out HZ1.out HZ2.out rfl (by decide) _ _ _ rfl HO2.out (some ⟨V.heap.size + 1, 0, none⟩) 1 1 [Value.int .i64 ((x : Int) * (wd : Int) + (a : Int)), Value.int .i64 ((x : Int) * (wd : Int) + (b : Int))] rfl (fun e => by cases e) rfl (fun ad e j' u h => by injection e with e; subst e; exact cell_two_a8 (V.alloc (Obj.cells #[.int .i64 (a : Int), .int .i64 (b : Int)] 64)) (V.heap.size + 1) (by simp) _ _ 64 j' u h) H1 H3 H4 (by rw [H6]; omega) ?_; intro v8 w8 hown8 hg8; have hz8 := hg8.size; rw [H6] at hz8))
          go_roundw
          case rel =>
            refine ⟨j + 1, by omega, by go_num, Lib.hid ?_, Lib.hid (HD2'.out.grown hg8 (by rw [H6]; omega) (fun e => by have := HLO.out _ e.symm; omega)), Lib.hid (HB2'.out.grown hg8 (by rw [H6]; omega) (fun y hy => by have := HLO.out y hy; omega)), by omega⟩
            rw [HTK.out, flat_app]
            exact hown8
          case measure => simp [intOf]; omega
        · obtain rfl : j = A.length := by omega
          have HOX : Hid (V.ownsRow (w2.heap.size + 1) 64 2 v1 (X k).length (flat (X k))) := Lib.hid (by
            have h1 := HO.out
            rw [List.take_length, ← HXK.out] at h1
            have h2 : (X k).length = (Y k).length + A.length := by rw [HXK.out, List.length_append, List.length_map]
            rw [h2]
            exact h1)
          clear HO HXK
          have hxk := HXL.out k
          have hxl : (X k).length ≤ 100 := by
            have h1 : k * (A.length + 1) ≤ 8 * 9 := Nat.mul_le_mul (by omega) (by omega)
            omega
          by_cases hlt : k < D.length
          · obtain ⟨gd, rfl, z1, p0, q0⟩ := HD2.out k hlt
            obtain ⟨a, b, e1', ha, hb⟩ := HID.out D[k] (List.getElem_mem hlt)
            have HGK0 := HGD.out k hlt
            have HYK0 := HXN.out k
            rw [getD_D hlt, e1'] at HYK0
            rw [e1'] at HGK0 p0 q0
            have p1 := (HBX.out.cell (p := ⟨gd, k * 2, none⟩) z1).trans p0
            have q1 := (HBX.out.cell (p := ⟨gd, k * 2 + 1, none⟩) z1).trans q0
            have HP0 := Lib.hid p0
            clear p0 q0
            have HGK := Lib.hid HGK0
            have HYK : Hid (Y (k + 1) = X k ++ [((a : Int) * (wd : Int) + (wide : Int), (b : Int) * (wd : Int) + (wide : Int))]) := Lib.hid HYK0
            clear HGK0 HYK0 e1'
            have i5 : (0 : Int) ≤ (k : Int) := by omega
            have i6 : (k : Int) < (D.length : Int) := by omega
            have hke : ((k : Int) == (D.length : Int)) = false := by simp; omega
            obtain ⟨wa1, wa2⟩ := wrp (p := a) (wd := wd) (q := wide) (by omega) hwd5 (by omega)
            obtain ⟨wb1, wb2⟩ := wrp (p := b) (wd := wd) (q := wide) (by omega) hwd5 (by omega)
            have H1 : ∀ u ∈ [Value.int .i64 ((a : Int) * (wd : Int) + (wide : Int)), Value.int .i64 ((b : Int) * (wd : Int) + (wide : Int))], u.oneCell' = true := fun u hu => by simp at hu; rcases hu with rfl | rfl <;> rfl
            have H3 : (X k).length + 1 ≤ maxLen := by unfold maxLen; omega
            have H4 : ((X k).length + 1) * 16 ≤ 140737488355328 := by omega
            have H5 : ∀ o, ((V.alloc o).drew).heap.size = V.heap.size + 1 := fun o => by show (V.alloc _).heap.size = _; simp
            go_wp2_with fail
            go_region_law (first | (refine step_append_lies _ rfl _ _ 22 rfl (w2.heap.size + 1) 64 i0 (.agg #[.int .i64 0, .int .i64 0]) 2 16 Tryd.underlying22 HI.out HZ0.out HZ1.out HZ2.out rfl (by decide) _ (X k).length _ rfl (show ((V.alloc (Obj.cells #[.int .i64 ((a : Int) * (wd : Int) + (wide : Int)), .int .i64 ((b : Int) * (wd : Int) + (wide : Int))] 64)).drew).ownsRow (w2.heap.size + 1) 64 2 _ (X k).length (flat (X k)) from HOX.out.alloc _) ⟨V.heap.size, 0, none⟩ 1 1 [.int .i64 ((a : Int) * (wd : Int) + (wide : Int)), .int .i64 ((b : Int) * (wd : Int) + (wide : Int))] rfl rfl (fun j u h => cell_two_a8 V V.heap.size rfl _ _ 64 j u h) H1 (by decide) H3 H4 (by rw [H5]; omega) _ rfl ?_; intro g8 c8 w8 hrow8 hg8 hat8 hlt8; have HB8 : Hid (Below w2.heap.size w2 w8) := Lib.hid (Below.grown ((HBX.out.alloc (by omega) (Obj.cells #[.int .i64 ((a : Int) * (wd : Int) + (wide : Int)), .int .i64 ((b : Int) * (wd : Int) + (wide : Int))] 64)).drew) hg8 (by rw [H5]; omega) (fun j hj => by have := (HOX.out.lt j hj).1; omega)); have hz8 : w2.heap.size < w8.heap.size := (by have h1 := hg8.size; rw [H5] at h1; omega); have HD8 : Hid (DnAt w8 w2.heap.size ht (GS (k + 1))) := Lib.hid (DnAt.grown (w := (V.alloc (Obj.cells #[.int .i64 ((a : Int) * (wd : Int) + (wide : Int)), .int .i64 ((b : Int) * (wd : Int) + (wide : Int))] 64)).drew) (fun j hj => (HDX.out.grown (World.grownBy_alloc V (Obj.cells #[.int .i64 ((a : Int) * (wd : Int) + (wide : Int)), .int .i64 ((b : Int) * (wd : Int) + (wide : Int))] 64) none) (by omega) (by simp)) j hj) hg8 (by rw [H5]; omega) (fun e => by have := (HOX.out.lt _ e.symm).1; omega)); have p8 := (HB8.out.cell (p := ⟨gd, k * 2, none⟩) z1).trans HP0.out))
            all_goals
              clear p1 q1
              go_wp2
              go_roundw
              case rel =>
                refine ⟨k + 1, by omega, by go_num, by rw [HGK.out], Lib.hid ?_, HD8, HB8, hz8⟩
                rw [HYK.out, List.length_append, flat_app]
                exact hrow8
              case measure => simp [intOf]; omega
          · obtain rfl : k = D.length := by omega
            go_wp2
            go_ret
            exact ⟨_, rfl, own_lowerW HOX.out (by omega), HB2.out.trans (HBX.out.mono hzw2)⟩
end Go.Proofs.YtjadnfnpbacfdaaDoor
namespace Go.Proofs.YtjadnfnpbacfdaaDoor
open Go.RowKit

theorem xbR_len (a b : Int) : (xbR a b).length ≤ 200 := by
  unfold xbR
  split
  · rename_i h
    obtain ⟨m, n, rfl, rfl, hm, hn⟩ := halves_nat h
    show (xbL m n).length ≤ 200
    unfold xbL
    have h1 := xbX_len (2 * m + 1) m n (exA m) (exA n) (exA n).length
    have h2 := exA_len hm
    have h3 := exA_len hn
    have h4 : (exA n).length * ((exA m).length + 1) ≤ 8 * 9 := Nat.mul_le_mul h3 (by omega)
    omega
  · simp
set_option maxRecDepth 100000 in
set_option maxHeartbeats 2000000 in
theorem sExBoard_any (a b : Int) (w : World) : Calls Tryd.prog 40 #[.int .i64 a, .int .i64 b] w (XbPost (xbR a b) (halves a b) w) := by
  have HH := Lib.hid (fun wx => boHalves_any a b wx)
  cases h : halves a b
  · rw [h] at HH
    have e0 : xbR a b = [] := by unfold xbR; rw [h]; rfl
    rw [e0]
    clear h e0
    go_enter Tryd.func40, Tryd.ntmps40
    go_wp2_with fail
    refine (HH.out _).mono ?_
    rintro e w1 ⟨rfl, rfl⟩
    go_wp2
    go_ret2
    exact ⟨_, rfl, World.ownsRow_nil _ _ _ _, Below.refl _ _⟩
  · rw [h] at HH
    obtain ⟨m, n, rfl, rfl, hm, hn⟩ := halves_nat h
    have e0 : xbR (m : Int) (n : Int) = xbL m n := by unfold xbR; rw [if_pos h]; rfl
    rw [e0]
    have HX := Lib.hid (fun wx => boExchange_any m n wx hm hn)
    clear h e0
    generalize xbL m n = L at *
    go_enter Tryd.func40, Tryd.ntmps40
    go_wp2_with fail
    refine (HH.out _).mono ?_
    rintro e w1 ⟨rfl, rfl⟩
    go_wp2_with fail
    refine (HX.out _).mono ?_
    rintro e w2 ⟨v, rfl, ho, hb⟩
    have HO := Lib.hid ho
    have HB := Lib.hid hb
    clear ho hb
    go_wp2
    go_ret2
    exact ⟨_, rfl, HO.out, HB.out⟩
set_option maxRecDepth 100000 in
set_option maxHeartbeats 4000000 in
theorem walk_FnExactExchangeBoard (a : Int) (_ : (Lit.int .i64 a).wf = true) (b : Int) (_ : (Lit.int .i64 b).wf = true) (w : World) :
    Calls Tryd.prog 12 #[.int .i64 a, .int .i64 b] w fun e w' => e = .returned (.bool true) ∧ Below w.heap.size w w' := by
  have HS := Lib.hid (fun wx => sExBoard_any a b wx)
  have HP := Lib.hid (fun wx => exBoard_any a b wx)
  have hL := xbR_len a b
  unfold XbPost at HS HP
  generalize xbR a b = L at *
  generalize halves a b = c at *
  go_enter Tryd.func12, Tryd.ntmps12
  go_wp2_with fail
  refine (HS.out _).mono ?_
  rintro e w2 ⟨v0, rfl, ho2, hb2⟩
  obtain ⟨A0, cap0, rfl, _⟩ := at_of_own ho2
  have L0 : Hid (∀ k, (Value.slice A0 L.length cap0).ownBlock = some k → k < w2.heap.size) := fun k e => (ho2.lt k e).2
  have O0 := Lib.hid ho2
  have hB2 := Lib.hid hb2
  have z2 := hb2.size
  clear ho2 hb2
  go_wp2_with fail
  refine (HP.out _).mono ?_
  rintro e w4 ⟨v4, rfl, ho4, hb4⟩
  obtain ⟨A4, cap4, rfl, _⟩ := at_of_own ho4
  have O4 := Lib.hid ho4
  have O0 := Lib.hid (own_below O0.out hb4)
  have hB4 := Lib.hid (hB2.out.trans (hb4.mono hB2.out.size))
  have z4 := hb4.size
  clear ho4 hb4 hB2
  go_wp2_with fail
  refine (eqMoveS_same L _ _ _ _ _ (at_ownF O4.out) (at_ownF O0.out) (by omega)).mono ?_
  rintro e w9 ⟨rfl, hb9⟩
  have O4 := Lib.hid (own_below O4.out hb9)
  have O0 := Lib.hid (own_below O0.out hb9)
  have hB9 := Lib.hid (hB4.out.trans (hb9.mono hB4.out.size))
  have z9 := hb9.size
  clear hb9 hB4
  have hz2 := hB9.out.size
  go_wp2_with fail
  refine (markMoveS_any L.length 1 w2.heap.size L _ _ rfl O4.out (by omega) (by omega)).mono ?_
  rintro e w10 ⟨rfl, ho10, hb10⟩
  have O4 := Lib.hid ho10
  have O0 : Hid (w10.ownsRow w.heap.size 64 2 (.slice A0 L.length cap0) L.length (flat L)) := by
    refine ⟨O0.out.1, ?_⟩
    rcases O0.out.2 with h2 | ⟨gg, cap, cur, e, hb, hg, r⟩
    · exact .inl h2
    · refine .inr ⟨gg, cap, cur, e, hb, (hb10.block gg ?_).trans hg, r⟩
      have := L0.out gg (by rw [e]; rfl)
      omega
  have hB10 := Lib.hid (hB9.out.trans (hb10.mono (by omega)))
  clear ho10 hb10 hB9
  go_wp2_with fail
  refine (heldMoveS_any L.length 1 w2.heap.size _ _ O4.out (by omega) (by omega)).mono ?_
  rintro e wz ⟨rfl, rfl⟩
  go_wp2_with fail
  refine (HP.out _).mono ?_
  rintro e w12 ⟨v12, rfl, ho12, hb12⟩
  obtain ⟨A12, cap12, rfl, _⟩ := at_of_own ho12
  have AT12 := Lib.hid (at_ownF ho12)
  have O4 := Lib.hid (own_below O4.out hb12)
  have O0 := Lib.hid (own_below O0.out hb12)
  have hB12 := Lib.hid (hB10.out.trans (hb12.mono hB10.out.size))
  clear ho12 hb12 hB10
  go_wp2_with fail
  refine (eqMoveS_same L _ _ _ _ _ AT12.out (at_ownF O0.out) (by omega)).mono ?_
  rintro e w13 ⟨rfl, hb13⟩
  have O4 := Lib.hid (own_below O4.out hb13)
  have hB13 := Lib.hid (hB12.out.trans (hb13.mono hB12.out.size))
  clear hb13 hB12 O0 AT12
  go_wp2_with fail
  refine (heldMoveS_any L.length 1 w2.heap.size _ _ O4.out (by omega) (by omega)).mono ?_
  rintro e wz ⟨rfl, rfl⟩
  go_wp2
  go_ret
  exact ⟨rfl, hB13.out⟩
end Go.Proofs.YtjadnfnpbacfdaaDoor
