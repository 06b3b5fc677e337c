/- Contract: the program's columns of rows of bytes. -/
import Derived.Test.YtoiaklnaecghnabGreatDoorBdZ
import Derived.Deep.AppendLies
import Derived.Test.YtoiaklnaecghnabGreatDoorShelfJ
import Derived.Lib.SlBytesConst
namespace Go.Proofs.YtoiaklnaecghnabGreatDoor
open Go.RowKit

theorem Tryz.infoU8 : (Tryz.prog.info? 5).map (fun i => (i.zero, i.size, i.bytes)) = some (some (.int .u8 0), 1, 1) := by kernel_rfl
theorem cell_one_a8 (w : World) (n : Nat) (hn : n = w.heap.size) (a : Value) (t : TypeId) : ∀ j u, [a][j]? = some u → (w.alloc (.cells #[a] t)).cell? ((⟨n, 0, none⟩ : Addr).add j) = some u := by
  subst hn
  exact cell_one_new w a t
/-- Bytes as values. -/
def bv (l : List UInt8) : List Value := l.map fun c => .int .u8 c.toNat
theorem bv_len (l : List UInt8) : (bv l).length = l.length := by simp [bv]
/-- A column, from above. -/
def colC (F : List UInt8) (wd hi x : Nat) : List UInt8 := (List.range hi).map fun y => F.getD (y * wd + x) 0
theorem colC_len (F : List UInt8) (wd hi x : Nat) : (colC F wd hi x).length = hi := by simp [colC]
theorem colC_at (F : List UInt8) (wd hi x y : Nat) (h : y < hi) : (colC F wd hi x).take (y + 1) = (colC F wd hi x).take y ++ [F.getD (y * wd + x) 0] := by
  rw [List.take_succ_eq_append_getElem (by rw [colC_len]; exact h)]
  simp [colC]
/-- Within a column: y bytes of it are there. -/
structure ColI (wo wr : World) (gC x wd H : Nat) (v : Value) (l : List UInt8) : Prop where
  cell : wr.cell? ⟨gC, x, none⟩ = some v
  row : wr.ownsRow H 5 1 v l.length (bv l)
  keep : ∀ g, g < H → g ≠ gC → wr.heap[g]? = wo.heap[g]?
  cols : ∀ j, j ≠ x → wr.cell? ⟨gC, j, none⟩ = wo.cell? ⟨gC, j, none⟩
  froz : ∀ j, j < wd → wr.frozen? ⟨gC, j, none⟩ = false
  size : H ≤ wr.heap.size
/-- Between two columns: x of them are there. -/
structure ColO (wr : World) (gC wd hi x : Nat) (C : Nat → List UInt8) : Prop where
  done : ∀ j, j < x → ∃ g c, wr.cell? ⟨gC, j, none⟩ = some (.slice (some ⟨g, 0, none⟩) hi c) ∧ hi ≤ c ∧ gC < g ∧ g < wr.heap.size ∧ BsAt wr g (C j)
  rest : ∀ j, x ≤ j → j < wd → wr.cell? ⟨gC, j, none⟩ = some (.slice none 0 0)
  froz : ∀ j, j < wd → wr.frozen? ⟨gC, j, none⟩ = false
  lt : gC < wr.heap.size
theorem cell_of_blk {w w' : World} {g o : Nat} (h : w'.heap[g]? = w.heap[g]?) : w'.cell? ⟨g, o, none⟩ = w.cell? ⟨g, o, none⟩ := World.cell?_of_block (a := ⟨g, o, none⟩) h
theorem frz_of_blk {w w' : World} {g o : Nat} (h : w'.heap[g]? = w.heap[g]?) : w'.frozen? ⟨g, o, none⟩ = w.frozen? ⟨g, o, none⟩ := by
  unfold World.frozen?
  rw [h]
/-- A row of one's own behind a store into another block. -/
theorem own_set {w : World} {base n : Nat} {e : TypeId} {v : Value} {xs : List Value} (ho : w.ownsRow base e 1 v n xs) (a : Addr) (u : Value) (hne : v.ownBlock ≠ some a.block) : (w.setCell a u).ownsRow base e 1 v n xs := by
  refine ⟨ho.1, ?_⟩
  rcases ho.2 with h0 | ⟨g, cap, cur, rfl, hg, hh, rest⟩
  · exact .inl h0
  · exact .inr ⟨g, cap, cur, rfl, hg, by rw [Below.heap_setCell _ _ _ g (fun e => hne (by show some g = _; rw [e]))]; exact hh, rest⟩
theorem ColO.start {wo : World} {gC wd hi x : Nat} {C : Nat → List UInt8} (h : ColO wo gC wd hi x C) (hx : x < wd) : ColI wo wo gC x wd wo.heap.size (.slice none 0 0) [] :=
  ⟨h.rest x (Nat.le_refl _) hx, World.ownsRow_nil _ _ _ _, fun _ _ _ => rfl, fun _ _ => rfl, h.froz, Nat.le_refl _⟩
theorem ColO.next {wo wr : World} {gC wd hi x : Nat} {C : Nat → List UInt8} (h : ColO wo gC wd hi x C) (hx : x < wd) (hh : 1 ≤ hi) {v : Value} (hl : (C x).length = hi) (hI : ColI wo wr gC x wd wo.heap.size v (C x)) : ColO wr gC wd hi (x + 1) C := by
  refine ⟨fun j hj => ?_, fun j h1 h2 => ?_, hI.froz, Nat.lt_of_lt_of_le h.lt hI.size⟩
  · by_cases e : j = x
    · subst e
      obtain ⟨g, c, e1, h1, h2, h3, _, h4⟩ := own_op hI.row (by omega)
      refine ⟨g, c, by rw [hI.cell, e1, hl], by omega, by have := h.lt; omega, h2, fun i hi => ?_⟩
      rw [h4 i (by rw [bv_len]; exact hi)]
      simp [bv]
    · obtain ⟨g, c, e1, h1, h2, h3, h4⟩ := h.done j (by omega)
      refine ⟨g, c, by rw [hI.cols j e]; exact e1, h1, h2, Nat.lt_of_lt_of_le h3 hI.size, fun i hi => ?_⟩
      rw [cell_of_blk (hI.keep g h3 (by omega))]
      exact h4 i hi
  · rw [hI.cols j (by omega)]
    exact h.rest j (by omega) h2
/-- One byte more. -/
theorem ColI.push {wo wr X : World} {gC x wd H : Nat} {v : Value} {l : List UInt8} (h : ColI wo wr gC x wd H v l) (hg : gC < H) (c : UInt8) {w' : World} {g' cap' : Nat} (hX : ∀ g, g < wr.heap.size → X.heap[g]? = wr.heap[g]?) (hXs : wr.heap.size ≤ X.heap.size)
    (hgr : X.grownBy w' v.ownBlock) (hrow : w'.ownsRow H 5 1 (.slice (some ⟨g', 0, none⟩) (l.length + 1) cap') (l.length + 1) (bv l ++ [.int .u8 c.toNat])) (hat : gC < g') :
    ColI wo (w'.setCell ⟨gC, x, none⟩ (.slice (some ⟨g', 0, none⟩) (l.length + 1) cap')) gC x wd H (.slice (some ⟨g', 0, none⟩) (l.length + 1) cap') (l ++ [c]) := by
  have hz := h.size
  have hne : ∀ g, g < H → some g ≠ v.ownBlock := fun g hg e => by have := (h.row.lt g e.symm).1; omega
  have hblk : ∀ g, g < H → w'.heap[g]? = wr.heap[g]? := fun g hg => (hgr.block g (by omega) (hne g hg)).trans (hX g (by omega))
  refine ⟨?_, ?_, fun g h1 h2 => ?_, fun j hj => ?_, fun j hj => ?_, ?_⟩
  · exact World.cell?_setCell_same _ _ _ ((cell_of_blk (hblk gC hg)).trans h.cell)
  · have e : bv (l ++ [c]) = bv l ++ [.int .u8 c.toNat] := by simp [bv]
    rw [e, List.length_append]
    exact own_set hrow _ _ (fun e => by injection e with e; simp at e; omega)
  · rw [Below.heap_setCell _ _ _ g (by exact h2), hblk g h1]
    exact h.keep g h1 h2
  · rw [World.cell?_setCell_other _ _ _ _ (by intro e; injection e with _ e; exact hj e.symm), cell_of_blk (hblk gC hg)]
    exact h.cols j hj
  · have e : (w'.setCell ⟨gC, x, none⟩ (.slice (some ⟨g', 0, none⟩) (l.length + 1) cap')).frozen? ⟨gC, j, none⟩ = w'.frozen? ⟨gC, j, none⟩ := by simp
    rw [e, frz_of_blk (hblk gC hg)]
    exact h.froz j hj
  · have := hgr.size
    simp
    omega

/-- The answer: columns in memory of the call's own. -/
def CoP (wd hi : Nat) (C : Nat → List UInt8) (w : World) (e : Ending) (w' : World) : Prop :=
  ∃ gC cC, e = .returned (.slice (some ⟨gC, 0, none⟩) wd cC) ∧ w.heap.size ≤ gC ∧ wd ≤ cC ∧ ColO w' gC wd hi wd C ∧ Below w.heap.size w w'

set_option maxRecDepth 100000 in
set_option maxHeartbeats 4000000 in
theorem columns_any (wd hi g g' c' : Nat) (F : List UInt8) (w : World) (hw1 : 1 ≤ wd) (hw5 : wd ≤ 5) (hh1 : 1 ≤ hi) (hh5 : hi ≤ 5) (hF : F.length = hi * wd) (hg : g < w.heap.size) (hg' : g' < w.heap.size) (hb : BsAt w g F)
    (hr : ∀ k, k < hi → w.cell? ⟨g', k, none⟩ = some (.slice (some ⟨g, k * wd, none⟩) wd wd)) :
    Calls Tryz.prog 46 #[.slice (some ⟨g', 0, none⟩) hi c'] w (CoP wd hi (colC F wd hi) w) := by
  obtain ⟨i0, hi0, hz0, hz1, hz2⟩ := info_parts Tryz.infoBS
  have HI := Lib.hid hi0
  have HZ0 := Lib.hid hz0
  have HZ1 := Lib.hid hz1
  have HZ2 := Lib.hid hz2
  obtain ⟨i8, hi8, hy0, hy1, hy2⟩ := info_parts Tryz.infoU8
  have HI8 := Lib.hid hi8
  have HY0 := Lib.hid hy0
  have HY1 := Lib.hid hy1
  have HY2 := Lib.hid hy2
  clear hi0 hz0 hz1 hi8 hy0 hy1 hy2
  have hbytes : i0.bytes * wd ≤ 281474976710656 := by rw [hz2]; omega
  have hmx : wd ≤ maxLen := by unfold maxLen; omega
  clear hz2
  have HB := Lib.hid hb
  have HR := Lib.hid hr
  have hr0 := hr 0 hh1
  rw [Nat.zero_mul] at hr0
  have HAT := Lib.hid (colC_at F wd hi)
  have HCL := Lib.hid (colC_len F wd hi)
  have HGT : Hid (∀ y x, y < hi → x < wd → ∃ h : y * wd + x < F.length, F.getD (y * wd + x) 0 = F[y * wd + x]) := Lib.hid fun y x h1 h2 => by
    have h3 : y * wd + x < F.length := by
      rw [hF]
      have : (y + 1) * wd ≤ hi * wd := Nat.mul_le_mul_right wd h1
      rw [Nat.add_mul] at this
      omega
    exact ⟨h3, by rw [List.getD_eq_getElem?_getD, List.getElem?_eq_getElem h3]; rfl⟩
  clear hb hr hF
  generalize hC : colC F wd hi = C at HAT HCL ⊢
  clear hC
  go_enter Tryz.func46, Tryz.ntmps46
  go_wp2_with (at_make; refine wpList_make_full _ rfl (.tmp 10) (.tmp 10) 51 rfl w.heap.size 42 i0 (.slice none 0 0) 1 Tryz.underlying51 HI.out HZ0.out HZ1.out .i64 .i64 wd wd wd rfl rfl rfl rfl hbytes hmx (Nat.le_refl _) ?_; intro w1 hown hgrow; have hB1 : Below w.heap.size w w1 := (Below.refl _ _).grown hgrow (Nat.le_refl _) (fun k e => by cases e); have hr1 := (hB1.cell (p := ⟨g', 0, none⟩) hg').trans hr0)
  have hO : ColO w1 w.heap.size wd hi 0 C := by
    rw [Nat.mul_one, made_one _ rfl] at hown
    obtain ⟨q, c, e1, b1, b2, b3, _, b4⟩ := own_op hown hw1
    injection e1 with e1 _ _
    injection e1 with e1
    injection e1 with e1
    subst e1
    refine ⟨fun j h => by omega, fun j _ h => ?_, fun j h => ?_, b2⟩
    · have := b4 j (by simpa using h)
      rw [this]
      simp
    · exact hown.frozenAt j
  clear hown hgrow
  go_loopw [16] (fun i wr => ∃ x : Nat, x ≤ wd ∧ i = .int .i64 x ∧ Hid (ColO wr w.heap.size wd hi x C) ∧ Below w.heap.size w wr) (fun i _ => wd - (intOf i).toNat)
  case atStart => exact ⟨0, Nat.zero_le _, rfl, Lib.hid hO, hB1⟩
  case round =>
    obtain ⟨x, hx, rfl, HO, hBo⟩ := hrel
    obtain ⟨wo, hwo⟩ : ∃ wo : World, wo = wr := ⟨_, rfl⟩
    subst hwo
    clear hr1 hO hB1
    by_cases hlt : x < wd
    · have HST := Lib.hid (HO.out.start hlt)
      have hgC : w.heap.size < wo.heap.size := HO.out.lt
      have HBo := Lib.hid hBo
      clear hBo
      go_wp2
      go_loopw [21] (fun i wv => ∃ (y : Nat) (v : Value), y ≤ hi ∧ i = .int .i64 y ∧ Hid (ColI wo wv w.heap.size x wd wo.heap.size v ((C x).take y)) ∧ Below w.heap.size w wv) (fun i _ => hi - (intOf i).toNat)
      case atStart => exact ⟨0, _, Nat.zero_le _, rfl, by rw [List.take_zero]; exact HST, HBo.out⟩
      case round =>
        obtain ⟨y, v, hy, rfl, HCI, hB⟩ := hrel
        by_cases hlty : y < hi
        · have hcell := (hB.cell (p := ⟨g', y, none⟩) hg').trans (HR.out y hlty)
          obtain ⟨hF1, hF2⟩ := HGT.out y x hlty hlt
          have hbyte := (hB.cell (p := ⟨g, y * wd + x, none⟩) hg).trans (HB.out _ hF1)
          have HTK := Lib.hid (HAT.out x y hlty)
          rw [hF2] at HTK
          clear hF2
          generalize F[y * wd + x] = c at hbyte HTK
          clear hF1
          generalize y * wd = m at hcell hbyte
          have hlen : ((C x).take y).length = y := by rw [List.length_take, HCL.out]; omega
          have hcv := HCI.out.cell
          have hrow := HCI.out.row
          have hsz := HCI.out.size
          rw [hlen] at hrow
          have HROW := Lib.hid hrow
          have hfz := HCI.out.froz x hlt
          have HLEN := Lib.hid hlen
          have HBB := Lib.hid hB
          have hgCr : w.heap.size < wr.heap.size := by omega
          have i1 : (0 : Int) ≤ (y : Int) := by omega
          have i2 : (y : Int) < (hi : Int) := by omega
          have i3 : (0 : Int) ≤ (x : Int) := by omega
          have i4 : (x : Int) < (wd : Int) := by omega
          have e_a : (wr.alloc (Obj.cells #[.int .u8 c.toNat] 5)).cell? ⟨w.heap.size, x, none⟩ = some v := (cell_of_blk (Below.heap_alloc _ _ _ hgCr)).trans hcv
          have e_b : ((wr.alloc (Obj.cells #[.int .u8 c.toNat] 5)).drew).cell? ⟨w.heap.size, x, none⟩ = some v := e_a
          have H3 : y + 1 ≤ maxLen := by unfold maxLen; omega
          have H4 : (y + 1) * 1 ≤ 140737488355328 := by omega
          have HLO : Hid (∀ q, some q = v.ownBlock → wo.heap.size ≤ q) := Lib.hid fun q hq => (HROW.out.lt q hq.symm).1
          clear hrow hlen hB
          go_wp2
          go_region_law (first | (refine step_append_lies _ rfl _ _ 42 rfl wo.heap.size 5 i8 (.int .u8 0) 1 1 Tryz.underlying42 HI8.out HY0.out HY1.out HY2.out rfl (by decide) v y _ rfl (show ((wr.alloc (Obj.cells #[.int .u8 c.toNat] 5)).drew).ownsRow wo.heap.size 5 1 v y (bv ((C x).take y)) from HROW.out.alloc _) ⟨wr.heap.size, 0, none⟩ 1 1 [.int .u8 c.toNat] rfl rfl (fun j u h => cell_one_a8 wr wr.heap.size rfl (.int .u8 c.toNat) 5 j u h) (fun u hu => by simp at hu; subst hu; rfl) (by decide) H3 H4 (by simp <;> omega) _ rfl ?_; intro g2 c2 w8 hrow8 hg8 hat8 hlt8; have hbk : w8.heap[w.heap.size]? = wr.heap[w.heap.size]? := (hg8.block w.heap.size (by simp <;> omega) (fun e => by have := HLO.out _ e; omega)).trans (Below.heap_alloc _ _ _ hgCr); have k0 := (cell_of_blk (o := x) hbk).trans hcv; have k1 := (frz_of_blk (o := x) hbk).trans hfz))
          all_goals
            go_wp2
            go_roundw
            case rel =>
              have hat : w.heap.size < g2 := by
                rcases hat8 with h | h
                · have := HLO.out g2 h.symm; omega
                · simp at h; omega
              have h := HCI.out.push (X := (wr.alloc (Obj.cells #[.int .u8 c.toNat] 5)).drew) hgC c (fun q hq => Below.heap_alloc _ _ _ hq) (by simp) hg8 (by rw [HLEN.out]; exact hrow8) hat
              rw [HLEN.out] at h
              refine ⟨y + 1, _, by omega, by go_num, Lib.hid (by rw [HTK.out]; exact h), ?_⟩
              exact ((HBB.out.alloc HBB.out.size (Obj.cells #[.int .u8 c.toNat] 5)).drew.grown hg8 (by simp; omega) (fun j hj => by have := HLO.out j hj.symm; omega)).setCell (Nat.le_refl _) _
            case measure => simp [intOf]; omega
        · obtain rfl : y = hi := by omega
          have HCI2 : Hid (ColI wo wr w.heap.size x wd wo.heap.size v (C x)) := Lib.hid (by
            have h := HCI.out
            rw [List.take_of_length_le (by rw [HCL.out]; exact Nat.le_refl _)] at h
            exact h)
          have HBB := Lib.hid hB
          clear hB
          go_wp2
          go_roundw
          case rel => exact ⟨x + 1, by omega, by go_num, Lib.hid (HO.out.next hlt hh1 (HCL.out x) HCI2.out), HBB.out⟩
          case measure => simp [intOf]; omega
    · obtain rfl : x = wd := by omega
      have HBo := Lib.hid hBo
      clear hBo
      go_wp2
      go_ret
      exact ⟨w.heap.size, _, rfl, Nat.le_refl _, Nat.le_refl _, HO.out, HBo.out⟩
end Go.Proofs.YtoiaklnaecghnabGreatDoor
namespace Go.Proofs.YtoiaklnaecghnabGreatDoor
open Go.RowKit

/-- Rows of bytes in memory. -/
def PtAt (w : World) (gC : Nat) (R : List (List UInt8)) : Prop :=
  ∀ k (h : k < R.length), ∃ g o c, w.cell? ⟨gC, k, none⟩ = some (.slice (some ⟨g, o, none⟩) R[k].length c) ∧ g < w.heap.size ∧ ∀ j (hj : j < R[k].length), w.cell? ⟨g, o + j, none⟩ = some (.int .u8 R[k][j].toNat)
theorem PtAt.below {w w' : World} {gC : Nat} {R : List (List UInt8)} (h : PtAt w gC R) (hg : gC < w.heap.size) (hb : Below w.heap.size w w') : PtAt w' gC R := fun k hk => by
  obtain ⟨g, o, c, h1, h2, h3⟩ := h k hk
  exact ⟨g, o, c, (hb.cell (p := ⟨gC, k, none⟩) hg).trans h1, Nat.lt_of_lt_of_le h2 hb.size, fun j hj => (hb.cell (p := ⟨g, o + j, none⟩) h2).trans (h3 j hj)⟩
theorem PtAt.parts {w : World} {gC : Nat} {R : List (List UInt8)} (h : PtAt w gC R) : ∃ vs, Lib.PartsAt w ⟨gC, 0, none⟩ vs R := by
  refine ⟨(List.range R.length).map fun k => (w.cell? ⟨gC, k, none⟩).getD undef, by simp, fun i v hv => ?_, fun i v l hv hl => ?_⟩
  · rw [List.getElem?_map] at hv
    by_cases hi : i < R.length
    · rw [List.getElem?_range hi] at hv
      simp only [Option.map_some, Option.some.injEq] at hv
      obtain ⟨g, o, c, h1, _⟩ := h i hi
      rw [addr_o, Nat.zero_add, h1, ← hv, h1]
      rfl
    · rw [List.getElem?_eq_none (by simpa using hi)] at hv
      cases hv
  · rw [List.getElem?_map] at hv
    have hi : i < R.length := (List.getElem?_eq_some_iff.1 hl).1
    rw [List.getElem?_range hi] at hv
    simp only [Option.map_some, Option.some.injEq] at hv
    obtain ⟨g, o, c, h1, h2, h3⟩ := h i hi
    have e : R[i] = l := (List.getElem?_eq_some_iff.1 hl).2
    rw [h1] at hv
    subst e
    refine ⟨some ⟨g, o, none⟩, c, hv.symm, fun e => (by cases e), fun b hb j x hx => ?_⟩
    injection hb with hb
    subst hb
    obtain ⟨hj, e2⟩ := List.getElem?_eq_some_iff.1 hx
    rw [addr_o, h3 j hj, e2]

/-- The answer of the library: bytes of the call's own. -/
theorem fresh_cells {B : Nat} {w : World} {v : Value} {l : List UInt8} (h : Lib.FreshBytes B w v l) : ∃ g cap, v = .slice (some ⟨g, 0, none⟩) l.length cap ∧ B ≤ g ∧ l.length ≤ cap ∧ BsAt w g l := by
  obtain ⟨g, cap, zs, rfl, h1, h2, h3, h4, h5, h6, h7, h8⟩ := h
  refine ⟨g, cap, rfl, h1, h2, fun j hj => ?_⟩
  rw [h7 j (by omega)]
  have hz : j < zs.length := by omega
  have e : zs.getD j 0 = zs[j] := by rw [List.getD_eq_getElem?_getD, List.getElem?_eq_getElem hz]; rfl
  have e2 : l[j]? = some (zs[j].toNat.toUInt8) := by
    rw [← h6]
    unfold Lib.bytesOf
    rw [List.getElem?_map, List.getElem?_take, if_pos hj, List.getElem?_eq_getElem hz]
    rfl
  rw [List.getElem?_eq_getElem hj] at e2
  injection e2 with e2
  obtain ⟨a, b⟩ := h5 zs[j] (List.getElem_mem hz)
  rw [e, e2]
  have : ((zs[j].toNat.toUInt8).toNat : Int) = zs[j] := by
    have : zs[j].toNat < 256 := by omega
    rw [show (zs[j].toNat.toUInt8).toNat = zs[j].toNat from by simp [Nat.toUInt8]; omega]
    omega
  rw [this]
theorem join_le (R : List (List UInt8)) (h5 : R.length ≤ 5) (hr : ∀ r ∈ R, r.length ≤ 5) : (Lib.join R [47]).length ≤ 30 := by
  have := join_len R 5 hr
  have : R.length * (5 + 1) ≤ 5 * 6 := Nat.mul_le_mul_right 6 h5
  omega

set_option maxRecDepth 100000 in
set_option maxHeartbeats 1000000 in
theorem bytesJoin_any (R : List (List UInt8)) (gC c gs cs : Nat) (w : World) (hn : 1 ≤ R.length) (h5 : R.length ≤ 5) (hr : ∀ r ∈ R, 1 ≤ r.length ∧ r.length ≤ 5) (hcap : R.length ≤ c) (hP : PtAt w gC R) (hS : w.cell? ⟨gs, 0, none⟩ = some (.int .u8 47)) :
    Calls Tryz.prog 33 #[.slice (some ⟨gC, 0, none⟩) R.length c, .slice (some ⟨gs, 0, none⟩) 1 cs] w fun e w' => ∃ g cap, e = .returned (.slice (some ⟨g, 0, none⟩) (Lib.join R [47]).length cap) ∧ BsAt w' g (Lib.join R [47]) ∧ Below w.heap.size w w' := by
  by_cases h2 : 2 ≤ R.length
  · obtain ⟨vs, hvs⟩ := hP.parts
    have hlens : Lib.lens R ≤ 25 := by
      have h1 := flat_le R 5 fun r h => (hr r h).2
      have e : Lib.lens R = R.flatten.length := by unfold Lib.lens; rw [List.length_flatten]
      have := Nat.mul_le_mul_right 5 h5
      omega
    refine (Tryz.bytes_Join_many gC 0 R.length c vs R (.slice (some ⟨gs, 0, none⟩) 1 cs) [47] w rfl h2 hvs hcap ?_ (by omega) (by simp; omega)).mono ?_
    · refine ⟨some ⟨gs, 0, none⟩, cs, rfl, fun e => (by cases e), fun a e i x hx => ?_⟩
      injection e with e
      subst e
      cases i with
      | zero => simp at hx; subst hx; rw [addr_o]; exact hS
      | succ i => simp at hx
    · rintro e w1 ⟨v, rfl, hf, hb⟩
      obtain ⟨g, cap, rfl, _, _, h3⟩ := fresh_cells hf
      exact ⟨g, cap, rfl, h3, hb⟩
  · obtain ⟨r, rfl⟩ : ∃ r, R = [r] := by
      cases R with
      | nil => simp at hn
      | cons r R =>
        cases R with
        | nil => exact ⟨r, rfl⟩
        | cons q R => simp at h2
    obtain ⟨g, o, cc, h1, hg, h3⟩ := hP 0 (by simp)
    have hrr := hr r (by simp)
    refine (Tryz.bytes_Join_one gC 0 c ⟨g, o, none⟩ cc r (.slice (some ⟨gs, 0, none⟩) 1 cs) w h1 (fun i x hx => ?_) (by omega) (by omega)).mono ?_
    · obtain ⟨hi, e⟩ := List.getElem?_eq_some_iff.1 hx
      rw [addr_o]
      have := h3 i hi
      rw [← e]
      exact this
    · rintro e w1 ⟨v, rfl, hf, hb⟩
      obtain ⟨g, cap, rfl, _, _, h4⟩ := fresh_cells hf
      refine ⟨g, cap, ?_, ?_, hb⟩
      · rw [Lib.join_one]
      · rw [Lib.join_one]; exact h4

set_option maxRecDepth 100000 in
set_option maxHeartbeats 1000000 in
theorem textOfRows_any (R : List (List UInt8)) (gC c : Nat) (w : World) (hn : 1 ≤ R.length) (h5 : R.length ≤ 5) (hr : ∀ r ∈ R, 1 ≤ r.length ∧ r.length ≤ 5) (hcap : R.length ≤ c) (hgC : gC < w.heap.size) (hP : PtAt w gC R) :
    Calls Tryz.prog 19 #[.slice (some ⟨gC, 0, none⟩) R.length c] w fun e w' => e = .returned (.string (str (Lib.join R [47]))) ∧ Below w.heap.size w w' := by
  have hcs : (convert 42 42 (.slice (some ⟨w.heap.size, 0, none⟩) 1 1)).run Tryz.prog (w.alloc (.cells #[.int .u8 47] 5)) = .ok (.slice (some ⟨w.heap.size, 0, none⟩) 1 1) (w.alloc (.cells #[.int .u8 47] 5 (1, 2))) := Lib.run_convert_bytes_const (P := Tryz.prog) w 42 5 #[.int .u8 47] 1 1 Tryz.underlying42 Tryz.underlying5
  have hb0 : Below w.heap.size w (w.alloc (Obj.cells #[.int .u8 47] 5 (1, 2))) := (Below.refl _ _).alloc (Nat.le_refl _) _
  have HJ := Lib.hid (bytesJoin_any R gC c w.heap.size 1 (w.alloc (Obj.cells #[.int .u8 47] 5 (1, 2))) hn h5 hr hcap (hP.below hgC hb0) (by have h := World.cell?_alloc_mark w #[.int .u8 47] 5 (1, 2) 0; rw [h]; rfl))
  have HB0 := Lib.hid hb0
  clear hb0 hP hr
  generalize Lib.join R [47] = t at HJ ⊢
  generalize R.length = n at HJ hn h5 hcap ⊢
  go_enter Tryz.func19, Tryz.ntmps19
  go_wp2_with fail
  refine HJ.out.mono ?_
  rintro e w2 ⟨g, cap, rfl, hb, hb2⟩
  have hcv := run_convert_bytes_back (P := Tryz.prog) w2 42 9 5 ⟨g, 0, none⟩ cap t Tryz.underlying42 Tryz.underlying5 Tryz.underlying9 (by
    intro j hj
    rw [addr_o, Nat.zero_add]
    exact hb j hj)
  have HB2 := Lib.hid (HB0.out.trans (hb2.mono (by simp)))
  clear hb hb2
  go_wp2
  go_ret
  exact ⟨rfl, HB2.out⟩
end Go.Proofs.YtoiaklnaecghnabGreatDoor
