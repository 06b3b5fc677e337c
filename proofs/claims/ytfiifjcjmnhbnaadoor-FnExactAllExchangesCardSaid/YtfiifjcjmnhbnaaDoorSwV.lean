/- Contract: the live lines between a first line and the last one. -/
import Derived.Test.YtfiifjcjmnhbnaaDoorSwU
import Derived.Sort.CutIn
import Derived.Stop.RegionWithIn
namespace Go.Proofs.YtfiifjcjmnhbnaaDoor
open Go.RowKit Go.Shelf Go.Maps

attribute [local go_sem] Oper.semAt_some

/-- The live ones of the lines that are reached lie in a map of the call's own. -/
def LvPost (l : List UInt8) (w : World) (e : Ending) (w' : World) : Prop :=
  ∃ bm D, e = .returned (.map (some bm)) ∧ w.heap.size ≤ bm ∧ w'.ownsMap Tryd.prog 39 iRw bm (swA l).length D ∧ LiveV D (swA l) ∧ Below w.heap.size w w'

/-- A block of eight signs. -/
def Box8 (W : World) (b : Nat) (c0 c1 c2 c3 c4 c5 c6 c7 : Int) : Prop :=
  W.heap[b]? = some (.cells #[Value.int .u8 c0, .int .u8 c1, .int .u8 c2, .int .u8 c3, .int .u8 c4, .int .u8 c5, .int .u8 c6, .int .u8 c7] 39)
theorem Box8.new (W : World) (c0 c1 c2 c3 c4 c5 c6 c7 : Int) : Box8 (W.alloc (.cells #[Value.int .u8 c0, .int .u8 c1, .int .u8 c2, .int .u8 c3, .int .u8 c4, .int .u8 c5, .int .u8 c6, .int .u8 c7] 39)) W.heap.size c0 c1 c2 c3 c4 c5 c6 c7 := heap_alloc_new W _
theorem Box8.kept {W W' : World} {b : Nat} {row : Option Nat} {c0 c1 c2 c3 c4 c5 c6 c7 : Int} (h : Box8 W b c0 c1 c2 c3 c4 c5 c6 c7) (hg : W.grownBy W' row) (hne : some b ≠ row) : Box8 W' b c0 c1 c2 c3 c4 c5 c6 c7 :=
  (hg.block b (Array.getElem?_eq_some_iff.1 h).1 hne).trans h
theorem Box8.lt {W : World} {b : Nat} {c0 c1 c2 c3 c4 c5 c6 c7 : Int} (h : Box8 W b c0 c1 c2 c3 c4 c5 c6 c7) : b < W.heap.size := (Array.getElem?_eq_some_iff.1 h).1
theorem Box8.cells {W : World} {b : Nat} {c0 c1 c2 c3 c4 c5 c6 c7 : Int} (h : Box8 W b c0 c1 c2 c3 c4 c5 c6 c7) : Cells8 W b 0 c0 c1 c2 c3 c4 c5 c6 c7 := by
  unfold Cells8 World.cell?
  rw [h]
  exact ⟨rfl, rfl, rfl, rfl, rfl, rfl, rfl, rfl⟩
/-- Where the walk from the end stands. -/
structure LvW (N : Nat) (b0 b1 b2 b3 b4 b5 b6 b7 : Int) (w0 : World) (B k : Nat) (W : World) (D : DataW Unit) : Prop where
  map : W.ownsMap Tryd.prog 39 iRw (N + 2) k D
  box : W.cell? ⟨N + 3, 0, none⟩ = some (.map (some (N + 2)))
  last : Cells8 W (N + 1) 0 b0 b1 b2 b3 b4 b5 b6 b7
  low : N + 3 < B
  size : B ≤ W.heap.size
  below : Below N w0 W
section
variable {N : Nat} {b0 b1 b2 b3 b4 b5 b6 b7 : Int} {w0 : World} {B k : Nat} {W W' : World} {D : DataW Unit}
theorem LvW.kept (h : LvW N b0 b1 b2 b3 b4 b5 b6 b7 w0 B k W D) {row : Option Nat} (hg : W.grownBy W' row) (hr : ∀ r, row = some r → B ≤ r) : LvW N b0 b1 b2 b3 b4 b5 b6 b7 w0 B k W' D := by
  have hlow := h.low
  have hsz := h.size
  have ne : ∀ b, b < B → some b ≠ row := fun b hb e => by have := hr b e.symm; omega
  refine ⟨h.map.kept hg (ne _ (by omega)), ?_, h.last.grown hg (by omega) (ne _ (by omega)), hlow, Nat.le_trans hsz hg.size, ?_⟩
  · exact (World.cell?_of_block (a := ⟨N + 3, 0, none⟩) (hg.block _ (by show N + 3 < W.heap.size; omega) (ne _ (by show N + 3 < B; omega)))).trans h.box
  · exact h.below.grown hg (by omega) (fun r e => by have := hr r e; omega)
theorem LvW.put (h : LvW N b0 b1 b2 b3 b4 b5 b6 b7 w0 B k W D) {D' : DataW Unit} (hm : W'.ownsMap Tryd.prog 39 iRw (N + 2) (k + 1) D') (hg : W.grownBy W' (some (N + 2))) : LvW N b0 b1 b2 b3 b4 b5 b6 b7 w0 B (k + 1) W' D' := by
  have hlow := h.low
  have hsz := h.size
  refine ⟨hm, ?_, h.last.grown hg (by omega) (fun e => by injection e with e; omega), hlow, Nat.le_trans hsz hg.size, ?_⟩
  · exact (World.cell?_of_block (a := ⟨N + 3, 0, none⟩) (hg.block _ (by show N + 3 < W.heap.size; omega) (fun e => by injection e with e; exact absurd (show N + 3 = N + 2 from e) (by omega)))).trans h.box
  · exact h.below.grown hg (by omega) (fun r e => by injection e with e; omega)
theorem LvW.later (h : LvW N b0 b1 b2 b3 b4 b5 b6 b7 w0 B k W D) (hb : Below W.heap.size W W') : LvW N b0 b1 b2 b3 b4 b5 b6 b7 w0 B k W' D := h.kept (grown_of_below hb) (fun r e => by cases e)
end

/-- What a round of the walk keeps. -/
def LvI (L : List (List UInt8)) (N : Nat) (b0 b1 b2 b3 b4 b5 b6 b7 : Int) (w0 : World) (B : Nat) (pre : List Nat) (W : World) : Prop :=
  ∃ D, LvW N b0 b1 b2 b3 b4 b5 b6 b7 w0 B pre.length W D ∧ (pre = List.range pre.length → pre.length ≤ L.length → LiveV D (L.drop (L.length - pre.length)))

theorem iRw_lit {v : Value} {d : DataW Unit} {ps : List MemPlace} (h : iRw v = some (d, ps)) : ∃ n : Int, v = .int .i64 n ∧ d = .lit (.int .i64 n) := by
  unfold iRw at h
  split at h
  · rename_i n
    injection h with h
    injection h with h _
    exact ⟨n, rfl, h.symm⟩
  · cases h
theorem zeroIw (W : World) : (zeroValue 3).run Tryd.prog W = .ok (.int .i64 0) W := by kernel_rfl
/-- What a look at a line's key tells. -/
theorem live_look {W : World} {b k : Nat} {D : DataW Unit} (h : W.ownsMap Tryd.prog 39 iRw b k D) {y : List UInt8} (hy : y.length ≤ 8) :
    ∃ d : Int, D.atKey (.string (kbW y)) (.lit (.int .i64 0)) = .lit (.int .i64 d) ∧ ∀ W', W'.ownsMap Tryd.prog 39 iRw b k D → (Instr.lookup 41 (.map (some b)) (swpV y) false).run Tryd.prog W' = .ok (.int .i64 d) W' := by
  have go : ∀ W', W'.ownsMap Tryd.prog 39 iRw b k D → ∃ d : Int, D.atKey (.string (kbW y)) (.lit (.int .i64 0)) = .lit (.int .i64 d) ∧ (Instr.lookup 41 (.map (some b)) (swpV y) false).run Tryd.prog W' = .ok (.int .i64 d) W' := fun W' h' => by
    obtain ⟨v, ps, hrun, hv⟩ := h'.lookup Tryd.keysW Tryd.underlying41 (zeroIw W') (zd := .lit (.int .i64 0)) (zp := []) rfl (keyW hy)
    obtain ⟨n, rfl, e⟩ := iRw_lit hv
    exact ⟨n, e, hrun⟩
  obtain ⟨d, hd, _⟩ := go W h
  refine ⟨d, hd, fun W' h' => ?_⟩
  obtain ⟨d', hd', hr⟩ := go W' h'
  have e := hd.symm.trans hd'
  simp only [DataW.lit.injEq, Lit.int.injEq] at e
  rw [e.2]
  exact hr
theorem mem_drop_later {α : Type} (L : List α) {i j : Nat} (hj : j < L.length) (h : i < j) : L[j] ∈ L.drop (i + 1) := by
  rw [List.mem_iff_getElem]
  exact ⟨j - (i + 1), by rw [List.length_drop]; omega, by rw [List.getElem_drop]; congr 1; omega⟩
/-- How many plays are counted when k of a line's moves are looked at. -/
def psN (y : List UInt8) (k : Nat) : Nat := (if y = lastL y then 1 else 0) + (((nxL y).take k).map swN).sum
theorem psN_zero (y : List UInt8) : psN y 0 = if y = lastL y then 1 else 0 := by simp [psN]
theorem psN_next {y : List UInt8} {k : Nat} {v : List UInt8} (h : (nxL y)[k]? = some v) : psN y (k + 1) = psN y k + swN v := by
  obtain ⟨hl, rfl⟩ := List.getElem?_eq_some_iff.1 h
  unfold psN
  rw [sum_take_next _ _ _ hl]
  omega
theorem psN_all {n : Nat} {y : List UInt8} (h : goodT n y) : psN y (mvL y).length = swN y := by
  unfold psN
  rw [← nxL_mlen, List.take_length, swN_two h]
theorem psN_lt {n : Nat} {y : List UInt8} (h : goodT n y) (k : Nat) : psN y k < 9223372036854775808 := swN_part h k
/-- A line behind one of the lines lies behind it in the list. -/
theorem behind_later {n : Nat} {l y v : List UInt8} (hg : goodT n l) {i : Nat} (hy : (swA l)[i]? = some y) (hv : v ∈ nxL y) : v ∈ (swA l).drop (i + 1) := by
  obtain ⟨hi, rfl⟩ := List.getElem?_eq_some_iff.1 hy
  have hm := swA_closed hg (List.getElem_mem hi) hv
  obtain ⟨j, hj, rfl⟩ := List.mem_iff_getElem.1 hm
  exact mem_drop_later _ hj (swA_order hg hi hj hv)

set_option maxRecDepth 100000 in
set_option maxHeartbeats 16000000 in
theorem liveBetween_any (n : Nat) (l : List UInt8) (w : World) (hg : goodT n l) (h8 : n ≤ 8) :
    Calls Tryd.prog 30 #[swpV l, swpV (lastL l)] w (LvPost l w) := by
  refine (callsIn_wide (n := 6)).1 ?_
  have HLN := Lib.hid (fun wx => linesInTurn_any n l wx hg h8)
  have hl8 := (G8.of hg h8).len
  have hgL : goodT n (lastL l) := by
    have hs : l.all isSign = true := by have := ((goodL_iff (str l)).1 hg.1).2.2; rwa [byt_str] at this
    have h1 : (lastL l).length = l.length := lastL_same l hs
    refine ⟨(goodL_iff _).2 ?_, by rw [h1]; exact hg.2⟩
    have h2 := (goodL_iff _).1 hg.1
    rw [str_size] at h2 ⊢
    rw [h1]
    exact ⟨h2.1, h2.2.1, by rw [byt_str]; exact lastL_all l⟩
  have hA8 : ∀ x ∈ swA l, x.length ≤ 8 := fun x hx => (G8.of (swA_good hg x hx) h8).len
  have hfew : (swA l).length ≤ 59049 := by rw [swA_is, keysF_len]; exact swA_few hg
  have hpos : 0 < (swA l).length := List.length_pos_of_mem (swA_root l)
  have HGD := Lib.hid (fun x (hx : x ∈ swA l) => swA_good hg x hx)
  have HLA := Lib.hid (fun x (hx : x ∈ swA l) => swA_last (w := l) x hx)
  have HBL2 := Lib.hid (fun i y v (hy : (swA l)[i]? = some y) (hv : v ∈ nxL y) => behind_later hg hy hv)
  obtain ⟨L, hL⟩ : ∃ L, L = swA l := ⟨_, rfl⟩
  have HLL := Lib.hid hL
  rw [← hL] at hA8 hfew hpos HGD HLA HBL2
  have HTN : Hid (∀ wx e w', TnPost l wx e w' → ∃ A cap, e = .returned (.slice A L.length cap) ∧ w'.ownsRow wx.heap.size 39 8 (.slice A L.length cap) L.length (fl8 L) ∧ Below wx.heap.size wx w') := Lib.hid (by rw [hL]; exact fun _ _ _ h => h)
  clear hL
  obtain ⟨c0, c1, c2, c3, c4, c5, c6, c7, hc⟩ := eight_of hl8
  obtain ⟨b0, b1, b2, b3, b4, b5, b6, b7, hb⟩ := eight_of (G8.of hgL h8).len
  rw [hc.val] at HLN ⊢
  rw [hb.val]
  have hmm := @run_makeMap Tryd.prog
  have HG := Lib.hid hg
  have HC := Lib.hid hc
  have HBL := Lib.hid hb
  have HGL8 := Lib.hid (G8.of hgL h8)
  clear hg hc hl8 hb hgL
  refine callsIn_of_wp_marks Tryd.func30 rfl trivial ?_ rfl
  simp only [Tryd.ntmps30, List.size_toArray, List.length_cons, List.length_nil, Nat.reduceAdd, Nat.reduceSub, Array.replicate_succ, Array.replicate_zero, List.push_toArray, List.append_toArray, List.nil_append, List.cons_append]
  gi_wp2_with (first
    | (refine ⟨trivial, ?_⟩; gi_at_call 45; refine (callsIn_wide.2 (HLN.out _)).mono ?_; intro e w1 hp1; obtain ⟨A, cap, rfl, ho, hb1⟩ := HTN.out _ _ _ hp1; clear hp1)
    | (refine ⟨trivial, ?_⟩; gi_at_call 44; refine (backwardW_in _ _ trivial rfl _ _ _ _).mono ?_; rintro e w2 ⟨rfl, rfl⟩))
  generalize hw0 : (((w.alloc (Obj.cells #[Value.int IntKind.u8 c0, Value.int IntKind.u8 c1, Value.int IntKind.u8 c2, Value.int IntKind.u8 c3, Value.int IntKind.u8 c4, Value.int IntKind.u8 c5, Value.int IntKind.u8 c6, Value.int IntKind.u8 c7] 39)).alloc (Obj.cells #[Value.int IntKind.u8 b0, Value.int IntKind.u8 b1, Value.int IntKind.u8 b2, Value.int IntKind.u8 b3, Value.int IntKind.u8 b4, Value.int IntKind.u8 b5, Value.int IntKind.u8 b6, Value.int IntKind.u8 b7] 39)).alloc (Obj.map #[] 0)).alloc (Obj.cells #[Value.map (some (w.heap.size + 1 + 1))] 41) = w0 at ho hb1
  have hs0 : w0.heap.size = w.heap.size + 4 := by rw [← hw0]; simp
  have hL0 : LvW w.heap.size b0 b1 b2 b3 b4 b5 b6 b7 w (w.heap.size + 4) 0 w0 (.map []) := by
    rw [← hw0]
    have hB : Below w.heap.size w w0 := by rw [← hw0]; exact ((((Below.refl _ w).alloc (Nat.le_refl _) _).alloc (by simp) _).alloc (by simp; omega) _).alloc (by simp; omega) _
    rw [← hw0] at hB hs0
    generalize hwa : w.alloc (Obj.cells #[Value.int IntKind.u8 c0, Value.int IntKind.u8 c1, Value.int IntKind.u8 c2, Value.int IntKind.u8 c3, Value.int IntKind.u8 c4, Value.int IntKind.u8 c5, Value.int IntKind.u8 c6, Value.int IntKind.u8 c7] 39) = wa at hB hs0 ⊢
    have za : wa.heap.size = w.heap.size + 1 := by rw [← hwa]; simp
    have hx := Box8.new wa b0 b1 b2 b3 b4 b5 b6 b7
    generalize hwb : wa.alloc (Obj.cells #[Value.int IntKind.u8 b0, Value.int IntKind.u8 b1, Value.int IntKind.u8 b2, Value.int IntKind.u8 b3, Value.int IntKind.u8 b4, Value.int IntKind.u8 b5, Value.int IntKind.u8 b6, Value.int IntKind.u8 b7] 39) = wb at hB hs0 hx ⊢
    have zb : wb.heap.size = w.heap.size + 2 := by rw [← hwb]; simp [za]
    have hm := World.ownsMap_made (H := Unit) wb Tryd.prog 39 iRw
    have hx2 := (hx.kept (World.grownBy_alloc wb (Obj.map #[] 0) none) (by simp)).kept (World.grownBy_alloc (wb.alloc (Obj.map #[] 0)) (Obj.cells #[Value.map (some (w.heap.size + 1 + 1))] 41) none) (by simp)
    rw [za] at hx2
    rw [zb] at hm
    refine ⟨hm.alloc _, ?_, hx2.cells, by omega, by omega, hB⟩
    have zc : (wb.alloc (Obj.map #[] 0)).heap.size = w.heap.size + 3 := by simp [zb]
    rw [← zc, World.cell?_alloc_new]
    rfl
  clear hw0
  obtain ⟨g, cap', e1, _, _, hg0, hg1, _⟩ := row_arr ho hA8 (k := 0) hpos
  injection e1 with e1 _ e2
  subst e1; subst e2
  have hrg : ∀ k (h : k < L.length), w1.rangeAt g (k * 8) (u8s (swpP L[k])) := fun k h => by
    obtain ⟨g', cap', e1, _, _, _, _, hr⟩ := row_arr ho hA8 h
    simp only [Value.slice.injEq, Option.some.injEq, Addr.mk.injEq] at e1
    obtain ⟨⟨rfl, _⟩, _⟩ := e1
    exact hr
  have bS := Boxed.new w1 79 (.slice (some ⟨g, 0, none⟩) L.length cap)
  have hL1 := (hL0.later hb1).kept (World.grownBy_alloc w1 (.cells #[.slice (some ⟨g, 0, none⟩) L.length cap] 79) none) (fun r e => by cases e)
  have hrg2 : ∀ k (h : k < L.length), (w1.alloc (.cells #[.slice (some ⟨g, 0, none⟩) L.length cap] 79)).rangeAt g (k * 8) (u8s (swpP L[k])) := fun k h => rng_below8 (hrg k h) ((Below.refl _ w1).alloc (Nat.le_refl _) _) hg1
  have hz1 : w.heap.size + 4 ≤ w1.heap.size := by rw [← hs0]; exact hb1.size
  have hsz : (w1.alloc (.cells #[.slice (some ⟨g, 0, none⟩) L.length cap] 79)).heap.size = w1.heap.size + 1 := by simp
  generalize hW1 : w1.alloc (.cells #[.slice (some ⟨g, 0, none⟩) L.length cap] 79) = W1 at bS hL1 hrg2 hsz ⊢
  clear hW1 hrg hL0 ho hb1
  have hmem : ∀ k, ∃ m y, fromEndW L k = (m, y) ∧ L[m]? = some y ∧ m = L.length - 1 - k := fun k => ⟨L.length - 1 - k, L[L.length - 1 - k]'(by omega), by unfold fromEndW; rw [List.getD_eq_getElem?_getD, List.getElem?_eq_getElem (by omega)]; rfl, List.getElem?_eq_getElem _, rfl⟩
  have HMEM := Lib.hid hmem
  have HRG := Lib.hid hrg2
  refine wpIn_rangeFunc_ownH rfl (by omega) (gf := 57) (lb := #[.pointer (some ⟨w1.heap.size, 0, none⟩)]) rfl trivial (enters_of Tryd.func57 (by kernel_rfl) rfl)
    (backwardW_stops Fence.wide (6 - 1) trivial rfl (by omega) w1.heap.size g L hA8 cap hfew W1 (by omega) (by omega) bS.cell HRG.out) (fun h k => h.trans k)
    (fun W l o o' _ ho hc _ => KpW.put W l o o' ho hc) (Below.refl _ _) (fun _ => rfl)
    (LvI L w.heap.size b0 b1 b2 b3 b4 b5 b6 b7 w (w.heap.size + 4)) (fun _ _ _ => False)
    (fun pre X Y row hs hgr hr => by obtain ⟨D, h1, h2⟩ := hs; exact ⟨D, h1.kept hgr (fun r e => by have := (hr r e).1; omega), h2⟩)
    (fun _ _ _ _ _ hs _ _ => hs)
    ⟨.map [], hL1, fun _ _ => by rw [List.length_nil, Nat.sub_zero, List.drop_length]; exact LiveV.nil fun x => by simp [Maps.has]⟩
    (fun x a' W => ∃ Bx d0 d1 d2 d3 d4 d5 d6 d7, Eight (fromEndW L x).2 d0 d1 d2 d3 d4 d5 d6 d7 ∧ Box8 W Bx d0 d1 d2 d3 d4 d5 d6 d7 ∧ a' = { tmps := #[Value.agg #[.int .u8 c0, .int .u8 c1, .int .u8 c2, .int .u8 c3, .int .u8 c4, .int .u8 c5, .int .u8 c6, .int .u8 c7], .agg #[.int .u8 b0, .int .u8 b1, .int .u8 b2, .int .u8 b3, .int .u8 b4, .int .u8 b5, .int .u8 b6, .int .u8 b7], .pointer (some ⟨w.heap.size, 0, none⟩), .pointer (some ⟨w.heap.size + 1, 0, none⟩), .map none, .pointer (some ⟨w.heap.size + 1 + 1 + 1, 0, none⟩), undef, .pointer (some ⟨Bx, 0, none⟩), undef, undef, undef, .map (some (w.heap.size + 1 + 1)), .agg #[.int .u8 c0, .int .u8 c1, .int .u8 c2, .int .u8 c3, .int .u8 c4, .int .u8 c5, .int .u8 c6, .int .u8 c7], .slice (some ⟨g, 0, none⟩) L.length cap, .func (.func 57) #[] #[.pointer (some ⟨w1.heap.size, 0, none⟩)], .int .i64 ((fromEndW L x).1 : Int), .agg #[.int .u8 d0, .int .u8 d1, .int .u8 d2, .int .u8 d3, .int .u8 d4, .int .u8 d5, .int .u8 d6, .int .u8 d7], undef, undef, undef, undef, undef, undef, undef, undef, undef, undef, undef, undef, undef, undef, undef, undef, undef, undef, undef, undef, undef, undef, undef, undef], defers := [] })
    (fun x a' _ X Y row hs hgr hr => by obtain ⟨Bx, d0, d1, d2, d3, d4, d5, d6, d7, h1, h2, h3⟩ := hs; exact ⟨Bx, d0, d1, d2, d3, d4, d5, d6, d7, h1, h2.kept hgr (fun e' => by obtain ⟨_, o, ho, hc⟩ := hr Bx e'.symm; rw [show X.heap[Bx]? = _ from h2] at ho; cases ho; cases hc), h3⟩)
    ?assign ?body ?done ?stop
  case assign =>
    rintro lp pre x W K ⟨D, hI1, hI2⟩ hK
    obtain ⟨m, y, hmy, hy1, hy2⟩ := HMEM.out x
    have hy8 : y.length ≤ 8 := hA8 y (List.mem_of_getElem? hy1)
    obtain ⟨d0, d1, d2, d3, d4, d5, d6, d7, hd⟩ := eight_of hy8
    have he : encK L x = #[.int .i64 ((fromEndW L x).1 : Int), .agg #[.int .u8 d0, .int .u8 d1, .int .u8 d2, .int .u8 d3, .int .u8 d4, .int .u8 d5, .int .u8 d6, .int .u8 d7]] := by
      unfold encK encW
      rw [hmy, hd.val]
    have hd2 : Eight (fromEndW L x).2 d0 d1 d2 d3 d4 d5 d6 d7 := by rw [hmy]; exact hd
    rw [he]
    have HK := Lib.hid hK
    clear hK he hmy hy1 hy2
    generalize ((fromEndW L x).1 : Int) = ix at HK ⊢
    gi_wp2
    exact HK.out _ _ ((KeepsOthers.alloc _ _).from _) (KpW.grown (World.grownBy_alloc W _ none) (by simp) (by simp)) ⟨D, hI1.kept (World.grownBy_alloc W _ none) (fun r e => by cases e), hI2⟩ ⟨W.heap.size, d0, d1, d2, d3, d4, d5, d6, d7, hd2, Box8.new W _ _ _ _ _ _ _ _, rfl⟩
  case body =>
    rintro lp pre x a' W hl ⟨r, hr⟩ ⟨D, hI1, hI2⟩ ⟨Bx, d0, d1, d2, d3, d4, d5, d6, d7, hd, hbx, rfl⟩ hlt
    obtain ⟨m, y, hmy, hy1, hy2⟩ := HMEM.out x
    rw [hmy] at hd ⊢
    have hgy := HGD.out y (List.mem_of_getElem? hy1)
    have hy8 : y.length ≤ 8 := hA8 y (List.mem_of_getElem? hy1)
    have hok : pre ++ [x] = List.range (pre.length + 1) → pre = List.range pre.length ∧ x = pre.length := fun h => by
      rw [List.range_succ] at h
      have h2 := List.append_inj' h rfl
      exact ⟨h2.1, by simpa using h2.2⟩
    have hlive : pre ++ [x] = List.range (pre.length + 1) → LiveV D (L.drop (m + 1)) := fun h => by
      obtain ⟨h1, h2⟩ := hok h
      have := hI2 h1 (by omega)
      rwa [show L.length - pre.length = m + 1 by omega] at this
    have HG8 := Lib.hid (fun z hz => G8.of (HGD.out z hz) h8)
    have HLK : Hid (pre ++ [x] = List.range (pre.length + 1) → ∀ v ∈ nxL y, ∀ d : Int, D.atKey (.string (kbW v)) (.lit (.int .i64 0)) = .lit (.int .i64 d) → d = swN v) := Lib.hid fun h v hv d hd => by
      have h3 := HBL2.out m y v hy1 hv
      rw [(hlive h).at (fun z hz => HG8.out z (List.mem_of_mem_drop hz)) (HG8.out v (List.mem_of_mem_drop h3))] at hd
      unfold lvN at hd
      rw [if_pos h3] at hd
      simpa using hd.symm
    have HFIN : Hid (pre ++ [x] = List.range (pre.length + 1) → L.drop (L.length - (pre.length + 1)) = y :: L.drop (m + 1) ∧ LiveV D (L.drop (m + 1))) := Lib.hid fun h => by
      obtain ⟨h1, h2⟩ := hok h
      obtain ⟨hm, he⟩ := List.getElem?_eq_some_iff.1 hy1
      refine ⟨?_, hlive h⟩
      rw [show L.length - (pre.length + 1) = m by omega, List.drop_eq_getElem_cons hm, he]
    have HLY : Hid (lastL y = lastL l) := Lib.hid (HLA.out y (List.mem_of_getElem? hy1))
    have HE : Hid (∀ wx : World, (Op.equalIn 10000 39 (.agg #[Value.int .u8 d0, .int .u8 d1, .int .u8 d2, .int .u8 d3, .int .u8 d4, .int .u8 d5, .int .u8 d6, .int .u8 d7]) (.agg #[Value.int .u8 b0, .int .u8 b1, .int .u8 b2, .int .u8 b3, .int .u8 b4, .int .u8 b5, .int .u8 b6, .int .u8 b7])).run Tryd.prog wx = .ok (decide (y = lastL l)) wx) := Lib.hid fun wx => by
      rw [← hd.val, ← HBL.out.val]
      exact swV_eql (G8.of hgy h8) HGL8.out wx
    have HMV := Lib.hid (fun wx => swpMoves_any n y wx hgy h8)
    have HBH := Lib.hid (fun a c wx ha hc hne => swBehind_any n y a c wx hgy h8 ha hc hne)
    have HKY := Lib.hid (keyW hy8)
    rw [hd.val] at HMV HBH HKY
    have HAT := Lib.hid (fun i (h : i < (mvL y).length) => mvL_at y i h)
    have HNG : Hid (∀ i (h : i < (mvL y).length), (nxL y)[i]? = some (behind (str y) (mvL y)[i].1 (mvL y)[i].2)) := Lib.hid (fun i h => by rw [List.getElem?_eq_getElem (by rw [nxL_mlen]; exact h), nxL_mget y i h])
    have HGY := Lib.hid hgy
    have hMle : (mvL y).length ≤ 8 := Nat.le_trans (mvL_le y) hy8
    have HAL := Lib.hid (psN_all hgy)
    have HI1 := Lib.hid hI1
    have HBX := Lib.hid hbx
    obtain ⟨q0, q1, q2, q3, q4, q5, q6, q7⟩ := hbx.cells.zero
    obtain ⟨p0, p1, p2, p3, p4, p5, p6, p7⟩ := hI1.last.zero
    have hEQ := HE.out
    have HP0 : Hid (psN y 0 = if y = lastL l then 1 else 0) := Lib.hid (by rw [psN_zero, HLY.out])
    have HR := Lib.hid hr
    clear hok hlive hI1 hI2 hgy hy8 hd hbx hy1 hy2 hmy HMEM hr
    by_cases hyl : y = lastL l
    · rw [decide_eq_true hyl] at hEQ
      rw [if_pos hyl] at HP0
      have hM0 : (mvL y).length = 0 := by rw [← nxL_mlen, last_nil HGY.out (by rw [HLY.out]; exact hyl)]; rfl
      clear hyl
      gi_wp2_with (first | (refine ⟨trivial, ?_⟩; gi_at_call 46; refine (CallsIn.inRound lp (callsIn_wide.2 (HMV.out _))).mono ?_; rintro e w2 ⟨v2, rfl, ho2, hb2⟩; obtain ⟨A2, cap2, rfl, at2⟩ := at_of_own ho2; clear ho2))
      have HI2' := Lib.hid (HI1.out.later hb2)
      have HB2 := Lib.hid hb2
      have AT2 := Lib.hid at2
      clear at2 hb2 q0 q1 q2 q3 q4 q5 q6 q7 p0 p1 p2 p3 p4 p5 p6 p7 HMV
      generalize hMM : mvL y = M at AT2 HAT HNG HAL hMle hM0 ⊢
      clear hMM
      gi_wp2_with fail
      gi_loopw [8, 23] (fun s t wr => ∃ (i : Nat) (c : Int), i ≤ M.length ∧ t = .int .i64 i ∧ s = .int .i64 c ∧ Hid (pre ++ [x] = List.range (pre.length + 1) → c = (psN y i : Int)) ∧ Hid (LvW w.heap.size b0 b1 b2 b3 b4 b5 b6 b7 w (w.heap.size + 4) pre.length wr D) ∧ Hid (MvAt wr A2 M) ∧ Hid (Below W.heap.size W wr)) (fun _ t _ => M.length - (intOf t).toNat)
      case atStart => exact ⟨0, _, Nat.zero_le _, rfl, rfl, Lib.hid fun _ => by rw [HP0.out]; rfl, HI2', AT2, HB2⟩
      case round =>
        obtain ⟨i, c, hi, rfl, rfl, HCI, HII, HMA, HBI⟩ := hrel
        obtain ⟨V, hV⟩ : ∃ V : World, V = wr := ⟨_, rfl⟩
        subst hV
        clear HI2' HB2 AT2 HI1
        have hbxV := HBX.out.kept (grown_of_below HBI.out) (by simp)
        have HBXV := Lib.hid hbxV
        obtain ⟨q0, q1, q2, q3, q4, q5, q6, q7⟩ := hbxV.cells.zero
        have hbox := HII.out.box
        clear hbxV
        by_cases hlti : i < M.length
        · omega
        · obtain rfl : i = M.length := by omega
          by_cases hc0 : 0 < c
          · have hmapV := HII.out.map
            have hln : pre.length < maxLen := by unfold maxLen; omega
            gi_wp2_with (first | (gi_at_mapUpdate; refine wpListIn_mapUpdate_own _ rfl _ _ _ 41 rfl 39 3 Tryd.keysW Tryd.underlying41 iRw (w.heap.size + 2) pre.length D rfl hmapV hln _ _ (.string (kbW y)) rfl rfl HKY.out _ [] rfl ?_; intro w5 hmap5 hg5))
            have hg := grown_of_below HBI.out
            have hlen : (pre ++ [x]).length = pre.length + 1 := by simp
            refine ⟨(KeepsFrom.of_grownBy hg (by simp)).trans (KeepsFrom.of_grownBy hg5 (fun j e => by injection e with e; omega)), (KpW.grown hg (by simp) (by simp)).trans (KpW.grown hg5 (fun e => by injection e with e; omega) (fun e => by injection e with e; omega)), _, by rw [hlen]; exact HII.out.put hmap5 hg5, fun hp _ => ?_⟩
            rw [hlen] at hp ⊢
            obtain ⟨h1, h2⟩ := HFIN.out hp
            have h3 := HCI.out hp
            rw [HAL.out] at h3
            rw [h1, h3]
            exact LiveV.put hmapV.isMap h2 (fun z hz => HG8.out z (List.mem_of_mem_drop hz)) (G8.of HGY.out h8) (by omega)
          · gi_wp2_with fail
            have hg := grown_of_below HBI.out
            have hlen : (pre ++ [x]).length = pre.length + 1 := by simp
            refine ⟨KeepsFrom.of_grownBy hg (by simp), KpW.grown hg (by simp) (by simp), D, ?_, fun hp _ => ?_⟩
            · rw [hlen]
              exact ⟨HII.out.map.mono (by omega), HII.out.box, HII.out.last, HII.out.low, HII.out.size, HII.out.below⟩
            · rw [hlen] at hp ⊢
              obtain ⟨h1, h2⟩ := HFIN.out hp
              have h3 := HCI.out hp
              rw [HAL.out] at h3
              rw [h1]
              exact h2.skip (by omega)
    · rw [decide_eq_false hyl] at hEQ
      rw [if_neg hyl] at HP0
      clear hyl
      gi_wp2_with (first | (refine ⟨trivial, ?_⟩; gi_at_call 46; refine (CallsIn.inRound lp (callsIn_wide.2 (HMV.out _))).mono ?_; rintro e w2 ⟨v2, rfl, ho2, hb2⟩; obtain ⟨A2, cap2, rfl, at2⟩ := at_of_own ho2; clear ho2))
      have HI2' := Lib.hid (HI1.out.later hb2)
      have HB2 := Lib.hid hb2
      have AT2 := Lib.hid at2
      clear at2 hb2 q0 q1 q2 q3 q4 q5 q6 q7 p0 p1 p2 p3 p4 p5 p6 p7 HMV
      generalize hMM : mvL y = M at AT2 HAT HNG HAL hMle ⊢
      clear hMM
      gi_wp2_with fail
      gi_loopw [8, 23] (fun s t wr => ∃ (i : Nat) (c : Int), i ≤ M.length ∧ t = .int .i64 i ∧ s = .int .i64 c ∧ Hid (pre ++ [x] = List.range (pre.length + 1) → c = (psN y i : Int)) ∧ Hid (LvW w.heap.size b0 b1 b2 b3 b4 b5 b6 b7 w (w.heap.size + 4) pre.length wr D) ∧ Hid (MvAt wr A2 M) ∧ Hid (Below W.heap.size W wr)) (fun _ t _ => M.length - (intOf t).toNat)
      case atStart => exact ⟨0, _, Nat.zero_le _, rfl, rfl, Lib.hid fun _ => by rw [HP0.out]; rfl, HI2', AT2, HB2⟩
      case round =>
        obtain ⟨i, c, hi, rfl, rfl, HCI, HII, HMA, HBI⟩ := hrel
        obtain ⟨V, hV⟩ : ∃ V : World, V = wr := ⟨_, rfl⟩
        subst hV
        clear HI2' HB2 AT2 HI1
        have hbxV := HBX.out.kept (grown_of_below HBI.out) (by simp)
        have HBXV := Lib.hid hbxV
        obtain ⟨q0, q1, q2, q3, q4, q5, q6, q7⟩ := hbxV.cells.zero
        have hbox := HII.out.box
        clear hbxV
        by_cases hlti : i < M.length
        · obtain ⟨a, cc, e1, e2, ha, hc', hne, _⟩ := HAT.out i hlti
          have HY := HNG.out i hlti
          rw [e1, e2] at HY
          obtain ⟨gm, rfl, hgm, m0, m1⟩ := HMA.out i hlti
          rw [e1] at m0
          rw [e2] at m1
          have hgv := nx_good HGY.out (List.mem_of_getElem? HY)
          have hHBH := fun wx => HBH.out a cc wx ha hc' hne
          obtain ⟨dd, hdd, hdr⟩ := live_look HII.out.map (G8.of hgv h8).len
          have HNX : Hid (pre ++ [x] = List.range (pre.length + 1) → IntKind.wrap .i64 (c + dd) = (psN y (i + 1) : Int)) := Lib.hid fun h => by
            have h1 := HLK.out h _ (List.mem_of_getElem? HY) dd hdd
            have h2 := psN_next HY
            have h3 := psN_lt HGY.out (i + 1)
            rw [HCI.out h, h1, IntKind.wrap_i64]
            rw [h2] at h3 ⊢
            omega
          generalize behind (str y) (a : Int) (cc : Int) = v at hgv hHBH hdd hdr HY
          obtain ⟨e0, e1', e2', e3, e4, e5, e6, e7, he⟩ := eight_of (G8.of hgv h8).len
          rw [he.val] at hHBH hdr
          have HBH2 := Lib.hid hHBH
          have HDR := Lib.hid hdr
          clear e1 e2 HY hgv hHBH he hdr hdd
          gi_upto_region 10 with fail
          generalize hV1 : V.alloc (Obj.cells #[Value.int IntKind.i64 ↑a, Value.int IntKind.i64 ↑cc] 55) = V1
          have hbv : Below V.heap.size V V1 := by rw [← hV1]; exact (Below.refl _ _).alloc (Nat.le_refl _) _
          have r0 : V1.cell? ⟨V.heap.size, 0, none⟩ = some (.int .i64 a) := by rw [← hV1, World.cell?_alloc_new]; rfl
          have r1 : V1.cell? ⟨V.heap.size, 1, none⟩ = some (.int .i64 cc) := by rw [← hV1, World.cell?_alloc_new]; rfl
          have HIV := Lib.hid (HII.out.later hbv)
          have HMV1 := Lib.hid (HMA.out.below hbv)
          have HBV1 := Lib.hid (HBI.out.trans (hbv.mono HBI.out.size))
          have hbxV := HBXV.out.kept (grown_of_below hbv) (by simp)
          obtain ⟨q0, q1, q2, q3, q4, q5, q6, q7⟩ := hbxV.cells.zero
          have hbox := HIV.out.box
          clear hV1 hbv hbxV m0 m1
          gi_region_with (refine ⟨trivial, ?_⟩; gi_at_call 33; refine (CallsIn.inRound lp (callsIn_wide.2 (HBH2.out _))).mono ?_; rintro e w' ⟨rfl, hbw⟩; have hB : Below V1.heap.size V1 w' := Below.trans ((by repeat first | with_reducible exact hB | with_reducible exact Below.refl _ _ | with_reducible refine Below.drew ?_)) hbw; have hI' := HIV.out.later hB; have hx := hI'.box; have hr0 := HDR.out _ hI'.map; clear hI' hbw)
          all_goals (gi_wp2_with fail; go_roundw)
          all_goals first
            | exact ⟨i + 1, _, by omega, by go_num, rfl, HNX, Lib.hid (HIV.out.later hB), Lib.hid (HMV1.out.below hB), Lib.hid (HBV1.out.trans (hB.mono HBV1.out.size))⟩
            | (simp [intOf]; omega)
        · obtain rfl : i = M.length := by omega
          by_cases hc0 : 0 < c
          · have hmapV := HII.out.map
            have hln : pre.length < maxLen := by unfold maxLen; omega
            gi_wp2_with (first | (gi_at_mapUpdate; refine wpListIn_mapUpdate_own _ rfl _ _ _ 41 rfl 39 3 Tryd.keysW Tryd.underlying41 iRw (w.heap.size + 2) pre.length D rfl hmapV hln _ _ (.string (kbW y)) rfl rfl HKY.out _ [] rfl ?_; intro w5 hmap5 hg5))
            have hg := grown_of_below HBI.out
            have hlen : (pre ++ [x]).length = pre.length + 1 := by simp
            refine ⟨(KeepsFrom.of_grownBy hg (by simp)).trans (KeepsFrom.of_grownBy hg5 (fun j e => by injection e with e; omega)), (KpW.grown hg (by simp) (by simp)).trans (KpW.grown hg5 (fun e => by injection e with e; omega) (fun e => by injection e with e; omega)), _, by rw [hlen]; exact HII.out.put hmap5 hg5, fun hp _ => ?_⟩
            rw [hlen] at hp ⊢
            obtain ⟨h1, h2⟩ := HFIN.out hp
            have h3 := HCI.out hp
            rw [HAL.out] at h3
            rw [h1, h3]
            exact LiveV.put hmapV.isMap h2 (fun z hz => HG8.out z (List.mem_of_mem_drop hz)) (G8.of HGY.out h8) (by omega)
          · gi_wp2_with fail
            have hg := grown_of_below HBI.out
            have hlen : (pre ++ [x]).length = pre.length + 1 := by simp
            refine ⟨KeepsFrom.of_grownBy hg (by simp), KpW.grown hg (by simp) (by simp), D, ?_, fun hp _ => ?_⟩
            · rw [hlen]
              exact ⟨HII.out.map.mono (by omega), HII.out.box, HII.out.last, HII.out.low, HII.out.size, HII.out.below⟩
            · rw [hlen] at hp ⊢
              obtain ⟨h1, h2⟩ := HFIN.out hp
              have h3 := HCI.out hp
              rw [HAL.out] at h3
              rw [h1]
              exact h2.skip (by omega)
  case done =>
    rintro D ys W hD rfl ⟨D', hI1, hI2⟩ hK
    have hbox := hI1.box
    gi_wp2
    refine ⟨by simp, .inl ⟨_, _, rfl, run_takeDeferred hK, ?_⟩⟩
    refine ⟨_, results_tmp rfl _ _ _, ?_⟩
    have hF := hI1.kept (grownBy_putObj' W D (.deferred none)) (fun r e => by cases e; omega)
    have hm := hF.map
    have hv := hI2 (by rw [List.length_range]) (by rw [List.length_range]; exact Nat.le_refl _)
    rw [List.length_range, Nat.sub_self, List.drop_zero] at hv
    rw [List.length_range] at hm
    rw [HLL.out] at hm hv
    exact ⟨_, D', rfl, by omega, hm, hv, hF.below⟩
  case stop =>
    rintro D cc pre W _ _ h _
    exact h.elim
end Go.Proofs.YtfiifjcjmnhbnaaDoor
