/- Contracts: the library's chunks of bytes, gathered: the program's rows of a board. -/
import Derived.Test.YtjadnfnpbacfdaaDoorBdY
import Derived.RangeFuncNested
import Derived.RangeFuncBox
import Derived.RangeFuncLeaves
import Derived.Shelf.Abstract
import Derived.WalkKit
import Derived.OwnWalkIn
import Derived.TacticsInMore
import Derived.LoopNIn
import Derived.LoopIn
import Derived.Maps.AppendAt
import Derived.Test.YtjadnfnpbacfdaaDoorBdK
import Derived.Deep.AppendLies
namespace Go.Proofs.YtjadnfnpbacfdaaDoor
open Go.RowKit Go.Shelf

attribute [local go_sem] Oper.semAt_some

theorem Tryd.infoBSI : (Tryd.prog.info? 67).map (fun i => (i.zero, i.size, i.bytes)) = some (some (.slice none 0 0), 1, 24) := by kernel_rfl
abbrev encChI (g wd : Nat) (k : Nat) : Array Value := #[.slice (some ⟨g, k * wd, none⟩) wd wd]

set_option maxRecDepth 100000 in
set_option maxHeartbeats 1000000 in
theorem chunk1_inI (F : Fence) (n : Nat) (h7 : F.fn 145) (hro : F.round = none) (hn : 1 ≤ n) (lp B1 B2 n₀ g wd hi cap : Nat) (hwd : 1 ≤ wd) (hw5 : wd ≤ 1000) (hh5 : hi ≤ 1000) (hcap : hi * wd ≤ cap) (hB1 : B1 < n₀) (hB2 : B2 < n₀) (J Jx : List Nat → World → Prop) (W : World) (hJ : AbidesFrom W.heap.size J)
    (hY : ∀ pre x W, J pre W → pre.length < hi → YieldAt F (n - 1) Tryd.prog lp (encChI g wd x) W fun e W' =>
      (e = .returned (.bool true) ∧ J (pre ++ [x]) W' ∧ Below n₀ W W') ∨ (e = .returned (.bool false) ∧ Jx (pre ++ [x]) W'))
    (c1 : W.cell? ⟨B1, 0, none⟩ = some (.slice (some ⟨g, 0, none⟩) (hi * wd) cap)) (c2 : W.cell? ⟨B2, 0, none⟩ = some (.int .i64 wd)) (h0 : J [] W) :
    CallsIn F n Tryd.prog 145 #[.func (.yield lp) #[] #[], .pointer (some ⟨B1, 0, none⟩), .pointer (some ⟨B2, 0, none⟩)] W fun e W' => (∃ v, e = .returned v) ∧
      ((∃ ys, ys = List.range hi ∧ J ys W') ∨ (∃ pre, (∃ k, k ≤ hi ∧ pre = List.range k) ∧ Jx pre W')) := by
  have C1 := Lib.hid c1
  have C2 := Lib.hid c2
  clear c1 c2
  refine callsIn_of_wp Tryd.func145 rfl h7 ?_ hro
  simp only [Tryd.ntmps145, List.size_toArray, List.length_cons, List.length_nil, Nat.reduceAdd, Nat.reduceSub, Array.replicate_succ, Array.replicate_zero, List.push_toArray, List.append_toArray, List.nil_append, List.cons_append]
  gi_wp2
  gi_loopw [4, 5] (fun i _ wr => ∃ (k m : Nat), k ≤ hi ∧ m = k * wd ∧ i = .int .i64 m ∧ J (List.range k) wr ∧ Below n₀ W wr)
    (fun i _ _ => hi * wd - (intOf i).toNat)
  case atStart => exact ⟨0, 0, Nat.zero_le _, by simp, rfl, h0, Below.refl _ _⟩
  case round =>
    obtain ⟨k, m, hk, hm, rfl, hJs, hB⟩ := hrel
    have b1 := (hB.cell (p := ⟨B1, 0, none⟩) hB1).trans C1.out
    have b2 := (hB.cell (p := ⟨B2, 0, none⟩) hB2).trans C2.out
    have HH : hi * wd ≤ 1000000 := by have := Nat.mul_le_mul hh5 hw5; omega
    obtain ⟨N, hN⟩ : ∃ N, N = hi * wd := ⟨_, rfl⟩
    rw [← hN] at b1 HH hcap
    by_cases hlt : k < hi
    · have hmN : m + wd ≤ N := by
        rw [hm, hN, ← Nat.succ_mul]
        exact Nat.mul_le_mul_right wd hlt
      have hJd : J (List.range k) wr.drew := hJ _ _ _ none hJs ⟨rfl, rfl, rfl, Nat.le_refl _, fun _ _ _ => rfl⟩ (fun r e => by cases e)
      have hBd : Below n₀ W wr.drew := hB.drew
      obtain ⟨fn, tmps, assign, body, hy, hR⟩ := hY _ k wr.drew hJd (by rw [List.length_range]; exact hlt)
      dsimp only [encChI] at hy
      rw [← hm] at hy
      have HM := Lib.hid hm
      have HN := Lib.hid hN
      clear hm hN
      have l1 : (m : Int) < (N : Int) := by omega
      have l2 : (0 : Int) ≤ (m : Int) := by omega
      have l3 : min (wd : Int) ((N - m : Nat) : Int) = wd := by omega
      have l7 : ((m : Int) + wd).toNat - m = wd := by omega
      have l4 : (m : Int) ≤ (N : Int) := by omega
      have l5 : (m : Int) + wd ≤ (cap : Int) := by omega
      have l6 : (m : Int) ≤ m + wd := by omega
      clear hJs hB
      gi_wp2
      gi_region
      all_goals
        gi_wp2
        refine hR.mono ?_
        rintro e W3 (⟨rfl, hJ3, hk3⟩ | ⟨rfl, hJx3⟩)
        · have hJ4 : J (List.range (k + 1)) W3 := by rw [List.range_succ]; exact hJ3
          have hB3 := hBd.trans hk3
          have d2 := (hB3.cell (p := ⟨B2, 0, none⟩) hB2).trans C2.out
          clear hJ3 hk3 hBd b1 b2 hy hR hJd
          gi_wp2
          go_roundw
          case rel => exact ⟨k + 1, m + wd, by omega, by rw [HM.out, Nat.succ_mul], by go_num, hJ4, hB3⟩
          case measure => have := HN.out; simp [intOf]; omega
        · have hJ4 : Jx (List.range (k + 1)) W3 := by rw [List.range_succ]; exact hJx3
          clear hy hR
          gi_wp2
          refine bodyPost_ret (results_none rfl _ _ _) rfl ?_
          exact ⟨⟨_, rfl⟩, .inr ⟨_, ⟨k + 1, by omega, rfl⟩, hJ4⟩⟩
    · obtain rfl : k = hi := by omega
      rw [← hN] at hm
      subst hm
      gi_wp2
      go_end0
      exact ⟨⟨_, rfl⟩, .inl ⟨_, rfl, hJs⟩⟩

end Go.Proofs.YtjadnfnpbacfdaaDoor
namespace Go.Proofs.YtjadnfnpbacfdaaDoor
open Go.RowKit Go.Shelf

attribute [local go_sem] Oper.semAt_some

theorem chunk_stopsI (F : Fence) (n : Nat) (h7 : F.fn 145) (hro : F.round = none) (hn : 1 ≤ n) (B1 B2 n₀ g wd hi cap : Nat) (hwd : 1 ≤ wd) (hw5 : wd ≤ 1000) (hh5 : hi ≤ 1000) (hcap : hi * wd ≤ cap) (hB1 : B1 < n₀) (hB2 : B2 < n₀) (w : World) (hn₀ : n₀ ≤ w.heap.size)
    (c1 : w.cell? ⟨B1, 0, none⟩ = some (.slice (some ⟨g, 0, none⟩) (hi * wd) cap)) (c2 : w.cell? ⟨B2, 0, none⟩ = some (.int .i64 wd)) :
    SeqStopsK F n Tryd.prog 145 #[.pointer (some ⟨B1, 0, none⟩), .pointer (some ⟨B2, 0, none⟩)] (encChI g wd) (Below n₀) (fun ys => ys = List.range hi) (fun pre => ∃ k, k ≤ hi ∧ pre = List.range k) hi w := fun lp J Jx W hW hJ _ hY h0 =>
  chunk1_inI F n h7 hro hn lp B1 B2 n₀ g wd hi cap hwd hw5 hh5 hcap hB1 hB2 J Jx W hJ hY
    ((hW.cell (p := ⟨B1, 0, none⟩) (by show B1 < _; omega)).trans c1) ((hW.cell (p := ⟨B2, 0, none⟩) (by show B2 < _; omega)).trans c2) h0

/-- The answer: rows that lie in one block. -/
def ChPostI (g wd hi : Nat) (w : World) (e : Ending) (w' : World) : Prop :=
  ∃ v, e = .returned v ∧ w'.ownsRow w.heap.size 67 1 v hi ((List.range hi).map (chV g wd)) ∧ Below w.heap.size w w'

set_option maxRecDepth 100000 in
set_option maxHeartbeats 4000000 in
theorem appendSeq_anyI (B1 B2 g wd hi cap : Nat) (hwd : 1 ≤ wd) (hw5 : wd ≤ 1000) (hh5 : hi ≤ 1000) (hcap : hi * wd ≤ cap) (w : World) (hB1 : B1 < w.heap.size) (hB2 : B2 < w.heap.size)
    (c1 : w.cell? ⟨B1, 0, none⟩ = some (.slice (some ⟨g, 0, none⟩) (hi * wd) cap)) (c2 : w.cell? ⟨B2, 0, none⟩ = some (.int .i64 wd)) :
    Calls Tryd.prog 144 #[.slice none 0 0, .func (.func 145) #[] #[.pointer (some ⟨B1, 0, none⟩), .pointer (some ⟨B2, 0, none⟩)]] w (ChPostI g wd hi w) := by
  refine (callsIn_wide (n := 6)).1 ?_
  obtain ⟨i0, hi0, hz0, hz1, hz2⟩ := info_parts Tryd.infoBSI
  refine callsIn_of_wp_marks Tryd.func144 rfl trivial ?_ rfl
  simp only [Tryd.ntmps144, List.size_toArray, List.length_cons, List.length_nil, Nat.reduceAdd, Nat.reduceSub, Array.replicate_succ, Array.replicate_zero, List.push_toArray, List.append_toArray, List.nil_append, List.cons_append]
  gi_wp2
  have bB := Boxed.new w 94 (.slice none 0 0)
  have hB0 : Below w.heap.size w (w.alloc (.cells #[.slice none 0 0] 94)) := (Below.refl _ w).alloc (Nat.le_refl _) _
  have hsz : (w.alloc (.cells #[.slice none 0 0] 94)).heap.size = w.heap.size + 1 := by simp
  obtain ⟨W0, hW0⟩ : ∃ W0, (w.alloc (.cells #[.slice none 0 0] 94)) = W0 := ⟨_, rfl⟩
  rw [hW0] at bB hB0 hsz ⊢
  clear hW0
  have c1' := (hB0.cell (p := ⟨B1, 0, none⟩) hB1).trans c1
  have c2' := (hB0.cell (p := ⟨B2, 0, none⟩) hB2).trans c2
  refine wpIn_rangeFunc_ownF rfl (by omega) (gf := 145) (lb := #[.pointer (some ⟨B1, 0, none⟩), .pointer (some ⟨B2, 0, none⟩)]) rfl trivial (enters_of Tryd.func145 (by kernel_rfl) rfl)
    (chunk_stopsI Fence.wide (6 - 1) trivial rfl (by omega) B1 B2 w.heap.size g wd hi cap hwd hw5 hh5 hcap hB1 hB2 W0 (by omega) c1' c2') belowK_t (belowK_b (by omega)) (Below.refl _ _) (fun _ => rfl)
    (fun pre W => (∃ v, Boxed W w.heap.size 94 v ∧ W.ownsRow w.heap.size 67 1 v pre.length (pre.map (chV g wd)) ∧ True) ∧ Below w.heap.size w W)
    (fun _ _ _ => False)
    (OwnFrom.and (Own.from (holdsRow_own _ _ _ _ _ _ _ (fun _ _ => True)) _) (ownFrom_below (Nat.le_refl _) (by omega)))
    (fun _ _ _ _ _ hs _ _ => hs)
    ⟨⟨_, bB, World.ownsRow_nil _ _ _ _, trivial⟩, hB0⟩
    (fun x => { tmps := #[.slice none 0 0, .func (.func 145) #[] #[.pointer (some ⟨B1, 0, none⟩), .pointer (some ⟨B2, 0, none⟩)], .pointer (some ⟨w.heap.size, 0, none⟩), undef, .slice none 0 0, .slice (some ⟨g, x * wd, none⟩) wd wd, .func (.func 145) #[] #[.pointer (some ⟨B1, 0, none⟩), .pointer (some ⟨B2, 0, none⟩)], .slice (some ⟨g, x * wd, none⟩) wd wd, undef, undef, undef, undef, undef], defers := [] })
    ?assign ?body ?done ?stop
  case assign =>
    intro lp x W K hK
    gi_wp2
    exact hK
  case body =>
    rintro lp pre x W ⟨⟨v, hv, hrow, _⟩, hB⟩ hlt
    have c12 := hv.cell
    have hbW := hB.size
    have H2 : ∀ u ∈ [Value.slice (some ⟨g, x * wd, none⟩) wd wd], u.oneCell' = true := fun u hu => by simp at hu; subst hu; rfl
    have H3 : pre.length + 1 ≤ maxLen := by unfold maxLen; omega
    have H4 : (pre.length + 1) * 24 ≤ 140737488355328 := by omega
    have H5 : w.heap.size ≤ (W.alloc (Obj.cells #[.slice (some ⟨g, x * wd, none⟩) wd wd] 67)).heap.size := by simp; omega
    gi_wp2_with (gi_at_builtin; refine wpListIn_append_own _ rfl _ _ 94 rfl w.heap.size 67 i0 (.slice none 0 0) 1 24 Tryd.underlying94 hi0 hz0 hz1 hz2 rfl (by decide) _ _ _ rfl (hrow.alloc _) ⟨W.heap.size, 0, none⟩ 1 1 [.slice (some ⟨g, x * wd, none⟩) wd wd] rfl rfl (cell_one_new _ _ _) H2 H3 H4 H5 ?_; intro v' w2 hown' hgrow _; obtain ⟨g', cap', rfl⟩ := ownsRow_succ hown'; obtain ⟨hv1, hv2, hr2, hk2, hb2⟩ := hv.appended (by decide) hrow hbW (Nat.le_refl _) hown' hgrow; have hc1 := hv1.cell; have hf1 := hv1.frozen)
    have hlen : (pre ++ [x]).length = pre.length + 1 := by simp
    have hfl : (pre ++ [x]).map (chV g wd) = pre.map (chV g wd) ++ [Value.slice (some ⟨g, x * wd, none⟩) wd wd] := by simp [chV]
    refine ⟨hk2, hb2, ⟨⟨_, hv2, ?_, trivial⟩, hB.trans hb2⟩⟩
    rw [hlen, hfl]
    exact hr2
  case done =>
    rintro D ys W hD rfl ⟨⟨v, hv, hrow, _⟩, hB⟩ hK
    have c12 := hv.cell
    gi_wp2
    refine ⟨by simp, .inl ⟨_, _, rfl, run_takeDeferred hK, ?_⟩⟩
    refine ⟨_, results_tmp rfl _ _ _, ?_⟩
    rw [List.length_range] at hrow
    have ho := ownsRow_putObj hrow (.deferred none) hK rfl
    have hBB := hB.trans (belowK_b (w := w) (Nat.le_refl _) W D _ (.deferred none) (by omega) hK rfl rfl)
    exact ⟨v, rfl, ho, hBB⟩
  case stop =>
    rintro D cc pre W _ _ h _
    exact h.elim

set_option maxHeartbeats 1000000 in
theorem chunk_anyI (a : Option Addr) (len cap wd : Nat) (w : World) (hwd : 1 ≤ wd) :
    Calls Tryd.prog 128 #[.slice a len cap, .int .i64 wd] w fun e w' => e = .returned (.func (.func 145) #[] #[.pointer (some ⟨w.heap.size, 0, none⟩), .pointer (some ⟨w.heap.size + 1, 0, none⟩)]) ∧
      w'.cell? ⟨w.heap.size, 0, none⟩ = some (.slice a len cap) ∧ w'.cell? ⟨w.heap.size + 1, 0, none⟩ = some (.int .i64 wd) ∧ w'.heap.size = w.heap.size + 2 ∧ Below w.heap.size w w' := by
  have hd : ¬ ((wd : Int) < 1) := by omega
  go_enter Tryd.func128, Tryd.ntmps128
  go_wp2
  go_ret
  refine ⟨rfl, ?_, ?_, by simp, ((Below.refl _ _).alloc (Nat.le_refl _) _).alloc (by simp) _⟩
  · rw [World.cell?_alloc_old _ _ _ (by simp), World.cell?_alloc_new]; rfl
  · obtain ⟨W1, hW1⟩ : ∃ W1, W1 = w.alloc (.cells #[.slice a len cap] 67) := ⟨_, rfl⟩
    have z : W1.heap.size = w.heap.size + 1 := by rw [hW1]; simp
    rw [← hW1, ← z, World.cell?_alloc_new]
    rfl

set_option maxHeartbeats 1000000 in
theorem collect_anyI (B1 B2 g wd hi cap : Nat) (hwd : 1 ≤ wd) (hw5 : wd ≤ 1000) (hh5 : hi ≤ 1000) (hcap : hi * wd ≤ cap) (w : World) (hB1 : B1 < w.heap.size) (hB2 : B2 < w.heap.size)
    (c1 : w.cell? ⟨B1, 0, none⟩ = some (.slice (some ⟨g, 0, none⟩) (hi * wd) cap)) (c2 : w.cell? ⟨B2, 0, none⟩ = some (.int .i64 wd)) :
    Calls Tryd.prog 127 #[.func (.func 145) #[] #[.pointer (some ⟨B1, 0, none⟩), .pointer (some ⟨B2, 0, none⟩)]] w (ChPostI g wd hi w) := by
  have HA := Lib.hid (appendSeq_anyI B1 B2 g wd hi cap hwd hw5 hh5 hcap w hB1 hB2 c1 c2)
  go_enter Tryd.func127, Tryd.ntmps127
  go_wp2_with fail
  refine HA.out.mono ?_
  rintro e w1 ⟨v, rfl, ho, hb⟩
  go_wp2
  go_ret
  exact ⟨v, rfl, ho, hb⟩

set_option maxHeartbeats 1000000 in
theorem rowsOf_anyI (g wd hi cap : Nat) (hwd : 1 ≤ wd) (hw5 : wd ≤ 1000) (hh5 : hi ≤ 1000) (hcap : hi * wd ≤ cap) (w : World) :
    Calls Tryd.prog 105 #[.slice (some ⟨g, 0, none⟩) (hi * wd) cap, .int .i64 wd] w (ChPostI g wd hi w) := by
  have HC := Lib.hid (chunk_anyI (some ⟨g, 0, none⟩) (hi * wd) cap wd w hwd)
  obtain ⟨N, hN⟩ : ∃ N, N = hi * wd := ⟨_, rfl⟩
  have HK := Lib.hid (fun (wx : World) (hz : wx.heap.size = w.heap.size + 2) c1 c2 => collect_anyI w.heap.size (w.heap.size + 1) g wd hi cap hwd hw5 hh5 hcap wx (by omega) (by omega) c1 c2)
  rw [← hN] at HC HK ⊢
  clear hcap hN
  go_enter Tryd.func105, Tryd.ntmps105
  go_wp2_with fail
  refine HC.out.mono ?_
  rintro e w1 ⟨rfl, d1, d2, hz, hb⟩
  have HK2 := Lib.hid (HK.out w1 hz d1 d2)
  have HB := Lib.hid hb
  clear d1 d2 hb HK HC
  go_wp2_with fail
  refine HK2.out.mono ?_
  rintro e w2 ⟨v, rfl, ho, hb2⟩
  go_wp2
  go_ret
  exact ⟨v, rfl, own_lo ho (by omega), HB.out.trans (hb2.mono (by omega))⟩

end Go.Proofs.YtjadnfnpbacfdaaDoor
namespace Go.Proofs.YtjadnfnpbacfdaaDoor
open Go.RowKit

theorem Tryd.infoU8I : (Tryd.prog.info? 3).map (fun i => (i.zero, i.size, i.bytes)) = some (some (.int .i64 0), 1, 8) := by kernel_rfl
/-- Numbers in a block. -/
def BsAtI (w : World) (g : Nat) (l : List Int) : Prop := ∀ j (h : j < l.length), w.cell? ⟨g, j, none⟩ = some (.int .i64 l[j])
theorem BsAtI.below {w w' : World} {g : Nat} {l : List Int} (h : BsAtI w g l) (hg : g < w.heap.size) (hb : Below w.heap.size w w') : BsAtI w' g l := fun j hj => (hb.cell (p := ⟨g, j, none⟩) hg).trans (h j hj)
/-- Numbers as values. -/
def bvI (l : List Int) : List Value := l.map fun c => .int .i64 c
theorem bv_lenI (l : List Int) : (bvI l).length = l.length := by simp [bvI]
/-- A column, from above. -/
def colCI (F : List Int) (wd hi x : Nat) : List Int := (List.range hi).map fun y => F.getD (y * wd + x) 0
theorem colC_lenI (F : List Int) (wd hi x : Nat) : (colCI F wd hi x).length = hi := by simp [colCI]
theorem colC_atI (F : List Int) (wd hi x y : Nat) (h : y < hi) : (colCI F wd hi x).take (y + 1) = (colCI F wd hi x).take y ++ [F.getD (y * wd + x) 0] := by
  rw [List.take_succ_eq_append_getElem (by rw [colC_lenI]; exact h)]
  simp [colCI]
/-- Within a column: y bytes of it are there. -/
structure ColII (wo wr : World) (gC x wd H : Nat) (v : Value) (l : List Int) : Prop where
  cell : wr.cell? ⟨gC, x, none⟩ = some v
  row : wr.ownsRow H 3 1 v l.length (bvI l)
  keep : ∀ g, g < H → g ≠ gC → wr.heap[g]? = wo.heap[g]?
  cols : ∀ j, j ≠ x → wr.cell? ⟨gC, j, none⟩ = wo.cell? ⟨gC, j, none⟩
  froz : ∀ j, j < wd → wr.frozen? ⟨gC, j, none⟩ = false
  size : H ≤ wr.heap.size
/-- Between two columns: x of them are there. -/
structure ColOI (wr : World) (gC wd hi x : Nat) (C : Nat → List Int) : Prop where
  done : ∀ j, j < x → ∃ g c, wr.cell? ⟨gC, j, none⟩ = some (.slice (some ⟨g, 0, none⟩) hi c) ∧ hi ≤ c ∧ gC < g ∧ g < wr.heap.size ∧ BsAtI wr g (C j)
  rest : ∀ j, x ≤ j → j < wd → wr.cell? ⟨gC, j, none⟩ = some (.slice none 0 0)
  froz : ∀ j, j < wd → wr.frozen? ⟨gC, j, none⟩ = false
  lt : gC < wr.heap.size
theorem ColOI.start {wo : World} {gC wd hi x : Nat} {C : Nat → List Int} (h : ColOI wo gC wd hi x C) (hx : x < wd) : ColII wo wo gC x wd wo.heap.size (.slice none 0 0) [] :=
  ⟨h.rest x (Nat.le_refl _) hx, World.ownsRow_nil _ _ _ _, fun _ _ _ => rfl, fun _ _ => rfl, h.froz, Nat.le_refl _⟩
theorem ColOI.next {wo wr : World} {gC wd hi x : Nat} {C : Nat → List Int} (h : ColOI wo gC wd hi x C) (hx : x < wd) (hh : 1 ≤ hi) {v : Value} (hl : (C x).length = hi) (hI : ColII wo wr gC x wd wo.heap.size v (C x)) : ColOI wr gC wd hi (x + 1) C := by
  refine ⟨fun j hj => ?_, fun j h1 h2 => ?_, hI.froz, Nat.lt_of_lt_of_le h.lt hI.size⟩
  · by_cases e : j = x
    · subst e
      obtain ⟨g, c, e1, h1, h2, h3, _, h4⟩ := own_op hI.row (by omega)
      refine ⟨g, c, by rw [hI.cell, e1, hl], by omega, by have := h.lt; omega, h2, fun i hi => ?_⟩
      rw [h4 i (by rw [bv_lenI]; exact hi)]
      simp [bvI]
    · obtain ⟨g, c, e1, h1, h2, h3, h4⟩ := h.done j (by omega)
      refine ⟨g, c, by rw [hI.cols j e]; exact e1, h1, h2, Nat.lt_of_lt_of_le h3 hI.size, fun i hi => ?_⟩
      rw [cell_of_blk (hI.keep g h3 (by omega))]
      exact h4 i hi
  · rw [hI.cols j (by omega)]
    exact h.rest j (by omega) h2
/-- One byte more. -/
theorem ColII.push {wo wr X : World} {gC x wd H : Nat} {v : Value} {l : List Int} (h : ColII wo wr gC x wd H v l) (hg : gC < H) (c : Int) {w' : World} {g' cap' : Nat} (hX : ∀ g, g < wr.heap.size → X.heap[g]? = wr.heap[g]?) (hXs : wr.heap.size ≤ X.heap.size)
    (hgr : X.grownBy w' v.ownBlock) (hrow : w'.ownsRow H 3 1 (.slice (some ⟨g', 0, none⟩) (l.length + 1) cap') (l.length + 1) (bvI l ++ [.int .i64 c])) (hat : gC < g') :
    ColII wo (w'.setCell ⟨gC, x, none⟩ (.slice (some ⟨g', 0, none⟩) (l.length + 1) cap')) gC x wd H (.slice (some ⟨g', 0, none⟩) (l.length + 1) cap') (l ++ [c]) := by
  have hz := h.size
  have hne : ∀ g, g < H → some g ≠ v.ownBlock := fun g hg e => by have := (h.row.lt g e.symm).1; omega
  have hblk : ∀ g, g < H → w'.heap[g]? = wr.heap[g]? := fun g hg => (hgr.block g (by omega) (hne g hg)).trans (hX g (by omega))
  refine ⟨?_, ?_, fun g h1 h2 => ?_, fun j hj => ?_, fun j hj => ?_, ?_⟩
  · exact World.cell?_setCell_same _ _ _ ((cell_of_blk (hblk gC hg)).trans h.cell)
  · have e : bvI (l ++ [c]) = bvI l ++ [.int .i64 c] := by simp [bvI]
    rw [e, List.length_append]
    exact own_set hrow _ _ (fun e => by injection e with e; simp at e; omega)
  · rw [Below.heap_setCell _ _ _ g (by exact h2), hblk g h1]
    exact h.keep g h1 h2
  · rw [World.cell?_setCell_other _ _ _ _ (by intro e; injection e with _ e; exact hj e.symm), cell_of_blk (hblk gC hg)]
    exact h.cols j hj
  · have e : (w'.setCell ⟨gC, x, none⟩ (.slice (some ⟨g', 0, none⟩) (l.length + 1) cap')).frozen? ⟨gC, j, none⟩ = w'.frozen? ⟨gC, j, none⟩ := by simp
    rw [e, frz_of_blk (hblk gC hg)]
    exact h.froz j hj
  · have := hgr.size
    simp
    omega

/-- The answer: columns in memory of the call's own. -/
def CoPI (wd hi : Nat) (C : Nat → List Int) (w : World) (e : Ending) (w' : World) : Prop :=
  ∃ gC cC, e = .returned (.slice (some ⟨gC, 0, none⟩) wd cC) ∧ w.heap.size ≤ gC ∧ wd ≤ cC ∧ ColOI w' gC wd hi wd C ∧ Below w.heap.size w w'

set_option maxRecDepth 100000 in
set_option maxHeartbeats 4000000 in
theorem columns_anyI (wd hi g g' c' : Nat) (F : List Int) (w : World) (hw1 : 1 ≤ wd) (hw5 : wd ≤ 5) (hh1 : 1 ≤ hi) (hh5 : hi ≤ 5) (hF : F.length = hi * wd) (hg : g < w.heap.size) (hg' : g' < w.heap.size) (hb : BsAtI w g F)
    (hr : ∀ k, k < hi → w.cell? ⟨g', k, none⟩ = some (.slice (some ⟨g, k * wd, none⟩) wd wd)) :
    Calls Tryd.prog 76 #[.slice (some ⟨g', 0, none⟩) hi c'] w (CoPI wd hi (colCI F wd hi) w) := by
  obtain ⟨i0, hi0, hz0, hz1, hz2⟩ := info_parts Tryd.infoBSI
  have HI := Lib.hid hi0
  have HZ0 := Lib.hid hz0
  have HZ1 := Lib.hid hz1
  have HZ2 := Lib.hid hz2
  obtain ⟨i8, hi8, hy0, hy1, hy2⟩ := info_parts Tryd.infoU8I
  have HI8 := Lib.hid hi8
  have HY0 := Lib.hid hy0
  have HY1 := Lib.hid hy1
  have HY2 := Lib.hid hy2
  clear hi0 hz0 hz1 hi8 hy0 hy1 hy2
  have hbytes : i0.bytes * wd ≤ 281474976710656 := by rw [hz2]; omega
  have hmx : wd ≤ maxLen := by unfold maxLen; omega
  clear hz2
  have HB := Lib.hid hb
  have HR := Lib.hid hr
  have hr0 := hr 0 hh1
  rw [Nat.zero_mul] at hr0
  have HAT := Lib.hid (colC_atI F wd hi)
  have HCL := Lib.hid (colC_lenI F wd hi)
  have HGT : Hid (∀ y x, y < hi → x < wd → ∃ h : y * wd + x < F.length, F.getD (y * wd + x) 0 = F[y * wd + x]) := Lib.hid fun y x h1 h2 => by
    have h3 : y * wd + x < F.length := by
      rw [hF]
      have : (y + 1) * wd ≤ hi * wd := Nat.mul_le_mul_right wd h1
      rw [Nat.add_mul] at this
      omega
    exact ⟨h3, by rw [List.getD_eq_getElem?_getD, List.getElem?_eq_getElem h3]; rfl⟩
  clear hb hr hF
  generalize hC : colCI F wd hi = C at HAT HCL ⊢
  clear hC
  go_enter Tryd.func76, Tryd.ntmps76
  go_wp2_with (at_make; refine wpList_make_full _ rfl (.tmp 10) (.tmp 10) 94 rfl w.heap.size 67 i0 (.slice none 0 0) 1 Tryd.underlying94 HI.out HZ0.out HZ1.out .i64 .i64 wd wd wd rfl rfl rfl rfl hbytes hmx (Nat.le_refl _) ?_; intro w1 hown hgrow; have hB1 : Below w.heap.size w w1 := (Below.refl _ _).grown hgrow (Nat.le_refl _) (fun k e => by cases e); have hr1 := (hB1.cell (p := ⟨g', 0, none⟩) hg').trans hr0)
  have hO : ColOI w1 w.heap.size wd hi 0 C := by
    rw [Nat.mul_one, made_one _ rfl] at hown
    obtain ⟨q, c, e1, b1, b2, b3, _, b4⟩ := own_op hown hw1
    injection e1 with e1 _ _
    injection e1 with e1
    injection e1 with e1
    subst e1
    refine ⟨fun j h => by omega, fun j _ h => ?_, fun j h => ?_, b2⟩
    · have := b4 j (by simpa using h)
      rw [this]
      simp
    · exact hown.frozenAt j
  clear hown hgrow
  go_loopw [16] (fun i wr => ∃ x : Nat, x ≤ wd ∧ i = .int .i64 x ∧ Hid (ColOI wr w.heap.size wd hi x C) ∧ Below w.heap.size w wr) (fun i _ => wd - (intOf i).toNat)
  case atStart => exact ⟨0, Nat.zero_le _, rfl, Lib.hid hO, hB1⟩
  case round =>
    obtain ⟨x, hx, rfl, HO, hBo⟩ := hrel
    obtain ⟨wo, hwo⟩ : ∃ wo : World, wo = wr := ⟨_, rfl⟩
    subst hwo
    clear hr1 hO hB1
    by_cases hlt : x < wd
    · have HST := Lib.hid (HO.out.start hlt)
      have hgC : w.heap.size < wo.heap.size := HO.out.lt
      have HBo := Lib.hid hBo
      clear hBo
      go_wp2
      go_loopw [21] (fun i wv => ∃ (y : Nat) (v : Value), y ≤ hi ∧ i = .int .i64 y ∧ Hid (ColII wo wv w.heap.size x wd wo.heap.size v ((C x).take y)) ∧ Below w.heap.size w wv) (fun i _ => hi - (intOf i).toNat)
      case atStart => exact ⟨0, _, Nat.zero_le _, rfl, by rw [List.take_zero]; exact HST, HBo.out⟩
      case round =>
        obtain ⟨y, v, hy, rfl, HCI, hB⟩ := hrel
        by_cases hlty : y < hi
        · have hcell := (hB.cell (p := ⟨g', y, none⟩) hg').trans (HR.out y hlty)
          obtain ⟨hF1, hF2⟩ := HGT.out y x hlty hlt
          have hbyte := (hB.cell (p := ⟨g, y * wd + x, none⟩) hg).trans (HB.out _ hF1)
          have HTK := Lib.hid (HAT.out x y hlty)
          rw [hF2] at HTK
          clear hF2
          generalize F[y * wd + x] = c at hbyte HTK
          clear hF1
          generalize y * wd = m at hcell hbyte
          have hlen : ((C x).take y).length = y := by rw [List.length_take, HCL.out]; omega
          have hcv := HCI.out.cell
          have hrow := HCI.out.row
          have hsz := HCI.out.size
          rw [hlen] at hrow
          have HROW := Lib.hid hrow
          have hfz := HCI.out.froz x hlt
          have HLEN := Lib.hid hlen
          have HBB := Lib.hid hB
          have hgCr : w.heap.size < wr.heap.size := by omega
          have i1 : (0 : Int) ≤ (y : Int) := by omega
          have i2 : (y : Int) < (hi : Int) := by omega
          have i3 : (0 : Int) ≤ (x : Int) := by omega
          have i4 : (x : Int) < (wd : Int) := by omega
          have e_a : (wr.alloc (Obj.cells #[.int .i64 c] 3)).cell? ⟨w.heap.size, x, none⟩ = some v := (cell_of_blk (Below.heap_alloc _ _ _ hgCr)).trans hcv
          have e_b : ((wr.alloc (Obj.cells #[.int .i64 c] 3)).drew).cell? ⟨w.heap.size, x, none⟩ = some v := e_a
          have H3 : y + 1 ≤ maxLen := by unfold maxLen; omega
          have H4 : (y + 1) * 8 ≤ 140737488355328 := by omega
          have HLO : Hid (∀ q, some q = v.ownBlock → wo.heap.size ≤ q) := Lib.hid fun q hq => (HROW.out.lt q hq.symm).1
          clear hrow hlen hB
          go_wp2
          go_region_law (first | (refine step_append_lies _ rfl _ _ 67 rfl wo.heap.size 3 i8 (.int .i64 0) 1 8 Tryd.underlying67 HI8.out HY0.out HY1.out HY2.out rfl (by decide) v y _ rfl (show ((wr.alloc (Obj.cells #[.int .i64 c] 3)).drew).ownsRow wo.heap.size 3 1 v y (bvI ((C x).take y)) from HROW.out.alloc _) ⟨wr.heap.size, 0, none⟩ 1 1 [.int .i64 c] rfl rfl (fun j u h => cell_one_a8 wr wr.heap.size rfl (.int .i64 c) 3 j u h) (fun u hu => by simp at hu; subst hu; rfl) (by decide) H3 H4 (by simp <;> omega) _ rfl ?_; intro g2 c2 w8 hrow8 hg8 hat8 hlt8; have hbk : w8.heap[w.heap.size]? = wr.heap[w.heap.size]? := (hg8.block w.heap.size (by simp <;> omega) (fun e => by have := HLO.out _ e; omega)).trans (Below.heap_alloc _ _ _ hgCr); have k0 := (cell_of_blk (o := x) hbk).trans hcv; have k1 := (frz_of_blk (o := x) hbk).trans hfz))
          all_goals
            go_wp2
            go_roundw
            case rel =>
              have hat : w.heap.size < g2 := by
                rcases hat8 with h | h
                · have := HLO.out g2 h.symm; omega
                · simp at h; omega
              have h := HCI.out.push (X := (wr.alloc (Obj.cells #[.int .i64 c] 3)).drew) hgC c (fun q hq => Below.heap_alloc _ _ _ hq) (by simp) hg8 (by rw [HLEN.out]; exact hrow8) hat
              rw [HLEN.out] at h
              refine ⟨y + 1, _, by omega, by go_num, Lib.hid (by rw [HTK.out]; exact h), ?_⟩
              exact ((HBB.out.alloc HBB.out.size (Obj.cells #[.int .i64 c] 3)).drew.grown hg8 (by simp; omega) (fun j hj => by have := HLO.out j hj.symm; omega)).setCell (Nat.le_refl _) _
            case measure => simp [intOf]; omega
        · obtain rfl : y = hi := by omega
          have HCI2 : Hid (ColII wo wr w.heap.size x wd wo.heap.size v (C x)) := Lib.hid (by
            have h := HCI.out
            rw [List.take_of_length_le (by rw [HCL.out]; exact Nat.le_refl _)] at h
            exact h)
          have HBB := Lib.hid hB
          clear hB
          go_wp2
          go_roundw
          case rel => exact ⟨x + 1, by omega, by go_num, Lib.hid (HO.out.next hlt hh1 (HCL.out x) HCI2.out), HBB.out⟩
          case measure => simp [intOf]; omega
    · obtain rfl : x = wd := by omega
      have HBo := Lib.hid hBo
      clear hBo
      go_wp2
      go_ret
      exact ⟨w.heap.size, _, rfl, Nat.le_refl _, Nat.le_refl _, HO.out, HBo.out⟩
end Go.Proofs.YtjadnfnpbacfdaaDoor
