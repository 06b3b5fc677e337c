/- Contracts: chunks gathered: the program's rows of a board. -/
import Derived.Test.YtmlffocbcfediaaDoorBdY
import Derived.RangeFuncNested
import Derived.RangeFuncBox
import Derived.RangeFuncLeaves
import Derived.Shelf.Abstract
import Derived.WalkKit
import Derived.OwnWalkIn
import Derived.TacticsInMore
import Derived.LoopNIn
import Derived.LoopIn
import Derived.Maps.AppendAt
namespace Go.Proofs.YtmlffocbcfediaaDoor
open Go.RowKit Go.Shelf

attribute [local go_sem] Oper.semAt_some

theorem chunk_stops (F : Fence) (n : Nat) (h7 : F.fn 157) (hro : F.round = none) (hn : 1 ≤ n) (B1 B2 n₀ g wd hi cap : Nat) (hwd : 1 ≤ wd) (hw5 : wd ≤ 1000) (hh5 : hi ≤ 1000) (hcap : hi * wd ≤ cap) (hB1 : B1 < n₀) (hB2 : B2 < n₀) (w : World) (hn₀ : n₀ ≤ w.heap.size)
    (c1 : w.cell? ⟨B1, 0, none⟩ = some (.slice (some ⟨g, 0, none⟩) (hi * wd) cap)) (c2 : w.cell? ⟨B2, 0, none⟩ = some (.int .i64 wd)) :
    SeqStopsK F n Tryd.prog 157 #[.pointer (some ⟨B1, 0, none⟩), .pointer (some ⟨B2, 0, none⟩)] (encCh g wd) (Below n₀) (fun ys => ys = List.range hi) (fun pre => ∃ k, k ≤ hi ∧ pre = List.range k) hi w := fun lp J Jx W hW hJ _ hY h0 =>
  chunk1_in F n h7 hro hn lp B1 B2 n₀ g wd hi cap hwd hw5 hh5 hcap hB1 hB2 J Jx W hJ hY
    ((hW.cell (p := ⟨B1, 0, none⟩) (by show B1 < _; omega)).trans c1) ((hW.cell (p := ⟨B2, 0, none⟩) (by show B2 < _; omega)).trans c2) h0

/-- The answer: rows that lie in one block. -/
def ChPost (g wd hi : Nat) (w : World) (e : Ending) (w' : World) : Prop :=
  ∃ v, e = .returned v ∧ w'.ownsRow w.heap.size 49 1 v hi ((List.range hi).map (chV g wd)) ∧ Below w.heap.size w w'

set_option maxRecDepth 100000 in
set_option maxHeartbeats 4000000 in
theorem appendSeq_any (B1 B2 g wd hi cap : Nat) (hwd : 1 ≤ wd) (hw5 : wd ≤ 1000) (hh5 : hi ≤ 1000) (hcap : hi * wd ≤ cap) (w : World) (hB1 : B1 < w.heap.size) (hB2 : B2 < w.heap.size)
    (c1 : w.cell? ⟨B1, 0, none⟩ = some (.slice (some ⟨g, 0, none⟩) (hi * wd) cap)) (c2 : w.cell? ⟨B2, 0, none⟩ = some (.int .i64 wd)) :
    Calls Tryd.prog 156 #[.slice none 0 0, .func (.func 157) #[] #[.pointer (some ⟨B1, 0, none⟩), .pointer (some ⟨B2, 0, none⟩)]] w (ChPost g wd hi w) := by
  refine (callsIn_wide (n := 6)).1 ?_
  obtain ⟨i0, hi0, hz0, hz1, hz2⟩ := info_parts Tryd.infoBS
  refine callsIn_of_wp_marks Tryd.func156 rfl trivial ?_ rfl
  simp only [Tryd.ntmps156, List.size_toArray, List.length_cons, List.length_nil, Nat.reduceAdd, Nat.reduceSub, Array.replicate_succ, Array.replicate_zero, List.push_toArray, List.append_toArray, List.nil_append, List.cons_append]
  gi_wp2
  have bB := Boxed.new w 71 (.slice none 0 0)
  have hB0 : Below w.heap.size w (w.alloc (.cells #[.slice none 0 0] 71)) := (Below.refl _ w).alloc (Nat.le_refl _) _
  have hsz : (w.alloc (.cells #[.slice none 0 0] 71)).heap.size = w.heap.size + 1 := by simp
  obtain ⟨W0, hW0⟩ : ∃ W0, (w.alloc (.cells #[.slice none 0 0] 71)) = W0 := ⟨_, rfl⟩
  rw [hW0] at bB hB0 hsz ⊢
  clear hW0
  have c1' := (hB0.cell (p := ⟨B1, 0, none⟩) hB1).trans c1
  have c2' := (hB0.cell (p := ⟨B2, 0, none⟩) hB2).trans c2
  refine wpIn_rangeFunc_ownF rfl (by omega) (gf := 157) (lb := #[.pointer (some ⟨B1, 0, none⟩), .pointer (some ⟨B2, 0, none⟩)]) rfl trivial (enters_of Tryd.func157 (by kernel_rfl) rfl)
    (chunk_stops Fence.wide (6 - 1) trivial rfl (by omega) B1 B2 w.heap.size g wd hi cap hwd hw5 hh5 hcap hB1 hB2 W0 (by omega) c1' c2') belowK_t (belowK_b (by omega)) (Below.refl _ _) (fun _ => rfl)
    (fun pre W => (∃ v, Boxed W w.heap.size 71 v ∧ W.ownsRow w.heap.size 49 1 v pre.length (pre.map (chV g wd)) ∧ True) ∧ Below w.heap.size w W)
    (fun _ _ _ => False)
    (OwnFrom.and (Own.from (holdsRow_own _ _ _ _ _ _ _ (fun _ _ => True)) _) (ownFrom_below (Nat.le_refl _) (by omega)))
    (fun _ _ _ _ _ hs _ _ => hs)
    ⟨⟨_, bB, World.ownsRow_nil _ _ _ _, trivial⟩, hB0⟩
    (fun x => { tmps := #[.slice none 0 0, .func (.func 157) #[] #[.pointer (some ⟨B1, 0, none⟩), .pointer (some ⟨B2, 0, none⟩)], .pointer (some ⟨w.heap.size, 0, none⟩), undef, .slice none 0 0, .slice (some ⟨g, x * wd, none⟩) wd wd, .func (.func 157) #[] #[.pointer (some ⟨B1, 0, none⟩), .pointer (some ⟨B2, 0, none⟩)], .slice (some ⟨g, x * wd, none⟩) wd wd, undef, undef, undef, undef, undef], defers := [] })
    ?assign ?body ?done ?stop
  case assign =>
    intro lp x W K hK
    gi_wp2
    exact hK
  case body =>
    rintro lp pre x W ⟨⟨v, hv, hrow, _⟩, hB⟩ hlt
    have c12 := hv.cell
    have hbW := hB.size
    have H2 : ∀ u ∈ [Value.slice (some ⟨g, x * wd, none⟩) wd wd], u.oneCell' = true := fun u hu => by simp at hu; subst hu; rfl
    have H3 : pre.length + 1 ≤ maxLen := by unfold maxLen; omega
    have H4 : (pre.length + 1) * 24 ≤ 140737488355328 := by omega
    have H5 : w.heap.size ≤ (W.alloc (Obj.cells #[.slice (some ⟨g, x * wd, none⟩) wd wd] 49)).heap.size := by simp; omega
    gi_wp2_with (gi_at_builtin; refine wpListIn_append_own _ rfl _ _ 71 rfl w.heap.size 49 i0 (.slice none 0 0) 1 24 Tryd.underlying71 hi0 hz0 hz1 hz2 rfl (by decide) _ _ _ rfl (hrow.alloc _) ⟨W.heap.size, 0, none⟩ 1 1 [.slice (some ⟨g, x * wd, none⟩) wd wd] rfl rfl (cell_one_new _ _ _) H2 H3 H4 H5 ?_; intro v' w2 hown' hgrow _; obtain ⟨g', cap', rfl⟩ := ownsRow_succ hown'; obtain ⟨hv1, hv2, hr2, hk2, hb2⟩ := hv.appended (by decide) hrow hbW (Nat.le_refl _) hown' hgrow; have hc1 := hv1.cell; have hf1 := hv1.frozen)
    have hlen : (pre ++ [x]).length = pre.length + 1 := by simp
    have hfl : (pre ++ [x]).map (chV g wd) = pre.map (chV g wd) ++ [Value.slice (some ⟨g, x * wd, none⟩) wd wd] := by simp [chV]
    refine ⟨hk2, hb2, ⟨⟨_, hv2, ?_, trivial⟩, hB.trans hb2⟩⟩
    rw [hlen, hfl]
    exact hr2
  case done =>
    rintro D ys W hD rfl ⟨⟨v, hv, hrow, _⟩, hB⟩ hK
    have c12 := hv.cell
    gi_wp2
    refine ⟨by simp, .inl ⟨_, _, rfl, run_takeDeferred hK, ?_⟩⟩
    refine ⟨_, results_tmp rfl _ _ _, ?_⟩
    rw [List.length_range] at hrow
    have ho := ownsRow_putObj hrow (.deferred none) hK rfl
    have hBB := hB.trans (belowK_b (w := w) (Nat.le_refl _) W D _ (.deferred none) (by omega) hK rfl rfl)
    exact ⟨v, rfl, ho, hBB⟩
  case stop =>
    rintro D cc pre W _ _ h _
    exact h.elim

set_option maxHeartbeats 1000000 in
theorem chunk_any (a : Option Addr) (len cap wd : Nat) (w : World) (hwd : 1 ≤ wd) :
    Calls Tryd.prog 121 #[.slice a len cap, .int .i64 wd] w fun e w' => e = .returned (.func (.func 157) #[] #[.pointer (some ⟨w.heap.size, 0, none⟩), .pointer (some ⟨w.heap.size + 1, 0, none⟩)]) ∧
      w'.cell? ⟨w.heap.size, 0, none⟩ = some (.slice a len cap) ∧ w'.cell? ⟨w.heap.size + 1, 0, none⟩ = some (.int .i64 wd) ∧ w'.heap.size = w.heap.size + 2 ∧ Below w.heap.size w w' := by
  have hd : ¬ ((wd : Int) < 1) := by omega
  go_enter Tryd.func121, Tryd.ntmps121
  go_wp2
  go_ret
  refine ⟨rfl, ?_, ?_, by simp, ((Below.refl _ _).alloc (Nat.le_refl _) _).alloc (by simp) _⟩
  · rw [World.cell?_alloc_old _ _ _ (by simp), World.cell?_alloc_new]; rfl
  · obtain ⟨W1, hW1⟩ : ∃ W1, W1 = w.alloc (.cells #[.slice a len cap] 49) := ⟨_, rfl⟩
    have z : W1.heap.size = w.heap.size + 1 := by rw [hW1]; simp
    rw [← hW1, ← z, World.cell?_alloc_new]
    rfl

set_option maxHeartbeats 1000000 in
theorem collect_any (B1 B2 g wd hi cap : Nat) (hwd : 1 ≤ wd) (hw5 : wd ≤ 1000) (hh5 : hi ≤ 1000) (hcap : hi * wd ≤ cap) (w : World) (hB1 : B1 < w.heap.size) (hB2 : B2 < w.heap.size)
    (c1 : w.cell? ⟨B1, 0, none⟩ = some (.slice (some ⟨g, 0, none⟩) (hi * wd) cap)) (c2 : w.cell? ⟨B2, 0, none⟩ = some (.int .i64 wd)) :
    Calls Tryd.prog 120 #[.func (.func 157) #[] #[.pointer (some ⟨B1, 0, none⟩), .pointer (some ⟨B2, 0, none⟩)]] w (ChPost g wd hi w) := by
  have HA := Lib.hid (appendSeq_any B1 B2 g wd hi cap hwd hw5 hh5 hcap w hB1 hB2 c1 c2)
  go_enter Tryd.func120, Tryd.ntmps120
  go_wp2_with fail
  refine HA.out.mono ?_
  rintro e w1 ⟨v, rfl, ho, hb⟩
  go_wp2
  go_ret
  exact ⟨v, rfl, ho, hb⟩

theorem own_lo {w : World} {b b' : Nat} {e : TypeId} {size n : Nat} {v : Value} {xs : List Value} (h : w.ownsRow b e size v n xs) (hle : b' ≤ b) : w.ownsRow b' e size v n xs := by
  refine ⟨h.1, ?_⟩
  rcases h.2 with h2 | ⟨g, cap, cur, e1, hb, r⟩
  · exact .inl h2
  · exact .inr ⟨g, cap, cur, e1, Nat.le_trans hle hb, r⟩

set_option maxHeartbeats 1000000 in
theorem rowsOf_any (g wd hi cap : Nat) (hwd : 1 ≤ wd) (hw5 : wd ≤ 1000) (hh5 : hi ≤ 1000) (hcap : hi * wd ≤ cap) (w : World) :
    Calls Tryd.prog 85 #[.slice (some ⟨g, 0, none⟩) (hi * wd) cap, .int .i64 wd] w (ChPost g wd hi w) := by
  have HC := Lib.hid (chunk_any (some ⟨g, 0, none⟩) (hi * wd) cap wd w hwd)
  obtain ⟨N, hN⟩ : ∃ N, N = hi * wd := ⟨_, rfl⟩
  have HK := Lib.hid (fun (wx : World) (hz : wx.heap.size = w.heap.size + 2) c1 c2 => collect_any w.heap.size (w.heap.size + 1) g wd hi cap hwd hw5 hh5 hcap wx (by omega) (by omega) c1 c2)
  rw [← hN] at HC HK ⊢
  clear hcap hN
  go_enter Tryd.func85, Tryd.ntmps85
  go_wp2_with fail
  refine HC.out.mono ?_
  rintro e w1 ⟨rfl, d1, d2, hz, hb⟩
  have HK2 := Lib.hid (HK.out w1 hz d1 d2)
  have HB := Lib.hid hb
  clear d1 d2 hb HK HC
  go_wp2_with fail
  refine HK2.out.mono ?_
  rintro e w2 ⟨v, rfl, ho, hb2⟩
  go_wp2
  go_ret
  exact ⟨v, rfl, own_lo ho (by omega), HB.out.trans (hb2.mono (by omega))⟩

set_option maxHeartbeats 1000000 in
theorem rows_any (g wd hi cap : Nat) (hwd : 1 ≤ wd) (hw5 : wd ≤ 1000) (hh5 : hi ≤ 1000) (hcap : hi * wd ≤ cap) (w : World) :
    Calls Tryd.prog 58 #[.agg #[.int .i64 wd, .slice (some ⟨g, 0, none⟩) (hi * wd) cap]] w (ChPost g wd hi w) := by
  have HR := Lib.hid (fun wx => rowsOf_any g wd hi cap hwd hw5 hh5 hcap wx)
  obtain ⟨N, hN⟩ : ∃ N, N = hi * wd := ⟨_, rfl⟩
  rw [← hN] at HR ⊢
  clear hcap hN
  go_enter Tryd.func58, Tryd.ntmps58
  go_wp2_with fail
  refine (HR.out _).mono ?_
  rintro e w2 ⟨v, rfl, ho, hb2⟩
  go_wp2
  go_ret
  exact ⟨v, rfl, own_lo ho (by simp), ((Below.refl _ _).alloc (Nat.le_refl _) _).trans (hb2.mono (by simp))⟩
end Go.Proofs.YtmlffocbcfediaaDoor
