/- Contracts: the library's chunks of bytes, gathered: the program's rows of a board. -/
import Derived.Test.YtoiaklnaecghnabGreatDoorBdP
import Derived.RangeFuncNested
import Derived.RangeFuncBox
import Derived.RangeFuncLeaves
import Derived.Shelf.Abstract
import Derived.WalkKit
import Derived.OwnWalkIn
import Derived.TacticsInMore
import Derived.LoopNIn
import Derived.LoopIn
import Derived.Maps.AppendAt
namespace Go.Proofs.YtoiaklnaecghnabGreatDoor
open Go.RowKit Go.Shelf

attribute [local go_sem] Oper.semAt_some

theorem Tryz.infoBS : (Tryz.prog.info? 42).map (fun i => (i.zero, i.size, i.bytes)) = some (some (.slice none 0 0), 1, 24) := by kernel_rfl
/-- The k-th row of a block of bytes. -/
def chV (g wd : Nat) (k : Nat) : Value := .slice (some ⟨g, k * wd, none⟩) wd wd
abbrev encCh (g wd : Nat) (k : Nat) : Array Value := #[.slice (some ⟨g, k * wd, none⟩) wd wd]

set_option maxRecDepth 100000 in
set_option maxHeartbeats 1000000 in
theorem chunk1_in (F : Fence) (n : Nat) (h7 : F.fn 67) (hro : F.round = none) (hn : 1 ≤ n) (lp B1 B2 n₀ g wd hi cap : Nat) (hwd : 1 ≤ wd) (hw5 : wd ≤ 1000) (hh5 : hi ≤ 1000) (hcap : hi * wd ≤ cap) (hB1 : B1 < n₀) (hB2 : B2 < n₀) (J Jx : List Nat → World → Prop) (W : World) (hJ : AbidesFrom W.heap.size J)
    (hY : ∀ pre x W, J pre W → pre.length < hi → YieldAt F (n - 1) Tryz.prog lp (encCh g wd x) W fun e W' =>
      (e = .returned (.bool true) ∧ J (pre ++ [x]) W' ∧ Below n₀ W W') ∨ (e = .returned (.bool false) ∧ Jx (pre ++ [x]) W'))
    (c1 : W.cell? ⟨B1, 0, none⟩ = some (.slice (some ⟨g, 0, none⟩) (hi * wd) cap)) (c2 : W.cell? ⟨B2, 0, none⟩ = some (.int .i64 wd)) (h0 : J [] W) :
    CallsIn F n Tryz.prog 67 #[.func (.yield lp) #[] #[], .pointer (some ⟨B1, 0, none⟩), .pointer (some ⟨B2, 0, none⟩)] W fun e W' => (∃ v, e = .returned v) ∧
      ((∃ ys, ys = List.range hi ∧ J ys W') ∨ (∃ pre, (∃ k, k ≤ hi ∧ pre = List.range k) ∧ Jx pre W')) := by
  have C1 := Lib.hid c1
  have C2 := Lib.hid c2
  clear c1 c2
  refine callsIn_of_wp Tryz.func67 rfl h7 ?_ hro
  simp only [Tryz.ntmps67, List.size_toArray, List.length_cons, List.length_nil, Nat.reduceAdd, Nat.reduceSub, Array.replicate_succ, Array.replicate_zero, List.push_toArray, List.append_toArray, List.nil_append, List.cons_append]
  gi_wp2
  gi_loopw [4, 5] (fun i _ wr => ∃ (k m : Nat), k ≤ hi ∧ m = k * wd ∧ i = .int .i64 m ∧ J (List.range k) wr ∧ Below n₀ W wr)
    (fun i _ _ => hi * wd - (intOf i).toNat)
  case atStart => exact ⟨0, 0, Nat.zero_le _, by simp, rfl, h0, Below.refl _ _⟩
  case round =>
    obtain ⟨k, m, hk, hm, rfl, hJs, hB⟩ := hrel
    have b1 := (hB.cell (p := ⟨B1, 0, none⟩) hB1).trans C1.out
    have b2 := (hB.cell (p := ⟨B2, 0, none⟩) hB2).trans C2.out
    have HH : hi * wd ≤ 1000000 := by have := Nat.mul_le_mul hh5 hw5; omega
    obtain ⟨N, hN⟩ : ∃ N, N = hi * wd := ⟨_, rfl⟩
    rw [← hN] at b1 HH hcap
    by_cases hlt : k < hi
    · have hmN : m + wd ≤ N := by
        rw [hm, hN, ← Nat.succ_mul]
        exact Nat.mul_le_mul_right wd hlt
      have hJd : J (List.range k) wr.drew := hJ _ _ _ none hJs ⟨rfl, rfl, rfl, Nat.le_refl _, fun _ _ _ => rfl⟩ (fun r e => by cases e)
      have hBd : Below n₀ W wr.drew := hB.drew
      obtain ⟨fn, tmps, assign, body, hy, hR⟩ := hY _ k wr.drew hJd (by rw [List.length_range]; exact hlt)
      dsimp only [encCh] at hy
      rw [← hm] at hy
      have HM := Lib.hid hm
      have HN := Lib.hid hN
      clear hm hN
      have l1 : (m : Int) < (N : Int) := by omega
      have l2 : (0 : Int) ≤ (m : Int) := by omega
      have l3 : min (wd : Int) ((N - m : Nat) : Int) = wd := by omega
      have l7 : ((m : Int) + wd).toNat - m = wd := by omega
      have l4 : (m : Int) ≤ (N : Int) := by omega
      have l5 : (m : Int) + wd ≤ (cap : Int) := by omega
      have l6 : (m : Int) ≤ m + wd := by omega
      clear hJs hB
      gi_wp2
      gi_region
      all_goals
        gi_wp2
        refine hR.mono ?_
        rintro e W3 (⟨rfl, hJ3, hk3⟩ | ⟨rfl, hJx3⟩)
        · have hJ4 : J (List.range (k + 1)) W3 := by rw [List.range_succ]; exact hJ3
          have hB3 := hBd.trans hk3
          have d2 := (hB3.cell (p := ⟨B2, 0, none⟩) hB2).trans C2.out
          clear hJ3 hk3 hBd b1 b2 hy hR hJd
          gi_wp2
          go_roundw
          case rel => exact ⟨k + 1, m + wd, by omega, by rw [HM.out, Nat.succ_mul], by go_num, hJ4, hB3⟩
          case measure => have := HN.out; simp [intOf]; omega
        · have hJ4 : Jx (List.range (k + 1)) W3 := by rw [List.range_succ]; exact hJx3
          clear hy hR
          gi_wp2
          refine bodyPost_ret (results_none rfl _ _ _) rfl ?_
          exact ⟨⟨_, rfl⟩, .inr ⟨_, ⟨k + 1, by omega, rfl⟩, hJ4⟩⟩
    · obtain rfl : k = hi := by omega
      rw [← hN] at hm
      subst hm
      gi_wp2
      go_end0
      exact ⟨⟨_, rfl⟩, .inl ⟨_, rfl, hJs⟩⟩

end Go.Proofs.YtoiaklnaecghnabGreatDoor
namespace Go.Proofs.YtoiaklnaecghnabGreatDoor
open Go.RowKit Go.Shelf

attribute [local go_sem] Oper.semAt_some

theorem chunk_stops (F : Fence) (n : Nat) (h7 : F.fn 67) (hro : F.round = none) (hn : 1 ≤ n) (B1 B2 n₀ g wd hi cap : Nat) (hwd : 1 ≤ wd) (hw5 : wd ≤ 1000) (hh5 : hi ≤ 1000) (hcap : hi * wd ≤ cap) (hB1 : B1 < n₀) (hB2 : B2 < n₀) (w : World) (hn₀ : n₀ ≤ w.heap.size)
    (c1 : w.cell? ⟨B1, 0, none⟩ = some (.slice (some ⟨g, 0, none⟩) (hi * wd) cap)) (c2 : w.cell? ⟨B2, 0, none⟩ = some (.int .i64 wd)) :
    SeqStopsK F n Tryz.prog 67 #[.pointer (some ⟨B1, 0, none⟩), .pointer (some ⟨B2, 0, none⟩)] (encCh g wd) (Below n₀) (fun ys => ys = List.range hi) (fun pre => ∃ k, k ≤ hi ∧ pre = List.range k) hi w := fun lp J Jx W hW hJ _ hY h0 =>
  chunk1_in F n h7 hro hn lp B1 B2 n₀ g wd hi cap hwd hw5 hh5 hcap hB1 hB2 J Jx W hJ hY
    ((hW.cell (p := ⟨B1, 0, none⟩) (by show B1 < _; omega)).trans c1) ((hW.cell (p := ⟨B2, 0, none⟩) (by show B2 < _; omega)).trans c2) h0

/-- The answer: rows that lie in one block. -/
def ChPost (g wd hi : Nat) (w : World) (e : Ending) (w' : World) : Prop :=
  ∃ v, e = .returned v ∧ w'.ownsRow w.heap.size 42 1 v hi ((List.range hi).map (chV g wd)) ∧ Below w.heap.size w w'

set_option maxRecDepth 100000 in
set_option maxHeartbeats 4000000 in
theorem appendSeq_any (B1 B2 g wd hi cap : Nat) (hwd : 1 ≤ wd) (hw5 : wd ≤ 1000) (hh5 : hi ≤ 1000) (hcap : hi * wd ≤ cap) (w : World) (hB1 : B1 < w.heap.size) (hB2 : B2 < w.heap.size)
    (c1 : w.cell? ⟨B1, 0, none⟩ = some (.slice (some ⟨g, 0, none⟩) (hi * wd) cap)) (c2 : w.cell? ⟨B2, 0, none⟩ = some (.int .i64 wd)) :
    Calls Tryz.prog 66 #[.slice none 0 0, .func (.func 67) #[] #[.pointer (some ⟨B1, 0, none⟩), .pointer (some ⟨B2, 0, none⟩)]] w (ChPost g wd hi w) := by
  refine (callsIn_wide (n := 6)).1 ?_
  obtain ⟨i0, hi0, hz0, hz1, hz2⟩ := info_parts Tryz.infoBS
  refine callsIn_of_wp_marks Tryz.func66 rfl trivial ?_ rfl
  simp only [Tryz.ntmps66, List.size_toArray, List.length_cons, List.length_nil, Nat.reduceAdd, Nat.reduceSub, Array.replicate_succ, Array.replicate_zero, List.push_toArray, List.append_toArray, List.nil_append, List.cons_append]
  gi_wp2
  have bB := Boxed.new w 51 (.slice none 0 0)
  have hB0 : Below w.heap.size w (w.alloc (.cells #[.slice none 0 0] 51)) := (Below.refl _ w).alloc (Nat.le_refl _) _
  have hsz : (w.alloc (.cells #[.slice none 0 0] 51)).heap.size = w.heap.size + 1 := by simp
  obtain ⟨W0, hW0⟩ : ∃ W0, (w.alloc (.cells #[.slice none 0 0] 51)) = W0 := ⟨_, rfl⟩
  rw [hW0] at bB hB0 hsz ⊢
  clear hW0
  have c1' := (hB0.cell (p := ⟨B1, 0, none⟩) hB1).trans c1
  have c2' := (hB0.cell (p := ⟨B2, 0, none⟩) hB2).trans c2
  refine wpIn_rangeFunc_ownF rfl (by omega) (gf := 67) (lb := #[.pointer (some ⟨B1, 0, none⟩), .pointer (some ⟨B2, 0, none⟩)]) rfl trivial (enters_of Tryz.func67 (by kernel_rfl) rfl)
    (chunk_stops Fence.wide (6 - 1) trivial rfl (by omega) B1 B2 w.heap.size g wd hi cap hwd hw5 hh5 hcap hB1 hB2 W0 (by omega) c1' c2') belowK_t (belowK_b (by omega)) (Below.refl _ _) (fun _ => rfl)
    (fun pre W => (∃ v, Boxed W w.heap.size 51 v ∧ W.ownsRow w.heap.size 42 1 v pre.length (pre.map (chV g wd)) ∧ True) ∧ Below w.heap.size w W)
    (fun _ _ _ => False)
    (OwnFrom.and (Own.from (holdsRow_own _ _ _ _ _ _ _ (fun _ _ => True)) _) (ownFrom_below (Nat.le_refl _) (by omega)))
    (fun _ _ _ _ _ hs _ _ => hs)
    ⟨⟨_, bB, World.ownsRow_nil _ _ _ _, trivial⟩, hB0⟩
    (fun x => { tmps := #[.slice none 0 0, .func (.func 67) #[] #[.pointer (some ⟨B1, 0, none⟩), .pointer (some ⟨B2, 0, none⟩)], .pointer (some ⟨w.heap.size, 0, none⟩), undef, .slice none 0 0, .slice (some ⟨g, x * wd, none⟩) wd wd, .func (.func 67) #[] #[.pointer (some ⟨B1, 0, none⟩), .pointer (some ⟨B2, 0, none⟩)], .slice (some ⟨g, x * wd, none⟩) wd wd, undef, undef, undef, undef, undef], defers := [] })
    ?assign ?body ?done ?stop
  case assign =>
    intro lp x W K hK
    gi_wp2
    exact hK
  case body =>
    rintro lp pre x W ⟨⟨v, hv, hrow, _⟩, hB⟩ hlt
    have c12 := hv.cell
    have hbW := hB.size
    have H2 : ∀ u ∈ [Value.slice (some ⟨g, x * wd, none⟩) wd wd], u.oneCell' = true := fun u hu => by simp at hu; subst hu; rfl
    have H3 : pre.length + 1 ≤ maxLen := by unfold maxLen; omega
    have H4 : (pre.length + 1) * 24 ≤ 140737488355328 := by omega
    have H5 : w.heap.size ≤ (W.alloc (Obj.cells #[.slice (some ⟨g, x * wd, none⟩) wd wd] 42)).heap.size := by simp; omega
    gi_wp2_with (gi_at_builtin; refine wpListIn_append_own _ rfl _ _ 51 rfl w.heap.size 42 i0 (.slice none 0 0) 1 24 Tryz.underlying51 hi0 hz0 hz1 hz2 rfl (by decide) _ _ _ rfl (hrow.alloc _) ⟨W.heap.size, 0, none⟩ 1 1 [.slice (some ⟨g, x * wd, none⟩) wd wd] rfl rfl (cell_one_new _ _ _) H2 H3 H4 H5 ?_; intro v' w2 hown' hgrow _; obtain ⟨g', cap', rfl⟩ := ownsRow_succ hown'; obtain ⟨hv1, hv2, hr2, hk2, hb2⟩ := hv.appended (by decide) hrow hbW (Nat.le_refl _) hown' hgrow; have hc1 := hv1.cell; have hf1 := hv1.frozen)
    have hlen : (pre ++ [x]).length = pre.length + 1 := by simp
    have hfl : (pre ++ [x]).map (chV g wd) = pre.map (chV g wd) ++ [Value.slice (some ⟨g, x * wd, none⟩) wd wd] := by simp [chV]
    refine ⟨hk2, hb2, ⟨⟨_, hv2, ?_, trivial⟩, hB.trans hb2⟩⟩
    rw [hlen, hfl]
    exact hr2
  case done =>
    rintro D ys W hD rfl ⟨⟨v, hv, hrow, _⟩, hB⟩ hK
    have c12 := hv.cell
    gi_wp2
    refine ⟨by simp, .inl ⟨_, _, rfl, run_takeDeferred hK, ?_⟩⟩
    refine ⟨_, results_tmp rfl _ _ _, ?_⟩
    rw [List.length_range] at hrow
    have ho := ownsRow_putObj hrow (.deferred none) hK rfl
    have hBB := hB.trans (belowK_b (w := w) (Nat.le_refl _) W D _ (.deferred none) (by omega) hK rfl rfl)
    exact ⟨v, rfl, ho, hBB⟩
  case stop =>
    rintro D cc pre W _ _ h _
    exact h.elim

set_option maxHeartbeats 1000000 in
theorem chunk_any (a : Option Addr) (len cap wd : Nat) (w : World) (hwd : 1 ≤ wd) :
    Calls Tryz.prog 52 #[.slice a len cap, .int .i64 wd] w fun e w' => e = .returned (.func (.func 67) #[] #[.pointer (some ⟨w.heap.size, 0, none⟩), .pointer (some ⟨w.heap.size + 1, 0, none⟩)]) ∧
      w'.cell? ⟨w.heap.size, 0, none⟩ = some (.slice a len cap) ∧ w'.cell? ⟨w.heap.size + 1, 0, none⟩ = some (.int .i64 wd) ∧ w'.heap.size = w.heap.size + 2 ∧ Below w.heap.size w w' := by
  have hd : ¬ ((wd : Int) < 1) := by omega
  go_enter Tryz.func52, Tryz.ntmps52
  go_wp2
  go_ret
  refine ⟨rfl, ?_, ?_, by simp, ((Below.refl _ _).alloc (Nat.le_refl _) _).alloc (by simp) _⟩
  · rw [World.cell?_alloc_old _ _ _ (by simp), World.cell?_alloc_new]; rfl
  · obtain ⟨W1, hW1⟩ : ∃ W1, W1 = w.alloc (.cells #[.slice a len cap] 42) := ⟨_, rfl⟩
    have z : W1.heap.size = w.heap.size + 1 := by rw [hW1]; simp
    rw [← hW1, ← z, World.cell?_alloc_new]
    rfl

set_option maxHeartbeats 1000000 in
theorem collect_any (B1 B2 g wd hi cap : Nat) (hwd : 1 ≤ wd) (hw5 : wd ≤ 1000) (hh5 : hi ≤ 1000) (hcap : hi * wd ≤ cap) (w : World) (hB1 : B1 < w.heap.size) (hB2 : B2 < w.heap.size)
    (c1 : w.cell? ⟨B1, 0, none⟩ = some (.slice (some ⟨g, 0, none⟩) (hi * wd) cap)) (c2 : w.cell? ⟨B2, 0, none⟩ = some (.int .i64 wd)) :
    Calls Tryz.prog 51 #[.func (.func 67) #[] #[.pointer (some ⟨B1, 0, none⟩), .pointer (some ⟨B2, 0, none⟩)]] w (ChPost g wd hi w) := by
  have HA := Lib.hid (appendSeq_any B1 B2 g wd hi cap hwd hw5 hh5 hcap w hB1 hB2 c1 c2)
  go_enter Tryz.func51, Tryz.ntmps51
  go_wp2_with fail
  refine HA.out.mono ?_
  rintro e w1 ⟨v, rfl, ho, hb⟩
  go_wp2
  go_ret
  exact ⟨v, rfl, ho, hb⟩

theorem own_lo {w : World} {b b' : Nat} {e : TypeId} {size n : Nat} {v : Value} {xs : List Value} (h : w.ownsRow b e size v n xs) (hle : b' ≤ b) : w.ownsRow b' e size v n xs := by
  refine ⟨h.1, ?_⟩
  rcases h.2 with h2 | ⟨g, cap, cur, e1, hb, r⟩
  · exact .inl h2
  · exact .inr ⟨g, cap, cur, e1, Nat.le_trans hle hb, r⟩

set_option maxHeartbeats 1000000 in
theorem rowsOf_any (g wd hi cap : Nat) (hwd : 1 ≤ wd) (hw5 : wd ≤ 1000) (hh5 : hi ≤ 1000) (hcap : hi * wd ≤ cap) (w : World) :
    Calls Tryz.prog 34 #[.slice (some ⟨g, 0, none⟩) (hi * wd) cap, .int .i64 wd] w (ChPost g wd hi w) := by
  have HC := Lib.hid (chunk_any (some ⟨g, 0, none⟩) (hi * wd) cap wd w hwd)
  obtain ⟨N, hN⟩ : ∃ N, N = hi * wd := ⟨_, rfl⟩
  have HK := Lib.hid (fun (wx : World) (hz : wx.heap.size = w.heap.size + 2) c1 c2 => collect_any w.heap.size (w.heap.size + 1) g wd hi cap hwd hw5 hh5 hcap wx (by omega) (by omega) c1 c2)
  rw [← hN] at HC HK ⊢
  clear hcap hN
  go_enter Tryz.func34, Tryz.ntmps34
  go_wp2_with fail
  refine HC.out.mono ?_
  rintro e w1 ⟨rfl, d1, d2, hz, hb⟩
  have HK2 := Lib.hid (HK.out w1 hz d1 d2)
  have HB := Lib.hid hb
  clear d1 d2 hb HK HC
  go_wp2_with fail
  refine HK2.out.mono ?_
  rintro e w2 ⟨v, rfl, ho, hb2⟩
  go_wp2
  go_ret
  exact ⟨v, rfl, own_lo ho (by omega), HB.out.trans (hb2.mono (by omega))⟩

set_option maxHeartbeats 1000000 in
theorem rows_any (g wd hi cap : Nat) (hwd : 1 ≤ wd) (hw5 : wd ≤ 1000) (hh5 : hi ≤ 1000) (hcap : hi * wd ≤ cap) (w : World) :
    Calls Tryz.prog 20 #[.agg #[.int .i64 wd, .slice (some ⟨g, 0, none⟩) (hi * wd) cap]] w (ChPost g wd hi w) := by
  have HR := Lib.hid (fun wx => rowsOf_any g wd hi cap hwd hw5 hh5 hcap wx)
  obtain ⟨N, hN⟩ : ∃ N, N = hi * wd := ⟨_, rfl⟩
  rw [← hN] at HR ⊢
  clear hcap hN
  go_enter Tryz.func20, Tryz.ntmps20
  go_wp2_with fail
  refine (HR.out _).mono ?_
  rintro e w2 ⟨v, rfl, ho, hb2⟩
  go_wp2
  go_ret
  exact ⟨v, rfl, own_lo ho (by simp), ((Below.refl _ _).alloc (Nat.le_refl _) _).trans (hb2.mono (by simp))⟩
end Go.Proofs.YtoiaklnaecghnabGreatDoor
