/- Contracts: slices.Grow of nil, slices.Concat of two lists of moves. -/
import Derived.Test.YtoiaklnaecghnabGreatDoorBdN
import Derived.Lib.AppendZeros
namespace Go.Proofs.YtoiaklnaecghnabGreatDoor
open Go.RowKit

/-- An empty row with room. -/
def GwP (w : World) (e : Ending) (w' : World) : Prop := ∃ v, e = .returned v ∧ w'.ownsRow w.heap.size 39 2 v 0 [] ∧ Below w.heap.size w w'

set_option maxRecDepth 100000 in
set_option maxHeartbeats 1000000 in
theorem grow_any (n : Nat) (w : World) (hn : n ≤ 1000) :
    Calls Tryz.prog 59 #[.slice none 0 0, .int .i64 n] w (GwP w) := by
  have hd0 : ¬ ((n : Int) < 0) := by omega
  by_cases h0 : n = 0
  · subst h0
    go_enter Tryz.func59, Tryz.ntmps59
    go_wp2
    go_ret
    exact ⟨_, rfl, World.ownsRow_nil _ _ _ _, Below.refl _ _⟩
  · obtain ⟨i0, hi, hz0, hz1, hz2⟩ := info_parts Tryz.infoM
    have hp : (0 : Int) < (n : Int) := by omega
    have hrun := Lib.run_append_nil_zeros (P := Tryz.prog) w 26 3 26 39 i0 (.agg #[.int .i64 0, .int .i64 0]) .i64 .i64 Tryz.underlying26 Tryz.underlying3 hi hz0 n (by omega) (by omega) (by omega) (by rw [hz2]; omega)
    have hge := grownCap_ge w n 0 39
    have hle := grownCap_le_maxLen w n 0 39 (by unfold maxLen; omega)
    generalize grownCap w n 0 39 = cap at hrun hge hle
    have hown : (w.drew.alloc (Obj.cells (Builtin.zeroCells (Value.agg #[.int .i64 0, .int .i64 0]).cells n ++ Builtin.zeroCells (Value.agg #[.int .i64 0, .int .i64 0]).cells (cap - n)) 39)).ownsRow w.heap.size 39 2 (.slice (some ⟨w.heap.size, 0, none⟩) 0 cap) 0 [] := by
      refine ⟨rfl, .inr ⟨w.heap.size, cap, _, rfl, Nat.le_refl _, World.alloc_heap_new w.drew _, Nat.zero_le _, hle, ?_, by simp⟩⟩
      rw [Array.size_append, size_zeroCells, size_zeroCells]
      show n * 2 + (cap - n) * 2 = cap * 2
      omega
    have hB : Below w.heap.size w (w.drew.alloc (Obj.cells (Builtin.zeroCells (Value.agg #[.int .i64 0, .int .i64 0]).cells n ++ Builtin.zeroCells (Value.agg #[.int .i64 0, .int .i64 0]).cells (cap - n)) 39)) := (Below.drew (Below.refl _ _)).alloc (Nat.le_refl _) _
    generalize w.drew.alloc (Obj.cells (Builtin.zeroCells (Value.agg #[.int .i64 0, .int .i64 0]).cells n ++ Builtin.zeroCells (Value.agg #[.int .i64 0, .int .i64 0]).cells (cap - n)) 39) = W2 at hrun hown hB
    have HO := Lib.hid hown
    have HB := Lib.hid hB
    have HR := Lib.hid hrun
    clear hown hB hrun hi hz0 hz1 hz2
    go_enter Tryz.func59, Tryz.ntmps59
    go_wp2_with (at_builtin; refine Lib.wpList_append_run _ rfl _ _ _ _ rfl _ _ rfl rfl _ _ HR.out ?_)
    go_ret
    exact ⟨_, rfl, HO.out, HB.out⟩

theorem mv_news {w : World} {base : Nat} {A : Option Addr} {cap : Nat} {l : List (Int × Int)} (h : w.ownsRow base 39 2 (.slice A l.length cap) l.length (flat l)) : ∀ ad, A = some ad → ∀ j u, (flat l)[j]? = some u → w.cell? (ad.add j) = some u := by
  obtain ⟨A2, cap2, e, _, h2, _⟩ := mv_own h
  injection e with e1 _ e2
  subst e1
  exact h2
/-- What has come behind k lists. -/
def upC (l1 l2 : List (Int × Int)) (k : Nat) : List (Int × Int) := if k = 0 then [] else if k = 1 then l1 else l1 ++ l2

set_option maxRecDepth 100000 in
set_option maxHeartbeats 2000000 in
theorem concat_any (l1 l2 : List (Int × Int)) (g c : Nat) (v1 v2 : Value) (w : World) (h1 : w.cell? ⟨g, 0, none⟩ = some v1) (h2 : w.cell? ⟨g, 1, none⟩ = some v2) (b1 b2 : Nat) (ho1 : w.ownsRow b1 39 2 v1 l1.length (flat l1)) (ho2 : w.ownsRow b2 39 2 v2 l2.length (flat l2)) (hg : g < w.heap.size) (hn1 : l1.length ≤ 300) (hn2 : l2.length ≤ 300) :
    Calls Tryz.prog 44 #[.slice (some ⟨g, 0, none⟩) 2 c] w fun e w' => ∃ v, e = .returned v ∧ w'.ownsRow w.heap.size 39 2 v (l1 ++ l2).length (flat (l1 ++ l2)) ∧ Below w.heap.size w w' := by
  obtain ⟨i0, hi, hz0, hz1, hz2⟩ := info_parts Tryz.infoM
  have HI := Lib.hid hi
  have HZ0 := Lib.hid hz0
  have HZ1 := Lib.hid hz1
  have HZ2 := Lib.hid hz2
  clear hi hz0 hz1 hz2
  obtain ⟨A1, cap1, rfl, hno1, hnews1, _⟩ := mv_own ho1
  obtain ⟨A2, cap2, rfl, hno2, hnews2, _⟩ := mv_own ho2
  have HO1 := Lib.hid ho1
  have HO2 := Lib.hid ho2
  have HG := Lib.hid (fun (n : Nat) (h : n ≤ 1000) => grow_any n w h)
  have HN1 := Lib.hid hno1
  have HN2 := Lib.hid hno2
  clear ho1 ho2 hno1 hno2 hnews1 hnews2
  go_enter Tryz.func44, Tryz.ntmps44
  go_wp2
  go_loop [3, 11] (fun t i => ∃ k : Nat, k ≤ 2 ∧ i = .int .i64 k ∧ t = .int .i64 ((if k = 0 then 0 else if k = 1 then l1.length else l1.length + l2.length : Nat) : Int)) (fun _ i => 2 - (intOf i).toNat)
  case atStart => exact ⟨0, by omega, rfl, rfl⟩
  case round =>
    obtain ⟨k, hk, rfl, rfl⟩ := hrel
    rcases (show k = 0 ∨ k = 1 ∨ k = 2 by omega) with rfl | rfl | rfl
    · have d : ¬ (((0 : Nat) : Int) + (l1.length : Int) < 0) := by omega
      go_wp2
      go_round
      case rel => exact ⟨1, by omega, by go_num, by simp⟩
      case measure => simp [intOf]
    · have d : ¬ ((l1.length : Int) + (l2.length : Int) < 0) := by omega
      go_wp2
      go_round
      case rel => exact ⟨2, by omega, by go_num, by simp⟩
      case measure => simp [intOf]
    · have HG2 := Lib.hid (HG.out (l1.length + l2.length) (by omega))
      clear HG
      have hcast : ((l1.length + l2.length : Nat) : Int) = (l1.length : Int) + (l2.length : Int) := by push_cast; rfl
      rw [hcast] at HG2
      clear hcast
      go_wp2_with fail
      refine HG2.out.mono ?_
      rintro e w1 ⟨v0, rfl, ho0, hb0⟩
      have HOO := Lib.hid ho0
      have HBB := Lib.hid hb0
      clear ho0 hb0
      go_wp2
      go_loopw [6, 27] (fun v i wr => ∃ k : Nat, k ≤ 2 ∧ i = .int .i64 k ∧ wr.ownsRow w.heap.size 39 2 v (upC l1 l2 k).length (flat (upC l1 l2 k)) ∧ Below w.heap.size w wr) (fun _ i _ => 2 - (intOf i).toNat)
      case atStart => exact ⟨0, by omega, rfl, HOO.out, HBB.out⟩
      case round =>
        obtain ⟨k, hk, rfl, hown, hB⟩ := hrel
        rcases (show k = 0 ∨ k = 1 ∨ k = 2 by omega) with rfl | rfl | rfl
        · have hown0 : wr.ownsRow w.heap.size 39 2 _ (([] : List (Int × Int))).length (flat (([] : List (Int × Int)))) := hown
          have q1 := (hB.cell (p := ⟨g, 0, none⟩) hg).trans h1
          have hown1 := own_below HO1.out hB
          have hnews := mv_news hown1
          have H3 : (([] : List (Int × Int))).length + l1.length ≤ maxLen := by unfold maxLen; (try simp); omega
          have H4 : ((([] : List (Int × Int))).length + l1.length) * 16 ≤ 140737488355328 := by (try simp); omega
          have H5 : w.heap.size ≤ wr.heap.size := hB.size
          go_wp2_with (first | (at_builtin; refine wpList_append_st wr rfl _ _ 26 rfl w.heap.size 39 i0 (.agg #[.int .i64 0, .int .i64 0]) 2 16 Tryz.underlying26 HI.out HZ0.out HZ1.out HZ2.out rfl (by decide) _ _ _ rfl hown0 A1 l1.length cap1 (flat l1) rfl HN1.out (flat_len _) hnews (flat_one _) H3 H4 H5 ?_; intro v' w4 hown' hgrow))
          go_roundw
          case rel =>
            refine ⟨1, by omega, by go_num, ?_, hB.grown hgrow H5 fun j hj => (hown0.lt _ hj).1⟩
            rw [← flat_app, ← List.length_append] at hown'
            exact hown'
          case measure => simp [intOf]
        · have hown0 : wr.ownsRow w.heap.size 39 2 _ (l1).length (flat (l1)) := hown
          have q1 := (hB.cell (p := ⟨g, 1, none⟩) hg).trans h2
          have hown1 := own_below HO2.out hB
          have hnews := mv_news hown1
          have H3 : (l1).length + l2.length ≤ maxLen := by unfold maxLen; (try simp); omega
          have H4 : ((l1).length + l2.length) * 16 ≤ 140737488355328 := by (try simp); omega
          have H5 : w.heap.size ≤ wr.heap.size := hB.size
          go_wp2_with (first | (at_builtin; refine wpList_append_st wr rfl _ _ 26 rfl w.heap.size 39 i0 (.agg #[.int .i64 0, .int .i64 0]) 2 16 Tryz.underlying26 HI.out HZ0.out HZ1.out HZ2.out rfl (by decide) _ _ _ rfl hown0 A2 l2.length cap2 (flat l2) rfl HN2.out (flat_len _) hnews (flat_one _) H3 H4 H5 ?_; intro v' w4 hown' hgrow))
          go_roundw
          case rel =>
            refine ⟨2, by omega, by go_num, ?_, hB.grown hgrow H5 fun j hj => (hown0.lt _ hj).1⟩
            rw [← flat_app, ← List.length_append] at hown'
            exact hown'
          case measure => simp [intOf]
        · have HB := Lib.hid hB
          have hown0 : wr.ownsRow w.heap.size 39 2 _ (l1 ++ l2).length (flat (l1 ++ l2)) := hown
          clear hB hown
          go_wp2
          go_ret
          exact ⟨_, rfl, hown0, HB.out⟩
end Go.Proofs.YtoiaklnaecghnabGreatDoor
