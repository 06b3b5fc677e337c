/- Contract: moves on a line told as moves on a board. -/
import Derived.Test.YtjadnfnpbacfdaaDoorBdK
import Derived.Test.YtjadnfnpbacfdaaDoorMoves
import Derived.Test.YtjadnfnpbacfdaaDoorBdYi
namespace Go.Proofs.YtjadnfnpbacfdaaDoor
open Go.RowKit

/-- A move of a line, where its cells have these numbers. -/
def onC (C : List Int) (m : Int × Int) : Int × Int := (C.getD m.1.toNat 0, C.getD m.2.toNat 0)
theorem flat_tk (f : Int × Int → Int × Int) (M : List (Int × Int)) (k : Nat) (h : k < M.length) : flat ((M.take (k + 1)).map f) = flat ((M.take k).map f) ++ [.int .i64 (f M[k]).1, .int .i64 (f M[k]).2] := by
  rw [List.take_succ_eq_append_getElem h, List.map_append, flat_app]
  rfl
theorem cell_two_a8 (w : World) (n : Nat) (hn : n = w.heap.size) (a b : Value) (t : TypeId) : ∀ j u, [a, b][j]? = some u → (w.alloc (.cells #[a, b] t)).cell? ((⟨n, 0, none⟩ : Addr).add j) = some u := by
  subst hn
  exact cell_two_new w a b t

set_option maxRecDepth 100000 in
set_option maxHeartbeats 2000000 in
theorem onCells_any (C : List Int) (M : List (Int × Int)) (gI o cI cM : Nat) (A : Option Addr) (w : World) (hC : ∀ j (h : j < C.length), w.cell? ⟨gI, o + j, none⟩ = some (.int .i64 C[j])) (hM : MvAt w A M) (hin : ∀ k (h : k < M.length), ∃ a b : Nat, M[k] = ((a : Int), (b : Int)) ∧ a < C.length ∧ b < C.length) (hn : M.length ≤ 1000) (hgI : gI < w.heap.size) :
    Calls Tryd.prog 77 #[.slice (some ⟨gI, o, none⟩) C.length cI, .slice A M.length cM] w fun e w' => ∃ v, e = .returned v ∧ w'.ownsRow w.heap.size 64 2 v M.length (flat (M.map (onC C))) ∧ Below w.heap.size w w' := by
  obtain ⟨i0, hi, hz0, hz1, hz2⟩ := info_parts Tryd.infoM
  have HI := Lib.hid hi
  have HZ0 := Lib.hid hz0
  have HZ1 := Lib.hid hz1
  have HZ2 := Lib.hid hz2
  clear hi hz0 hz1 hz2
  have HC := Lib.hid hC
  have HM := Lib.hid hM
  have HIN := Lib.hid hin
  have HTK := Lib.hid (flat_tk (onC C) M)
  have HAL : Hid (flat ((M.take M.length).map (onC C)) = flat (M.map (onC C))) := Lib.hid (by rw [List.take_length])
  have HGD : Hid (∀ a, (h : a < C.length) → C.getD ((a : Nat) : Int).toNat 0 = C[a]) := Lib.hid fun a h => by
    show C.getD a 0 = _
    rw [List.getD_eq_getElem?_getD, List.getElem?_eq_getElem h]; rfl
  clear hC hM hin
  go_enter Tryd.func77, Tryd.ntmps77
  go_wp2
  go_loopw [5, 10] (fun v i wr => ∃ k : Nat, k ≤ M.length ∧ i = .int .i64 k ∧ wr.ownsRow w.heap.size 64 2 v k (flat ((M.take k).map (onC C))) ∧ Below w.heap.size w wr) (fun _ i _ => M.length - (intOf i).toNat)
  case atStart => exact ⟨0, Nat.zero_le _, rfl, World.ownsRow_nil _ _ _ _, Below.refl _ _⟩
  case round =>
    obtain ⟨k, hk, rfl, hown, hB⟩ := hrel
    by_cases hlt : k < M.length
    · obtain ⟨g, rfl, z1, p1, q1⟩ := (HM.out.below hB) k hlt
      obtain ⟨a, b, e1, ha, hb⟩ := HIN.out k hlt
      have HT := Lib.hid (HTK.out k hlt)
      rw [e1] at HT p1 q1
      have HX : Hid (onC C ((a : Int), (b : Int)) = (C[a], C[b])) := Lib.hid (by unfold onC; rw [HGD.out a ha, HGD.out b hb])
      rw [HX.out] at HT
      have ca := (hB.cell (p := ⟨gI, o + a, none⟩) hgI).trans (HC.out a ha)
      have cb := (hB.cell (p := ⟨gI, o + b, none⟩) hgI).trans (HC.out b hb)
      generalize C[a] = x at HT ca HX
      generalize C[b] = y at HT cb HX
      have hzr := hB.size
      have hgr : gI < wr.heap.size := by omega
      have HB := Lib.hid hB
      have HO := Lib.hid hown
      clear hB hown HX e1
      have i1 : (0 : Int) ≤ (a : Int) := by omega
      have i2 : (a : Int) < (C.length : Int) := by omega
      have i3 : (0 : Int) ≤ (b : Int) := by omega
      have i4 : (b : Int) < (C.length : Int) := by omega
      have i5 : (0 : Int) ≤ (k : Int) := by omega
      have i6 : (k : Int) < (M.length : Int) := by omega
      go_wp2
      obtain ⟨W1, hW1⟩ : ∃ W1, W1 = wr.alloc (Obj.cells #[.int .i64 a, .int .i64 b] 64) := ⟨_, rfl⟩
      rw [← hW1]
      have d0 : W1.cell? ⟨wr.heap.size, 0, none⟩ = some (.int .i64 a) := by rw [hW1, World.cell?_alloc_new]; rfl
      have d1 : W1.cell? ⟨wr.heap.size, 1, none⟩ = some (.int .i64 b) := by rw [hW1, World.cell?_alloc_new]; rfl
      have da : W1.cell? ⟨gI, o + a, none⟩ = some (.int .i64 x) := by rw [hW1]; exact (cell_of_blk (Below.heap_alloc _ _ _ hgr)).trans ca
      have db : W1.cell? ⟨gI, o + b, none⟩ = some (.int .i64 y) := by rw [hW1]; exact (cell_of_blk (Below.heap_alloc _ _ _ hgr)).trans cb
      have z2 : W1.heap.size = wr.heap.size + 1 := by rw [hW1]; simp
      have HO1 : Hid (W1.ownsRow w.heap.size 64 2 _ k (flat ((M.take k).map (onC C)))) := Lib.hid (by rw [hW1]; exact HO.out.alloc _)
      have HB1 : Hid (Below w.heap.size w W1) := Lib.hid (by rw [hW1]; exact HB.out.alloc hzr _)
      clear hW1 p1 q1 ca cb HO
      have hzW : w.heap.size ≤ W1.heap.size := by omega
      have H1 : ∀ u ∈ [Value.int .i64 x, Value.int .i64 y], u.oneCell' = true := fun u hu => by simp at hu; rcases hu with rfl | rfl <;> rfl
      have H3 : k + 1 ≤ maxLen := by unfold maxLen; omega
      have H4 : (k + 1) * 16 ≤ 140737488355328 := by omega
      have da2 : (W1.alloc (Obj.cells #[.int .i64 x, .int .i64 y] 64)).drew.heap.size = W1.heap.size + 1 := by show (W1.alloc _).heap.size = _; simp
      clear z2
      go_region_law (first | (refine step_append_lies _ rfl _ _ 22 rfl w.heap.size 64 i0 (.agg #[.int .i64 0, .int .i64 0]) 2 16 Tryd.underlying22 HI.out HZ0.out HZ1.out HZ2.out rfl (by decide) _ k _ rfl (show ((W1.alloc (Obj.cells #[.int .i64 x, .int .i64 y] 64)).drew).ownsRow w.heap.size 64 2 _ k (flat ((M.take k).map (onC C))) from HO1.out.alloc _) ⟨W1.heap.size, 0, none⟩ 1 1 [.int .i64 x, .int .i64 y] rfl rfl (fun j u h => cell_two_a8 W1 W1.heap.size rfl (.int .i64 x) (.int .i64 y) 64 j u h) H1 (by decide) H3 H4 (by rw [da2]; omega) _ rfl ?_; intro g2 c2 w8 hrow8 hg8 hat8 hlt8))
      all_goals
        go_wp2
        go_roundw
        case rel =>
          refine ⟨k + 1, by omega, by go_num, by rw [HT.out]; exact hrow8, ?_⟩
          exact (HB1.out.alloc hzW (Obj.cells #[.int .i64 x, .int .i64 y] 64)).drew.grown hg8 (by rw [da2]; omega) (fun j hj => (HO1.out.lt j hj).1)
        case measure => simp [intOf]; omega
    · obtain rfl : k = M.length := by omega
      rw [HAL.out] at hown
      have HB := Lib.hid hB
      clear hB
      go_wp2
      go_ret
      exact ⟨_, rfl, hown, HB.out⟩
end Go.Proofs.YtjadnfnpbacfdaaDoor
namespace Go.Proofs.YtjadnfnpbacfdaaDoor
open Go.RowKit

/-- The numbers below n. -/
def numL (n : Nat) : List Int := (List.range n).map fun i => ((i : Nat) : Int)
theorem numL_len (n : Nat) : (numL n).length = n := by simp [numL]
theorem numL_at (n j : Nat) (h : j < (numL n).length) : (numL n)[j] = (j : Int) := by simp [numL]
/-- The cells of a block, after k of them were numbered. -/
def IgAt (w : World) (g N k : Nat) : Prop := ∀ j, j < N → w.cell? ⟨g, j, none⟩ = some (.int .i64 (if j < k then (j : Int) else 0)) ∧ w.frozen? ⟨g, j, none⟩ = false
/-- Numbers of cells in rows. -/
def CiP (wd hi : Nat) (w : World) (e : Ending) (w' : World) : Prop :=
  ∃ g g' c', e = .returned (.slice (some ⟨g', 0, none⟩) hi c') ∧ w.heap.size ≤ g ∧ g < w'.heap.size ∧ w.heap.size ≤ g' ∧ g' < w'.heap.size ∧ hi ≤ c' ∧ (∀ k, k < hi → w'.cell? ⟨g', k, none⟩ = some (.slice (some ⟨g, k * wd, none⟩) wd wd)) ∧ BsAtI w' g (numL (hi * wd)) ∧ Below w.heap.size w w'

set_option maxRecDepth 100000 in
set_option maxHeartbeats 1000000 in
theorem cellsInRows_any (wd hi : Nat) (w : World) (hw1 : 1 ≤ wd) (hw5 : wd ≤ 5) (hh1 : 1 ≤ hi) (hh5 : hi ≤ 5) :
    Calls Tryd.prog 75 #[.int .i64 wd, .int .i64 hi] w (CiP wd hi w) := by
  obtain ⟨i0, hi0, hz0, hz1, hz2⟩ := info_parts Tryd.infoU8I
  have HI := Lib.hid hi0
  have HZ0 := Lib.hid hz0
  have HZ1 := Lib.hid hz1
  have HR := Lib.hid (fun g cap (hcap : hi * wd ≤ cap) wx => rowsOf_anyI g wd hi cap hw1 (by omega) (by omega) hcap wx)
  obtain ⟨N, hN⟩ : ∃ N, N = hi * wd := ⟨_, rfl⟩
  have hN25 : N ≤ 25 := by rw [hN]; have := Nat.mul_le_mul hh5 hw5; omega
  have hp : (wd : Int) * (hi : Int) = (N : Int) := by rw [hN, Nat.mul_comm]; push_cast; rfl
  have HNN := Lib.hid hN
  rw [← hN] at HR
  have hbytes : i0.bytes * N ≤ 281474976710656 := by rw [hz2]; omega
  have hmx : N ≤ maxLen := by unfold maxLen; omega
  clear hi0 hz0 hz1 hz2 hN
  go_enter Tryd.func75, Tryd.ntmps75
  go_wp2_with (at_make; refine wpList_make_full _ rfl (.tmp 9) (.tmp 9) 67 rfl w.heap.size 3 i0 (.int .i64 0) 1 Tryd.underlying67 HI.out HZ0.out HZ1.out .i64 .i64 (N : Int) (N : Int) N rfl rfl rfl rfl hbytes hmx (Nat.le_refl _) ?_; intro w1 hown hgrow)
  have hB1 : Below w.heap.size w w1 := (Below.refl _ _).grown hgrow (Nat.le_refl _) (fun k e => by cases e)
  have hO : Hid (IgAt w1 w.heap.size N 0) := Lib.hid (by
    rw [Nat.mul_one, made_one _ rfl] at hown
    by_cases h0 : 0 < N
    · obtain ⟨q, c, e1, b1, b2, b3, _, b4⟩ := own_op hown h0
      injection e1 with e1 _ _
      injection e1 with e1
      injection e1 with e1
      subst e1
      intro j hj
      rw [if_neg (by omega)]
      refine ⟨?_, hown.frozenAt j⟩
      rw [b4 j (by simpa using hj)]
      simp
    · intro j hj; omega)
  have hz1' : w.heap.size < w1.heap.size := by
    obtain ⟨q, c, e1, b1, b2, _⟩ := own_op hown (by have := HNN.out; have := Nat.mul_le_mul hh1 hw1; omega)
    injection e1 with e1 _ _
    injection e1 with e1
    injection e1 with e1
    omega
  clear hown hgrow
  go_loopw [13] (fun i wr => ∃ k : Nat, k ≤ N ∧ i = .int .i64 k ∧ Hid (IgAt wr w.heap.size N k) ∧ Below w.heap.size w wr ∧ w.heap.size < wr.heap.size) (fun i _ => N - (intOf i).toNat)
  case atStart => exact ⟨0, Nat.zero_le _, rfl, hO, hB1, hz1'⟩
  case round =>
    obtain ⟨k, hk, rfl, HK, hB, hzr⟩ := hrel
    by_cases hlt : k < N
    · obtain ⟨ck, fk⟩ := HK.out k hlt
      rw [if_neg (Nat.lt_irrefl _)] at ck
      have HB := Lib.hid hB
      have HS : Hid (∀ j, j < N → (if j < k + 1 then (j : Int) else 0) = if j = k then (k : Int) else if j < k then (j : Int) else 0) := Lib.hid fun j h => by
        by_cases e : j = k
        · subst e; rw [if_pos (Nat.lt_succ_self _), if_pos rfl]
        · rw [if_neg e]
          by_cases e2 : j < k
          · rw [if_pos (by omega), if_pos e2]
          · rw [if_neg (by omega), if_neg e2]
      clear hB
      go_wp2
      go_roundw
      case rel =>
        refine ⟨k + 1, by omega, by go_num, Lib.hid fun j hj => ?_, HB.out.setCell (Nat.le_refl _) _, by simpa using hzr⟩
        obtain ⟨cj, fj⟩ := HK.out j hj
        refine ⟨?_, by simpa using fj⟩
        rw [HS.out j hj]
        by_cases e1 : j = k
        · subst e1
          rw [if_pos rfl]
          exact World.cell?_setCell_same _ _ _ ck
        · rw [if_neg e1, World.cell?_setCell_other _ _ _ _ (by intro e; injection e with _ e; omega)]
          exact cj
      case measure => simp [intOf]; omega
    · obtain rfl : k = N := by omega
      have HB := Lib.hid hB
      have HBS : Hid (BsAtI wr w.heap.size (numL k)) := Lib.hid fun j hj => by
        have hj2 : j < k := by rw [numL_len] at hj; exact hj
        rw [(HK.out j hj2).1, if_pos hj2, numL_at k j hj]
      have HR2 := Lib.hid (HR.out w.heap.size k (Nat.le_refl _) wr)
      clear hB HR
      go_wp2_with fail
      refine HR2.out.mono ?_
      rintro e w4 ⟨v, rfl, ho, hb4⟩
      obtain ⟨g', c', rfl, r1, r2, r3, _, r4⟩ := own_op ho hh1
      go_wp2
      go_ret
      refine ⟨w.heap.size, g', c', rfl, Nat.le_refl _, Nat.lt_of_lt_of_le hzr hb4.size, by have := HB.out.size; omega, r2, r3, fun q hq => ?_, ?_, HB.out.trans (hb4.mono HB.out.size)⟩
      · rw [r4 q (by simpa using hq)]
        simp [chV]
      · rw [← HNN.out]
        exact HBS.out.below hzr hb4
end Go.Proofs.YtjadnfnpbacfdaaDoor
