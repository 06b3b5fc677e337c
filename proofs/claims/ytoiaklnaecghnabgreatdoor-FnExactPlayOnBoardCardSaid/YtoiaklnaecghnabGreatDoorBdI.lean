/- Contract: moves on a line told as moves on a board. -/
import Derived.Test.YtoiaklnaecghnabGreatDoorBdK
import Derived.Test.YtoiaklnaecghnabGreatDoorMoves
namespace Go.Proofs.YtoiaklnaecghnabGreatDoor
open Go.RowKit

/-- A move of a line, where its cells have these numbers. -/
def onC (C : List Int) (m : Int × Int) : Int × Int := (C.getD m.1.toNat 0, C.getD m.2.toNat 0)
theorem flat_tk (f : Int × Int → Int × Int) (M : List (Int × Int)) (k : Nat) (h : k < M.length) : flat ((M.take (k + 1)).map f) = flat ((M.take k).map f) ++ [.int .i64 (f M[k]).1, .int .i64 (f M[k]).2] := by
  rw [List.take_succ_eq_append_getElem h, List.map_append, flat_app]
  rfl
theorem cell_two_a8 (w : World) (n : Nat) (hn : n = w.heap.size) (a b : Value) (t : TypeId) : ∀ j u, [a, b][j]? = some u → (w.alloc (.cells #[a, b] t)).cell? ((⟨n, 0, none⟩ : Addr).add j) = some u := by
  subst hn
  exact cell_two_new w a b t

set_option maxRecDepth 100000 in
set_option maxHeartbeats 2000000 in
theorem onCells_any (C : List Int) (M : List (Int × Int)) (gI o cI cM : Nat) (A : Option Addr) (w : World) (hC : ∀ j (h : j < C.length), w.cell? ⟨gI, o + j, none⟩ = some (.int .i64 C[j])) (hM : MvAt w A M) (hin : ∀ k (h : k < M.length), ∃ a b : Nat, M[k] = ((a : Int), (b : Int)) ∧ a < C.length ∧ b < C.length) (hn : M.length ≤ 1000) (hgI : gI < w.heap.size) :
    Calls Tryz.prog 61 #[.slice (some ⟨gI, o, none⟩) C.length cI, .slice A M.length cM] w fun e w' => ∃ v, e = .returned v ∧ w'.ownsRow w.heap.size 39 2 v M.length (flat (M.map (onC C))) ∧ Below w.heap.size w w' := by
  obtain ⟨i0, hi, hz0, hz1, hz2⟩ := info_parts Tryz.infoM
  have HI := Lib.hid hi
  have HZ0 := Lib.hid hz0
  have HZ1 := Lib.hid hz1
  have HZ2 := Lib.hid hz2
  clear hi hz0 hz1 hz2
  have HC := Lib.hid hC
  have HM := Lib.hid hM
  have HIN := Lib.hid hin
  have HTK := Lib.hid (flat_tk (onC C) M)
  have HAL : Hid (flat ((M.take M.length).map (onC C)) = flat (M.map (onC C))) := Lib.hid (by rw [List.take_length])
  have HGD : Hid (∀ a, (h : a < C.length) → C.getD ((a : Nat) : Int).toNat 0 = C[a]) := Lib.hid fun a h => by
    show C.getD a 0 = _
    rw [List.getD_eq_getElem?_getD, List.getElem?_eq_getElem h]; rfl
  clear hC hM hin
  go_enter Tryz.func61, Tryz.ntmps61
  go_wp2
  go_loopw [5, 10] (fun v i wr => ∃ k : Nat, k ≤ M.length ∧ i = .int .i64 k ∧ wr.ownsRow w.heap.size 39 2 v k (flat ((M.take k).map (onC C))) ∧ Below w.heap.size w wr) (fun _ i _ => M.length - (intOf i).toNat)
  case atStart => exact ⟨0, Nat.zero_le _, rfl, World.ownsRow_nil _ _ _ _, Below.refl _ _⟩
  case round =>
    obtain ⟨k, hk, rfl, hown, hB⟩ := hrel
    by_cases hlt : k < M.length
    · obtain ⟨g, rfl, z1, p1, q1⟩ := (HM.out.below hB) k hlt
      obtain ⟨a, b, e1, ha, hb⟩ := HIN.out k hlt
      have HT := Lib.hid (HTK.out k hlt)
      rw [e1] at HT p1 q1
      have HX : Hid (onC C ((a : Int), (b : Int)) = (C[a], C[b])) := Lib.hid (by unfold onC; rw [HGD.out a ha, HGD.out b hb])
      rw [HX.out] at HT
      have ca := (hB.cell (p := ⟨gI, o + a, none⟩) hgI).trans (HC.out a ha)
      have cb := (hB.cell (p := ⟨gI, o + b, none⟩) hgI).trans (HC.out b hb)
      generalize C[a] = x at HT ca HX
      generalize C[b] = y at HT cb HX
      have hzr := hB.size
      have hgr : gI < wr.heap.size := by omega
      have HB := Lib.hid hB
      have HO := Lib.hid hown
      clear hB hown HX e1
      have i1 : (0 : Int) ≤ (a : Int) := by omega
      have i2 : (a : Int) < (C.length : Int) := by omega
      have i3 : (0 : Int) ≤ (b : Int) := by omega
      have i4 : (b : Int) < (C.length : Int) := by omega
      have i5 : (0 : Int) ≤ (k : Int) := by omega
      have i6 : (k : Int) < (M.length : Int) := by omega
      go_wp2
      obtain ⟨W1, hW1⟩ : ∃ W1, W1 = wr.alloc (Obj.cells #[.int .i64 a, .int .i64 b] 39) := ⟨_, rfl⟩
      rw [← hW1]
      have d0 : W1.cell? ⟨wr.heap.size, 0, none⟩ = some (.int .i64 a) := by rw [hW1, World.cell?_alloc_new]; rfl
      have d1 : W1.cell? ⟨wr.heap.size, 1, none⟩ = some (.int .i64 b) := by rw [hW1, World.cell?_alloc_new]; rfl
      have da : W1.cell? ⟨gI, o + a, none⟩ = some (.int .i64 x) := by rw [hW1]; exact (cell_of_blk (Below.heap_alloc _ _ _ hgr)).trans ca
      have db : W1.cell? ⟨gI, o + b, none⟩ = some (.int .i64 y) := by rw [hW1]; exact (cell_of_blk (Below.heap_alloc _ _ _ hgr)).trans cb
      have z2 : W1.heap.size = wr.heap.size + 1 := by rw [hW1]; simp
      have HO1 : Hid (W1.ownsRow w.heap.size 39 2 _ k (flat ((M.take k).map (onC C)))) := Lib.hid (by rw [hW1]; exact HO.out.alloc _)
      have HB1 : Hid (Below w.heap.size w W1) := Lib.hid (by rw [hW1]; exact HB.out.alloc hzr _)
      clear hW1 p1 q1 ca cb HO
      have hzW : w.heap.size ≤ W1.heap.size := by omega
      have H1 : ∀ u ∈ [Value.int .i64 x, Value.int .i64 y], u.oneCell' = true := fun u hu => by simp at hu; rcases hu with rfl | rfl <;> rfl
      have H3 : k + 1 ≤ maxLen := by unfold maxLen; omega
      have H4 : (k + 1) * 16 ≤ 140737488355328 := by omega
      have da2 : (W1.alloc (Obj.cells #[.int .i64 x, .int .i64 y] 39)).drew.heap.size = W1.heap.size + 1 := by show (W1.alloc _).heap.size = _; simp
      clear z2
      go_region_law (first | (refine step_append_lies _ rfl _ _ 26 rfl w.heap.size 39 i0 (.agg #[.int .i64 0, .int .i64 0]) 2 16 Tryz.underlying26 HI.out HZ0.out HZ1.out HZ2.out rfl (by decide) _ k _ rfl (show ((W1.alloc (Obj.cells #[.int .i64 x, .int .i64 y] 39)).drew).ownsRow w.heap.size 39 2 _ k (flat ((M.take k).map (onC C))) from HO1.out.alloc _) ⟨W1.heap.size, 0, none⟩ 1 1 [.int .i64 x, .int .i64 y] rfl rfl (fun j u h => cell_two_a8 W1 W1.heap.size rfl (.int .i64 x) (.int .i64 y) 39 j u h) H1 (by decide) H3 H4 (by rw [da2]; omega) _ rfl ?_; intro g2 c2 w8 hrow8 hg8 hat8 hlt8))
      all_goals
        go_wp2
        go_roundw
        case rel =>
          refine ⟨k + 1, by omega, by go_num, by rw [HT.out]; exact hrow8, ?_⟩
          exact (HB1.out.alloc hzW (Obj.cells #[.int .i64 x, .int .i64 y] 39)).drew.grown hg8 (by rw [da2]; omega) (fun j hj => (HO1.out.lt j hj).1)
        case measure => simp [intOf]; omega
    · obtain rfl : k = M.length := by omega
      rw [HAL.out] at hown
      have HB := Lib.hid hB
      clear hB
      go_wp2
      go_ret
      exact ⟨_, rfl, hown, HB.out⟩
end Go.Proofs.YtoiaklnaecghnabGreatDoor
