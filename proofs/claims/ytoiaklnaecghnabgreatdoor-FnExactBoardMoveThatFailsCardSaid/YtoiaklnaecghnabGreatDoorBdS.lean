/- Contracts: the order of moves: cmp.Compare, cmp.Or, the program's compare. -/
import Derived.Test.YtoiaklnaecghnabGreatDoorBdN
import Derived.Sort.Grow
import Derived.Deep.RegionHeld3
namespace Go.Proofs.YtoiaklnaecghnabGreatDoor
open Go.RowKit Go.Sort

def cmpI (x y : Int) : Int := if x < y then -1 else if y < x then 1 else 0
def cmpM (m n : Int × Int) : Int := if cmpI m.1 n.1 = 0 then cmpI m.2 n.2 else cmpI m.1 n.1

set_option maxHeartbeats 1000000 in
theorem cmpCompare_any (x y : Int) (w : World) :
    Calls Tryz.prog 65 #[.int .i64 x, .int .i64 y] w fun e w' => e = .returned (.int .i64 (cmpI x y)) ∧ w' = w := by
  by_cases h1 : x < y
  · have e : cmpI x y = -1 := by simp [cmpI, h1]
    rw [e]
    clear e
    go_enter Tryz.func65, Tryz.ntmps65
    go_wp2
    go_ret
    exact ⟨rfl, rfl⟩
  · by_cases h2 : y < x
    · have e : cmpI x y = 1 := by simp [cmpI, h1, h2]
      rw [e]
      clear e
      go_enter Tryz.func65, Tryz.ntmps65
      go_wp2
      go_ret
      exact ⟨rfl, rfl⟩
    · have e : cmpI x y = 0 := by simp [cmpI, h1, h2]
      rw [e]
      clear e
      go_enter Tryz.func65, Tryz.ntmps65
      go_wp2
      go_ret
      exact ⟨rfl, rfl⟩
set_option maxHeartbeats 1000000 in
theorem cmpOr_any (a b : Int) (g c : Nat) (w : World) (h0 : w.cell? ⟨g, 0, none⟩ = some (.int .i64 a)) (h1 : w.cell? ⟨g, 1, none⟩ = some (.int .i64 b)) :
    Calls Tryz.prog 64 #[.slice (some ⟨g, 0, none⟩) 2 c] w fun e w' => e = .returned (.int .i64 (if a = 0 then b else a)) ∧ w' = w := by
  by_cases ha : a = 0
  · rw [if_pos ha]
    subst ha
    by_cases hb : b = 0
    · subst hb
      go_enter Tryz.func64, Tryz.ntmps64
      go_wp2
      go_loop [8] (fun i => ∃ k : Nat, k ≤ 2 ∧ i = .int .i64 k) (fun i => 2 - (intOf i).toNat)
      case atStart => exact ⟨0, by omega, rfl⟩
      case round =>
        obtain ⟨k, hk, rfl⟩ := hrel
        rcases (show k = 0 ∨ k = 1 ∨ k = 2 by omega) with rfl | rfl | rfl
        · go_wp2
          go_round
          case rel => exact ⟨1, by omega, by go_num⟩
          case measure => simp [intOf]
        · go_wp2
          go_round
          case rel => exact ⟨2, by omega, by go_num⟩
          case measure => simp [intOf]
        · go_wp2
          go_ret
          exact ⟨rfl, rfl⟩
    · have hv : (b != 0) = true := by simpa using hb
      go_enter Tryz.func64, Tryz.ntmps64
      go_wp2
      go_loop [8] (fun i => ∃ k : Nat, k ≤ 1 ∧ i = .int .i64 k) (fun i => 2 - (intOf i).toNat)
      case atStart => exact ⟨0, by omega, rfl⟩
      case round =>
        obtain ⟨k, hk, rfl⟩ := hrel
        rcases (show k = 0 ∨ k = 1 by omega) with rfl | rfl
        · go_wp2
          go_round
          case rel => exact ⟨1, by omega, by go_num⟩
          case measure => simp [intOf]
        · go_wp2
          go_ret
          exact ⟨rfl, rfl⟩
  · rw [if_neg ha]
    have hv : (a != 0) = true := by simpa using ha
    go_enter Tryz.func64, Tryz.ntmps64
    go_wp2
    go_loop [8] (fun i => i = .int .i64 0) (fun i => 2 - (intOf i).toNat)
    case atStart => rfl
    case round =>
      obtain rfl := hrel
      go_wp2
      go_ret
      exact ⟨rfl, rfl⟩

set_option maxRecDepth 100000 in
set_option maxHeartbeats 2000000 in
theorem compare_any (m1 m2 n1 n2 : Int) (W : World) :
    Calls Tryz.prog 49 #[.agg #[.int .i64 m1, .int .i64 m2], .agg #[.int .i64 n1, .int .i64 n2]] W fun e w' => e = .returned (.int .i64 (cmpM (m1, m2) (n1, n2))) ∧ ∃ q os', w' = grow (W.drewN q) os' := by
  have HC1 := Lib.hid (fun wx => cmpCompare_any m1 n1 wx)
  have HC2 := Lib.hid (fun wx => cmpCompare_any m2 n2 wx)
  have hE : cmpM (m1, m2) (n1, n2) = if cmpI m1 n1 = 0 then cmpI m2 n2 else cmpI m1 n1 := rfl
  rw [hE]
  clear hE
  generalize cmpI m1 n1 = x at HC1 ⊢
  generalize cmpI m2 n2 = y at HC2 ⊢
  obtain ⟨W2, hW2⟩ : ∃ W2, W2 = (W.alloc (Obj.cells #[.int .i64 m1, .int .i64 m2] 39)).alloc (Obj.cells #[.int .i64 n1, .int .i64 n2] 39) := ⟨_, rfl⟩
  have HO := Lib.hid (cmpOr_any x y W2.heap.size 2 (W2.alloc (Obj.cells #[.int .i64 x, .int .i64 y] 3)).drew (by show (W2.alloc _).cell? _ = _; rw [World.cell?_alloc_new]; rfl) (by show (W2.alloc _).cell? _ = _; rw [World.cell?_alloc_new]; rfl))
  generalize (if x = 0 then y else x) = r at HO ⊢
  have hK : ∀ (o : Obj), ∃ q os', (W2.alloc o).drew = grow (W.drewN q) os' := fun o => by
    show ∃ q os', (W2.drew.alloc o) = grow (W.drewN q) os'
    rw [hW2]
    refine ⟨1, #[Obj.cells #[.int .i64 m1, .int .i64 m2] 39, Obj.cells #[.int .i64 n1, .int .i64 n2] 39, o], ?_⟩
    rw [alloc_eq_grow, alloc_eq_grow, alloc_eq_grow]
    show grow (grow (grow W.drew _) _) _ = _
    rw [grow_grow, grow_grow]
    rfl
  have c0 : W2.cell? ⟨W.heap.size, 0, none⟩ = some (.int .i64 m1) := by rw [hW2, World.cell?_alloc_old _ _ _ (by simp), World.cell?_alloc_new]; rfl
  have c1 : W2.cell? ⟨W.heap.size, 1, none⟩ = some (.int .i64 m2) := by rw [hW2, World.cell?_alloc_old _ _ _ (by simp), World.cell?_alloc_new]; rfl
  have z1 : (W.alloc (Obj.cells #[.int .i64 m1, .int .i64 m2] 39)).heap.size = W.heap.size + 1 := by simp
  have d0 : W2.cell? ⟨W.heap.size + 1, 0, none⟩ = some (.int .i64 n1) := by rw [hW2, ← z1, World.cell?_alloc_new]; rfl
  have d1 : W2.cell? ⟨W.heap.size + 1, 1, none⟩ = some (.int .i64 n2) := by rw [hW2, ← z1, World.cell?_alloc_new]; rfl
  have hz0 : W.heap.size < W2.heap.size := by rw [hW2]; simp; omega
  have hz1 : W.heap.size + 1 < W2.heap.size := by rw [hW2]; simp
  have keep : ∀ (g o : Nat), g < W2.heap.size → ∀ u, W2.cell? ⟨g, o, none⟩ = some u → (W2.alloc (Obj.cells #[.int .i64 x, .int .i64 y] 3)).drew.cell? ⟨g, o, none⟩ = some u := fun g o hg u h => (cell_of_blk (Below.heap_alloc _ _ _ hg)).trans h
  have a0 := keep _ _ hz0 _ c0
  have a1 := keep _ _ hz0 _ c1
  have b0 := keep _ _ hz1 _ d0
  have b1 := keep _ _ hz1 _ d1
  clear keep hz0 hz1
  go_enter Tryz.func49, Tryz.ntmps49
  go_wp2_with fail
  rw [← hW2]
  clear hW2 z1
  go_region_held3 (fun w' => w'.cell? ⟨W.heap.size, 0, none⟩ = some (.int .i64 m1) ∧ w'.cell? ⟨W.heap.size, 1, none⟩ = some (.int .i64 m2) ∧ w'.cell? ⟨W.heap.size + 1, 0, none⟩ = some (.int .i64 n1) ∧ w'.cell? ⟨W.heap.size + 1, 1, none⟩ = some (.int .i64 n2)) (first | exact ⟨c0, c1, d0, d1⟩ | exact ⟨a0, a1, b0, b1⟩) (first | (go_at_call 65; first | (with_reducible refine (HC1.out _).mono ?_; rintro e w' ⟨rfl, rfl⟩) | (with_reducible refine (HC2.out _).mono ?_; rintro e w' ⟨rfl, rfl⟩)) | (go_at_call 64; refine (HO.out).mono ?_; rintro e w' ⟨rfl, rfl⟩))
  all_goals
    go_wp2
    go_ret
    exact ⟨rfl, hK _⟩
end Go.Proofs.YtoiaklnaecghnabGreatDoor
