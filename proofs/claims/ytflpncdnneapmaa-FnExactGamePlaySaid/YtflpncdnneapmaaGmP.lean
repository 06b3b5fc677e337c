/- Contracts: the program's turns: moves of the player, the turn behind a move. -/
import Derived.Test.YtflpncdnneapmaaGmB
import Derived.Deep.QuietTactic
import Derived.BigQuiet
import Derived.Deep.RegionWith
namespace Go.Proofs.Ytflpncdnneapmaa
open Go.RowKit

theorem neq_move (a b c d : Int) (w : World) : (binOp .neq 31 (.agg #[.int .i64 a, .int .i64 b]) (.agg #[.int .i64 c, .int .i64 d])).run Try.prog w = .ok (.bool (!(a == c && b == d))) w := by
  have u3 := Try.underlying3
  have a3 := Try.isAgg3
  have z3 := Try.sizeOf3
  have hS : Try.prog.underlying 31 = some (.struct (Try.prog.fieldsOf 31)) := by kernel_rfl
  have hp : Try.prog.stoodInHeld 31 = false := by kernel_rfl
  rw [run_neq_struct, show (10000 : Nat) = 9999 + 1 from rfl, run_equalIn_agg w 9999 31 _ _ hS hp]
  simp only [Program.fieldsOf, Try.underlying31]
  go_simp
  by_cases h1 : a = c <;> by_cases h2 : b = d <;> simp [h1, h2]
theorem cell_old (w : World) (o : Obj) (b i : Nat) (h : b < w.heap.size) : (w.alloc o).cell? ⟨b, i, none⟩ = w.cell? ⟨b, i, none⟩ := World.cell?_alloc_past o b i h
/-- A turn as a value. -/
abbrev tnV (tm : Bool) (s : List UInt8) : Value := .agg #[.string (str s), .int .u8 (kd tm).toNat]
abbrev tnB (tm : Bool) (s : List UInt8) : Obj := Obj.cells #[.string (str s), .int .u8 (kd tm).toNat] 66
theorem gmM_step (tm : Bool) (s : List UInt8) (k : Nat) : mvsTo (gmW tm (str s)) (str s) (k + 1) = mvsTo (gmW tm (str s)) (str s) k ++ if gmW tm (str s) k (mvTo (str s) k) then [((k : Int), mvTo (str s) k)] else [] := rfl
theorem gmW_at (tm : Bool) (s : ByteArray) (k : Nat) (h : k < s.size) : gmW tm s k (mvTo s k) = (decide (s[k] = kd tm) && !decide (mvTo s k = k)) := by
  unfold gmW canM
  rw [sgAt_in s k h]
  by_cases h1 : mvTo s k = k
  · simp [h1]
  · have h2 : ¬ ((k : Int) = mvTo s k) := fun e => h1 e.symm
    simp [h1, h2]

set_option maxRecDepth 100000 in
set_option maxHeartbeats 2000000 in
theorem tnMoves_any (tm : Bool) (s : List UInt8) (w : World) (hs : s.length ≤ 100) :
    Calls Try.prog 73 #[tnV tm s] w (SpPost w (gmM tm s)) := by
  obtain ⟨i0, hi, hz0, hz1, hz2⟩ := info_parts Try.infoM
  have HI := Lib.hid hi
  have HZ0 := Lib.hid hz0
  have HZ1 := Lib.hid hz1
  have HZ2 := Lib.hid hz2
  clear hi hz0 hz1 hz2
  have hsz : (str s).size ≤ 100 := by rw [str_size]; exact hs
  have HST := Lib.hid (gmM_step tm s)
  have HWA := Lib.hid (gmW_at tm (str s))
  have hfin : Hid (mvsTo (gmW tm (str s)) (str s) (str s).size = gmM tm s) := rfl
  show Calls Try.prog 73 #[.agg #[.string (str s), .int .u8 (kd tm).toNat]] w _
  generalize str s = t at hsz HST HWA hfin
  clear hs
  generalize kd tm = c at HWA
  go_enter Try.func73, Try.ntmps73
  go_wp2
  obtain ⟨W1, hW1⟩ : ∃ W1, W1 = w.alloc (Obj.cells #[.string t, .int .u8 c.toNat] 66) := ⟨_, rfl⟩
  rw [← hW1]
  have c0 : W1.cell? ⟨w.heap.size, 0, none⟩ = some (.string t) := by rw [hW1]; simp [World.cell?_alloc_new]
  have c1 : W1.cell? ⟨w.heap.size, 1, none⟩ = some (.int .u8 c.toNat) := by rw [hW1]; simp [World.cell?_alloc_new]
  have hz : w.heap.size < W1.heap.size := by rw [hW1]; simp
  have HB0 : Hid (Below w.heap.size w W1) := by rw [hW1]; exact Lib.hid ((Below.refl _ _).alloc (Nat.le_refl _) _)
  clear hW1
  go_wp2
  go_loopw [3, 10] (fun v i wr => ∃ k : Nat, k ≤ t.size ∧ i = .int .i64 k ∧ wr.ownsRow W1.heap.size 31 2 v (mvsTo (gmW tm t) t k).length (flat (mvsTo (gmW tm t) t k)) ∧ Below W1.heap.size W1 wr) (fun _ i _ => t.size - (intOf i).toNat)
  case atStart => exact ⟨0, Nat.zero_le _, rfl, World.ownsRow_nil _ _ _ _, Below.refl _ _⟩
  case round =>
    obtain ⟨k, hk, rfl, hown, hB⟩ := hrel
    have hle := mvsTo_le (gmW tm t) t k
    by_cases hlt : k < t.size
    · have hS := Lib.hid (HST.out k)
      have hWK := Lib.hid (HWA.out k hlt)
      generalize mvsTo (gmW tm t) t k = L at hown hS hle
      have x0 : wr.cell? ⟨w.heap.size, 0, none⟩ = some (.string t) := (hB.cell (p := ⟨w.heap.size, 0, none⟩) hz).trans c0
      have x1 : wr.cell? ⟨w.heap.size, 1, none⟩ = some (.int .u8 c.toNat) := (hB.cell (p := ⟨w.heap.size, 1, none⟩) hz).trans c1
      have hzr : w.heap.size < wr.heap.size := by have := hB.size; omega
      have hown0 := hown.alloc (mvB k k)
      have hB0 := hB.alloc hB.size (mvB k k)
      have i1 : (0 : Int) ≤ (k : Int) := by omega
      have i2 : (k : Int) < (t.size : Int) := by omega
      clear hown hB
      go_wp2_with fail
      refine (moveFrom_any t k _ (by omega)).mono ?_
      rintro e w1 ⟨rfl, hb1⟩
      obtain ⟨w2, hw2⟩ : ∃ w2, w2 = w1.alloc (mvB k (mvTo t k)) := ⟨_, rfl⟩
      have hown1 := (own_below hown0 hb1).alloc (mvB k (mvTo t k))
      rw [← hw2] at hown1
      have hB1 : Below W1.heap.size W1 w2 := by rw [hw2]; exact (hB0.trans (hb1.mono hB0.size)).alloc (Nat.le_trans hB0.size hb1.size) _
      obtain ⟨hc1, _⟩ := bcell hb1
      have hz1 := hb1.size
      simp at hz1
      have y0 : w2.cell? ⟨w.heap.size, 0, none⟩ = some (.string t) := by rw [hw2, cell_old _ _ _ _ (by omega), hc1 _ _ (by simp; omega), cell_old _ _ _ _ hzr]; exact x0
      have y1 : w2.cell? ⟨w.heap.size, 1, none⟩ = some (.int .u8 c.toNat) := by rw [hw2, cell_old _ _ _ _ (by omega), hc1 _ _ (by simp; omega), cell_old _ _ _ _ hzr]; exact x1
      have y2 : w2.cell? ⟨wr.heap.size, 0, none⟩ = some (.int .i64 k) := by rw [hw2, cell_old _ _ _ _ (by omega), hc1 _ _ (by simp), World.cell?_alloc_new]; rfl
      have y3 : w2.cell? ⟨wr.heap.size, 1, none⟩ = some (.int .i64 k) := by rw [hw2, cell_old _ _ _ _ (by omega), hc1 _ _ (by simp), World.cell?_alloc_new]; rfl
      have y4 : w2.cell? ⟨w1.heap.size, 0, none⟩ = some (.int .i64 k) := by rw [hw2, World.cell?_alloc_new]; rfl
      have y5 : w2.cell? ⟨w1.heap.size, 1, none⟩ = some (.int .i64 (mvTo t k)) := by rw [hw2, World.cell?_alloc_new]; rfl
      have hzw : w1.heap.size < w2.heap.size := by rw [hw2]; simp
      have HOWN := Lib.hid hown1
      have HB1 := Lib.hid hB1
      clear hown0 hB0 hb1 hc1 x0 x1 hown1 hB1
      rcases is_or t[k] c _ rfl with ⟨e1, e2⟩ | ⟨e1, e2⟩
      · by_cases hm : mvTo t k = k
        · have hno : Hid (gmW tm t k (mvTo t k) = false) := Lib.hid (by rw [hWK.out]; simp [hm])
          have hneq : ∀ wx, (binOp .neq 31 (.agg #[.int .i64 k, .int .i64 (mvTo t k)]) (.agg #[.int .i64 k, .int .i64 k])).run Try.prog wx = .ok (.bool false) wx := fun wx => by rw [neq_move]; simp [hm]
          clear hm
          go_wp2
          rw [← hw2]
          clear hw2
          go_quiet (fail)
          go_wp2
          go_roundw
          case rel => exact ⟨k + 1, by omega, by go_num, by rw [hS.out, hno.out]; simpa using own_below HOWN.out (below_drewN (Below.refl _ _) _), below_drewN HB1.out _⟩
          case measure => simp [intOf]; omega
        · have hyes : Hid (gmW tm t k (mvTo t k) = true) := Lib.hid (by rw [hWK.out]; simp [hm, e1])
          have hneq : ∀ wx, (binOp .neq 31 (.agg #[.int .i64 k, .int .i64 (mvTo t k)]) (.agg #[.int .i64 k, .int .i64 k])).run Try.prog wx = .ok (.bool true) wx := fun wx => by rw [neq_move]; simp [hm]
          clear hm
          have H2 : ∀ x ∈ [Value.int .i64 (k : Int), Value.int .i64 (mvTo t k)], x.oneCell' = true := fun x hx => by simp at hx; rcases hx with rfl | rfl <;> rfl
          have H3 : L.length + 1 ≤ maxLen := by unfold maxLen; omega
          have H4 : (L.length + 1) * 16 ≤ 140737488355328 := by omega
          have H5 := HB1.out.size
          go_wp2
          rw [← hw2]
          clear hw2
          go_quiet (fail)
          go_wp2_with (first | (at_builtin; refine wpList_append_own _ rfl _ _ 22 rfl W1.heap.size 31 i0 (.agg #[.int .i64 0, .int .i64 0]) 2 16 Try.underlying22 HI.out HZ0.out HZ1.out HZ2.out rfl (by decide) _ _ _ rfl ((own_below HOWN.out (below_drewN (Below.refl _ _) _)).alloc _) ⟨w2.heap.size, 0, none⟩ 1 1 [.int .i64 k, .int .i64 (mvTo t k)] rfl rfl (by have h := cell_two_new (w2.drewN nq) (.int .i64 k) (.int .i64 (mvTo t k)) 31; simpa using h) H2 H3 H4 (by simp; omega) ?_; intro v' w3 hown' hgrow _))
          go_roundw
          case rel =>
            refine ⟨k + 1, by omega, by go_num, ?_, ?_⟩
            · rw [hS.out, hyes.out, if_pos rfl, flat_app, List.length_append]
              exact hown'
            · exact ((below_drewN HB1.out _).alloc (by simp; omega) _).grown hgrow (by simp; omega) fun j hj => (HOWN.out.lt _ hj).1
          case measure => simp [intOf]; omega
      · have hno : Hid (gmW tm t k (mvTo t k) = false) := Lib.hid (by rw [hWK.out]; simp [e1])
        clear e1
        go_wp2
        rw [← hw2]
        clear hw2
        go_quiet (fail)
        go_wp2
        go_roundw
        case rel => exact ⟨k + 1, by omega, by go_num, by rw [hS.out, hno.out]; simpa using own_below HOWN.out (below_drewN (Below.refl _ _) _), below_drewN HB1.out _⟩
        case measure => simp [intOf]; omega
    · go_wp2
      go_ret
      obtain rfl : k = t.size := by omega
      exact ⟨_, rfl, by rw [← hfin.out]; exact own_base hown (Nat.le_of_lt hz), HB0.out.trans (hB.mono (Nat.le_of_lt hz))⟩

theorem kd_other (tm : Bool) : oSign (kd tm) = kd (!tm) := by cases tm <;> rfl
theorem results_tn (tmps : Array Value) (w : World) (g : Nat) (x y : Value) (hp : tmps.getD 4 undef = .pointer (some ⟨g, 0, none⟩)) (c0 : w.cell? ⟨g, 0, none⟩ = some x) (c1 : w.cell? ⟨g, 1, none⟩ = some y) :
    (results Try.f42 tmps).run Try.prog w = .ok (.agg #[x, y]) w := by
  have hr : Try.f42.results = #[.cell 4 66] := rfl
  unfold results
  rw [hr]
  simp at hp
  simp [hp, asAddr, c0, c1, go_sem]
set_option maxRecDepth 100000 in
set_option maxHeartbeats 2000000 in
theorem tnBehind_any (tm : Bool) (s : List UInt8) (a b : Nat) (w : World) (ha : a < s.length) (hb : b < s.length) (hne : a ≠ b) :
    Calls Try.prog 42 #[tnV tm s, .agg #[.int .i64 a, .int .i64 b]] w fun e w' => e = .returned (tnV (!tm) (putL (str s) a b)) ∧ Below w.heap.size w w' := by
  have HLB := Lib.hid (fun wx => lineBehind_any (str s) a b wx (by rw [str_size]; exact ha) (by rw [str_size]; exact hb) hne)
  have hOS := fun wx => otherSign_any (kd tm) wx (by cases tm <;> rfl)
  rw [kd_other] at hOS
  have HOS := Lib.hid hOS
  show Calls Try.prog 42 #[.agg #[.string (str s), .int .u8 (kd tm).toNat], .agg #[.int .i64 a, .int .i64 b]] w fun e w' => e = .returned (.agg #[.string (str (putL (str s) a b)), .int .u8 (kd (!tm)).toNat]) ∧ Below w.heap.size w w'
  generalize putL (str s) a b = y at HLB
  generalize kd (!tm) = c' at HOS hOS
  generalize kd tm = c at HOS hOS
  clear hOS
  generalize str s = t at HLB
  go_enter Try.func42, Try.ntmps42
  go_wp2
  obtain ⟨W1, hW1⟩ : ∃ W1, W1 = ((w.alloc (Obj.cells #[.string t, .int .u8 c.toNat] 66)).alloc (mvB a b)).alloc (Obj.cells #[.string ⟨#[]⟩, .int .u8 0] 66) := ⟨_, rfl⟩
  have e1 : (w.alloc (Obj.cells #[.string t, .int .u8 c.toNat] 66)).heap.size = w.heap.size + 1 := by simp
  have e2 : ((w.alloc (Obj.cells #[.string t, .int .u8 c.toNat] 66)).alloc (mvB a b)).heap.size = w.heap.size + 1 + 1 := by simp
  have c0 : W1.cell? ⟨w.heap.size, 0, none⟩ = some (.string t) := by rw [hW1, cell_old _ _ _ _ (by omega), cell_old _ _ _ _ (by omega), World.cell?_alloc_new]; rfl
  have c1 : W1.cell? ⟨w.heap.size, 1, none⟩ = some (.int .u8 c.toNat) := by rw [hW1, cell_old _ _ _ _ (by omega), cell_old _ _ _ _ (by omega), World.cell?_alloc_new]; rfl
  have c2 : W1.cell? ⟨w.heap.size + 1, 0, none⟩ = some (.int .i64 a) := by rw [hW1, cell_old _ _ _ _ (by omega), ← e1, World.cell?_alloc_new]; rfl
  have c3 : W1.cell? ⟨w.heap.size + 1, 1, none⟩ = some (.int .i64 b) := by rw [hW1, cell_old _ _ _ _ (by omega), ← e1, World.cell?_alloc_new]; rfl
  have c4 : W1.heap[w.heap.size + 1 + 1]? = some (.cells #[.string ⟨#[]⟩, .int .u8 0] 66 (0, 0)) := by rw [hW1, ← e2]; exact heap_alloc_new _ _
  have hB : Below w.heap.size w W1 := by rw [hW1]; exact (((Below.refl _ _).alloc (Nat.le_refl _) _).alloc (by simp) _).alloc (by simp; omega) _
  have hz : W1.heap.size = w.heap.size + 3 := by rw [hW1]; simp
  rw [← hW1]
  clear hW1 e1 e2
  have hlt4 : w.heap.size + 1 + 1 < W1.heap.size := by omega
  have hlt2 : w.heap.size + 1 < W1.heap.size := by omega
  have hlt0 : w.heap.size < W1.heap.size := by omega
  have d0 : W1.cell? ⟨w.heap.size + 1 + 1, 0, none⟩ = some (.string ⟨#[]⟩) := by simp [World.cell?, c4]
  have d1 : W1.cell? ⟨w.heap.size + 1 + 1, 1, none⟩ = some (.int .u8 0) := by simp [World.cell?, c4]
  have f0 : W1.frozen? ⟨w.heap.size + 1 + 1, 0, none⟩ = false := by simp [World.frozen?, c4]
  have f1 : W1.frozen? ⟨w.heap.size + 1 + 1, 1, none⟩ = false := by simp [World.frozen?, c4]
  have HC := Lib.hid (And.intro c0 (And.intro c1 (And.intro c2 (And.intro c3 (And.intro d0 (And.intro d1 (And.intro f0 f1)))))))
  have HBB := Lib.hid hB
  have HZ := Lib.hid hz
  clear hB hz c4
  go_region_with (first | (go_at_call 34; refine (HLB.out _).mono ?_; rintro e w' ⟨rfl, hb⟩; have g0 := (hb.cell (p := ⟨w.heap.size, 0, none⟩) hlt0).trans c0; have g1 := (hb.cell (p := ⟨w.heap.size, 1, none⟩) hlt0).trans c1; have g2 := (hb.cell (p := ⟨w.heap.size + 1, 0, none⟩) hlt2).trans c2; have g3 := (hb.cell (p := ⟨w.heap.size + 1, 1, none⟩) hlt2).trans c3; have g4 := (hb.cell (p := ⟨w.heap.size + 1 + 1, 0, none⟩) hlt4).trans d0; have g5 := (hb.cell (p := ⟨w.heap.size + 1 + 1, 1, none⟩) hlt4).trans d1; have g6 := (hb.frozen (p := ⟨w.heap.size + 1 + 1, 0, none⟩) hlt4).trans f0; have g7 := (hb.frozen (p := ⟨w.heap.size + 1 + 1, 1, none⟩) hlt4).trans f1) | (go_at_call 79; refine (HOS.out _).mono ?_; rintro e w' ⟨rfl, rfl⟩))
  all_goals
    go_wp2
    (try simp only [Exit.inBlock, Exit.then]); refine bodyPost_ret (results_tn _ _ (w.heap.size + 1 + 1) (.string (str y)) (.int .u8 c'.toNat) rfl ?_ ?_) rfl ⟨rfl, ?_⟩
    · rw [World.cell?_setCell_other _ _ _ _ (by intro e; injection e with _ e; omega)]
      exact World.cell?_setCell_same _ _ _ g4
    · exact World.cell?_setCell_same _ _ _ (by rw [World.cell?_setCell_other _ _ _ _ (by intro e; injection e with _ e; omega)]; exact g5)
    · exact (((HBB.out.trans ((below_drewN (Below.refl _ W1) _).mono (Nat.le_of_lt hlt0))).trans (hb.mono (by simp; omega))).setCell (by simp; omega) _).setCell (by simp; omega) _
end Go.Proofs.Ytflpncdnneapmaa
