/- Contracts: the program's turns: moves of the player, the turn behind a move. -/
import Derived.Test.YtjnidfleccbdbaaGmA
import Derived.Deep.QuietTactic
import Derived.BigQuiet
import Derived.Deep.RegionWith
import Derived.Test.YtjnidfleccbdbaaHsV
import Derived.DeepKeys4
namespace Go.Proofs.Ytjnidfleccbdbaa
open Go.RowKit

theorem neq_move (a b c d : Int) (w : World) : (binOp .neq 67 (.agg #[.int .i64 a, .int .i64 b]) (.agg #[.int .i64 c, .int .i64 d])).run Try.prog w = .ok (.bool (!(a == c && b == d))) w := by
  have u3 := Try.underlying3
  have a3 := Try.isAgg3
  have z3 := Try.sizeOf3
  have hS : Try.prog.underlying 67 = some (.struct (Try.prog.fieldsOf 67)) := by kernel_rfl
  have hp : Try.prog.stoodInHeld 67 = false := by kernel_rfl
  rw [run_neq_struct, show (10000 : Nat) = 9999 + 1 from rfl, run_equalIn_agg w 9999 67 _ _ hS hp]
  simp only [Program.fieldsOf, Try.underlying67]
  go_simp
  by_cases h1 : a = c <;> by_cases h2 : b = d <;> simp [h1, h2]
theorem cell_old (w : World) (o : Obj) (b i : Nat) (h : b < w.heap.size) : (w.alloc o).cell? ⟨b, i, none⟩ = w.cell? ⟨b, i, none⟩ := World.cell?_alloc_past o b i h
/-- A turn as a value. -/
abbrev tnV (tm : Bool) (s : List UInt8) : Value := .agg #[.string (str s), .int .u8 (kd tm).toNat]
abbrev tnB (tm : Bool) (s : List UInt8) : Obj := Obj.cells #[.string (str s), .int .u8 (kd tm).toNat] 63
theorem gmM_step (tm : Bool) (s : List UInt8) (k : Nat) : mvsTo (gmW tm (str s)) (str s) (k + 1) = mvsTo (gmW tm (str s)) (str s) k ++ if gmW tm (str s) k (mvTo (str s) k) then [((k : Int), mvTo (str s) k)] else [] := rfl
theorem gmW_at (tm : Bool) (s : ByteArray) (k : Nat) (h : k < s.size) : gmW tm s k (mvTo s k) = (decide (s[k] = kd tm) && !decide (mvTo s k = k)) := by
  unfold gmW canM
  rw [sgAt_in s k h]
  by_cases h1 : mvTo s k = k
  · simp [h1]
  · have h2 : ¬ ((k : Int) = mvTo s k) := fun e => h1 e.symm
    simp [h1, h2]

set_option maxRecDepth 100000 in
set_option maxHeartbeats 2000000 in
theorem tnMoves_any (tm : Bool) (s : List UInt8) (w : World) (hs : s.length ≤ 100) :
    Calls Try.prog 41 #[tnV tm s] w (SpPost w (gmM tm s)) := by
  obtain ⟨i0, hi, hz0, hz1, hz2⟩ := info_parts Try.infoM
  have HI := Lib.hid hi
  have HZ0 := Lib.hid hz0
  have HZ1 := Lib.hid hz1
  have HZ2 := Lib.hid hz2
  clear hi hz0 hz1 hz2
  have hsz : (str s).size ≤ 100 := by rw [str_size]; exact hs
  have HST := Lib.hid (gmM_step tm s)
  have HWA := Lib.hid (gmW_at tm (str s))
  have hfin : Hid (mvsTo (gmW tm (str s)) (str s) (str s).size = gmM tm s) := rfl
  show Calls Try.prog 41 #[.agg #[.string (str s), .int .u8 (kd tm).toNat]] w _
  generalize str s = t at hsz HST HWA hfin
  clear hs
  generalize kd tm = c at HWA
  go_enter Try.func41, Try.ntmps41
  go_wp2
  obtain ⟨W1, hW1⟩ : ∃ W1, W1 = w.alloc (Obj.cells #[.string t, .int .u8 c.toNat] 63) := ⟨_, rfl⟩
  rw [← hW1]
  have c0 : W1.cell? ⟨w.heap.size, 0, none⟩ = some (.string t) := by rw [hW1]; simp [World.cell?_alloc_new]
  have c1 : W1.cell? ⟨w.heap.size, 1, none⟩ = some (.int .u8 c.toNat) := by rw [hW1]; simp [World.cell?_alloc_new]
  have hz : w.heap.size < W1.heap.size := by rw [hW1]; simp
  have HB0 : Hid (Below w.heap.size w W1) := by rw [hW1]; exact Lib.hid ((Below.refl _ _).alloc (Nat.le_refl _) _)
  clear hW1
  go_wp2
  go_loopw [3, 10] (fun v i wr => ∃ k : Nat, k ≤ t.size ∧ i = .int .i64 k ∧ wr.ownsRow W1.heap.size 67 2 v (mvsTo (gmW tm t) t k).length (flat (mvsTo (gmW tm t) t k)) ∧ Below W1.heap.size W1 wr) (fun _ i _ => t.size - (intOf i).toNat)
  case atStart => exact ⟨0, Nat.zero_le _, rfl, World.ownsRow_nil _ _ _ _, Below.refl _ _⟩
  case round =>
    obtain ⟨k, hk, rfl, hown, hB⟩ := hrel
    have hle := mvsTo_le (gmW tm t) t k
    by_cases hlt : k < t.size
    · have hS := Lib.hid (HST.out k)
      have hWK := Lib.hid (HWA.out k hlt)
      generalize mvsTo (gmW tm t) t k = L at hown hS hle
      have x0 : wr.cell? ⟨w.heap.size, 0, none⟩ = some (.string t) := (hB.cell (p := ⟨w.heap.size, 0, none⟩) hz).trans c0
      have x1 : wr.cell? ⟨w.heap.size, 1, none⟩ = some (.int .u8 c.toNat) := (hB.cell (p := ⟨w.heap.size, 1, none⟩) hz).trans c1
      have hzr : w.heap.size < wr.heap.size := by have := hB.size; omega
      have hown0 := hown.alloc (mvB k k)
      have hB0 := hB.alloc hB.size (mvB k k)
      have i1 : (0 : Int) ≤ (k : Int) := by omega
      have i2 : (k : Int) < (t.size : Int) := by omega
      clear hown hB
      go_wp2_with fail
      refine (moveFrom_any t k _ (by omega)).mono ?_
      rintro e w1 ⟨rfl, hb1⟩
      obtain ⟨w2, hw2⟩ : ∃ w2, w2 = w1.alloc (mvB k (mvTo t k)) := ⟨_, rfl⟩
      have hown1 := (own_below hown0 hb1).alloc (mvB k (mvTo t k))
      rw [← hw2] at hown1
      have hB1 : Below W1.heap.size W1 w2 := by rw [hw2]; exact (hB0.trans (hb1.mono hB0.size)).alloc (Nat.le_trans hB0.size hb1.size) _
      obtain ⟨hc1, _⟩ := bcell hb1
      have hz1 := hb1.size
      simp at hz1
      have y0 : w2.cell? ⟨w.heap.size, 0, none⟩ = some (.string t) := by rw [hw2, cell_old _ _ _ _ (by omega), hc1 _ _ (by simp; omega), cell_old _ _ _ _ hzr]; exact x0
      have y1 : w2.cell? ⟨w.heap.size, 1, none⟩ = some (.int .u8 c.toNat) := by rw [hw2, cell_old _ _ _ _ (by omega), hc1 _ _ (by simp; omega), cell_old _ _ _ _ hzr]; exact x1
      have y2 : w2.cell? ⟨wr.heap.size, 0, none⟩ = some (.int .i64 k) := by rw [hw2, cell_old _ _ _ _ (by omega), hc1 _ _ (by simp), World.cell?_alloc_new]; rfl
      have y3 : w2.cell? ⟨wr.heap.size, 1, none⟩ = some (.int .i64 k) := by rw [hw2, cell_old _ _ _ _ (by omega), hc1 _ _ (by simp), World.cell?_alloc_new]; rfl
      have y4 : w2.cell? ⟨w1.heap.size, 0, none⟩ = some (.int .i64 k) := by rw [hw2, World.cell?_alloc_new]; rfl
      have y5 : w2.cell? ⟨w1.heap.size, 1, none⟩ = some (.int .i64 (mvTo t k)) := by rw [hw2, World.cell?_alloc_new]; rfl
      have hzw : w1.heap.size < w2.heap.size := by rw [hw2]; simp
      have HOWN := Lib.hid hown1
      have HB1 := Lib.hid hB1
      clear hown0 hB0 hb1 hc1 x0 x1 hown1 hB1
      rcases is_or t[k] c _ rfl with ⟨e1, e2⟩ | ⟨e1, e2⟩
      · by_cases hm : mvTo t k = k
        · have hno : Hid (gmW tm t k (mvTo t k) = false) := Lib.hid (by rw [hWK.out]; simp [hm])
          have hneq : ∀ wx, (binOp .neq 67 (.agg #[.int .i64 k, .int .i64 (mvTo t k)]) (.agg #[.int .i64 k, .int .i64 k])).run Try.prog wx = .ok (.bool false) wx := fun wx => by rw [neq_move]; simp [hm]
          clear hm
          go_wp2
          rw [← hw2]
          clear hw2
          go_quiet (fail)
          go_wp2
          go_roundw
          case rel => exact ⟨k + 1, by omega, by go_num, by rw [hS.out, hno.out]; simpa using own_below HOWN.out (below_drewN (Below.refl _ _) _), below_drewN HB1.out _⟩
          case measure => simp [intOf]; omega
        · have hyes : Hid (gmW tm t k (mvTo t k) = true) := Lib.hid (by rw [hWK.out]; simp [hm, e1])
          have hneq : ∀ wx, (binOp .neq 67 (.agg #[.int .i64 k, .int .i64 (mvTo t k)]) (.agg #[.int .i64 k, .int .i64 k])).run Try.prog wx = .ok (.bool true) wx := fun wx => by rw [neq_move]; simp [hm]
          clear hm
          have H2 : ∀ x ∈ [Value.int .i64 (k : Int), Value.int .i64 (mvTo t k)], x.oneCell' = true := fun x hx => by simp at hx; rcases hx with rfl | rfl <;> rfl
          have H3 : L.length + 1 ≤ maxLen := by unfold maxLen; omega
          have H4 : (L.length + 1) * 16 ≤ 140737488355328 := by omega
          have H5 := HB1.out.size
          go_wp2
          rw [← hw2]
          clear hw2
          go_quiet (fail)
          go_wp2_with (first | (at_builtin; refine wpList_append_own _ rfl _ _ 65 rfl W1.heap.size 67 i0 (.agg #[.int .i64 0, .int .i64 0]) 2 16 Try.underlying65 HI.out HZ0.out HZ1.out HZ2.out rfl (by decide) _ _ _ rfl ((own_below HOWN.out (below_drewN (Below.refl _ _) _)).alloc _) ⟨w2.heap.size, 0, none⟩ 1 1 [.int .i64 k, .int .i64 (mvTo t k)] rfl rfl (by have h := cell_two_new (w2.drewN nq) (.int .i64 k) (.int .i64 (mvTo t k)) 67; simpa using h) H2 H3 H4 (by simp; omega) ?_; intro v' w3 hown' hgrow _))
          go_roundw
          case rel =>
            refine ⟨k + 1, by omega, by go_num, ?_, ?_⟩
            · rw [hS.out, hyes.out, if_pos rfl, flat_app, List.length_append]
              exact hown'
            · exact ((below_drewN HB1.out _).alloc (by simp; omega) _).grown hgrow (by simp; omega) fun j hj => (HOWN.out.lt _ hj).1
          case measure => simp [intOf]; omega
      · have hno : Hid (gmW tm t k (mvTo t k) = false) := Lib.hid (by rw [hWK.out]; simp [e1])
        clear e1
        go_wp2
        rw [← hw2]
        clear hw2
        go_quiet (fail)
        go_wp2
        go_roundw
        case rel => exact ⟨k + 1, by omega, by go_num, by rw [hS.out, hno.out]; simpa using own_below HOWN.out (below_drewN (Below.refl _ _) _), below_drewN HB1.out _⟩
        case measure => simp [intOf]; omega
    · go_wp2
      go_ret
      obtain rfl : k = t.size := by omega
      exact ⟨_, rfl, by rw [← hfin.out]; exact own_base hown (Nat.le_of_lt hz), HB0.out.trans (hB.mono (Nat.le_of_lt hz))⟩

theorem kd_other (tm : Bool) : oSign (kd tm) = kd (!tm) := by cases tm <;> rfl
theorem results_tn (tmps : Array Value) (w : World) (g : Nat) (x y : Value) (hp : tmps.getD 4 undef = .pointer (some ⟨g, 0, none⟩)) (c0 : w.cell? ⟨g, 0, none⟩ = some x) (c1 : w.cell? ⟨g, 1, none⟩ = some y) :
    (results Try.f43 tmps).run Try.prog w = .ok (.agg #[x, y]) w := by
  have hr : Try.f43.results = #[.cell 4 63] := rfl
  unfold results
  rw [hr]
  simp at hp
  simp [hp, asAddr, c0, c1, go_sem]
set_option maxRecDepth 100000 in
set_option maxHeartbeats 2000000 in
theorem tnBehind_any (tm : Bool) (s : List UInt8) (a b : Nat) (w : World) (ha : a < s.length) (hb : b < s.length) (hne : a ≠ b) :
    Calls Try.prog 43 #[tnV tm s, .agg #[.int .i64 a, .int .i64 b]] w fun e w' => e = .returned (tnV (!tm) (putL (str s) a b)) ∧ Below w.heap.size w w' := by
  have HLB := Lib.hid (fun wx => lineBehind_any (str s) a b wx (by rw [str_size]; exact ha) (by rw [str_size]; exact hb) hne)
  have hOS := fun wx => otherSign_any (kd tm) wx (by cases tm <;> rfl)
  rw [kd_other] at hOS
  have HOS := Lib.hid hOS
  show Calls Try.prog 43 #[.agg #[.string (str s), .int .u8 (kd tm).toNat], .agg #[.int .i64 a, .int .i64 b]] w fun e w' => e = .returned (.agg #[.string (str (putL (str s) a b)), .int .u8 (kd (!tm)).toNat]) ∧ Below w.heap.size w w'
  generalize putL (str s) a b = y at HLB
  generalize kd (!tm) = c' at HOS hOS
  generalize kd tm = c at HOS hOS
  clear hOS
  generalize str s = t at HLB
  go_enter Try.func43, Try.ntmps43
  go_wp2
  obtain ⟨W1, hW1⟩ : ∃ W1, W1 = ((w.alloc (Obj.cells #[.string t, .int .u8 c.toNat] 63)).alloc (mvB a b)).alloc (Obj.cells #[.string ⟨#[]⟩, .int .u8 0] 63) := ⟨_, rfl⟩
  have e1 : (w.alloc (Obj.cells #[.string t, .int .u8 c.toNat] 63)).heap.size = w.heap.size + 1 := by simp
  have e2 : ((w.alloc (Obj.cells #[.string t, .int .u8 c.toNat] 63)).alloc (mvB a b)).heap.size = w.heap.size + 1 + 1 := by simp
  have c0 : W1.cell? ⟨w.heap.size, 0, none⟩ = some (.string t) := by rw [hW1, cell_old _ _ _ _ (by omega), cell_old _ _ _ _ (by omega), World.cell?_alloc_new]; rfl
  have c1 : W1.cell? ⟨w.heap.size, 1, none⟩ = some (.int .u8 c.toNat) := by rw [hW1, cell_old _ _ _ _ (by omega), cell_old _ _ _ _ (by omega), World.cell?_alloc_new]; rfl
  have c2 : W1.cell? ⟨w.heap.size + 1, 0, none⟩ = some (.int .i64 a) := by rw [hW1, cell_old _ _ _ _ (by omega), ← e1, World.cell?_alloc_new]; rfl
  have c3 : W1.cell? ⟨w.heap.size + 1, 1, none⟩ = some (.int .i64 b) := by rw [hW1, cell_old _ _ _ _ (by omega), ← e1, World.cell?_alloc_new]; rfl
  have c4 : W1.heap[w.heap.size + 1 + 1]? = some (.cells #[.string ⟨#[]⟩, .int .u8 0] 63 (0, 0)) := by rw [hW1, ← e2]; exact heap_alloc_new _ _
  have hB : Below w.heap.size w W1 := by rw [hW1]; exact (((Below.refl _ _).alloc (Nat.le_refl _) _).alloc (by simp) _).alloc (by simp; omega) _
  have hz : W1.heap.size = w.heap.size + 3 := by rw [hW1]; simp
  rw [← hW1]
  clear hW1 e1 e2
  have hlt4 : w.heap.size + 1 + 1 < W1.heap.size := by omega
  have hlt2 : w.heap.size + 1 < W1.heap.size := by omega
  have hlt0 : w.heap.size < W1.heap.size := by omega
  have d0 : W1.cell? ⟨w.heap.size + 1 + 1, 0, none⟩ = some (.string ⟨#[]⟩) := by simp [World.cell?, c4]
  have d1 : W1.cell? ⟨w.heap.size + 1 + 1, 1, none⟩ = some (.int .u8 0) := by simp [World.cell?, c4]
  have f0 : W1.frozen? ⟨w.heap.size + 1 + 1, 0, none⟩ = false := by simp [World.frozen?, c4]
  have f1 : W1.frozen? ⟨w.heap.size + 1 + 1, 1, none⟩ = false := by simp [World.frozen?, c4]
  have HC := Lib.hid (And.intro c0 (And.intro c1 (And.intro c2 (And.intro c3 (And.intro d0 (And.intro d1 (And.intro f0 f1)))))))
  have HBB := Lib.hid hB
  have HZ := Lib.hid hz
  clear hB hz c4
  go_region_with (first | (go_at_call 59; refine (HLB.out _).mono ?_; rintro e w' ⟨rfl, hb⟩; have g0 := (hb.cell (p := ⟨w.heap.size, 0, none⟩) hlt0).trans c0; have g1 := (hb.cell (p := ⟨w.heap.size, 1, none⟩) hlt0).trans c1; have g2 := (hb.cell (p := ⟨w.heap.size + 1, 0, none⟩) hlt2).trans c2; have g3 := (hb.cell (p := ⟨w.heap.size + 1, 1, none⟩) hlt2).trans c3; have g4 := (hb.cell (p := ⟨w.heap.size + 1 + 1, 0, none⟩) hlt4).trans d0; have g5 := (hb.cell (p := ⟨w.heap.size + 1 + 1, 1, none⟩) hlt4).trans d1; have g6 := (hb.frozen (p := ⟨w.heap.size + 1 + 1, 0, none⟩) hlt4).trans f0; have g7 := (hb.frozen (p := ⟨w.heap.size + 1 + 1, 1, none⟩) hlt4).trans f1) | (go_at_call 60; refine (HOS.out _).mono ?_; rintro e w' ⟨rfl, rfl⟩))
  all_goals
    go_wp2
    (try simp only [Exit.inBlock, Exit.then]); refine bodyPost_ret (results_tn _ _ (w.heap.size + 1 + 1) (.string (str y)) (.int .u8 c'.toNat) rfl ?_ ?_) rfl ⟨rfl, ?_⟩
    · rw [World.cell?_setCell_other _ _ _ _ (by intro e; injection e with _ e; omega)]
      exact World.cell?_setCell_same _ _ _ g4
    · exact World.cell?_setCell_same _ _ _ (by rw [World.cell?_setCell_other _ _ _ _ (by intro e; injection e with _ e; omega)]; exact g5)
    · exact (((HBB.out.trans ((below_drewN (Below.refl _ W1) _).mono (Nat.le_of_lt hlt0))).trans (hb.mono (by simp; omega))).setCell (by simp; omega) _).setCell (by simp; omega) _
end Go.Proofs.Ytjnidfleccbdbaa
namespace Go.Proofs.Ytjnidfleccbdbaa
open Go.RowKit Go.Shelf

/-- All blocks but one lie as they lay, and nothing else has turned. -/
structure KpM (B : Nat) (W W' : World) : Prop where
  os : W'.os = W.os
  tape : W'.tape = W.tape
  output : W'.output = W.output
  far : FarB (some B) W W'
theorem KpM.refl (B : Nat) (W : World) : KpM B W W := ⟨rfl, rfl, rfl, FarB.refl _ _⟩
theorem KpM.trans {B : Nat} {a b c : World} (h : KpM B a b) (k : KpM B b c) : KpM B a c :=
  ⟨k.os.trans h.os, k.tape.trans h.tape, k.output.trans h.output, Nat.le_trans h.far.1 k.far.1, fun i hne hi => (k.far.2 i hne (Nat.lt_of_lt_of_le hi h.far.1)).trans (h.far.2 i hne hi)⟩
theorem KpM.below {B : Nat} {W W' : World} (h : Below W.heap.size W W') : KpM B W W' := ⟨h.os, h.tape, h.output, h.size, fun i _ hi => h.block i hi⟩
theorem KpM.size {B : Nat} {W W' : World} (h : KpM B W W') : W.heap.size ≤ W'.heap.size := h.far.1
theorem KpM.to_below {B n : Nat} {W W' : World} (h : KpM B W W') (hB : n ≤ B) (hn : n ≤ W.heap.size) : Below n W W' :=
  ⟨h.os, h.tape, h.output, h.far.1, fun k hk => h.far.2 k (fun e => by injection e with e; omega) (by omega)⟩
theorem KpM.cell {B : Nat} {W W' : World} (h : KpM B W W') {b o : Nat} (hb : b < W.heap.size) (hne : b ≠ B) : W'.cell? ⟨b, o, none⟩ = W.cell? ⟨b, o, none⟩ :=
  World.cell?_of_block (a := ⟨b, o, none⟩) (h.far.2 b (fun e => hne (by injection e)) hb)
theorem KpM.frozen {B : Nat} {W W' : World} (h : KpM B W W') {b o : Nat} (hb : b < W.heap.size) (hne : b ≠ B) : W'.frozen? ⟨b, o, none⟩ = W.frozen? ⟨b, o, none⟩ :=
  World.frozen?_of_block (a := ⟨b, o, none⟩) (h.far.2 b (fun e => hne (by injection e)) hb)
theorem MvAt.kpM {B : Nat} {w w' : World} {A : Option Addr} {l : List (Int × Int)} (h : MvAt w A l) (hf : KpM B w w') (hne : ∀ a, A = some a → a.block ≠ B) : MvAt w' A l := by
  intro k hk
  obtain ⟨g, a, b, c, d⟩ := h k hk
  exact ⟨g, a, Nat.lt_of_lt_of_le b hf.size, (hf.cell b (hne _ a)).trans c, (hf.cell b (hne _ a)).trans d⟩
/-- What is asked of a predicate: at each element it answers, keeps I, and writes no old block but B. -/
def PredM (g : Nat) (lb : Array Value) (B : Nat) (I : World → Prop) (l : List (Int × Int)) (p : Nat → Bool) (W0 : World) : Prop :=
  ∀ j (h : j < l.length) W, I W → KpM B W0 W → Calls Try.prog g (#[.agg #[.int .i64 l[j].1, .int .i64 l[j].2]] ++ lb) W fun e W' => e = .returned (.bool (p j)) ∧ I W' ∧ KpM B W W'

set_option maxRecDepth 100000 in
set_option maxHeartbeats 2000000 in
theorem indexM_any (g : Nat) (lb : Array Value) (eg : ∀ args w, (callFunc g args).run Try.prog w = .ok (.enter g args) w) (B : Nat) (I : World → Prop) (l : List (Int × Int)) (p : Nat → Bool) (A : Option Addr) (cap : Nat) (w : World) (hp : PredM g lb B I l p w) (hl : l.length ≤ 1000) (hA : MvAt w A l) (hne : ∀ a, A = some a → a.block ≠ B) (hI : I w) :
    Calls Try.prog 57 #[.slice A l.length cap, .func (.func g) #[] lb] w fun e w' => ∃ r : Int, e = .returned (.int .i64 r) ∧ ((∃ j : Nat, j < l.length ∧ r = j ∧ p j = true ∧ ∀ i, i < j → p i = false) ∨ (r = -1 ∧ ∀ i, i < l.length → p i = false)) ∧ I w' ∧ KpM B w w' := by
  have HP := Lib.hid hp
  have HA := Lib.hid hA
  have HNE := Lib.hid hne
  have HI := Lib.hid hI
  clear hp hA hne hI
  go_enter Try.func57, Try.ntmps57
  go_wp2
  go_loopw [8] (fun i wr => ∃ k : Nat, k ≤ l.length ∧ i = .int .i64 k ∧ Hid (∀ i, i < k → p i = false) ∧ Hid (I wr) ∧ Hid (KpM B w wr)) (fun i _ => l.length - (intOf i).toNat)
  case atStart => exact ⟨0, Nat.zero_le _, rfl, Lib.hid fun i h => by omega, HI, Lib.hid (KpM.refl _ _)⟩
  case round =>
    obtain ⟨k, hk, rfl, HNO, HIR, HK⟩ := hrel
    by_cases hlt : k < l.length
    · obtain ⟨gm, rfl, zz, p1, q1⟩ := (HA.out.kpM HK.out HNE.out) k hlt
      have hcall := HP.out k hlt wr HIR.out HK.out
      generalize l[k].1 = a at p1 hcall
      generalize l[k].2 = b at q1 hcall
      have HC := Lib.hid hcall
      clear hcall
      have i1 : (0 : Int) ≤ (k : Int) := by omega
      have i2 : (k : Int) < (l.length : Int) := by omega
      cases hq : p k
      · have HQ := Lib.hid hq
        rw [hq] at HC
        clear hq
        go_wp2_with (go_at_fn g; refine HC.out.mono ?_; rintro e w' ⟨rfl, hI', hK'⟩; have HI' := Lib.hid hI'; have HK' := Lib.hid (HK.out.trans hK'); clear hI' hK')
        go_roundw
        case rel => exact ⟨k + 1, by omega, by go_num, Lib.hid fun i hi => (by
          by_cases e : i = k
          · subst e; exact HQ.out
          · exact HNO.out i (by omega)), HI', HK'⟩
        case measure => simp [intOf]; omega
      · have HQ := Lib.hid hq
        rw [hq] at HC
        clear hq
        go_wp2_with (go_at_fn g; refine HC.out.mono ?_; rintro e w' ⟨rfl, hI', hK'⟩; have HI' := Lib.hid hI'; have HK' := Lib.hid (HK.out.trans hK'); clear hI' hK')
        go_ret
        exact ⟨k, rfl, .inl ⟨k, hlt, rfl, HQ.out, HNO.out⟩, HI'.out, HK'.out⟩
    · go_wp2
      go_ret
      obtain rfl : k = l.length := by omega
      exact ⟨-1, rfl, .inr ⟨rfl, HNO.out⟩, HIR.out, HK.out⟩

set_option maxRecDepth 100000 in
set_option maxHeartbeats 1000000 in
theorem containsM_any (g : Nat) (lb : Array Value) (eg : ∀ args w, (callFunc g args).run Try.prog w = .ok (.enter g args) w) (B : Nat) (I : World → Prop) (l : List (Int × Int)) (p : Nat → Bool) (A : Option Addr) (cap : Nat) (w : World) (hp : PredM g lb B I l p w) (hl : l.length ≤ 1000) (hA : MvAt w A l) (hne : ∀ a, A = some a → a.block ≠ B) (hI : I w) :
    Calls Try.prog 40 #[.slice A l.length cap, .func (.func g) #[] lb] w fun e w' => ∃ r : Bool, e = .returned (.bool r) ∧ (r = true ↔ ∃ j, j < l.length ∧ p j = true) ∧ I w' ∧ KpM B w w' := by
  have HX := Lib.hid (indexM_any g lb eg B I l p A cap w hp hl hA hne hI)
  clear hp hA hne hI eg
  go_enter Try.func40, Try.ntmps40
  go_wp2_with fail
  refine HX.out.mono ?_
  rintro e w1 ⟨r, rfl, hr, hI1, hK1⟩
  have HR := Lib.hid hr
  have HI1 := Lib.hid hI1
  have HK1 := Lib.hid hK1
  clear hr hI1 hK1
  go_wp2
  go_ret
  refine ⟨decide (0 ≤ r), rfl, ?_, HI1.out, HK1.out⟩
  rw [decide_eq_true_iff]
  rcases HR.out with ⟨j, hj, rfl, hpj, _⟩ | ⟨rfl, hno⟩
  · exact ⟨fun _ => ⟨j, hj, hpj⟩, fun _ => by omega⟩
  · refine ⟨fun h => by omega, fun ⟨j, hj, hpj⟩ => ?_⟩
    rw [hno j hj] at hpj; cases hpj
end Go.Proofs.Ytjnidfleccbdbaa
namespace Go.Proofs.Ytjnidfleccbdbaa
open Go.RowKit Go.Maps

theorem laidG : laidOutB Try.prog = true := by kernel_rfl
theorem turn_wide : (match Try.prog.underlying 63 with | some (.array _ _) | some (.struct _) => true | _ => false) = true := by rw [Try.underlying63]
theorem turn_row : (63 : TypeId) < Try.prog.types.size := of_decide_eq_true (by kernel_rfl)
set_option maxRecDepth 100000 in
theorem turn_law : WideMaps.KeyLaw Try.prog 63 := deep_law_laid laidG (m := 3) (by omega) turn_row (by kernel_rfl) turn_wide
theorem Try.keysT : Keyed Try.prog 63 := Keyed.of_law turn_law
/-- The key of a turn. -/
def kbT (tm : Bool) (s : List UInt8) : List UInt8 := keyBytes [.string s, .int .u8 (kd tm).toNat]
theorem kd_wf (tm : Bool) : (Lit.int .u8 ((kd tm).toNat : Int)).wf = true := by cases tm <;> rfl
theorem keyT (tm : Bool) {s : List UInt8} (h : s.length ≤ maxLen) : keyOf Try.prog 63 (tnV tm s) = some (.string (kbT tm s)) := by
  have hk : Try.prog.keyType 63 = true := by kernel_rfl
  have hc : Try.prog.cellsOf 63 = 2 := by kernel_rfl
  have h1 : Try.prog.cellsOf 9 = 1 := by kernel_rfl
  have h2 : Try.prog.cellsOf 5 = 1 := by kernel_rfl
  have hs : (str s).size ≤ maxLen := by rw [str_size]; exact h
  have hw := kd_wf tm
  unfold keyOf
  rw [Try.underlying63]
  have hf : (tnV tm s).formed Try.prog 63 = true := by simp [Value.formed, Try.underlying63, hc]
  simp only [hk, hf, Bool.and_self, if_true]
  obtain ⟨d, hd⟩ : ∃ d, Try.prog.types.size + 1 = d + 3 := ⟨Try.prog.types.size - 2, by have : (100 : Nat) ≤ Try.prog.types.size := of_decide_eq_true (by kernel_rfl); omega⟩
  rw [hd]
  simp only [Program.keyLits, Try.underlying63, Value.cells]
  simp [hc, h1, h2, hs, hw, kbT]
  rfl
set_option maxRecDepth 100000 in
theorem kbT_inj {tm tm' : Bool} {s s' : List UInt8} (h : s.length ≤ maxLen) (h' : s'.length ≤ maxLen) (e : kbT tm s = kbT tm' s') : tm = tm' ∧ s = s' := by
  have h1 := keyT tm h
  have h2 := keyT tm' h'
  rw [← e] at h2
  have := Try.keysT.inj h1 h2
  injection this with this
  injection this with this
  injection this with e1 e2
  injection e1 with e1
  injection e2 with e2 e3
  injection e2 with _ e2
  refine ⟨?_, str_inj.1 e1⟩
  cases tm <;> cases tm' <;> simp [kd] at e2 ⊢
noncomputable abbrev boR : Value → Option (DataW Unit × List MemPlace) := plainElem Try.prog 4
theorem boR_mk (b : Bool) : boR (.bool b) = some (.lit (.bool b), []) := plainElem_bool Try.underlying4 b
theorem plain_bool_inv {P : Program} {e : TypeId} {v : Value} {y : DataW Unit × List MemPlace} (he : P.underlying e = some .bool) (h : plainElem P e v = some y) : ∃ b, v = .bool b ∧ y = (.lit (.bool b), []) := by
  unfold plainElem at h
  rw [he] at h
  cases v <;> simp at h
  exact ⟨_, rfl, h.symm⟩
theorem boR_inv {v : Value} {y : DataW Unit × List MemPlace} (h : boR v = some y) : ∃ b, v = .bool b ∧ y = (.lit (.bool b), []) := plain_bool_inv Try.underlying4 h
theorem zeroBo (w : World) : (zeroValue 4).run Try.prog w = .ok (.bool false) w := by kernel_rfl
/-- A text over the signs of sums. -/
def sigT (L : Nat) (s : List UInt8) : Prop := s.length = L ∧ ∀ c ∈ s, c ∈ sgsG
/-- What the map tells is so. -/
def ToldD (L : Nat) (D : DataW Unit) : Prop :=
  (∀ tm s, sigT L s → Maps.has D (.string (kbT tm s)) = true → hasV D (kbT tm s) (.lit (.bool (Wn tm s)))) ∧ ∀ x, Maps.has D (.string x) = true → ∃ tm s, sigT L s ∧ x = kbT tm s
theorem toldD_put {L : Nat} {D : DataW Unit} (hL : L ≤ 12) (hD : IsMap D) (h : ToldD L D) (tm : Bool) {s : List UInt8} (hs : sigT L s) : ToldD L (D.put (.string (kbT tm s)) (.lit (.bool (Wn tm s)))) := by
  have hm : ∀ s', sigT L s' → s'.length ≤ maxLen := fun s' h => by have := h.1; unfold maxLen; omega
  refine ⟨fun tm' s' hs' hh => ?_, fun x hx => ?_⟩
  · by_cases e : kbT tm' s' = kbT tm s
    · obtain ⟨rfl, rfl⟩ := kbT_inj (hm _ hs') (hm _ hs) e
      exact hasV_same hD _ _
    · rcases has_put hh with h1 | h1
      · exact absurd h1 e
      · exact hasV_other _ (h.1 tm' s' hs' h1) e
  · rcases has_put hx with rfl | h1
    · exact ⟨tm, s, hs, rfl⟩
    · exact h.2 x h1
theorem sigT_key {L : Nat} {s : List UInt8} (h : sigT L s) (tm : Bool) : (keyG tm s).length = L + 2 ∧ ∀ c ∈ keyG tm s, c ∈ sgsG := by
  refine ⟨by simp [keyG, h.1], fun c hc => ?_⟩
  unfold keyG at hc
  rw [List.mem_cons, List.mem_cons] at hc
  rcases hc with hc | hc | hc
  · subst hc; cases tm <;> decide
  · subst hc; decide
  · exact h.2 c hc
theorem map_nodup {α β : Type} (P : α → β → Prop) (hP : ∀ a a' b, P a b → P a' b → a = a') : ∀ (l : List α), l.Pairwise (fun a b => a ≠ b) → (∀ a ∈ l, ∃ b, P a b) → ∃ m : List β, m.length = l.length ∧ m.Nodup ∧ ∀ b ∈ m, ∃ a ∈ l, P a b
  | [], _, _ => ⟨[], rfl, List.nodup_nil, fun b h => by simp at h⟩
  | a :: l, hn, h => by
    obtain ⟨hna, hnl⟩ := List.pairwise_cons.1 hn
    obtain ⟨m, h1, h2, h3⟩ := map_nodup P hP l hnl fun x hx => h x (by simp [hx])
    obtain ⟨b, hb⟩ := h a (by simp)
    refine ⟨b :: m, by simp [h1], List.nodup_cons.2 ⟨fun hbm => ?_, h2⟩, fun c hc => ?_⟩
    · obtain ⟨a', ha', hP'⟩ := h3 b hbm
      exact hna a' ha' (hP _ _ _ hb hP')
    · rw [List.mem_cons] at hc
      rcases hc with rfl | hc
      · exact ⟨a, by simp, hb⟩
      · obtain ⟨a', ha', hP'⟩ := h3 c hc
        exact ⟨a', by simp [ha'], hP'⟩
theorem told_few {L : Nat} (hL : L ≤ 12) {R : Value → Option (DataW Unit × List MemPlace)} {W : World} {b n : Nat} {D : DataW Unit} (h : W.ownsMap Try.prog 63 R b n D) (hD : ∀ x, Maps.has D (.string x) = true → ∃ tm s, sigT L s ∧ x = kbT tm s) :
    W.ownsMap Try.prog 63 R b 78364164096 D := by
  refine (own_size h).mono ?_
  obtain ⟨es, he, hpw, _⟩ := h.entries Try.keysT
  obtain ⟨es', he', hko⟩ := h.keysOf
  obtain rfl : es = es' := by rw [he] at he'; simpa using he'
  subst he
  have hs : ∀ p ∈ es, ∃ x, p.1 = .string x := fun p hp => by obtain ⟨v, hv⟩ := hko p hp; exact turn_law.str hv
  obtain ⟨m, h1, h2, h3⟩ := map_nodup (fun (k : Lit) (t : List UInt8) => ∃ tm s, sigT L s ∧ k = .string (kbT tm s) ∧ t = keyG tm s) (fun a a' t => by
    rintro ⟨tm, s, h1, h2, h3⟩ ⟨tm', s', h1', h2', h3'⟩
    obtain ⟨rfl, rfl⟩ := keyG_inj (h3.symm.trans h3')
    rw [h2, h2']) (es.map Prod.fst) (List.pairwise_map.2 hpw) (fun k hk => by
    obtain ⟨p, hp, rfl⟩ := List.mem_map.1 hk
    obtain ⟨x, hx⟩ := hs p hp
    obtain ⟨tm, s, h1, h2⟩ := hD x (by
      rw [has_eq, List.any_eq_true]
      exact ⟨p, hp, by rw [hx]; simp [Lit.sameKey]⟩)
    exact ⟨keyG tm s, tm, s, h1, by rw [hx, h2], rfl⟩)
  have h4 := few_texts sgsG (L + 2) m h2 fun t ht => by
    obtain ⟨a, _, tm, s, h5, _, rfl⟩ := h3 t ht
    exact sigT_key h5 tm
  have h5 : sgsG.length ^ (L + 2) ≤ 6 ^ 14 := Nat.pow_le_pow_right (by decide) (by omega)
  have h6 : (6 : Nat) ^ 14 = 78364164096 := by decide
  rw [List.length_map] at h1
  show es.length ≤ _
  omega
/-- The map lies in block B. -/
def ToldM (W : World) (B L : Nat) : Prop := ∃ D, W.ownsMap Try.prog 63 boR B 78364164096 D ∧ ToldD L D
theorem ToldM.below {W W' : World} {B L : Nat} (h : ToldM W B L) (hb : Below W.heap.size W W') : ToldM W' B L := by
  obtain ⟨D, h1, h2⟩ := h
  exact ⟨D, h1.kept (grown_of_below hb) (by simp), h2⟩
theorem ToldM.lt {W : World} {B L : Nat} (h : ToldM W B L) : B < W.heap.size := by
  obtain ⟨D, h1, _⟩ := h
  exact h1.lt
/-- The boxes of the closure that tells. -/
structure TellB (W : World) (B Bt Br Bs : Nat) : Prop where
  told : W.cell? ⟨Bt, 0, none⟩ = some (.map (some B))
  rule : W.cell? ⟨Br, 0, none⟩ = some (.func (.func 39) #[] #[])
  tell : W.cell? ⟨Bs, 0, none⟩ = some (.func (.func 56) #[] #[.pointer (some ⟨Bt, 0, none⟩), .pointer (some ⟨Br, 0, none⟩), .pointer (some ⟨Bs, 0, none⟩)])
  lt : Bt < W.heap.size ∧ Br < W.heap.size ∧ Bs < W.heap.size
  ne : Bt ≠ B ∧ Br ≠ B ∧ Bs ≠ B
theorem TellB.kp {W W' : World} {B Bt Br Bs : Nat} (h : TellB W B Bt Br Bs) (hk : KpM B W W') : TellB W' B Bt Br Bs := by
  obtain ⟨a, b, c⟩ := h.lt
  obtain ⟨x, y, z⟩ := h.ne
  have := hk.size
  exact ⟨(hk.cell a x).trans h.told, (hk.cell b y).trans h.rule, (hk.cell c z).trans h.tell, ⟨by omega, by omega, by omega⟩, h.ne⟩
/-- The program tells of turns by what lies there. -/
structure TellI (W : World) (L B Bt Br Bs : Nat) : Prop where
  map : ToldM W B L
  box : TellB W B Bt Br Bs
theorem TellI.below {W W' : World} {L B Bt Br Bs : Nat} (h : TellI W L B Bt Br Bs) (hb : Below W.heap.size W W') : TellI W' L B Bt Br Bs := ⟨h.map.below hb, h.box.kp (KpM.below hb)⟩
theorem sigT_next {L : Nat} {tm : Bool} {s x : List UInt8} (h : sigT L s) (hx : x ∈ nxG tm s) : sigT L x := by
  obtain ⟨f, t, hc, _, rfl⟩ := mem_nxG.1 hx
  obtain ⟨a, b, rfl, rfl, ha, hb, _⟩ := canM_in hc
  rw [str_size] at ha hb
  refine ⟨by rw [behind_len, str_size]; exact h.1, fun c hc => ?_⟩
  unfold behind putL at hc
  simp only [Int.toNat_natCast, byt_str] at hc
  rcases List.mem_or_eq_of_mem_set hc with hc | rfl
  · rcases List.mem_or_eq_of_mem_set hc with hc | rfl
    · exact h.2 c hc
    · rw [List.getD_eq_getElem?_getD, List.getElem?_eq_getElem ha]
      exact h.2 _ (List.getElem_mem ha)
  · decide
end Go.Proofs.Ytjnidfleccbdbaa
