/- Contracts: what a puzzle is, the model's and the program's; the program's recovered door. -/
import Derived.Test.YtjnidfleccbdbaaDoorPzA
import Derived.Defers
import Derived.Recover
namespace Go.Proofs.YtjnidfleccbdbaaDoor
open Go.RowKit

theorem clin_drew {w : World} {A : Option Addr} {l : List Cl} (h : ClIn w A l) : ClIn w.drew A l := h
def ckOk (n : Int) (c : Cl) : Bool := clueOk n c.1 c.2.1 c.2.2
/-- A puzzle. -/
def goodP (n : Int) (l : List Cl) : Bool := inR n 1 5 && decide (l.length ≤ 6) && l.all (ckOk n)
theorem all_take_next (n : Int) (l : List Cl) (k : Nat) (h : k < l.length) : (l.take (k + 1)).all (ckOk n) = ((l.take k).all (ckOk n) && ckOk n l[k]) := by
  rw [List.take_succ_eq_append_getElem h, List.all_append]
  simp

set_option maxRecDepth 100000 in
set_option maxHeartbeats 2000000 in
theorem pzGood_any (n : Int) (l : List Cl) (A : Option Addr) (c : Nat) (w : World) (hin : ClIn w A l) (hl : l.length ≤ 2000000) :
    Calls Tryd.prog 31 #[.agg #[.int .i64 n, .slice A l.length c]] w fun e w' => e = .returned (.bool (goodP n l)) ∧ Below w.heap.size w w' := by
  have hB0 : Below w.heap.size w (w.alloc (Obj.cells #[.int .i64 n, .slice A l.length c] 30)) := (Below.refl _ _).alloc (Nat.le_refl _) _
  have HN := Lib.hid hin
  clear hin
  cases hn : inR n 1 5
  · have HC := Lib.hid hn
    have HR : Hid (goodP n l = false) := Lib.hid (by unfold goodP; rw [hn]; rfl)
    clear hn
    go_enter Tryd.func31, Tryd.ntmps31
    go_wp2_with fail
    refine (pzCells_any _ _).mono ?_; rintro e w' ⟨rfl, rfl⟩; rw [HC.out]
    go_wp2_with fail
    go_ret
    exact ⟨congrArg (fun b => Ending.returned (.bool b)) HR.out.symm, hB0⟩
  · have HC := Lib.hid hn
    have h15 : 1 ≤ n ∧ n ≤ 5 := by simpa [inR] using hn
    by_cases h6 : (6 : Int) < l.length
    · have HR : Hid (goodP n l = false) := Lib.hid (by unfold goodP; rw [decide_eq_false (by omega)]; simp)
      clear hn
      go_enter Tryd.func31, Tryd.ntmps31
      go_wp2_with fail
      refine (pzCells_any _ _).mono ?_; rintro e w' ⟨rfl, rfl⟩; rw [HC.out]
      go_wp2_with fail
      go_ret
      exact ⟨congrArg (fun b => Ending.returned (.bool b)) HR.out.symm, hB0⟩
    · have HR : Hid (goodP n l = l.all (ckOk n)) := Lib.hid (by unfold goodP; rw [hn, decide_eq_true (by omega)]; rfl)
      clear hn
      go_enter Tryd.func31, Tryd.ntmps31
      go_wp2_with fail
      refine (pzCells_any _ _).mono ?_; rintro e w' ⟨rfl, rfl⟩; rw [HC.out]
      go_wp2_with fail
      obtain ⟨W0, hW0⟩ : ∃ W0, W0 = w.alloc (Obj.cells #[.int .i64 n, .slice A l.length c] 30) := ⟨_, rfl⟩
      rw [← hW0] at hB0 ⊢
      have hz0 : W0.heap.size = w.heap.size + 1 := by rw [hW0]; simp
      have c0 : W0.cell? ⟨w.heap.size, 0, none⟩ = some (.int .i64 n) := by rw [hW0, cell_new' _ _ _ _ _ rfl]; rfl
      have HN0 := Lib.hid (HN.out.below hB0)
      clear hW0 HN
      go_loopw [4, 18] (fun _ i wr => ∃ k : Nat, k ≤ l.length ∧ i = .int .i64 k ∧ (l.take k).all (ckOk n) = true ∧ Below W0.heap.size W0 wr) (fun _ i _ => l.length - (intOf i).toNat)
      case atStart => exact ⟨0, Nat.zero_le _, rfl, rfl, Below.refl _ _⟩
      case round =>
        obtain ⟨k, hk, rfl, hall, hB⟩ := hrel
        have hBw : Below w.heap.size w wr := hB0.trans (hB.mono (by omega))
        by_cases hlt : k < l.length
        · obtain ⟨g, o, rfl, z1, p1, q1, r1⟩ := (HN0.out.below hB) k hlt
          have hS : Hid ((l.take (k + 1)).all (ckOk n) = clueOk n l[k].1 l[k].2.1 l[k].2.2) := Lib.hid (by rw [all_take_next n l k hlt, hall]; rfl)
          have hF : Hid (clueOk n l[k].1 l[k].2.1 l[k].2.2 = false → goodP n l = false) := Lib.hid fun h => by
            rw [HR.out, List.all_eq_false]
            exact ⟨l[k], List.getElem_mem hlt, by unfold ckOk; rw [h]; simp⟩
          generalize l[k].1 = a at p1 hS hF
          generalize l[k].2.1 = b at q1 hS hF
          generalize l[k].2.2 = d at r1 hS hF
          have i1 : (0 : Int) ≤ (k : Int) := by omega
          have i2 : (k : Int) < (l.length : Int) := by omega
          have d0 : wr.cell? ⟨w.heap.size, 0, none⟩ = some (.int .i64 n) := by rw [(bcell hB).1 _ _ (by omega)]; exact c0
          have d1 : ∀ o, (wr.alloc o).cell? ⟨w.heap.size, 0, none⟩ = some (.int .i64 n) := fun o => by rw [World.cell?_alloc_past _ _ _ (by have := hB.size; omega)]; exact d0
          have HC' := Lib.hid (fun wx => pzClue_any n a b d wx h15)
          have hz := hBw.size
          have hz2 := hB.size
          have HBB := Lib.hid (And.intro hB hBw)
          have HALL := Lib.hid hall
          clear hall hB hBw c0 hB0
          cases hck : clueOk n a b d
          · rw [hck] at HC'
            have HF := Lib.hid (hF.out hck)
            clear hF hS hck
            go_wp2_with fail
            refine (HC'.out _).mono ?_; rintro e w2 ⟨rfl, hb2⟩
            go_wp2_with fail
            go_ret
            exact ⟨congrArg (fun b => Ending.returned (.bool b)) HF.out.symm, (HBB.out.2.alloc (by omega) _).trans (hb2.mono (by simp <;> omega))⟩
          · rw [hck] at HC'
            have HT := Lib.hid (hS.out.trans hck)
            clear hF hS hck
            go_wp2_with fail
            refine (HC'.out _).mono ?_; rintro e w2 ⟨rfl, hb2⟩
            go_wp2_with fail
            go_roundw
            case rel => exact ⟨k + 1, by omega, by go_num, HT.out, (HBB.out.1.alloc (by omega) _).trans (hb2.mono (by simp <;> omega))⟩
            case measure => simp [intOf]; omega
        · obtain rfl : k = l.length := by omega
          have HF : Hid (goodP n l = true) := Lib.hid (by rw [HR.out, ← hall, List.take_length])
          clear hall
          go_wp2
          go_ret
          exact ⟨congrArg (fun b => Ending.returned (.bool b)) HF.out.symm, hBw⟩

/-- How many clues come before the first one that is none. -/
def goodTo (n : Int) (l : List Cl) : Nat := l.findIdx fun c => !ckOk n c
theorem goodTo_le (n : Int) (l : List Cl) : goodTo n l ≤ l.length := List.findIdx_le_length
theorem goodTo_all (n : Int) (l : List Cl) : (goodTo n l < l.length) ↔ l.all (ckOk n) = false := by
  unfold goodTo
  rw [List.findIdx_lt_length, List.all_eq_false]
  simp
theorem goodTo_eq {n : Int} {l : List Cl} {k : Nat} (hk : k < l.length) (h : (l.take k).all (ckOk n) = true) (hb : ckOk n l[k] = false) : goodTo n l = k := by
  unfold goodTo
  rw [List.findIdx_eq hk]
  refine ⟨by rw [hb]; rfl, fun j hj => ?_⟩
  have := List.all_eq_true.1 h l[j] (by rw [List.mem_take_iff_getElem]; exact ⟨j, by omega, rfl⟩)
  rw [this]; rfl
theorem goodTo_whole {n : Int} {l : List Cl} (h : l.all (ckOk n) = true) : goodTo n l = l.length := by
  have h1 := goodTo_le n l
  have h2 := goodTo_all n l
  rw [h] at h2
  simp at h2
  omega

/-- What the call that raises does. -/
def RaisePost (n : Int) (l : List Cl) (w : World) (e : Ending) (w' : World) : Prop :=
  Below w.heap.size w w' ∧ ((l.all (ckOk n) = true ∧ e = .returned (.tuple #[])) ∨ (l.all (ckOk n) = false ∧ e = .panicked [{ v := .iface 144 (.agg #[.int .i64 (goodTo n l)]), recovered := false }]))

set_option maxRecDepth 100000 in
set_option maxHeartbeats 2000000 in
theorem raise_any (n : Int) (l : List Cl) (A : Option Addr) (c : Nat) (w : World) (h15 : 1 ≤ n ∧ n ≤ 5) (hin : ClIn w A l) (hl : l.length ≤ 2000000) :
    Calls Tryd.prog 99 #[.int .i64 n, .slice A l.length c] w (RaisePost n l w) := by
  have HN := Lib.hid hin
  clear hin
  go_enter Tryd.func99, Tryd.ntmps99
  go_wp2_with fail
  go_loopw [4, 5, 8] (fun _ _ i wr => ∃ k : Nat, k ≤ l.length ∧ i = .int .i64 k ∧ (l.take k).all (ckOk n) = true ∧ Below w.heap.size w wr) (fun _ _ i _ => l.length - (intOf i).toNat)
  case atStart => exact ⟨0, Nat.zero_le _, rfl, rfl, Below.refl _ _⟩
  case round =>
    obtain ⟨k, hk, rfl, hall, hB⟩ := hrel
    by_cases hlt : k < l.length
    · obtain ⟨g, o, rfl, z1, p1, q1, r1⟩ := (HN.out.below hB) k hlt
      have hck : Hid (ckOk n l[k] = clueC n l[k].1 l[k].2.1 l[k].2.2) := Lib.hid (by unfold ckOk clueC inR; rw [decide_eq_true h15.1, decide_eq_true h15.2]; rfl)
      have hS : Hid ((l.take (k + 1)).all (ckOk n) = ckOk n l[k]) := Lib.hid (by rw [all_take_next n l k hlt, hall]; rfl)
      have hF : Hid (ckOk n l[k] = false → goodTo n l = k ∧ l.all (ckOk n) = false) := Lib.hid fun h => ⟨goodTo_eq hlt hall h, by
            rw [List.all_eq_false]
            exact ⟨l[k], List.getElem_mem hlt, by rw [h]; simp⟩⟩
      rw [hck.out] at hS hF
      clear hck
      generalize l[k].1 = a at p1 hS hF
      generalize l[k].2.1 = b at q1 hS hF
      generalize l[k].2.2 = d at r1 hS hF
      have i1 : (0 : Int) ≤ (k : Int) := by omega
      have i2 : (k : Int) < (l.length : Int) := by omega
      have HC' := Lib.hid (fun wx => IsClue_any n a b d wx)
      have HBB := Lib.hid hB
      have hz := hB.size
      clear hall hB
      cases hcc : clueC n a b d
      · rw [hcc] at HC'
        have HF := Lib.hid (hF.out hcc)
        clear hF hS hcc
        go_wp2_with fail
        refine (HC'.out _).mono ?_; rintro e w2 ⟨rfl, hb2⟩
        have hBe := (HBB.out.alloc hz (Obj.cells #[.int .i64 a, .int .i64 b, .int .i64 d] 61)).trans (hb2.mono (by simp <;> omega))
        have hBeh := Lib.hid hBe
        clear hBe
        go_wp2_with fail
        exact ⟨rfl, hBeh.out, .inr ⟨HF.out.2, by rw [HF.out.1]⟩⟩
      · rw [hcc] at HC'
        have HT := Lib.hid (hS.out.trans hcc)
        clear hF hS hcc
        go_wp2_with fail
        refine (HC'.out _).mono ?_; rintro e w2 ⟨rfl, hb2⟩
        go_wp2_with fail
        go_roundw
        case rel => exact ⟨k + 1, by omega, by go_num, HT.out, (HBB.out.alloc (by omega) _).trans (hb2.mono (by simp <;> omega))⟩
        case measure => simp [intOf]; omega
    · obtain rfl : k = l.length := by omega
      rw [List.take_length] at hall
      have HF := Lib.hid hall
      clear hall
      go_wp2
      go_end0
      exact ⟨hB, .inl ⟨HF.out, rfl⟩⟩

set_option maxHeartbeats 1000000 in
set_option maxRecDepth 100000 in
/-- The deferred door, entered while the call panics, and while it returns. -/
theorem door_pan (W : World) (b0 b1 g o len c j : Nat) (x : Value) (older : List PanicEntry) (hj : j ≤ c) (hl0 : b0 < W.heap.size) (hl1 : b1 < W.heap.size) (c0 : W.cell? ⟨b0, 0, none⟩ = some (.slice (some ⟨g, o, none⟩) len c)) (c1 : W.cell? ⟨b1, 0, none⟩ = some x) (hz : W.frozen? ⟨b1, 0, none⟩ = false) :
    CallsD Tryd.prog 98 #[.pointer (some ⟨b0, 0, none⟩), .pointer (some ⟨b1, 0, none⟩)] (.panicking ({ v := .iface 144 (.agg #[.int .i64 (j : Int)]), recovered := false } :: older)) W fun e u' w' =>
      e = .returned (.tuple #[]) ∧ u' = .panicking ({ v := .iface 144 (.agg #[.int .i64 (j : Int)]), recovered := true } :: older) ∧ w' = (W.alloc (.cells #[.int .i64 (j : Int)] 144)).setCell ⟨b1, 0, none⟩ (.slice (some ⟨g, o, none⟩) j j) := by
  have hta : ∀ w : World, (Instr.typeAssert (.iface 144 (.agg #[.int .i64 (j : Int)])) 20 144 true).run Tryd.prog w = .ok (.tuple #[.agg #[.int .i64 (j : Int)], .bool true]) w := fun w => by kernel_rfl
  have hza : ∀ w : World, (zeroValue 144).run Tryd.prog w = .ok (.agg #[.int .i64 0]) w := fun w => by kernel_rfl
  refine callsD_of_wpS Tryd.func98 rfl fun c₀ cs hu => ?_
  apply wpS_seq
  apply wpS_region
  simp [wpOpsS, go_sem, recoverD, hu, Tryd.ntmps98, Exit.thenS, hta, hza, Array.replicate, List.replicate]
  refine wpS_of_wp ?_
  have d0 : (W.alloc (.cells #[.int .i64 (j : Int)] 144)).cell? ⟨b0, 0, none⟩ = some (.slice (some ⟨g, o, none⟩) len c) := by rw [World.cell?_alloc_past _ _ _ hl0]; exact c0
  have d1 : (W.alloc (.cells #[.int .i64 (j : Int)] 144)).cell? ⟨b1, 0, none⟩ = some x := by rw [World.cell?_alloc_past _ _ _ hl1]; exact c1
  have d2 : (W.alloc (.cells #[.int .i64 (j : Int)] 144)).frozen? ⟨b1, 0, none⟩ = false := by rw [frozen_past' _ _ _ _ hl1]; exact hz
  have d3 : (W.alloc (.cells #[.int .i64 (j : Int)] 144)).cell? ⟨W.heap.size, 0, none⟩ = some (.int .i64 (j : Int)) := by rw [cell_new' _ _ _ _ _ rfl]; rfl
  generalize W.alloc (.cells #[.int .i64 (j : Int)] 144) = W1 at d0 d1 d2 d3 ⊢
  have j0 : (0 : Int) ≤ (j : Int) := by omega
  have j1 : (j : Int) ≤ (c : Int) := by omega
  clear hta hza hj c0 c1 hz
  have HU := Lib.hid hu
  clear hu
  go_wp2_with fail
  simp [bodyPostS, results, Tryd.results98]
set_option maxHeartbeats 1000000 in
set_option maxRecDepth 100000 in
theorem door_idle (W : World) (p0 p1 : Addr) :
    CallsD Tryd.prog 98 #[.pointer (some p0), .pointer (some p1)] .returning W fun e u' w' =>
      e = .returned (.tuple #[]) ∧ u' = .returning ∧ w' = W.alloc (.cells #[.int .i64 0] 144) := by
  have hta : ∀ w : World, (Instr.typeAssert .nilIface 20 144 true).run Tryd.prog w = .ok (.tuple #[.agg #[.int .i64 0], .bool false]) w := fun w => by kernel_rfl
  have hza : ∀ w : World, (zeroValue 144).run Tryd.prog w = .ok (.agg #[.int .i64 0]) w := fun w => by kernel_rfl
  refine callsD_of_wpS Tryd.func98 rfl fun c₀ cs hu => ?_
  apply wpS_seq
  apply wpS_region
  simp [wpOpsS, go_sem, recoverD, hu, Tryd.ntmps98, Exit.thenS, hta, hza, Array.replicate, List.replicate]
  refine wpS_of_wp ?_
  clear hta hza
  have HU := Lib.hid hu
  clear hu
  go_wp2_with fail
  cases c₀
  have hu := HU.out
  simp at hu
  subst hu
  simp_all [bodyPostS, results, Tryd.results98]

set_option maxRecDepth 100000 in
set_option maxHeartbeats 2000000 in
theorem beforeNone_any (n : Int) (l : List Cl) (g o c : Nat) (w : World) (h15 : 1 ≤ n ∧ n ≤ 5) (hin : ClIn w (some ⟨g, o, none⟩) l) (hl : l.length ≤ 2000000) (hc : l.length ≤ c) :
    Calls Tryd.prog 63 #[.int .i64 n, .slice (some ⟨g, o, none⟩) l.length c] w fun e w' => e = .returned (.slice (some ⟨g, o, none⟩) (goodTo n l) (goodTo n l)) ∧ Below w.heap.size w w' := by
  have hmf : ∀ (fn : Fn) (first cap : Array Value) (w : World), (Instr.makeFunc fn first cap).run Tryd.prog w = .ok (.func fn first cap) w := fun _ _ _ _ => rfl
  have HR := Lib.hid (fun wx (h : ClIn wx (some ⟨g, o, none⟩) l) => raise_any n l (some ⟨g, o, none⟩) c wx h15 h hl)
  have HN := Lib.hid hin
  obtain ⟨j, hj⟩ : ∃ j, goodTo n l = j := ⟨_, rfl⟩
  rw [hj]
  have HJ := Lib.hid hj
  clear hj
  have hB0 : Below w.heap.size w ((w.alloc (Obj.cells #[.slice (some ⟨g, o, none⟩) l.length c] 28)).alloc (Obj.cells #[.slice none 0 0] 28)) := ((Below.refl _ _).alloc (Nat.le_refl _) _).alloc (by simp) _
  clear hin
  go_enter_defers Tryd.func63, Tryd.ntmps63
  go_wp2_with fail
  refine (HR.out _ (HN.out.below hB0)).mono ?_
  rintro e w1 ⟨hb1, hcase⟩
  have hz : w.heap.size + 1 + 1 ≤ w1.heap.size := by have := hb1.size; simpa using this
  have c0 : w1.cell? ⟨w.heap.size, 0, none⟩ = some (.slice (some ⟨g, o, none⟩) l.length c) := by rw [(bcell hb1).1 _ _ (by simp <;> omega), World.cell?_alloc_past _ _ _ (by simp <;> omega), cell_new' _ _ _ _ _ rfl]; rfl
  have c1 : w1.cell? ⟨w.heap.size + 1, 0, none⟩ = some (.slice none 0 0) := by rw [(bcell hb1).1 _ _ (by simp), cell_new' _ _ _ _ _ (by simp)]; rfl
  have f1 : w1.frozen? ⟨w.heap.size + 1, 0, none⟩ = false := by rw [(bcell hb1).2 _ _ (by simp)]; exact frozen_new' _ _ _ _ _ (by simp)
  have hB1 : Below w.heap.size w w1 := hB0.trans (hb1.mono (by simp <;> omega))
  have hle := goodTo_le n l
  rcases hcase with ⟨hall, rfl⟩ | ⟨hall, rfl⟩
  · have hgt : Hid (l.length = j) := Lib.hid ((goodTo_whole hall).symm.trans HJ.out)
    have j0 : (0 : Int) ≤ (l.length : Int) := by omega
    have j1 : (l.length : Int) ≤ (c : Int) := by omega
    clear HR HN hall hb1 hle h15
    have HBB := Lib.hid hB1
    have HB0 := Lib.hid hB0
    clear hB1 hB0
    go_wp2_with fail
    refine leaves_cons (f := 98) (args := #[.pointer (some ⟨w.heap.size, 0, none⟩), .pointer (some ⟨w.heap.size + 1, 0, none⟩)]) (by simp) (by simp [go_sem]) ?_
    refine (door_idle _ _ _).mono ?_
    rintro e u' w'' ⟨rfl, rfl, rfl⟩
    have d1 : ((w1.setCell ⟨w.heap.size + 1, 0, none⟩ (.slice (some ⟨g, o, none⟩) l.length l.length)).alloc (Obj.cells #[.int .i64 0] 144)).cell? ⟨w.heap.size + 1, 0, none⟩ = some (.slice (some ⟨g, o, none⟩) l.length l.length) := by
      rw [World.cell?_alloc_past _ _ _ (by simp; omega)]; exact World.cell?_setCell_same _ _ _ c1
    have hBe : Below w.heap.size w ((w1.setCell ⟨w.heap.size + 1, 0, none⟩ (.slice (some ⟨g, o, none⟩) l.length l.length)).alloc (Obj.cells #[.int .i64 0] 144)) := (HBB.out.setCell (by simp) _).alloc (by simp; omega) _
    generalize (w1.setCell ⟨w.heap.size + 1, 0, none⟩ (.slice (some ⟨g, o, none⟩) l.length l.length)).alloc (Obj.cells #[.int .i64 0] 144) = W2 at d1 hBe ⊢
    rw [hgt.out] at d1
    simp [Leaves, settle, results, Tryd.results63, go_sem, d1, hBe]
  · have hlt : goodTo n l < l.length := (goodTo_all n l).2 hall
    rw [HJ.out] at hlt hle
    rw [HJ.out]
    refine leaves_cons (f := 98) (args := #[.pointer (some ⟨w.heap.size, 0, none⟩), .pointer (some ⟨w.heap.size + 1, 0, none⟩)]) (by simp) (by simp [go_sem]) ?_
    refine (door_pan w1 w.heap.size (w.heap.size + 1) g o l.length c j _ [] (by omega) (by omega) (by omega) c0 c1 f1).mono ?_
    rintro e u' w'' ⟨rfl, rfl, rfl⟩
    have d1 : ((w1.alloc (Obj.cells #[.int .i64 (j : Int)] 144)).setCell ⟨w.heap.size + 1, 0, none⟩ (.slice (some ⟨g, o, none⟩) j j)).cell? ⟨w.heap.size + 1, 0, none⟩ = some (.slice (some ⟨g, o, none⟩) j j) :=
      World.cell?_setCell_same _ _ _ (by rw [World.cell?_alloc_past _ _ _ (by omega)]; exact c1)
    have hBe : Below w.heap.size w ((w1.alloc (Obj.cells #[.int .i64 (j : Int)] 144)).setCell ⟨w.heap.size + 1, 0, none⟩ (.slice (some ⟨g, o, none⟩) j j)) := (hB1.alloc (by omega) _).setCell (by simp) _
    generalize (w1.alloc (Obj.cells #[.int .i64 (j : Int)] 144)).setCell ⟨w.heap.size + 1, 0, none⟩ (.slice (some ⟨g, o, none⟩) j j) = W2 at d1 hBe ⊢
    simp [Leaves, settle, results, Tryd.results63, go_sem, d1, hBe]

/-- The clues of a puzzle, or none. -/
def clOr (c : Bool) (g o n : Nat) : Value := if c then .tuple #[.slice (some ⟨g, o, none⟩) n n, .bool true] else .tuple #[.slice none 0 0, .bool false]
set_option maxRecDepth 100000 in
set_option maxHeartbeats 2000000 in
theorem cluesOf_any (n : Int) (l : List Cl) (g o c : Nat) (w : World) (hin : ClIn w (some ⟨g, o, none⟩) l) (hl : l.length ≤ 2000000) (hc : l.length ≤ c) :
    Calls Tryd.prog 34 #[.agg #[.int .i64 n, .slice (some ⟨g, o, none⟩) l.length c]] w fun e w' => e = .returned (clOr (goodP n l) g o l.length) ∧ Below w.heap.size w w' := by
  have hB0 : Below w.heap.size w (w.alloc (Obj.cells #[.int .i64 n, .slice (some ⟨g, o, none⟩) l.length c] 30)) := (Below.refl _ _).alloc (Nat.le_refl _) _
  by_cases n1 : n < 1
  · have HR : Hid (goodP n l = false) := Lib.hid (by unfold goodP inR; rw [decide_eq_false (by omega)]; rfl)
    rw [HR.out]
    go_enter Tryd.func34, Tryd.ntmps34
    go_wp2_with fail
    go_ret2
    exact ⟨rfl, hB0⟩
  by_cases n5 : 5 < n
  · have HR : Hid (goodP n l = false) := Lib.hid (by unfold goodP inR; rw [decide_eq_false (p := n ≤ 5) (by omega)]; simp)
    rw [HR.out]
    go_enter Tryd.func34, Tryd.ntmps34
    go_wp2_with fail
    go_ret2
    exact ⟨rfl, hB0⟩
  by_cases h6 : (6 : Int) < l.length
  · have HR : Hid (goodP n l = false) := Lib.hid (by unfold goodP; rw [decide_eq_false (p := l.length ≤ 6) (by omega)]; simp)
    rw [HR.out]
    go_enter Tryd.func34, Tryd.ntmps34
    go_wp2_with fail
    go_ret2
    exact ⟨rfl, hB0⟩
  have HR : Hid (goodP n l = l.all (ckOk n)) := Lib.hid (by unfold goodP inR; rw [decide_eq_true (by omega : 1 ≤ n), decide_eq_true (by omega : n ≤ 5), decide_eq_true (by omega : l.length ≤ 6)]; rfl)
  rw [HR.out]
  have HC := Lib.hid (fun wx (h : ClIn wx (some ⟨g, o, none⟩) l) => beforeNone_any n l g o c wx (by omega) h hl hc)
  have HN := Lib.hid hin
  have hd : ∀ w1, Below (w.alloc (Obj.cells #[.int .i64 n, .slice (some ⟨g, o, none⟩) l.length c] 30)).heap.size (w.alloc (Obj.cells #[.int .i64 n, .slice (some ⟨g, o, none⟩) l.length c] 30)) w1 → w1.cell? ⟨w.heap.size, 1, none⟩ = some (.slice (some ⟨g, o, none⟩) l.length c) := fun w1 hb => by rw [(bcell hb).1 _ _ (by simp), cell_new' _ _ _ _ _ rfl]; rfl
  have HD := Lib.hid hd
  clear hin hd
  cases hall : l.all (ckOk n)
  · have hlt : goodTo n l < l.length := (goodTo_all n l).2 hall
    generalize goodTo n l = j at hlt HC
    have hlt' : (j : Int) < l.length := by omega
    clear hall HR
    go_enter Tryd.func34, Tryd.ntmps34
    go_wp2_with fail
    refine (HC.out _ (HN.out.below hB0)).mono ?_
    rintro e w1 ⟨rfl, hb1⟩
    have d1 := HD.out _ hb1
    go_wp2_with fail
    go_ret2
    exact ⟨rfl, hB0.trans (hb1.mono (by simp))⟩
  · have hgt : goodTo n l = l.length := goodTo_whole hall
    rw [hgt] at HC
    clear hall HR hgt
    go_enter Tryd.func34, Tryd.ntmps34
    go_wp2_with fail
    refine (HC.out _ (HN.out.below hB0)).mono ?_
    rintro e w1 ⟨rfl, hb1⟩
    have d1 := HD.out _ hb1
    go_wp2_with fail
    go_ret2
    exact ⟨rfl, hB0.trans (hb1.mono (by simp))⟩
end Go.Proofs.YtjnidfleccbdbaaDoor
