/- Contracts: how many solutions, whether it is one, the first one. -/
import Derived.Test.YthhmaohnibdbnaaGreatPzP
namespace Go.Proofs.YthhmaohnibdbnaaGreat
open Go.RowKit

theorem solOr_bad {n : Int} {l : List Cl} (h : goodP n l = false) : solOr n l = [] := by unfold solOr; rw [h]; rfl
theorem solOr_good {n : Int} {l : List Cl} (h : goodP n l = true) : solOr n l = solL n.toNat l := by unfold solOr; rw [h]; rfl
theorem solL_small {m : Nat} {cs : List Cl} (h15 : 1 ≤ m ∧ m ≤ 5) : (solL m cs).length ≤ 243 := by
  have h1 := solL_le m cs
  have h2 := grow_few h15
  rw [grow_len] at h2
  omega
theorem solOr_small (n : Int) (l : List Cl) : (solOr n l).length ≤ 243 := by
  cases h : goodP n l
  · rw [solOr_bad h]; simp
  · obtain ⟨m, rfl, h15⟩ := goodP_nat h
    rw [solOr_good h]
    exact solL_small h15
/-- The first text of a list, or none. -/
def firstV (L : List (List UInt8)) : Value := .tuple #[.string (str (L.headD [])), .bool (!L.isEmpty)]

set_option maxRecDepth 100000 in
set_option maxHeartbeats 1000000 in
theorem pzSolved_any (n : Nat) (cs : List Cl) (A : Option Addr) (c : Nat) (w : World) (h15 : 1 ≤ n ∧ n ≤ 5) (hok : ∀ k ∈ cs, ckOk n k = true) (hcs : cs.length ≤ 100) (hin : ClIn w A cs) (hold : ∀ a, A = some a → a.block < w.heap.size) :
    Calls Tryz.prog 50 #[.int .i64 n, .slice A cs.length c] w fun e w' => e = .returned (.bool (decide ((solL n cs).length = 1))) ∧ Below w.heap.size w w' := by
  have HP := Lib.hid (pzAll_any n cs A c w h15 hok hcs hin hold)
  have hlen := solL_small (cs := cs) h15
  generalize solL n cs = L at HP hlen ⊢
  have hq : ((L.length : Int) == 1) = decide (L.length = 1) := by rw [Bool.eq_iff_iff]; simp; omega
  go_enter Tryz.func50, Tryz.ntmps50
  go_wp2_with fail
  refine HP.out.mono ?_
  rintro e w2 ⟨v, rfl, ho, hb2⟩
  obtain ⟨A2, c2, rfl, _, _, hA2, _⟩ := st_own ho
  clear ho hA2
  have HQ := Lib.hid hq
  clear hq
  go_wp2_with fail
  go_ret
  exact ⟨congrArg (fun b => Ending.returned (.bool b)) HQ.out, hb2⟩

set_option maxRecDepth 100000 in
set_option maxHeartbeats 2000000 in
theorem sCountSolutions_any (n : Int) (l : List Cl) (A : Option Addr) (c : Nat) (w : World) (hin : ClIn w A l) (hl : l.length ≤ 2000000) (hold : ∀ a, A = some a → a.block < w.heap.size) :
    Calls Tryz.prog 21 #[.agg #[.int .i64 n, .slice A l.length c]] w fun e w' => e = .returned (.tuple #[.int .i64 (solOr n l).length, .bool (goodP n l)]) ∧ Below w.heap.size w w' := by
  obtain ⟨W0, hW0⟩ : ∃ W0, W0 = w.alloc (Obj.cells #[.int .i64 n, .slice A l.length c] 31) := ⟨_, rfl⟩
  have hB0 : Below w.heap.size w W0 := by rw [hW0]; exact (Below.refl _ _).alloc (Nat.le_refl _) _
  have p0 : W0.cell? ⟨w.heap.size, 0, none⟩ = some (.int .i64 n) := by rw [hW0, cell_new' _ _ _ _ _ rfl]; rfl
  have p1 : W0.cell? ⟨w.heap.size, 1, none⟩ = some (.slice A l.length c) := by rw [hW0, cell_new' _ _ _ _ _ rfl]; rfl
  have hz : w.heap.size < W0.heap.size := by rw [hW0]; simp
  have HG := Lib.hid (pzGood_any n l A c W0 (hin.below hB0) hl)
  cases hg : goodP n l
  · rw [hg] at HG
    rw [solOr_bad hg]
    clear hg
    go_enter Tryz.func21, Tryz.ntmps21
    go_wp2_with fail
    rw [← hW0]
    clear hW0
    refine HG.out.mono ?_
    rintro e w1 ⟨rfl, hb1⟩
    have HB := Lib.hid (hB0.trans (hb1.mono hB0.size))
    clear hb1
    go_wp2_with fail
    go_ret2
    exact ⟨rfl, HB.out⟩
  · rw [hg] at HG
    obtain ⟨m, rfl, h15⟩ := goodP_nat hg
    have HI := Lib.hid (hin.below hB0)
    have HP := Lib.hid (fun wx (h : ClIn wx A l) (ho : w.heap.size ≤ wx.heap.size) => pzAll_any m l A c wx h15 (goodP_ok hg) (Nat.le_trans (goodP_few hg) (by decide)) h (fun a ha => Nat.lt_of_lt_of_le (hold a ha) ho))
    rw [solOr_good hg, show (m : Int).toNat = m from rfl]
    have hlen := solL_small (cs := l) h15
    generalize solL m l = L at HP hlen ⊢
    clear hg
    go_enter Tryz.func21, Tryz.ntmps21
    go_wp2_with fail
    rw [← hW0]
    clear hW0
    refine HG.out.mono ?_
    rintro e w1 ⟨rfl, hb1⟩
    have q0 := ((bcell hb1).1 _ _ hz).trans p0
    have q1 := ((bcell hb1).1 _ _ hz).trans p1
    have HB1 := Lib.hid (hB0.trans (hb1.mono hB0.size))
    have HI1 := Lib.hid (HI.out.below hb1)
    clear hb1
    go_wp2_with fail
    refine (HP.out _ HI1.out HB1.out.size).mono ?_
    rintro e w2 ⟨v, rfl, ho, hb2⟩
    have HB2 := Lib.hid (HB1.out.trans (hb2.mono HB1.out.size))
    obtain ⟨A2, c2, rfl, _, _, hA2, _⟩ := st_own ho
    have HA2 := Lib.hid hA2
    clear ho hb2 hA2
    go_wp2_with fail
    go_ret2
    exact ⟨rfl, HB2.out⟩

set_option maxRecDepth 100000 in
set_option maxHeartbeats 2000000 in
theorem sIsSolved_any (n : Int) (l : List Cl) (A : Option Addr) (c : Nat) (w : World) (hin : ClIn w A l) (hl : l.length ≤ 2000000) (hold : ∀ a, A = some a → a.block < w.heap.size) :
    Calls Tryz.prog 27 #[.agg #[.int .i64 n, .slice A l.length c]] w fun e w' => e = .returned (.tuple #[.bool (decide ((solOr n l).length = 1)), .bool (goodP n l)]) ∧ Below w.heap.size w w' := by
  obtain ⟨W0, hW0⟩ : ∃ W0, W0 = w.alloc (Obj.cells #[.int .i64 n, .slice A l.length c] 31) := ⟨_, rfl⟩
  have hB0 : Below w.heap.size w W0 := by rw [hW0]; exact (Below.refl _ _).alloc (Nat.le_refl _) _
  have p0 : W0.cell? ⟨w.heap.size, 0, none⟩ = some (.int .i64 n) := by rw [hW0, cell_new' _ _ _ _ _ rfl]; rfl
  have p1 : W0.cell? ⟨w.heap.size, 1, none⟩ = some (.slice A l.length c) := by rw [hW0, cell_new' _ _ _ _ _ rfl]; rfl
  have hz : w.heap.size < W0.heap.size := by rw [hW0]; simp
  have HG := Lib.hid (pzGood_any n l A c W0 (hin.below hB0) hl)
  cases hg : goodP n l
  · rw [hg] at HG
    rw [solOr_bad hg]
    clear hg
    go_enter Tryz.func27, Tryz.ntmps27
    go_wp2_with fail
    rw [← hW0]
    clear hW0
    refine HG.out.mono ?_
    rintro e w1 ⟨rfl, hb1⟩
    have HB := Lib.hid (hB0.trans (hb1.mono hB0.size))
    clear hb1
    go_wp2_with fail
    go_ret2
    exact ⟨rfl, HB.out⟩
  · rw [hg] at HG
    obtain ⟨m, rfl, h15⟩ := goodP_nat hg
    have HI := Lib.hid (hin.below hB0)
    have HP := Lib.hid (fun wx (h : ClIn wx A l) (ho : w.heap.size ≤ wx.heap.size) => pzSolved_any m l A c wx h15 (goodP_ok hg) (Nat.le_trans (goodP_few hg) (by decide)) h (fun a ha => Nat.lt_of_lt_of_le (hold a ha) ho))
    rw [solOr_good hg, show (m : Int).toNat = m from rfl]
    have hlen := solL_small (cs := l) h15
    generalize solL m l = L at HP hlen ⊢
    clear hg
    go_enter Tryz.func27, Tryz.ntmps27
    go_wp2_with fail
    rw [← hW0]
    clear hW0
    refine HG.out.mono ?_
    rintro e w1 ⟨rfl, hb1⟩
    have q0 := ((bcell hb1).1 _ _ hz).trans p0
    have q1 := ((bcell hb1).1 _ _ hz).trans p1
    have HB1 := Lib.hid (hB0.trans (hb1.mono hB0.size))
    have HI1 := Lib.hid (HI.out.below hb1)
    clear hb1
    go_wp2_with fail
    refine (HP.out _ HI1.out HB1.out.size).mono ?_
    rintro e w2 ⟨rfl, hb2⟩
    have HB2 := Lib.hid (HB1.out.trans (hb2.mono HB1.out.size))
    clear hb2
    go_wp2_with fail
    go_ret2
    exact ⟨rfl, HB2.out⟩

set_option maxRecDepth 100000 in
set_option maxHeartbeats 2000000 in
theorem sFirstSolution_any (n : Int) (l : List Cl) (A : Option Addr) (c : Nat) (w : World) (hin : ClIn w A l) (hl : l.length ≤ 2000000) (hold : ∀ a, A = some a → a.block < w.heap.size) :
    Calls Tryz.prog 23 #[.agg #[.int .i64 n, .slice A l.length c]] w fun e w' => e = .returned (firstV (solOr n l)) ∧ Below w.heap.size w w' := by
  obtain ⟨W0, hW0⟩ : ∃ W0, W0 = w.alloc (Obj.cells #[.int .i64 n, .slice A l.length c] 31) := ⟨_, rfl⟩
  have hB0 : Below w.heap.size w W0 := by rw [hW0]; exact (Below.refl _ _).alloc (Nat.le_refl _) _
  have p0 : W0.cell? ⟨w.heap.size, 0, none⟩ = some (.int .i64 n) := by rw [hW0, cell_new' _ _ _ _ _ rfl]; rfl
  have p1 : W0.cell? ⟨w.heap.size, 1, none⟩ = some (.slice A l.length c) := by rw [hW0, cell_new' _ _ _ _ _ rfl]; rfl
  have hz : w.heap.size < W0.heap.size := by rw [hW0]; simp
  have HG := Lib.hid (pzGood_any n l A c W0 (hin.below hB0) hl)
  cases hg : goodP n l
  · rw [hg] at HG
    rw [solOr_bad hg]
    clear hg
    go_enter Tryz.func23, Tryz.ntmps23
    go_wp2_with fail
    rw [← hW0]
    clear hW0
    refine HG.out.mono ?_
    rintro e w1 ⟨rfl, hb1⟩
    have HB := Lib.hid (hB0.trans (hb1.mono hB0.size))
    clear hb1
    go_wp2_with fail
    go_ret2
    exact ⟨rfl, HB.out⟩
  · rw [hg] at HG
    obtain ⟨m, rfl, h15⟩ := goodP_nat hg
    have HI := Lib.hid (hin.below hB0)
    have HP := Lib.hid (fun wx (h : ClIn wx A l) (ho : w.heap.size ≤ wx.heap.size) => pzAll_any m l A c wx h15 (goodP_ok hg) (Nat.le_trans (goodP_few hg) (by decide)) h (fun a ha => Nat.lt_of_lt_of_le (hold a ha) ho))
    rw [solOr_good hg, show (m : Int).toNat = m from rfl]
    have hlen := solL_small (cs := l) h15
    generalize solL m l = L at HP hlen ⊢
    clear hg
    obtain ⟨V, hV⟩ : ∃ V, V = firstV L := ⟨_, rfl⟩
    rw [← hV]
    go_enter Tryz.func23, Tryz.ntmps23
    go_wp2_with fail
    rw [← hW0]
    clear hW0
    refine HG.out.mono ?_
    rintro e w1 ⟨rfl, hb1⟩
    have q0 := ((bcell hb1).1 _ _ hz).trans p0
    have q1 := ((bcell hb1).1 _ _ hz).trans p1
    have HB1 := Lib.hid (hB0.trans (hb1.mono hB0.size))
    have HI1 := Lib.hid (HI.out.below hb1)
    clear hb1
    go_wp2_with fail
    refine (HP.out _ HI1.out HB1.out.size).mono ?_
    rintro e w2 ⟨v, rfl, ho, hb2⟩
    have HB2 := Lib.hid (HB1.out.trans (hb2.mono HB1.out.size))
    obtain ⟨A2, c2, rfl, _, _, hA2, _⟩ := st_own ho
    have HA2 := Lib.hid hA2
    clear ho hb2 hA2
    cases L with
    | nil =>
      have HVV : Hid (V = .tuple #[.string (str []), .bool false]) := Lib.hid hV
      clear hV
      go_wp2_with fail
      go_ret2
      exact ⟨congrArg Ending.returned HVV.out.symm, HB2.out⟩
    | cons x L' =>
      obtain ⟨g2, rfl, z2, d2⟩ := HA2.out 0 (by simp)
      have d3 : w2.cell? ⟨g2, 0, none⟩ = some (.string (str x)) := by simpa using d2
      have hp : (0 : Int) < ((x :: L').length : Int) := by simp
      have hp2 : ((x :: L').length : Int) ≠ 0 := by omega
      have HVV : Hid (V = .tuple #[.string (str x), .bool true]) := Lib.hid hV
      clear hV
      generalize (x :: L').length = len at *
      clear d2
      go_wp2_with fail
      go_ret2
      exact ⟨congrArg Ending.returned HVV.out.symm, HB2.out⟩

set_option maxRecDepth 100000 in
set_option maxHeartbeats 2000000 in
theorem CountSolutions_any (n : Int) (l : List Cl) (g o c : Nat) (w : World) (hin : ClIn w (some ⟨g, o, none⟩) l) (hl : l.length ≤ 2000000) (hc : l.length ≤ c) (hgo : g < w.heap.size) :
    Calls Tryz.prog 22 #[.agg #[.int .i64 n, .slice (some ⟨g, o, none⟩) l.length c]] w fun e w' => e = .returned (.tuple #[.int .i64 (solOr n l).length, .bool (goodP n l)]) ∧ Below w.heap.size w w' := by
  obtain ⟨W0, hW0⟩ : ∃ W0, W0 = w.alloc (Obj.cells #[.int .i64 n, .slice (some ⟨g, o, none⟩) l.length c] 31) := ⟨_, rfl⟩
  have hB0 : Below w.heap.size w W0 := by rw [hW0]; exact (Below.refl _ _).alloc (Nat.le_refl _) _
  have hz : w.heap.size < W0.heap.size := by rw [hW0]; simp
  have HP := Lib.hid (Solutions_any n l g o c W0 (hin.below hB0) hl hc (by omega))
  have hlen := solOr_small n l
  generalize solOr n l = L at HP hlen ⊢
  generalize goodP n l = b at HP ⊢
  go_enter Tryz.func22, Tryz.ntmps22
  go_wp2_with fail
  rw [← hW0]
  clear hW0
  refine HP.out.mono ?_
  rintro e w2 ⟨v, rfl, ho, hb2⟩
  have HB2 := Lib.hid (hB0.trans (hb2.mono hB0.size))
  obtain ⟨A2, c2, rfl, _, _, hA2, _⟩ := st_own ho
  have HA2 := Lib.hid hA2
  clear ho hb2 hA2
  go_wp2_with fail
  go_ret2
  exact ⟨rfl, HB2.out⟩

set_option maxRecDepth 100000 in
set_option maxHeartbeats 2000000 in
theorem IsSolved_any (n : Int) (l : List Cl) (g o c : Nat) (w : World) (hin : ClIn w (some ⟨g, o, none⟩) l) (hl : l.length ≤ 2000000) (hc : l.length ≤ c) (hgo : g < w.heap.size) :
    Calls Tryz.prog 28 #[.agg #[.int .i64 n, .slice (some ⟨g, o, none⟩) l.length c]] w fun e w' => e = .returned (.tuple #[.bool (decide ((solOr n l).length = 1)), .bool (goodP n l)]) ∧ Below w.heap.size w w' := by
  obtain ⟨W0, hW0⟩ : ∃ W0, W0 = w.alloc (Obj.cells #[.int .i64 n, .slice (some ⟨g, o, none⟩) l.length c] 31) := ⟨_, rfl⟩
  have hB0 : Below w.heap.size w W0 := by rw [hW0]; exact (Below.refl _ _).alloc (Nat.le_refl _) _
  have hz : w.heap.size < W0.heap.size := by rw [hW0]; simp
  have HP := Lib.hid (CountSolutions_any n l g o c W0 (hin.below hB0) hl hc (by omega))
  have hlen := solOr_small n l
  generalize solOr n l = L at HP hlen ⊢
  generalize goodP n l = b at HP ⊢
  have HQ : Hid (((L.length : Int) == 1) = decide (L.length = 1)) := Lib.hid (by rw [Bool.eq_iff_iff]; simp; omega)
  go_enter Tryz.func28, Tryz.ntmps28
  go_wp2_with fail
  rw [← hW0]
  clear hW0
  refine HP.out.mono ?_
  rintro e w2 ⟨rfl, hb2⟩
  have HB2 := Lib.hid (hB0.trans (hb2.mono hB0.size))
  clear hb2
  go_wp2_with fail
  go_ret2
  exact ⟨congrArg (fun x => Ending.returned (.tuple #[.bool x, .bool b])) HQ.out, HB2.out⟩

set_option maxRecDepth 100000 in
set_option maxHeartbeats 2000000 in
theorem FirstSolution_any (n : Int) (l : List Cl) (g o c : Nat) (w : World) (hin : ClIn w (some ⟨g, o, none⟩) l) (hl : l.length ≤ 2000000) (hc : l.length ≤ c) (hgo : g < w.heap.size) :
    Calls Tryz.prog 24 #[.agg #[.int .i64 n, .slice (some ⟨g, o, none⟩) l.length c]] w fun e w' => e = .returned (firstV (solOr n l)) ∧ Below w.heap.size w w' := by
  obtain ⟨W0, hW0⟩ : ∃ W0, W0 = w.alloc (Obj.cells #[.int .i64 n, .slice (some ⟨g, o, none⟩) l.length c] 31) := ⟨_, rfl⟩
  have hB0 : Below w.heap.size w W0 := by rw [hW0]; exact (Below.refl _ _).alloc (Nat.le_refl _) _
  have hz : w.heap.size < W0.heap.size := by rw [hW0]; simp
  have HP := Lib.hid (Solutions_any n l g o c W0 (hin.below hB0) hl hc (by omega))
  have hlen := solOr_small n l
  generalize solOr n l = L at HP hlen ⊢
  generalize goodP n l = b at HP ⊢
  obtain ⟨V, hV⟩ : ∃ V, V = firstV L := ⟨_, rfl⟩
  rw [← hV]
  go_enter Tryz.func24, Tryz.ntmps24
  go_wp2_with fail
  rw [← hW0]
  clear hW0
  refine HP.out.mono ?_
  rintro e w2 ⟨v, rfl, ho, hb2⟩
  have HB2 := Lib.hid (hB0.trans (hb2.mono hB0.size))
  obtain ⟨A2, c2, rfl, _, _, hA2, _⟩ := st_own ho
  have HA2 := Lib.hid hA2
  clear ho hb2 hA2
  cases L with
  | nil =>
    have HVV : Hid (V = .tuple #[.string (str []), .bool false]) := Lib.hid hV
    clear hV
    go_wp2_with fail
    go_ret2
    exact ⟨congrArg Ending.returned HVV.out.symm, HB2.out⟩
  | cons x L' =>
    obtain ⟨g2, rfl, z2, d2⟩ := HA2.out 0 (by simp)
    have d3 : w2.cell? ⟨g2, 0, none⟩ = some (.string (str x)) := by simpa using d2
    have hp : (0 : Int) < ((x :: L').length : Int) := by simp
    have hp2 : ((x :: L').length : Int) ≠ 0 := by omega
    have HVV : Hid (V = .tuple #[.string (str x), .bool true]) := Lib.hid hV
    clear hV
    generalize (x :: L').length = len at *
    clear d2
    go_wp2_with fail
    go_ret2
    exact ⟨congrArg Ending.returned HVV.out.symm, HB2.out⟩
end Go.Proofs.YthhmaohnibdbnaaGreat
