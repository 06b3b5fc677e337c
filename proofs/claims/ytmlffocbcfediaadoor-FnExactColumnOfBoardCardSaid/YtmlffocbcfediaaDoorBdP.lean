/- IsBoard, SizeOfBoard: both sides' contracts. -/
import Derived.Test.YtmlffocbcfediaaDoorBdO
namespace Go.Proofs.YtmlffocbcfediaaDoor
open Go.RowKit

def boolB (b : Bool) : Value := .bool b
set_option maxRecDepth 100000 in
set_option maxHeartbeats 1000000 in
theorem sIsBoard_any (s : ByteArray) (w : World) (hs : s.size ≤ maxLen) :
    Calls Tryd.prog 14 #[.string s] w fun e w' => e = .returned (.bool (goodB (byt s))) ∧ Below w.heap.size w w' := by
  have HR := Lib.hid (fun wx => boRows_any s wx hs)
  generalize goodB (byt s) = gb at HR ⊢
  generalize spl (byt s) = R at HR
  go_enter Tryd.func14, Tryd.ntmps14
  go_wp2_with fail
  refine (HR.out _).mono ?_
  rintro e w1 (⟨rfl, A, cap, rfl, hle, AT, hb1⟩ | ⟨rfl, rfl, hb1⟩)
  · go_wp2
    go_ret
    exact ⟨rfl, hb1⟩
  · go_wp2
    go_ret
    exact ⟨rfl, hb1⟩
set_option maxRecDepth 100000 in
set_option maxHeartbeats 1000000 in
theorem isBoard_any (s : ByteArray) (w : World) (hs : s.size ≤ 2000000) :
    Calls Tryd.prog 15 #[.string s] w fun e w' => e = .returned (.bool (goodB (byt s))) ∧ Below w.heap.size w w' := by
  have HR := Lib.hid (fun wx => boardOf_any s wx hs)
  generalize goodB (byt s) = gb at HR ⊢
  generalize spl (byt s) = R at HR
  go_enter Tryd.func15, Tryd.ntmps15
  go_wp2_with fail
  refine (HR.out _).mono ?_
  rintro e w1 (⟨rfl, g, cap, rfl, h1, h2, h3, h4, hb1⟩ | ⟨rfl, rfl, hb1⟩)
  · unfold bdV
    generalize (R.headD []).length = wd
    clear h3 h4
    generalize R.flatten.length = fl
    go_wp2
    go_ret
    exact ⟨rfl, hb1.alloc hb1.size _⟩
  · go_wp2
    go_ret
    exact ⟨rfl, hb1.alloc hb1.size _⟩

/-- A board's width and height. -/
theorem good_size {l : List UInt8} (h : goodB l = true) : 1 ≤ ((spl l).headD []).length ∧ ((spl l).headD []).length ≤ 5 ∧ 1 ≤ (spl l).length ∧ (spl l).length ≤ 5 ∧ (spl l).flatten.length = (spl l).length * ((spl l).headD []).length := by
  obtain ⟨h1, h2⟩ := (boOk_iff _).1 h
  have hp := spl_pos l
  have hm : (spl l).headD [] ∈ spl l := by rw [spl_head]; exact List.getElem_mem hp
  obtain ⟨a, b, _⟩ := h2 _ hm
  refine ⟨(good_len5 a).1, b, hp, h1, ?_⟩
  exact flat_eq _ _ fun r hr => (h2 r hr).2.2
def sizeOr (c : Bool) (a b : Int) : Value := if c then .tuple #[.int .i64 a, .int .i64 b, .bool true] else .tuple #[.int .i64 0, .int .i64 0, .bool false]

set_option maxRecDepth 100000 in
set_option maxHeartbeats 1000000 in
theorem high_any (wd : Nat) (g cap n : Nat) (w : World) (hw : 1 ≤ wd) (hn : n ≤ 1000) (hw5 : wd ≤ 1000) :
    Calls Tryd.prog 42 #[.agg #[.int .i64 wd, .slice (some ⟨g, 0, none⟩) n cap]] w fun e w' => e = .returned (.int .i64 ((n / wd : Nat) : Int)) ∧ Below w.heap.size w w' := by
  have hz : ((wd : Int) == 0) = false := by rw [beq_eq_false_iff_ne]; omega
  have hd : Hid ((n : Int) / (wd : Int) = ((n / wd : Nat) : Int)) := Lib.hid (Int.natCast_ediv n wd).symm
  have hle : n / wd ≤ n := Nat.div_le_self _ _
  go_enter Tryd.func42, Tryd.ntmps42
  go_wp2
  go_ret
  refine ⟨?_, (Below.refl _ _).alloc (Nat.le_refl _) _⟩
  rw [hd.out]
  generalize n / wd = q at hle
  have e : wrap64 (q : Int) = q := by unfold wrap64; omega
  rw [e]
  rfl

set_option maxRecDepth 100000 in
set_option maxHeartbeats 1000000 in
theorem sSize_any (s : ByteArray) (w : World) (hs : s.size ≤ maxLen) :
    Calls Tryd.prog 16 #[.string s] w fun e w' => e = .returned (sizeOr (goodB (byt s)) ((spl (byt s)).headD []).length (spl (byt s)).length) ∧ Below w.heap.size w w' := by
  have HR := Lib.hid (fun wx => boRows_any s wx hs)
  have hpos := spl_pos (byt s)
  rw [spl_head]
  suffices main : ∀ (gb : Bool) (R : List (List UInt8)) (hpos : 0 < R.length), (∀ wx, Calls Tryd.prog 40 #[.string s] wx (BrP gb R wx)) → Calls Tryd.prog 16 #[.string s] w fun e w' => e = .returned (sizeOr gb (R[0]'hpos).length R.length) ∧ Below w.heap.size w w' from main _ _ hpos HR.out
  clear HR
  intro gb R hpos hR
  have HR := Lib.hid hR
  have HL := Lib.hid (str_size (R[0]'hpos))
  generalize (R[0]'hpos).length = n0 at HL ⊢
  clear hR
  go_enter Tryd.func16, Tryd.ntmps16
  go_wp2_with fail
  refine (HR.out _).mono ?_
  rintro e w1 (⟨rfl, A, cap, rfl, hle, AT, hb1⟩ | ⟨rfl, rfl, hb1⟩)
  · obtain ⟨g, rfl, hg, hcell⟩ := AT 0 hpos
    have i3 : (0 : Int) < (R.length : Int) := by omega
    generalize str (R[0]'hpos) = s0 at hcell HL
    clear AT
    go_wp2
    go_ret3
    refine ⟨?_, hb1⟩
    rw [← HL.out]
    rfl
  · go_wp2
    go_ret3
    exact ⟨rfl, hb1⟩

/-- The program's board of a text that is one, and of one that is none. -/
def BoY (wd : Nat) (F : List UInt8) (w : World) (e : Ending) (w' : World) : Prop :=
  ∃ g cap, e = .returned (.tuple #[.agg #[.int .i64 wd, .slice (some ⟨g, 0, none⟩) F.length cap], .bool true]) ∧ w.heap.size ≤ g ∧ g < w'.heap.size ∧ F.length ≤ cap ∧ BsAt w' g F ∧ Below w.heap.size w w'
def BoN (w : World) (e : Ending) (w' : World) : Prop := e = .returned (.tuple #[.agg #[.int .i64 0, .slice none 0 0], .bool false]) ∧ Below w.heap.size w w'
theorem boardOf_yes (s : ByteArray) (w : World) (hs : s.size ≤ 2000000) (hg : goodB (byt s) = true) :
    Calls Tryd.prog 41 #[.string s] w (BoY ((spl (byt s)).headD []).length (spl (byt s)).flatten w) := by
  refine (boardOf_any s w hs).mono ?_
  rintro e w1 (⟨_, g, cap, rfl, h⟩ | ⟨h, _⟩)
  · exact ⟨g, cap, rfl, h⟩
  · rw [hg] at h; cases h
theorem boardOf_no (s : ByteArray) (w : World) (hs : s.size ≤ 2000000) (hg : goodB (byt s) = false) :
    Calls Tryd.prog 41 #[.string s] w (BoN w) := by
  refine (boardOf_any s w hs).mono ?_
  rintro e w1 (⟨h, _⟩ | ⟨_, h⟩)
  · rw [hg] at h; cases h
  · exact h

set_option maxRecDepth 100000 in
set_option maxHeartbeats 1000000 in
theorem size_any (s : ByteArray) (w : World) (hs : s.size ≤ 2000000) :
    Calls Tryd.prog 17 #[.string s] w fun e w' => e = .returned (sizeOr (goodB (byt s)) ((spl (byt s)).headD []).length (spl (byt s)).length) ∧ Below w.heap.size w w' := by
  cases hc : goodB (byt s)
  · have HR := Lib.hid (fun wx => boardOf_no s wx hs hc)
    clear hc
    go_enter Tryd.func17, Tryd.ntmps17
    go_wp2_with fail
    refine (HR.out _).mono ?_
    rintro e w1 ⟨rfl, hb1⟩
    go_wp2
    go_ret3
    exact ⟨rfl, hb1.alloc hb1.size _⟩
  · have HR := Lib.hid (fun wx => boardOf_yes s wx hs hc)
    obtain ⟨g1, g2, g3, g4, g5⟩ := good_size hc
    have hf5 : (spl (byt s)).flatten.length ≤ 25 := by
      rw [g5]
      have := Nat.mul_le_mul g4 g2
      omega
    have hq : (spl (byt s)).flatten.length / ((spl (byt s)).headD []).length = (spl (byt s)).length := by rw [g5]; exact Nat.mul_div_cancel _ (by omega)
    have HH := Lib.hid (fun g cap wx => high_any ((spl (byt s)).headD []).length g cap (spl (byt s)).flatten.length wx g1 (by omega) (by omega))
    rw [hq] at HH
    clear hq g5 hc
    generalize ((spl (byt s)).headD []).length = wd at HR HH g1 g2 ⊢
    generalize (spl (byt s)).flatten = F at HR HH hf5 ⊢
    generalize (spl (byt s)).length = hi at HH g3 g4 ⊢
    go_enter Tryd.func17, Tryd.ntmps17
    go_wp2_with fail
    refine (HR.out _).mono ?_
    rintro e w1 ⟨g, cap, rfl, h1, h2, h3, h4, hb1⟩
    clear h4
    generalize F.length = fl at HH hf5 h3 ⊢
    go_wp2_with fail
    obtain ⟨W2, hW2⟩ : ∃ W2, W2 = w1.alloc (Obj.cells #[.int .i64 wd, .slice (some ⟨g, 0, none⟩) fl cap] 51) := ⟨_, rfl⟩
    rw [← hW2]
    have c0 : W2.cell? ⟨w1.heap.size, 0, none⟩ = some (.int .i64 wd) := by rw [hW2, World.cell?_alloc_new]; rfl
    have c1 : W2.cell? ⟨w1.heap.size, 1, none⟩ = some (.slice (some ⟨g, 0, none⟩) fl cap) := by rw [hW2, World.cell?_alloc_new]; rfl
    have z2 : w1.heap.size < W2.heap.size := by rw [hW2]; simp
    have HB2 := Lib.hid (hb1.alloc hb1.size (Obj.cells #[.int .i64 wd, .slice (some ⟨g, 0, none⟩) fl cap] 51))
    rw [← hW2] at HB2
    clear hW2
    go_region_with (go_at_call 42; refine (HH.out _ _ _).mono ?_; rintro e w3 ⟨rfl, hb3⟩; have d0 := (hb3.cell (p := ⟨w1.heap.size, 0, none⟩) z2).trans c0; have d1 := (hb3.cell (p := ⟨w1.heap.size, 1, none⟩) z2).trans c1)
    all_goals
      go_wp2
      go_ret3
      exact ⟨rfl, HB2.out.drew.trans (hb3.mono HB2.out.size)⟩
end Go.Proofs.YtmlffocbcfediaaDoor
