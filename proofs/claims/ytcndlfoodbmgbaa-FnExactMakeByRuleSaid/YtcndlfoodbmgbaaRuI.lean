/- The laws' walks: a move by a rule asked and made. -/
import Derived.Test.YtcndlfoodbmgbaaRuH
namespace Go.Proofs.Ytcndlfoodbmgbaa
open Go.RowKit

/-- The boxes of a move and a rule. -/
abbrev MrBx (W : World) (B : Nat) (f t : Int) (o b l : Bool) : Prop :=
  W.cell? ⟨B, 0, none⟩ = some (.int .i64 f) ∧ W.cell? ⟨B, 1, none⟩ = some (.int .i64 t) ∧ W.cell? ⟨B + 1, 0, none⟩ = some (.bool o) ∧ W.cell? ⟨B + 1, 1, none⟩ = some (.bool b) ∧ W.cell? ⟨B + 1, 2, none⟩ = some (.bool l) ∧ B + 1 < W.heap.size
theorem mr_below {W W' : World} {B : Nat} {f t : Int} {o b l : Bool} (h : MrBx W B f t o b l) (hb : Below W.heap.size W W') : MrBx W' B f t o b l := by
  obtain ⟨c0, c1, c2, c3, c4, hz⟩ := h
  have z0 : B < W.heap.size := by omega
  exact ⟨(hb.cell (p := ⟨B, 0, none⟩) z0).trans c0, (hb.cell (p := ⟨B, 1, none⟩) z0).trans c1, (hb.cell (p := ⟨B + 1, 0, none⟩) hz).trans c2, (hb.cell (p := ⟨B + 1, 1, none⟩) hz).trans c3, (hb.cell (p := ⟨B + 1, 2, none⟩) hz).trans c4, Nat.lt_of_lt_of_le hz hb.size⟩
theorem mr_new (w : World) (f t : Int) (o b l : Bool) (x y : TypeId) : MrBx ((w.alloc (Obj.cells #[.int .i64 f, .int .i64 t] x)).alloc (Obj.cells #[.bool o, .bool b, .bool l] y)) w.heap.size f t o b l := by
  have e : w.heap.size + 1 = (w.alloc (Obj.cells #[.int .i64 f, .int .i64 t] x)).heap.size := by simp
  refine ⟨?_, ?_, ?_, ?_, ?_, by simp⟩
  · rw [cell_below _ _ _ _ (by simp), World.cell?_alloc_new]; rfl
  · rw [cell_below _ _ _ _ (by simp), World.cell?_alloc_new]; rfl
  · rw [e, World.cell?_alloc_new]; rfl
  · rw [e, World.cell?_alloc_new]; rfl
  · rw [e, World.cell?_alloc_new]; rfl

set_option maxRecDepth 100000 in
set_option maxHeartbeats 4000000 in
theorem walk_FnExactCanByRule (s : ByteArray) (hs : s.size ≤ maxLen) (f t : Int) (_ : (Lit.int .i64 f).wf = true) (_ : (Lit.int .i64 t).wf = true) (o b l : Bool) (w : World) :
    Calls Try.prog 4 #[.string s, .agg #[.int .i64 f, .int .i64 t], ruV o b l] w fun e w' => e = .returned (.bool true) ∧ Below w.heap.size w w' := by
  by_cases hbig : (1048576 : Int) < (s.size : Int)
  · go_enter Try.func4, Try.ntmps4
    go_wp2
    go_ret
    exact ⟨rfl, ((Below.refl _ _).alloc (Nat.le_refl _) _).alloc (by simp) _⟩
  · have HS := Lib.hid (fun wx => sCanByRule_any s f t o b l wx hs)
    have HM := Lib.hid (fun wx => canByRule_any s f t o b l wx hs)
    obtain ⟨x, y, hxy⟩ : ∃ x y, canV s o b l f t = .tuple #[.bool x, .bool y] := ⟨_, _, rfl⟩
    rw [hxy] at HS HM
    clear hxy
    go_enter Try.func4, Try.ntmps4
    go_wp2
    obtain ⟨W1, hW1⟩ : ∃ W1, W1 = (w.alloc (Obj.cells #[Value.int .i64 f, Value.int .i64 t] 33)).alloc (Obj.cells #[Value.bool o, Value.bool b, Value.bool l] 23) := ⟨_, rfl⟩
    rw [← hW1]
    have S0 : MrBx W1 w.heap.size f t o b l := by rw [hW1]; exact mr_new w f t o b l _ _
    have HB1 : Hid (Below w.heap.size w W1) := Lib.hid (by rw [hW1]; exact ((Below.refl _ _).alloc (Nat.le_refl _) _).alloc (by simp) _)
    clear hW1
    have SD1 : MrBx W1.drew w.heap.size f t o b l := S0
    go_region_held3 (fun w' => MrBx w' w.heap.size f t o b l) (first | exact S0 | exact mr_below SD1 hbm | exact mr_below (mr_below SD1 hbm) hbr | exact mr_below (mr_below (mr_below SD1 hbm) hbr) hbc | exact mr_below SD1 hbr | exact mr_below (mr_below SD1 hbr) hbm | exact mr_below (mr_below (mr_below SD1 hbr) hbm) hbc) (first | (go_at_call 25; refine (toMove_any _ _ _).mono ?_; rintro e w12 ⟨rfl, hbm⟩) | (go_at_call 19; refine (toRule_any _ _ _ _).mono ?_; rintro e w13 ⟨rfl, hbr⟩) | (go_at_call 24; refine (HS.out _).mono ?_; rintro e w14 ⟨rfl, hbc⟩))
    have S14 := mr_below (mr_below (mr_below SD1 hbm) hbr) hbc
    have HB14 : Hid (Below w.heap.size w w14) := Lib.hid (HB1.out.trans (((Below.drew (Below.refl W1.heap.size W1)).trans (hbm.trans ((hbr.trans (hbc.mono hbr.size)).mono hbm.size))).mono HB1.out.size))
    rename_i hHeld
    clear hHeld SD1 hbm hbr hbc
    go_wp2
    have SD2 : MrBx w14.drew w.heap.size f t o b l := S14
    go_region_held3 (fun w' => MrBx w' w.heap.size f t o b l) (first | exact S14 | exact mr_below SD2 hbm | exact mr_below (mr_below SD2 hbm) hbr | exact mr_below (mr_below (mr_below SD2 hbm) hbr) hbc | exact mr_below SD2 hbr | exact mr_below (mr_below SD2 hbr) hbm | exact mr_below (mr_below (mr_below SD2 hbr) hbm) hbc) (first | (go_at_call 25; refine (toMove_any _ _ _).mono ?_; rintro e w22 ⟨rfl, hbm⟩) | (go_at_call 19; refine (toRule_any _ _ _ _).mono ?_; rintro e w23 ⟨rfl, hbr⟩) | (go_at_call 26; refine (HM.out _).mono ?_; rintro e w24 ⟨rfl, hbc⟩))
    have S24 := mr_below (mr_below (mr_below SD2 hbm) hbr) hbc
    have HB24 : Hid (Below w.heap.size w w24) := Lib.hid (HB14.out.trans (((Below.drew (Below.refl w14.heap.size w14)).trans (hbm.trans ((hbr.trans (hbc.mono hbr.size)).mono hbm.size))).mono HB14.out.size))
    rename_i hHeld
    clear hHeld SD2 hbm hbr hbc
    go_wp2
    go_ret
    exact ⟨rfl, HB24.out⟩

theorem makV_open (s : ByteArray) (o b l : Bool) (f t : Int) : ∃ x y, makV s o b l f t = .tuple #[.string x, .bool y] := by
  unfold makV strOr
  split
  · exact ⟨_, _, rfl⟩
  · exact ⟨_, _, rfl⟩
set_option maxRecDepth 100000 in
set_option maxHeartbeats 4000000 in
theorem walk_FnExactMakeByRule (s : ByteArray) (hs : s.size ≤ maxLen) (f t : Int) (_ : (Lit.int .i64 f).wf = true) (_ : (Lit.int .i64 t).wf = true) (o b l : Bool) (w : World) :
    Calls Try.prog 5 #[.string s, .agg #[.int .i64 f, .int .i64 t], ruV o b l] w fun e w' => e = .returned (.bool true) ∧ Below w.heap.size w w' := by
  by_cases hbig : (1048576 : Int) < (s.size : Int)
  · go_enter Try.func5, Try.ntmps5
    go_wp2
    go_ret
    exact ⟨rfl, ((Below.refl _ _).alloc (Nat.le_refl _) _).alloc (by simp) _⟩
  · have HS := Lib.hid (fun wx => sMakeByRule_any s f t o b l wx hs)
    have HM := Lib.hid (fun wx => makeByRule_any s f t o b l wx hs)
    obtain ⟨x, y, hxy⟩ := makV_open s o b l f t
    rw [hxy] at HS HM
    clear hxy
    go_enter Try.func5, Try.ntmps5
    go_wp2
    obtain ⟨W1, hW1⟩ : ∃ W1, W1 = (w.alloc (Obj.cells #[Value.int .i64 f, Value.int .i64 t] 33)).alloc (Obj.cells #[Value.bool o, Value.bool b, Value.bool l] 23) := ⟨_, rfl⟩
    rw [← hW1]
    have S0 : MrBx W1 w.heap.size f t o b l := by rw [hW1]; exact mr_new w f t o b l _ _
    have HB1 : Hid (Below w.heap.size w W1) := Lib.hid (by rw [hW1]; exact ((Below.refl _ _).alloc (Nat.le_refl _) _).alloc (by simp) _)
    clear hW1
    have SD1 : MrBx W1.drew w.heap.size f t o b l := S0
    go_region_held3 (fun w' => MrBx w' w.heap.size f t o b l) (first | exact S0 | exact mr_below SD1 hbm | exact mr_below (mr_below SD1 hbm) hbr | exact mr_below (mr_below (mr_below SD1 hbm) hbr) hbc | exact mr_below SD1 hbr | exact mr_below (mr_below SD1 hbr) hbm | exact mr_below (mr_below (mr_below SD1 hbr) hbm) hbc) (first | (go_at_call 25; refine (toMove_any _ _ _).mono ?_; rintro e w12 ⟨rfl, hbm⟩) | (go_at_call 19; refine (toRule_any _ _ _ _).mono ?_; rintro e w13 ⟨rfl, hbr⟩) | (go_at_call 27; refine (HS.out _).mono ?_; rintro e w14 ⟨rfl, hbc⟩))
    have S14 := mr_below (mr_below (mr_below SD1 hbm) hbr) hbc
    have HB14 : Hid (Below w.heap.size w w14) := Lib.hid (HB1.out.trans (((Below.drew (Below.refl W1.heap.size W1)).trans (hbm.trans ((hbr.trans (hbc.mono hbr.size)).mono hbm.size))).mono HB1.out.size))
    rename_i hHeld
    clear hHeld SD1 hbm hbr hbc
    go_wp2
    have SD2 : MrBx w14.drew w.heap.size f t o b l := S14
    go_region_held3 (fun w' => MrBx w' w.heap.size f t o b l) (first | exact S14 | exact mr_below SD2 hbm | exact mr_below (mr_below SD2 hbm) hbr | exact mr_below (mr_below (mr_below SD2 hbm) hbr) hbc | exact mr_below SD2 hbr | exact mr_below (mr_below SD2 hbr) hbm | exact mr_below (mr_below (mr_below SD2 hbr) hbm) hbc) (first | (go_at_call 25; refine (toMove_any _ _ _).mono ?_; rintro e w22 ⟨rfl, hbm⟩) | (go_at_call 19; refine (toRule_any _ _ _ _).mono ?_; rintro e w23 ⟨rfl, hbr⟩) | (go_at_call 28; refine (HM.out _).mono ?_; rintro e w24 ⟨rfl, hbc⟩))
    have S24 := mr_below (mr_below (mr_below SD2 hbm) hbr) hbc
    have HB24 : Hid (Below w.heap.size w w24) := Lib.hid (HB14.out.trans (((Below.drew (Below.refl w14.heap.size w14)).trans (hbm.trans ((hbr.trans (hbc.mono hbr.size)).mono hbm.size))).mono HB14.out.size))
    rename_i hHeld
    clear hHeld SD2 hbm hbr hbc
    go_wp2
    go_ret
    exact ⟨rfl, HB24.out⟩

end Go.Proofs.Ytcndlfoodbmgbaa
