/- Contracts: the exported functions on one move. -/
import Derived.Test.YtjadnfnpbacfdaaDoorMoveD
namespace Go.Proofs.YtjadnfnpbacfdaaDoor
open Go.RowKit

def boolOr (c b : Bool) : Value := if c then .tuple #[.bool b, .bool true] else .tuple #[.bool false, .bool false]
theorem boolOr_no (c b : Bool) (h : c = false) : boolOr c b = .tuple #[.bool false, .bool false] := by rw [h]; rfl
theorem boolOr_yes (c b : Bool) (h : c = true) : boolOr c b = .tuple #[.bool b, .bool true] := by rw [h]; rfl
/-- The block of a move that came by value. -/
abbrev mvB (f t : Int) : Obj := Obj.cells #[Value.int IntKind.i64 f, Value.int IntKind.i64 t] 64
abbrev plB (f t : Int) (s : ByteArray) : Obj := Obj.cells #[Value.int IntKind.i64 f, Value.int IntKind.i64 t, Value.string s] 150
theorem good1000 {s : ByteArray} (h : goodL s = true) : s.size ≤ 1000 := by have := ((goodL_iff s).1 h).2.1; omega

/-- The line behind a move. -/
def behind (s : ByteArray) (f t : Int) : List UInt8 := putL s f.toNat t.toNat

set_option maxHeartbeats 1000000 in
theorem makeMove_any (s : ByteArray) (f t : Int) (w : World) (hs : s.size ≤ maxLen) :
    Calls Tryd.prog 98 #[.string s, .agg #[.int .i64 f, .int .i64 t]] w fun e w' => e = .returned (strOr (goodL s && canM s f t) (behind s f t)) ∧ Below w.heap.size w w' := by
  cases hc : goodL s
  · have hC := Lib.hid hc
    clear hc
    go_enter Tryd.func98, Tryd.ntmps98
    go_wp2_with (go_at_call 106; refine (isLine_any _ _ hs).mono ?_; rintro e w' ⟨rfl, rfl⟩; rw [hC.out])
    go_ret2
    exact ⟨rfl, ((Below.refl _ _).alloc (Nat.le_refl _) _).alloc (by simp) _⟩
  · have hC := Lib.hid hc
    have h1 := good1000 hc
    clear hc
    cases hm : canM s f t
    · have hM := Lib.hid hm
      clear hm
      go_enter Tryd.func98, Tryd.ntmps98
      go_wp2_with (go_at_call 106; refine (isLine_any _ _ hs).mono ?_; rintro e w' ⟨rfl, rfl⟩; rw [hC.out])
      refine (canBeMade_any _ _ _ _ h1).mono ?_
      rintro e w' ⟨rfl, hb⟩
      rw [hM.out]
      go_wp2
      go_ret2
      exact ⟨rfl, (((Below.refl _ _).alloc (Nat.le_refl _) _).alloc (by simp) _).trans (hb.mono (by simp; omega))⟩
    · have hM := Lib.hid hm
      obtain ⟨a, b, rfl, rfl, ha, hb', hne⟩ := canM_in hm
      clear hm
      go_enter Tryd.func98, Tryd.ntmps98
      go_wp2_with (go_at_call 106; refine (isLine_any _ _ hs).mono ?_; rintro e w' ⟨rfl, rfl⟩; rw [hC.out])
      refine (canBeMade_any _ _ _ _ h1).mono ?_
      rintro e w' ⟨rfl, hb⟩
      rw [hM.out]
      obtain ⟨hcell, _⟩ := bcell hb
      have hB := (((Below.refl w.heap.size w).alloc (Nat.le_refl _) (mvB a b)).alloc (by simp) (plB a b s)).trans (hb.mono (by simp; omega))
      have hz : w.heap.size + 2 ≤ w'.heap.size := by have := hb.size; simpa using this
      clear hb
      go_wp2_with fail
      refine (lineBehind_any s a b _ ha hb' hne).mono ?_
      rintro e w2 ⟨rfl, hb2⟩
      clear hcell
      go_wp2
      go_ret2
      exact ⟨rfl, hB.trans (hb2.mono (by omega))⟩

/-- A jump: two cells. -/
def jumpM (f t : Int) : Bool := decide (t - f = 2 ∨ t - f = -2)
theorem canM_far {s : ByteArray} {f t : Int} (h : canM s f t = true) : t - f = 1 ∨ t - f = -1 ∨ t - f = 2 ∨ t - f = -2 := by
  obtain ⟨_, _, _, ⟨_, h | ⟨h, _⟩⟩ | ⟨_, h | ⟨h, _⟩⟩⟩ := (canM_iff s f t).1 h <;> omega
theorem jump_mod {f t : Int} (h : t - f = 1 ∨ t - f = -1 ∨ t - f = 2 ∨ t - f = -2) : ((t - f).tmod 2 == 0) = jumpM f t := by
  rcases h with h | h | h | h <;> simp [jumpM, h]

theorem jump_abs {f t : Int} : (((t - f).natAbs : Int) == 2) = jumpM f t := by
  rw [Bool.eq_iff_iff]
  simp [jumpM]
  omega

set_option maxHeartbeats 400000 in
theorem toMove_any (f t : Int) (w : World) :
    Calls Tryd.prog 69 #[.agg #[.int .i64 f, .int .i64 t]] w fun e w' => e = .returned (.agg #[.int .i64 f, .int .i64 t]) ∧ Below w.heap.size w w' := by
  go_enter Tryd.func69, Tryd.ntmps69
  go_wp2
  refine bodyPost_ret (v := .agg #[.int .i64 f, .int .i64 t]) (by simp [results, Tryd.results69, go_sem]) rfl ⟨rfl, ?_⟩
  exact (((Below.refl _ _).alloc (Nat.le_refl _) _).alloc (by simp) _).alloc (by simp; omega) _
end Go.Proofs.YtjadnfnpbacfdaaDoor
