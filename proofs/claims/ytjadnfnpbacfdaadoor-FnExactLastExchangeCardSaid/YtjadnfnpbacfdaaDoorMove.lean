/- Contracts: one move on a line. -/
import Derived.Test.YtjadnfnpbacfdaaDoorSpecA
import Derived.Deep.RegionHeld3
import Derived.Laws.StructEq
namespace Go.Proofs.YtjadnfnpbacfdaaDoor
open Go.RowKit

/-- The sign of a cell, 0 outside. -/
def sgAt (s : ByteArray) (i : Int) : UInt8 := if h : 0 ≤ i ∧ i < s.size then s[i.toNat]'(by omega) else 0
theorem sgAt_in (s : ByteArray) (k : Nat) (h : k < s.size) : sgAt s k = s[k] := by
  unfold sgAt
  rw [dif_pos (by omega)]
  rfl
theorem sgAt_out (s : ByteArray) (i : Int) (h : ¬ (0 ≤ i ∧ i < s.size)) : sgAt s i = 0 := by
  unfold sgAt
  rw [dif_neg h]

set_option maxHeartbeats 400000 in
theorem signIn_any (s : ByteArray) (i : Int) (w : World) :
    Calls Tryd.prog 152 #[.string s, .int .i64 i] w fun e w' => e = .returned (.int .u8 (sgAt s i).toNat) ∧ w = w' := by
  by_cases h0 : i < 0
  · have hv := sgAt_out s i (by omega)
    rw [hv]
    go_enter Tryd.func152, Tryd.ntmps152
    go_wp2
    go_ret
    exact ⟨rfl, rfl⟩
  · by_cases h1 : (s.size : Int) ≤ i
    · have hv := sgAt_out s i (by omega)
      rw [hv]
      go_enter Tryd.func152, Tryd.ntmps152
      go_wp2
      go_ret
      exact ⟨rfl, rfl⟩
    · obtain ⟨k, rfl⟩ := Int.eq_ofNat_of_zero_le (Int.not_lt.1 h0)
      have hk : k < s.size := by omega
      have hv := sgAt_in s k hk
      rw [hv]
      go_enter Tryd.func152, Tryd.ntmps152
      go_wp2
      go_ret
      exact ⟨rfl, rfl⟩

/-- Where the animal of a cell can go; the cell itself if nowhere. -/
def mvTo (s : ByteArray) (i : Int) : Int :=
  if sgAt s i = 84 then (if sgAt s (i + 1) = 46 then i + 1 else if sgAt s (i + 1) = 70 then (if sgAt s (i + 1 + 1) = 46 then i + 1 + 1 else i) else i)
  else if sgAt s i = 70 then (if sgAt s (i + -1) = 46 then i + -1 else if sgAt s (i + -1) = 84 then (if sgAt s (i + -1 + -1) = 46 then i + -1 + -1 else i) else i)
  else i
theorem sg_range (s : ByteArray) (i : Int) (h : sgAt s i ≠ 0) : 0 ≤ i ∧ i < s.size := by
  by_cases h1 : 0 ≤ i ∧ i < s.size
  · exact h1
  · exact absurd (sgAt_out s i h1) h

/-- What a byte is, for the walk: equal to a sign, or not. -/
theorem is_or (c d : UInt8) (n : Int) (hn : (d.toNat : Int) = n) : (c = d ∧ (c.toNat : Int) = n) ∨ (c ≠ d ∧ ((c.toNat : Int) == n) = false) := by
  by_cases h : c = d
  · exact .inl ⟨h, by rw [h, hn]⟩
  · exact .inr ⟨h, by rw [← hn]; exact bne_u8 h⟩

set_option maxHeartbeats 1000000 in
theorem moveFrom_any (s : ByteArray) (i : Int) (w : World) (hs : s.size ≤ 1000) :
    Calls Tryd.prog 140 #[.string s, .int .i64 i] w fun e w' => e = .returned (.agg #[.int .i64 i, .int .i64 (mvTo s i)]) ∧ Below w.heap.size w w' := by
  rcases is_or (sgAt s i) 84 84 rfl with ⟨hc, hv⟩ | ⟨hc0, hv⟩
  · obtain ⟨_, _⟩ := sg_range s i (by rw [hc]; decide)
    rcases is_or (sgAt s (i + 1)) 46 46 rfl with ⟨hc1, hv1⟩ | ⟨hc1, hv1⟩
    · have hR : Hid (mvTo s i = i + 1) := by show _ = _; unfold mvTo; rw [if_pos hc, if_pos hc1]
      clear hc hc1
      go_enter Tryd.func140, Tryd.ntmps140
      go_wp2_with (go_at_call 152; refine (signIn_any _ _ _).mono ?_; rintro e w' ⟨rfl, rfl⟩)
      exact bodyPost_ret (v := .agg #[.int .i64 i, .int .i64 (i + 1)]) (by simp [results, Tryd.results140, go_sem]) rfl ⟨by rw [hR.out], (Below.refl _ _).alloc (Nat.le_refl _) _⟩
    · rcases is_or (sgAt s (i + 1)) 70 70 rfl with ⟨hc2, hv2⟩ | ⟨hc2, hv2⟩
      · rcases is_or (sgAt s (i + 1 + 1)) 46 46 rfl with ⟨hc3, hv3⟩ | ⟨hc3, hv3⟩
        · have hR : Hid (mvTo s i = i + 1 + 1) := by show _ = _; unfold mvTo; rw [if_pos hc, if_neg hc1, if_pos hc2, if_pos hc3]
          clear hc hc1 hc2 hc3 hv1
          go_enter Tryd.func140, Tryd.ntmps140
          go_wp2_with (go_at_call 152; refine (signIn_any _ _ _).mono ?_; rintro e w' ⟨rfl, rfl⟩)
          exact bodyPost_ret (v := .agg #[.int .i64 i, .int .i64 (i + 1 + 1)]) (by simp [results, Tryd.results140, go_sem]) rfl ⟨by rw [hR.out], (Below.refl _ _).alloc (Nat.le_refl _) _⟩
        · have hR : Hid (mvTo s i = i) := by show _ = _; unfold mvTo; rw [if_pos hc, if_neg hc1, if_pos hc2, if_neg hc3]
          clear hc hc1 hc2 hc3 hv1
          go_enter Tryd.func140, Tryd.ntmps140
          go_wp2_with (go_at_call 152; refine (signIn_any _ _ _).mono ?_; rintro e w' ⟨rfl, rfl⟩)
          exact bodyPost_ret (v := .agg #[.int .i64 i, .int .i64 (i)]) (by simp [results, Tryd.results140, go_sem]) rfl ⟨by rw [hR.out], (Below.refl _ _).alloc (Nat.le_refl _) _⟩
      · have hR : Hid (mvTo s i = i) := by show _ = _; unfold mvTo; rw [if_pos hc, if_neg hc1, if_neg hc2]
        clear hc hc1 hc2
        go_enter Tryd.func140, Tryd.ntmps140
        go_wp2_with (go_at_call 152; refine (signIn_any _ _ _).mono ?_; rintro e w' ⟨rfl, rfl⟩)
        exact bodyPost_ret (v := .agg #[.int .i64 i, .int .i64 (i)]) (by simp [results, Tryd.results140, go_sem]) rfl ⟨by rw [hR.out], (Below.refl _ _).alloc (Nat.le_refl _) _⟩
  · rcases is_or (sgAt s i) 70 70 rfl with ⟨hc, hv2⟩ | ⟨hc, hv2⟩
    · clear hv
      obtain ⟨_, _⟩ := sg_range s i (by rw [hc]; decide)
      rcases is_or (sgAt s (i + -1)) 46 46 rfl with ⟨hc1, hv1⟩ | ⟨hc1, hv1⟩
      · have hR : Hid (mvTo s i = i + -1) := by show _ = _; unfold mvTo; rw [if_neg hc0, if_pos hc, if_pos hc1]
        clear hc hc0 hc1
        go_enter Tryd.func140, Tryd.ntmps140
        go_wp2_with (go_at_call 152; refine (signIn_any _ _ _).mono ?_; rintro e w' ⟨rfl, rfl⟩)
        exact bodyPost_ret (v := .agg #[.int .i64 i, .int .i64 (i + -1)]) (by simp [results, Tryd.results140, go_sem]) rfl ⟨by rw [hR.out], (Below.refl _ _).alloc (Nat.le_refl _) _⟩
      · rcases is_or (sgAt s (i + -1)) 84 84 rfl with ⟨hc2, hv2⟩ | ⟨hc2, hv2⟩
        · rcases is_or (sgAt s (i + -1 + -1)) 46 46 rfl with ⟨hc3, hv3⟩ | ⟨hc3, hv3⟩
          · have hR : Hid (mvTo s i = i + -1 + -1) := by show _ = _; unfold mvTo; rw [if_neg hc0, if_pos hc, if_neg hc1, if_pos hc2, if_pos hc3]
            clear hc hc0 hc1 hc2 hc3 hv1
            go_enter Tryd.func140, Tryd.ntmps140
            go_wp2_with (go_at_call 152; refine (signIn_any _ _ _).mono ?_; rintro e w' ⟨rfl, rfl⟩)
            exact bodyPost_ret (v := .agg #[.int .i64 i, .int .i64 (i + -1 + -1)]) (by simp [results, Tryd.results140, go_sem]) rfl ⟨by rw [hR.out], (Below.refl _ _).alloc (Nat.le_refl _) _⟩
          · have hR : Hid (mvTo s i = i) := by show _ = _; unfold mvTo; rw [if_neg hc0, if_pos hc, if_neg hc1, if_pos hc2, if_neg hc3]
            clear hc hc0 hc1 hc2 hc3 hv1
            go_enter Tryd.func140, Tryd.ntmps140
            go_wp2_with (go_at_call 152; refine (signIn_any _ _ _).mono ?_; rintro e w' ⟨rfl, rfl⟩)
            exact bodyPost_ret (v := .agg #[.int .i64 i, .int .i64 (i)]) (by simp [results, Tryd.results140, go_sem]) rfl ⟨by rw [hR.out], (Below.refl _ _).alloc (Nat.le_refl _) _⟩
        · have hR : Hid (mvTo s i = i) := by show _ = _; unfold mvTo; rw [if_neg hc0, if_pos hc, if_neg hc1, if_neg hc2]
          clear hc hc0 hc1 hc2
          go_enter Tryd.func140, Tryd.ntmps140
          go_wp2_with (go_at_call 152; refine (signIn_any _ _ _).mono ?_; rintro e w' ⟨rfl, rfl⟩)
          exact bodyPost_ret (v := .agg #[.int .i64 i, .int .i64 (i)]) (by simp [results, Tryd.results140, go_sem]) rfl ⟨by rw [hR.out], (Below.refl _ _).alloc (Nat.le_refl _) _⟩
    · have hR : Hid (mvTo s i = i) := by show _ = _; unfold mvTo; rw [if_neg hc0, if_neg hc]
      clear hc hc0
      go_enter Tryd.func140, Tryd.ntmps140
      go_wp2_with (go_at_call 152; refine (signIn_any _ _ _).mono ?_; rintro e w' ⟨rfl, rfl⟩)
      exact bodyPost_ret (v := .agg #[.int .i64 i, .int .i64 (i)]) (by simp [results, Tryd.results140, go_sem]) rfl ⟨by rw [hR.out], (Below.refl _ _).alloc (Nat.le_refl _) _⟩

theorem eql_move (a b c d : Int) (w : World) : (binOp .eql 64 (.agg #[.int .i64 a, .int .i64 b]) (.agg #[.int .i64 c, .int .i64 d])).run Tryd.prog w = .ok (.bool (a == c && b == d)) w := by
  have u3 := Tryd.underlying3
  have a3 := Tryd.isAgg3
  have z3 := Tryd.sizeOf3
  have hS : Tryd.prog.underlying 64 = some (.struct (Tryd.prog.fieldsOf 64)) := by kernel_rfl
  have hp : Tryd.prog.stoodInHeld 64 = false := by kernel_rfl
  rw [run_eql_struct, show (10000 : Nat) = 9999 + 1 from rfl, run_equalIn_agg w 9999 64 _ _ hS hp]
  simp only [Program.fieldsOf, Tryd.underlying64]
  go_simp
  by_cases h1 : a = c <;> by_cases h2 : b = d <;> simp [h1, h2]

/-- What a move can be made of: it ends where the animal of its cell can go. -/
def canM (s : ByteArray) (f t : Int) : Bool := decide (f ≠ t) && decide (t = mvTo s f)

set_option maxHeartbeats 1000000 in
theorem canBeMade_any (s : ByteArray) (f t : Int) (w : World) (hs : s.size ≤ 1000) :
    Calls Tryd.prog 124 #[.agg #[.int .i64 f, .int .i64 t, .string s]] w fun e w' => e = .returned (.bool (canM s f t)) ∧ Below w.heap.size w w' := by
  by_cases h : f = t
  · subst h
    have hR : Hid (canM s f f = false) := by show _ = _; simp [canM]
    go_enter Tryd.func124, Tryd.ntmps124
    go_wp2
    go_quiet (fail)
    go_wp2
    go_ret
    exact ⟨congrArg (fun b => Ending.returned (.bool b)) hR.out.symm, below_drewN ((Below.refl _ _).alloc (Nat.le_refl _) _) _⟩
  · have hR : Hid (canM s f t = decide (t = mvTo s f)) := by show _ = _; simp [canM, h]
    have hd : (f == t) = false := by simpa using h
    have hd2 : (f != t) = true := by simpa using h
    clear h
    go_enter Tryd.func124, Tryd.ntmps124
    go_wp2
    obtain ⟨W1, hW1⟩ : ∃ W1, W1 = w.alloc (Obj.cells #[Value.int IntKind.i64 f, Value.int IntKind.i64 t, Value.string s] 150) := ⟨_, rfl⟩
    rw [← hW1]
    have c0 : W1.cell? ⟨w.heap.size, 0, none⟩ = some (.int .i64 f) := by rw [hW1]; simp [World.cell?_alloc_new]
    have c1 : W1.cell? ⟨w.heap.size, 1, none⟩ = some (.int .i64 t) := by rw [hW1]; simp [World.cell?_alloc_new]
    have c2 : W1.cell? ⟨w.heap.size, 2, none⟩ = some (.string s) := by rw [hW1]; simp [World.cell?_alloc_new]
    have hz : w.heap.size < W1.heap.size := by rw [hW1]; simp
    have hB : Below w.heap.size w W1 := by rw [hW1]; exact (Below.refl _ _).alloc (Nat.le_refl _) _
    clear hW1
    have heq := fun wx => eql_move f t f (mvTo s f) wx
    go_region_held3 (fun w' => w'.cell? ⟨w.heap.size, 0, none⟩ = some (.int .i64 f) ∧ w'.cell? ⟨w.heap.size, 1, none⟩ = some (.int .i64 t) ∧ w'.cell? ⟨w.heap.size, 2, none⟩ = some (.string s)) (first | exact ⟨c0, c1, c2⟩ | exact ⟨(hb.cell hz).trans c0, (hb.cell hz).trans c1, (hb.cell hz).trans c2⟩) (first | (go_at_call 140; refine (moveFrom_any _ _ _ hs).mono ?_; rintro e w' ⟨rfl, hb⟩))
    go_wp2
    go_ret
    refine ⟨?_, ?_⟩
    · show Ending.returned (.bool (t == mvTo s f)) = _
      rw [hR.out]; congr 2
    · exact (Below.drew hB).trans (hb.mono (Nat.le_of_lt hz))
end Go.Proofs.YtjadnfnpbacfdaaDoor
