/- Contracts: the exported functions on moves by a rule. -/
import Derived.Test.YtdcbjbmnkajjcaaRuF
import Derived.Test.YtdcbjbmnkajjcaaWalkV
namespace Go.Proofs.Ytdcbjbmnkajjcaa
open Go.RowKit

/-- A line of at most ten cells, as both sides ask it. -/
def rchB (s : ByteArray) : Bool := goodL s && decide (s.size ≤ 10)
theorem rch_good {s : ByteArray} (h : rchB s = true) : goodL s = true := by
  unfold rchB at h
  exact (Bool.and_eq_true_iff.1 h).1
theorem rch_T {l : List UInt8} (h : rchB (str l) = true) : goodT l.length l := by
  unfold rchB at h
  rw [Bool.and_eq_true, decide_eq_true_eq, str_size] at h
  exact ⟨h.1, rfl, h.2⟩
set_option maxHeartbeats 400000 in
theorem isRch_any (s : ByteArray) (w : World) (hs : s.size ≤ maxLen) :
    Calls Try.prog 18 #[.string s] w fun e w' => e = .returned (.bool (rchB s)) ∧ w = w' := by
  cases hc : goodL s
  · have hR : Hid (rchB s = false) := Lib.hid (by unfold rchB; rw [hc]; rfl)
    have hC := Lib.hid hc
    clear hc
    go_enter Try.func18, Try.ntmps18
    go_wp2_with (go_at_call 40; refine (isLine_any _ _ hs).mono ?_; rintro e w' ⟨rfl, rfl⟩; rw [hC.out])
    go_ret
    exact ⟨by rw [hR.out]; rfl, rfl⟩
  · have hC := Lib.hid hc
    have h12 := ((goodL_iff s).1 hc).2.1
    have hR : Hid (rchB s = decide (s.size ≤ 10)) := Lib.hid (by unfold rchB; rw [hc]; simp)
    clear hc
    go_enter Try.func18, Try.ntmps18
    go_wp2_with (go_at_call 40; refine (isLine_any _ _ hs).mono ?_; rintro e w' ⟨rfl, rfl⟩; rw [hC.out])
    go_ret
    exact ⟨by rw [hR.out]; exact congrArg (fun b => Ending.returned (.bool b)) (decide_eq_decide.2 (by omega)), rfl⟩
set_option maxHeartbeats 400000 in
theorem sRch_any (s : ByteArray) (w : World) (hs : s.size ≤ maxLen) :
    Calls Try.prog 36 #[.string s] w fun e w' => e = .returned (.bool (rchB s)) ∧ w = w' := by
  cases hc : goodL s
  · have hR : Hid (rchB s = false) := Lib.hid (by unfold rchB; rw [hc]; rfl)
    have hC := Lib.hid hc
    clear hc
    go_enter Try.func36, Try.ntmps36
    go_wp2_with (go_at_call 47; refine (liGood_any _ _ hs).mono ?_; rintro e w' ⟨rfl, rfl⟩; rw [hC.out])
    go_ret
    exact ⟨by rw [hR.out]; rfl, rfl⟩
  · have hC := Lib.hid hc
    have h12 := ((goodL_iff s).1 hc).2.1
    have hR : Hid (rchB s = decide (s.size ≤ 10)) := Lib.hid (by unfold rchB; rw [hc]; simp)
    clear hc
    go_enter Try.func36, Try.ntmps36
    go_wp2_with (go_at_call 47; refine (liGood_any _ _ hs).mono ?_; rintro e w' ⟨rfl, rfl⟩; rw [hC.out])
    go_ret
    exact ⟨by rw [hR.out]; exact congrArg (fun b => Ending.returned (.bool b)) (decide_eq_decide.2 (by omega)), rfl⟩
set_option maxHeartbeats 400000 in
theorem toRule_any (o b l : Bool) (w : World) : Calls Try.prog 6 #[ruV o b l] w fun e w' => e = .returned (ruV o b l) ∧ Below w.heap.size w w' := by
  go_enter Try.func6, Try.ntmps6
  go_wp2
  refine bodyPost_ret (v := ruV o b l) (by simp [results, Try.results6, go_sem]) rfl ⟨rfl, ?_⟩
  exact (((Below.refl _ _).alloc (Nat.le_refl _) _).alloc (by simp) _).alloc (by simp; omega) _
def ruOr (s : ByteArray) (o b l : Bool) : List (Int × Int) := if rchB s then ruTo s o b l s.size else []
theorem ruOr_le (s : ByteArray) (o b l : Bool) : (ruOr s o b l).length ≤ 200 := by
  unfold ruOr
  split
  · rename_i h
    have h1 := ruTo_le s o b l s.size
    have h2 := ((goodL_iff s).1 (rch_good h)).2.1
    have : s.size * s.size ≤ 12 * 12 := Nat.mul_le_mul h2 h2
    omega
  · simp
/-- A rule's box. -/
structure RuBx (W : World) (B : Nat) (o b l : Bool) : Prop where
  lt : B < W.heap.size
  c0 : W.cell? ⟨B, 0, none⟩ = some (.bool o)
  c1 : W.cell? ⟨B, 1, none⟩ = some (.bool b)
  c2 : W.cell? ⟨B, 2, none⟩ = some (.bool l)
theorem RuBx.below {W W' : World} {B : Nat} {o b l : Bool} (h : RuBx W B o b l) (hb : Below W.heap.size W W') : RuBx W' B o b l :=
  ⟨Nat.lt_of_lt_of_le h.lt hb.size, (hb.cell (p := ⟨B, 0, none⟩) h.lt).trans h.c0, (hb.cell (p := ⟨B, 1, none⟩) h.lt).trans h.c1, (hb.cell (p := ⟨B, 2, none⟩) h.lt).trans h.c2⟩
theorem RuBx.new (w : World) (o b l : Bool) (t : TypeId) : RuBx (w.alloc (Obj.cells #[.bool o, .bool b, .bool l] t)) w.heap.size o b l :=
  ⟨by simp, by rw [World.cell?_alloc_new]; rfl, by rw [World.cell?_alloc_new]; rfl, by rw [World.cell?_alloc_new]; rfl⟩

end Go.Proofs.Ytdcbjbmnkajjcaa
