/- Contracts: rings as arrays: made of a text, told as a text. -/
import Derived.Test.YtoiaklnaecghnaaDoorCiB
import Derived.Deep.MidRow
import Derived.Lib.LazyBuf
import Derived.Lib.TrimByte
namespace Go.Proofs.YtoiaklnaecghnaaDoor
open Go.RowKit

/-- The nine signs of a ring as an array. -/
def ringP (l : List UInt8) : List UInt8 := l ++ List.replicate (9 - l.length) 0
def ringV (l : List UInt8) : Value := .agg (u8s (ringP l)).toArray
theorem ringP_len {l : List UInt8} (h : l.length ≤ 9) : (ringP l).length = 9 := by
  unfold ringP
  rw [List.length_append, List.length_replicate]
  omega
theorem ring_nine {l : List UInt8} (h : l.length = 9) : ∃ c0 c1 c2 c3 c4 c5 c6 c7 c8, l = [c0, c1, c2, c3, c4, c5, c6, c7, c8] := by
  match l, h with
  | [c0, c1, c2, c3, c4, c5, c6, c7, c8], _ => exact ⟨_, _, _, _, _, _, _, _, _, rfl⟩
theorem trim_ring {l : List UInt8} (h : ∀ c ∈ l, c ≠ 0) : Lib.trimRightB (ringP l) 0 = l := by
  unfold Lib.trimRightB ringP
  rw [List.reverse_append, List.reverse_replicate]
  have e : ∀ n (r : List UInt8), (∀ c ∈ r, c ≠ 0) → (List.replicate n (0 : UInt8) ++ r).dropWhile (· == 0) = r := by
    intro n
    induction n with
    | zero =>
      intro r hr
      rw [List.replicate_zero, List.nil_append]
      cases r with
      | nil => rfl
      | cons c r => rw [List.dropWhile_cons, if_neg]; have := hr c (by simp); simpa using this
    | succ n ih =>
      intro r hr
      rw [List.replicate_succ, List.cons_append, List.dropWhile_cons, if_pos (by decide)]
      exact ih r hr
  rw [e _ _ (fun c hc => h c (List.mem_reverse.1 hc)), List.reverse_reverse]
theorem sign_nz {l : List UInt8} (h : l.all isSign = true) : ∀ c ∈ l, c ≠ 0 := fun c hc e => by
  have := List.all_eq_true.1 h c hc
  rw [e] at this
  cases this
theorem u8s_at (l : List UInt8) (j : Nat) (h : j < l.length) : (u8s l)[j]? = some (.int .u8 (l[j].toNat : Int)) := by simp [u8s, h]

set_option maxHeartbeats 400000 in
theorem textOf_any (l : List UInt8) (b c : Nat) (w : World) (hl : l.length ≤ 1000) (hc : ∀ j (hj : j < l.length), w.cell? ⟨b, j, none⟩ = some (.int .u8 (l[j].toNat : Int))) :
    Calls Tryd.prog 132 #[.slice (some ⟨b, 0, none⟩) l.length c] w fun e w' => e = .returned (.string (str (Lib.trimRightB l 0))) ∧ w = w' := by
  have hcv := run_convert_bytes_back (P := Tryd.prog) w 117 9 5 ⟨b, 0, none⟩ c l Tryd.underlying117 Tryd.underlying5 Tryd.underlying9 (by
    intro j hj
    rw [addr_add]
    exact hc j hj)
  have hz : (str l).size ≤ 1000 := by rw [str_size]; exact hl
  have HT : Hid (∀ wx, Calls Tryd.prog 149 #[.string (str l), .string ⟨#[0]⟩] wx fun e w' => e = .returned (.string (str (Lib.trimRightB l 0))) ∧ wx = w') := Lib.hid fun wx => by
    refine (Tryd.strings_TrimRight_one (str l) 0 (by decide) wx (by omega)).mono ?_
    rintro e w' ⟨rfl, rfl⟩
    exact ⟨rfl, rfl⟩
  clear hc
  go_enter Tryd.func132, Tryd.ntmps132
  go_wp2_with fail
  refine (HT.out _).mono ?_
  rintro e w' ⟨rfl, rfl⟩
  go_wp2
  go_ret
  exact ⟨rfl, rfl⟩

set_option maxRecDepth 100000 in
set_option maxHeartbeats 1000000 in
theorem ringText_any (l : List UInt8) (w : World) (hl : l.length ≤ 9) (hn : ∀ c ∈ l, c ≠ 0) :
    Calls Tryd.prog 111 #[ringV l] w fun e w' => e = .returned (.string (str l)) ∧ Below w.heap.size w w' := by
  obtain ⟨c0, c1, c2, c3, c4, c5, c6, c7, c8, h9⟩ := ring_nine (ringP_len hl)
  have HT := Lib.hid (trim_ring hn)
  have HC : Hid (∀ wx b c, (∀ j (hj : j < [c0, c1, c2, c3, c4, c5, c6, c7, c8].length), wx.cell? ⟨b, j, none⟩ = some (.int .u8 ([c0, c1, c2, c3, c4, c5, c6, c7, c8][j].toNat : Int))) → Calls Tryd.prog 132 #[.slice (some ⟨b, 0, none⟩) 9 c] wx fun e w' => e = .returned (.string (str l)) ∧ wx = w') := Lib.hid fun wx b c hc => by
    have e : Lib.trimRightB [c0, c1, c2, c3, c4, c5, c6, c7, c8] 0 = l := by rw [← h9, HT.out]
    have := textOf_any _ b c wx (by simp) hc
    rw [e] at this
    exact this
  have hv : ringV l = .agg #[.int .u8 c0.toNat, .int .u8 c1.toNat, .int .u8 c2.toNat, .int .u8 c3.toNat, .int .u8 c4.toNat, .int .u8 c5.toNat, .int .u8 c6.toNat, .int .u8 c7.toNat, .int .u8 c8.toNat] := by unfold ringV; rw [h9]; rfl
  rw [hv]
  clear hv h9 hn hl HT
  go_enter Tryd.func111, Tryd.ntmps111
  go_wp2_with fail
  refine (HC.out _ _ _ ?_).mono ?_
  · intro j hj
    rw [World.cell?_alloc_new]
    match j, hj with
    | 0, _ => rfl
    | 1, _ => rfl
    | 2, _ => rfl
    | 3, _ => rfl
    | 4, _ => rfl
    | 5, _ => rfl
    | 6, _ => rfl
    | 7, _ => rfl
    | 8, _ => rfl
  rintro e w' ⟨rfl, rfl⟩
  go_wp2
  go_ret
  exact ⟨rfl, (Below.refl _ _).alloc (Nat.le_refl _) _⟩
end Go.Proofs.YtoiaklnaecghnaaDoor
