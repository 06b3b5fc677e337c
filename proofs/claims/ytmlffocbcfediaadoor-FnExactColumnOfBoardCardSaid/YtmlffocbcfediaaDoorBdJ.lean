/- Contract: the program's text of rows of bytes. -/
import Derived.Test.YtmlffocbcfediaaDoorBdK
import Derived.Test.YtmlffocbcfediaaDoorShelfJ
import Derived.Lib.SlBytesConst
namespace Go.Proofs.YtmlffocbcfediaaDoor
open Go.RowKit

/-- Rows of bytes in memory. -/
def PtAt (w : World) (gC : Nat) (R : List (List UInt8)) : Prop :=
  ∀ k (h : k < R.length), ∃ g o c, w.cell? ⟨gC, k, none⟩ = some (.slice (some ⟨g, o, none⟩) R[k].length c) ∧ g < w.heap.size ∧ ∀ j (hj : j < R[k].length), w.cell? ⟨g, o + j, none⟩ = some (.int .u8 R[k][j].toNat)
theorem PtAt.below {w w' : World} {gC : Nat} {R : List (List UInt8)} (h : PtAt w gC R) (hg : gC < w.heap.size) (hb : Below w.heap.size w w') : PtAt w' gC R := fun k hk => by
  obtain ⟨g, o, c, h1, h2, h3⟩ := h k hk
  exact ⟨g, o, c, (hb.cell (p := ⟨gC, k, none⟩) hg).trans h1, Nat.lt_of_lt_of_le h2 hb.size, fun j hj => (hb.cell (p := ⟨g, o + j, none⟩) h2).trans (h3 j hj)⟩
theorem PtAt.parts {w : World} {gC : Nat} {R : List (List UInt8)} (h : PtAt w gC R) : ∃ vs, Lib.PartsAt w ⟨gC, 0, none⟩ vs R := by
  refine ⟨(List.range R.length).map fun k => (w.cell? ⟨gC, k, none⟩).getD undef, by simp, fun i v hv => ?_, fun i v l hv hl => ?_⟩
  · rw [List.getElem?_map] at hv
    by_cases hi : i < R.length
    · rw [List.getElem?_range hi] at hv
      simp only [Option.map_some, Option.some.injEq] at hv
      obtain ⟨g, o, c, h1, _⟩ := h i hi
      rw [addr_o, Nat.zero_add, h1, ← hv, h1]
      rfl
    · rw [List.getElem?_eq_none (by simpa using hi)] at hv
      cases hv
  · rw [List.getElem?_map] at hv
    have hi : i < R.length := (List.getElem?_eq_some_iff.1 hl).1
    rw [List.getElem?_range hi] at hv
    simp only [Option.map_some, Option.some.injEq] at hv
    obtain ⟨g, o, c, h1, h2, h3⟩ := h i hi
    have e : R[i] = l := (List.getElem?_eq_some_iff.1 hl).2
    rw [h1] at hv
    subst e
    refine ⟨some ⟨g, o, none⟩, c, hv.symm, fun e => (by cases e), fun b hb j x hx => ?_⟩
    injection hb with hb
    subst hb
    obtain ⟨hj, e2⟩ := List.getElem?_eq_some_iff.1 hx
    rw [addr_o, h3 j hj, e2]

/-- The answer of the library: bytes of the call's own. -/
theorem fresh_cells {B : Nat} {w : World} {v : Value} {l : List UInt8} (h : Lib.FreshBytes B w v l) : ∃ g cap, v = .slice (some ⟨g, 0, none⟩) l.length cap ∧ B ≤ g ∧ l.length ≤ cap ∧ BsAt w g l := by
  obtain ⟨g, cap, zs, rfl, h1, h2, h3, h4, h5, h6, h7, h8⟩ := h
  refine ⟨g, cap, rfl, h1, h2, fun j hj => ?_⟩
  rw [h7 j (by omega)]
  have hz : j < zs.length := by omega
  have e : zs.getD j 0 = zs[j] := by rw [List.getD_eq_getElem?_getD, List.getElem?_eq_getElem hz]; rfl
  have e2 : l[j]? = some (zs[j].toNat.toUInt8) := by
    rw [← h6]
    unfold Lib.bytesOf
    rw [List.getElem?_map, List.getElem?_take, if_pos hj, List.getElem?_eq_getElem hz]
    rfl
  rw [List.getElem?_eq_getElem hj] at e2
  injection e2 with e2
  obtain ⟨a, b⟩ := h5 zs[j] (List.getElem_mem hz)
  rw [e, e2]
  have : ((zs[j].toNat.toUInt8).toNat : Int) = zs[j] := by
    have : zs[j].toNat < 256 := by omega
    rw [show (zs[j].toNat.toUInt8).toNat = zs[j].toNat from by simp [Nat.toUInt8]; omega]
    omega
  rw [this]
theorem join_le (R : List (List UInt8)) (h5 : R.length ≤ 5) (hr : ∀ r ∈ R, r.length ≤ 5) : (Lib.join R [47]).length ≤ 30 := by
  have := join_len R 5 hr
  have : R.length * (5 + 1) ≤ 5 * 6 := Nat.mul_le_mul_right 6 h5
  omega

set_option maxRecDepth 100000 in
set_option maxHeartbeats 1000000 in
theorem bytesJoin_any (R : List (List UInt8)) (gC c gs cs : Nat) (w : World) (hn : 1 ≤ R.length) (h5 : R.length ≤ 5) (hr : ∀ r ∈ R, 1 ≤ r.length ∧ r.length ≤ 5) (hcap : R.length ≤ c) (hP : PtAt w gC R) (hS : w.cell? ⟨gs, 0, none⟩ = some (.int .u8 47)) :
    Calls Tryd.prog 86 #[.slice (some ⟨gC, 0, none⟩) R.length c, .slice (some ⟨gs, 0, none⟩) 1 cs] w fun e w' => ∃ g cap, e = .returned (.slice (some ⟨g, 0, none⟩) (Lib.join R [47]).length cap) ∧ BsAt w' g (Lib.join R [47]) ∧ Below w.heap.size w w' := by
  by_cases h2 : 2 ≤ R.length
  · obtain ⟨vs, hvs⟩ := hP.parts
    have hlens : Lib.lens R ≤ 25 := by
      have h1 := flat_le R 5 fun r h => (hr r h).2
      have e : Lib.lens R = R.flatten.length := by unfold Lib.lens; rw [List.length_flatten]
      have := Nat.mul_le_mul_right 5 h5
      omega
    refine (Tryd.bytes_Join_many gC 0 R.length c vs R (.slice (some ⟨gs, 0, none⟩) 1 cs) [47] w rfl h2 hvs hcap ?_ (by omega) (by simp; omega)).mono ?_
    · refine ⟨some ⟨gs, 0, none⟩, cs, rfl, fun e => (by cases e), fun a e i x hx => ?_⟩
      injection e with e
      subst e
      cases i with
      | zero => simp at hx; subst hx; rw [addr_o]; exact hS
      | succ i => simp at hx
    · rintro e w1 ⟨v, rfl, hf, hb⟩
      obtain ⟨g, cap, rfl, _, _, h3⟩ := fresh_cells hf
      exact ⟨g, cap, rfl, h3, hb⟩
  · obtain ⟨r, rfl⟩ : ∃ r, R = [r] := by
      cases R with
      | nil => simp at hn
      | cons r R =>
        cases R with
        | nil => exact ⟨r, rfl⟩
        | cons q R => simp at h2
    obtain ⟨g, o, cc, h1, hg, h3⟩ := hP 0 (by simp)
    have hrr := hr r (by simp)
    refine (Tryd.bytes_Join_one gC 0 c ⟨g, o, none⟩ cc r (.slice (some ⟨gs, 0, none⟩) 1 cs) w h1 (fun i x hx => ?_) (by omega) (by omega)).mono ?_
    · obtain ⟨hi, e⟩ := List.getElem?_eq_some_iff.1 hx
      rw [addr_o]
      have := h3 i hi
      rw [← e]
      exact this
    · rintro e w1 ⟨v, rfl, hf, hb⟩
      obtain ⟨g, cap, rfl, _, _, h4⟩ := fresh_cells hf
      refine ⟨g, cap, ?_, ?_, hb⟩
      · rw [Lib.join_one]
      · rw [Lib.join_one]; exact h4

set_option maxRecDepth 100000 in
set_option maxHeartbeats 1000000 in
theorem textOfRows_any (R : List (List UInt8)) (gC c : Nat) (w : World) (hn : 1 ≤ R.length) (h5 : R.length ≤ 5) (hr : ∀ r ∈ R, 1 ≤ r.length ∧ r.length ≤ 5) (hcap : R.length ≤ c) (hgC : gC < w.heap.size) (hP : PtAt w gC R) :
    Calls Tryd.prog 60 #[.slice (some ⟨gC, 0, none⟩) R.length c] w fun e w' => e = .returned (.string (str (Lib.join R [47]))) ∧ Below w.heap.size w w' := by
  have hcs : (convert 49 49 (.slice (some ⟨w.heap.size, 0, none⟩) 1 1)).run Tryd.prog (w.alloc (.cells #[.int .u8 47] 5)) = .ok (.slice (some ⟨w.heap.size, 0, none⟩) 1 1) (w.alloc (.cells #[.int .u8 47] 5 (1, 2))) := Lib.run_convert_bytes_const (P := Tryd.prog) w 49 5 #[.int .u8 47] 1 1 Tryd.underlying49 Tryd.underlying5
  have hb0 : Below w.heap.size w (w.alloc (Obj.cells #[.int .u8 47] 5 (1, 2))) := (Below.refl _ _).alloc (Nat.le_refl _) _
  have HJ := Lib.hid (bytesJoin_any R gC c w.heap.size 1 (w.alloc (Obj.cells #[.int .u8 47] 5 (1, 2))) hn h5 hr hcap (hP.below hgC hb0) (by have h := World.cell?_alloc_mark w #[.int .u8 47] 5 (1, 2) 0; rw [h]; rfl))
  have HB0 := Lib.hid hb0
  clear hb0 hP hr
  generalize Lib.join R [47] = t at HJ ⊢
  generalize R.length = n at HJ hn h5 hcap ⊢
  go_enter Tryd.func60, Tryd.ntmps60
  go_wp2_with fail
  refine HJ.out.mono ?_
  rintro e w2 ⟨g, cap, rfl, hb, hb2⟩
  have hcv := run_convert_bytes_back (P := Tryd.prog) w2 49 9 5 ⟨g, 0, none⟩ cap t Tryd.underlying49 Tryd.underlying5 Tryd.underlying9 (by
    intro j hj
    rw [addr_o, Nat.zero_add]
    exact hb j hj)
  have HB2 := Lib.hid (HB0.out.trans (hb2.mono (by simp)))
  clear hb hb2
  go_wp2
  go_ret
  exact ⟨rfl, HB2.out⟩
end Go.Proofs.YtmlffocbcfediaaDoor
