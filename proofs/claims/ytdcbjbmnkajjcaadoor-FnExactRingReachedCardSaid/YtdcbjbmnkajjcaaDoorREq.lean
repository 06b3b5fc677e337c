/- The library's reversal of moves, in place. -/
import Derived.Test.YtdcbjbmnkajjcaaDoorMove
import Derived.Test.YtdcbjbmnkajjcaaDoorMoves
import Derived.Test.YtdcbjbmnkajjcaaDoorCiK
import Derived.DeepKeys
namespace Go.Proofs.YtdcbjbmnkajjcaaDoor
open Go.RowKit

/-- What stands at place j after i exchanges from both ends. -/
def revG {α : Type} (d : α) (l : List α) (i j : Nat) : α := if j < i ∨ l.length < j + 1 + i then l.getD (l.length - 1 - j) d else l.getD j d
theorem revG_zero {α : Type} (d : α) (l : List α) (j : Nat) (h : j < l.length) : revG d l 0 j = l[j] := by
  unfold revG
  rw [if_neg (by omega)]
  simp [List.getD_eq_getElem?_getD, h]
theorem revG_end {α : Type} (d : α) (l : List α) (i j : Nat) (h : j < l.length) (hi : l.length ≤ i + i + 1) : revG d l i j = l.reverse.getD j d := by
  have e : l.reverse.getD j d = l.getD (l.length - 1 - j) d := by
    rw [List.getD_eq_getElem?_getD, List.getD_eq_getElem?_getD, List.getElem?_reverse h]
  rw [e]
  unfold revG
  split
  · rfl
  · have : l.length - 1 - j = j := by omega
    rw [this]
theorem revG_next {α : Type} (d : α) (l : List α) (i k j : Nat) (hik : i + k + 1 = l.length) (hlt : i < k) (h : j < l.length) :
    revG d l (i + 1) j = if j = k then revG d l i i else if j = i then revG d l i k else revG d l i j := by
  unfold revG
  by_cases e1 : j = k
  · subst e1
    rw [if_pos rfl, if_pos (by omega), if_neg (by omega)]
    congr 1; omega
  · rw [if_neg e1]
    by_cases e2 : j = i
    · subst e2
      rw [if_pos rfl, if_pos (by omega), if_neg (by omega)]
      congr 1; omega
    · rw [if_neg e2]
      by_cases e3 : j < i ∨ l.length < j + 1 + i
      · rw [if_pos e3, if_pos (by omega)]
      · rw [if_neg e3, if_neg (by omega)]
theorem own_setM {w : World} {base g n cap : Nat} {F : List (Int × Int)} (h : w.ownsRow base 58 2 (.slice (some ⟨g, 0, none⟩) n cap) n (flat F)) (k : Nat) (hk : k < F.length) (x y : Int) :
    ((w.setCell ⟨g, k * 2, none⟩ (.int .i64 x)).setCell ⟨g, k * 2 + 1, none⟩ (.int .i64 y)).ownsRow base 58 2 (.slice (some ⟨g, 0, none⟩) n cap) n (flat (F.set k (x, y))) := by
  rw [← flat_set F k hk]
  exact ((h.stored (k * 2) (.int .i64 x)).1.stored (k * 2 + 1) (.int .i64 y)).1
theorem own_cellM {w : World} {base g n cap : Nat} {F : List (Int × Int)} (h : w.ownsRow base 58 2 (.slice (some ⟨g, 0, none⟩) n cap) n (flat F)) (hn : F.length = n) (k : Nat) (hk : k < n) :
    w.cell? ⟨g, k * 2, none⟩ = some (.int .i64 (F.getD k (0, 0)).1) ∧ w.cell? ⟨g, k * 2 + 1, none⟩ = some (.int .i64 (F.getD k (0, 0)).2) ∧ w.frozen? ⟨g, k * 2, none⟩ = false ∧ w.frozen? ⟨g, k * 2 + 1, none⟩ = false := by
  obtain ⟨a, b⟩ := flat_at F k (by omega)
  have e : F.getD k (0, 0) = F[k]'(by omega) := by rw [List.getD_eq_getElem?_getD, List.getElem?_eq_getElem (by omega)]; rfl
  rw [e]
  exact ⟨(h.cellAt _ (by omega)).trans a, (h.cellAt _ (by omega)).trans b, h.frozenAt _, h.frozenAt _⟩

set_option maxRecDepth 100000 in
set_option maxHeartbeats 1000000 in
theorem reverseM_any (l : List (Int × Int)) (g base cap : Nat) (w : World) (h1 : 1 ≤ l.length) (h2 : l.length ≤ 1000000) (hb : base ≤ g) (hown : w.ownsRow base 58 2 (.slice (some ⟨g, 0, none⟩) l.length cap) l.length (flat l)) :
    Calls Tryd.prog 51 #[.slice (some ⟨g, 0, none⟩) l.length cap] w fun e w' => e = .returned (.tuple #[]) ∧ w'.ownsRow base 58 2 (.slice (some ⟨g, 0, none⟩) l.length cap) l.length (flat l.reverse) ∧ Below base w w' := by
  have HO := Lib.hid hown
  clear hown
  go_enter Tryd.func51, Tryd.ntmps51
  go_wp2
  go_loopw [2, 3] (fun a b wr => ∃ (i k : Nat) (F : List (Int × Int)), i + k + 1 = l.length ∧ i ≤ k + 1 ∧ a = .int .i64 i ∧ b = .int .i64 k ∧ F.length = l.length ∧ Hid (∀ j, j < l.length → F.getD j (0, 0) = revG (0, 0) l i j) ∧ Hid (wr.ownsRow base 58 2 (.slice (some ⟨g, 0, none⟩) l.length cap) l.length (flat F)) ∧ Below base w wr) (fun _ b _ => (intOf b).toNat)
  case atStart =>
    refine ⟨0, l.length - 1, l, by omega, by omega, rfl, by go_num, rfl, Lib.hid fun j hj => ?_, HO, Below.refl _ _⟩
    rw [revG_zero _ _ _ hj, List.getD_eq_getElem?_getD, List.getElem?_eq_getElem hj]
    rfl
  case round =>
    obtain ⟨i, k, F, hik, hle, rfl, rfl, hF, HF, HW, hB⟩ := hrel
    by_cases hlt : i < k
    · obtain ⟨ci0, ci1, fi0, fi1⟩ := own_cellM HW.out hF i (by omega)
      obtain ⟨ck0, ck1, fk0, fk1⟩ := own_cellM HW.out hF k (by omega)
      have HN := Lib.hid (fun j (hj : j < l.length) => revG_next (0, 0) l i k j hik hlt hj)
      obtain ⟨x0, x1, hx⟩ : ∃ x0 x1, F.getD i (0, 0) = (x0, x1) := ⟨_, _, rfl⟩
      obtain ⟨y0, y1, hy⟩ : ∃ y0 y1, F.getD k (0, 0) = (y0, y1) := ⟨_, _, rfl⟩
      rw [hx] at ci0 ci1
      rw [hy] at ck0 ck1
      have HX : Hid (revG (0, 0) l i i = (x0, x1)) := Lib.hid (by rw [← hx, HF.out i (by omega)])
      have HY : Hid (revG (0, 0) l i k = (y0, y1)) := Lib.hid (by rw [← hy, HF.out k (by omega)])
      have HB := Lib.hid hB
      have HLN := Lib.hid hF
      clear hB hx hy hF
      go_wp2
      go_region
      go_wp2
      go_roundw
      case rel =>
        refine ⟨i + 1, k - 1, (F.set i (y0, y1)).set k (x0, x1), by omega, by omega, by go_num, by go_num, by rw [List.length_set, List.length_set]; exact HLN.out, Lib.hid fun j hj => ?_, Lib.hid (own_setM (own_setM HW.out i (by rw [HLN.out]; omega) y0 y1) k (by rw [List.length_set, HLN.out]; omega) x0 x1).drew, ((((HB.out.setCell hb _).setCell hb _).setCell hb _).setCell hb _).drew⟩
        have hl := HLN.out
        rw [HN.out j hj, List.getD_eq_getElem?_getD, List.getElem?_set]
        by_cases e1 : k = j
        · rw [if_pos e1, if_pos (by rw [List.length_set]; omega), if_pos e1.symm, HX.out]
          rfl
        · rw [if_neg e1, if_neg (fun e => e1 e.symm), List.getElem?_set]
          by_cases e2 : i = j
          · rw [if_pos e2, if_pos (by omega), if_pos e2.symm, HY.out]
            rfl
          · rw [if_neg e2, if_neg (fun e => e2 e.symm), ← HF.out j hj, List.getD_eq_getElem?_getD]
      case measure => simp [intOf]; omega
    · have HB := Lib.hid hB
      have HLN := Lib.hid hF
      clear hB hF
      go_wp2
      go_end0
      have e : F = l.reverse := by
        have hl := HLN.out
        refine List.ext_getElem (by rw [List.length_reverse]; exact hl) fun j h1 h2 => ?_
        have := HF.out j (by omega)
        rw [revG_end (0, 0) l i j (by omega) (by omega), List.getD_eq_getElem?_getD, List.getD_eq_getElem?_getD, List.getElem?_eq_getElem h1, List.getElem?_eq_getElem h2] at this
        exact this
      have hw := HW.out
      rw [e] at hw
      exact ⟨rfl, hw, HB.out⟩
end Go.Proofs.YtdcbjbmnkajjcaaDoor
namespace Go.Proofs.YtdcbjbmnkajjcaaDoor
open Go.RowKit Go.Maps

theorem keyL_nine {a : List UInt8} (h : a.length = 9) : Tryd.prog.keyLits 3 46 (Value.agg (u8s a).toArray).cells.toList = some (a.map fun x => Lit.int .u8 (x.toNat : Int)) := by
  obtain ⟨c0, c1, c2, c3, c4, c5, c6, c7, c8, rfl⟩ := ring_nine h
  have hc : Tryd.prog.cellsOf 46 = 9 := by kernel_rfl
  have h2 : Tryd.prog.cellsOf 5 = 1 := by kernel_rfl
  simp only [Program.keyLits, Tryd.underlying46, Value.cells]
  simp [hc, h2, u8s, u8_wf, Tryd.underlying5, List.range, List.range.loop]
theorem formed_nine {a : List UInt8} (h : a.length = 9) : (Value.agg (u8s a).toArray).formed Tryd.prog 46 = true := by
  have hc : Tryd.prog.cellsOf 46 = 9 := by kernel_rfl
  simp [Value.formed, Tryd.underlying46, hc, u8s, h]
theorem lits_inj : ∀ {a b : List UInt8}, (a.map fun x => Lit.int .u8 (x.toNat : Int)) = (b.map fun x => Lit.int .u8 (x.toNat : Int)) → a = b
  | [], [], _ => rfl
  | [], _ :: _, e => by simp at e
  | _ :: _, [], e => by simp at e
  | x :: a, y :: b, e => by
    rw [List.map_cons, List.map_cons] at e
    injection e with e1 e2
    injection e1 with _ e1
    rw [lits_inj e2, UInt8.toNat_inj.1 (by omega : x.toNat = y.toNat)]
set_option maxRecDepth 100000 in
theorem ring_eql {a b : List UInt8} (ha : a.length = 9) (hb : b.length = 9) (w : World) : (Op.equalIn 10000 46 (.agg (u8s a).toArray) (.agg (u8s b).toArray)).run Tryd.prog w = .ok (decide (a = b)) w := by
  obtain ⟨r, hr, hiff⟩ := run_equalIn_deep (P := Tryd.prog) 9997 3 46 (by kernel_rfl) w 3 3 _ _ _ _ (formed_nine ha) (formed_nine hb) (keyL_nine ha) (keyL_nine hb)
  rw [show (10000 : Nat) = 9997 + 3 from rfl, hr]
  congr 1
  rw [Bool.eq_iff_iff, hiff, decide_eq_true_iff]
  exact ⟨lits_inj, fun e => by rw [e]⟩
end Go.Proofs.YtdcbjbmnkajjcaaDoor
