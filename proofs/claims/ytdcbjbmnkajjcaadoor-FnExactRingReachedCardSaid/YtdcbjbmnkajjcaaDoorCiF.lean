/- Contract: a ring looked for among those reached, the model's. -/
import Derived.Test.YtdcbjbmnkajjcaaDoorCiW
import Derived.Deep.AppendLies
import Derived.Test.YtdcbjbmnkajjcaaDoorSl
namespace Go.Proofs.YtdcbjbmnkajjcaaDoor
open Go.RowKit

def txB (R : List ByteArray) : List Value := R.map .string
theorem txB_len (R : List ByteArray) : (txB R).length = R.length := by simp [txB]
theorem txB_at (R : List ByteArray) (k : Nat) (h : k < R.length) : (txB R)[k]? = some (.string R[k]) := by simp [txB, h]
theorem cell_one_atF (w : World) (n : Nat) (hn : n = w.heap.size) (a : Value) (t : TypeId) : ∀ j u, [a][j]? = some u → (w.alloc (.cells #[a] t)).cell? ((⟨n, 0, none⟩ : Addr).add j) = some u := by
  subst hn
  exact cell_one_new w a t
theorem frz_block {w w' : World} {B o : Nat} (h : w'.heap[B]? = w.heap[B]?) (hf : w.frozen? ⟨B, o, none⟩ = false) : w'.frozen? ⟨B, o, none⟩ = false := by
  unfold World.frozen? at hf ⊢
  rw [h]
  exact hf
/-- Two blocks are written, no other. -/
structure KpF (B : Nat) (row : Option Nat) (W W' : World) : Prop where
  os : W'.os = W.os
  tape : W'.tape = W.tape
  output : W'.output = W.output
  size : W.heap.size ≤ W'.heap.size
  block : ∀ k, k < W.heap.size → k ≠ B → some k ≠ row → W'.heap[k]? = W.heap[k]?
theorem KpF.refl (B : Nat) (row : Option Nat) (W : World) : KpF B row W W := ⟨rfl, rfl, rfl, Nat.le_refl _, fun _ _ _ _ => rfl⟩
/-- The rings in the graph's box. -/
structure GrS (W : World) (B R0 : Nat) (R : List ByteArray) (v1 v2 : Value) : Prop where
  c0 : W.cell? ⟨B, 0, none⟩ = some v1
  c1 : W.cell? ⟨B, 1, none⟩ = some v2
  f0 : W.frozen? ⟨B, 0, none⟩ = false
  f1 : W.frozen? ⟨B, 1, none⟩ = false
  lt : B < W.heap.size
  ap : v1.ownBlock ≠ some B
  hi : R0 ≤ W.heap.size
  row : W.ownsRow R0 9 1 v1 R.length (txB R)
def FiPost (B R0 : Nat) (R : List ByteArray) (v1 v2 : Value) (x : ByteArray) (w : World) (e : Ending) (w' : World) : Prop :=
  ∃ R' i v1', ((x ∈ R ∧ R' = R) ∨ (x ∉ R ∧ R' = R ++ [x])) ∧ R'[i]? = some x ∧ e = .returned (.int .i64 (i : Nat)) ∧ GrS w' B R0 R' v1' v2 ∧ KpF B v1.ownBlock w w' ∧ (v1'.ownBlock = v1.ownBlock ∨ ∀ b, v1'.ownBlock = some b → w.heap.size ≤ b)

set_option maxRecDepth 100000 in
set_option maxHeartbeats 2000000 in
theorem find_any (B R0 : Nat) (R : List ByteArray) (v1 v2 : Value) (x : ByteArray) (w : World) (h : GrS w B R0 R v1 v2) (hR : R.length ≤ 100000) :
    Calls Tryd.prog 41 #[.pointer (some ⟨B, 0, none⟩), .string x] w (FiPost B R0 R v1 v2 x w) := by
  obtain ⟨i0, hi, hz0, hz1, hz2⟩ := info_parts Tryd.infoS
  have HI := Lib.hid hi
  have HZ0 := Lib.hid hz0
  have HZ1 := Lib.hid hz1
  have HZ2 := Lib.hid hz2
  have HG := Lib.hid h
  obtain ⟨c0, c1, f0, f1, hlt, hap, hhi, hrow⟩ := h
  obtain ⟨A, cap, rfl⟩ := own_form hrow
  have HCL : Hid (∀ k, (hk : k < R.length) → ∃ g, A = some ⟨g, 0, none⟩ ∧ w.cell? ⟨g, k, none⟩ = some (.string R[k])) := Lib.hid fun k hk => by
    rcases hrow.2 with ⟨h1, h2⟩ | ⟨g, cap', _, h1, _⟩
    · omega
    · injection h1 with h1 _ _
      subst h1
      exact ⟨g, rfl, (hrow.cellAt k (by omega)).trans (txB_at R k hk)⟩
  clear hi hz0 hz1 hz2 hrow
  go_enter Tryd.func41, Tryd.ntmps41
  go_wp2
  go_loopw [12] (fun t wr => ∃ k : Nat, k ≤ R.length ∧ t = .int .i64 k ∧ Hid (∀ j, (hj : j < R.length) → j < k → R[j] ≠ x) ∧ Hid (wr = w)) (fun t _ => R.length - (intOf t).toNat)
  case atStart => exact ⟨0, Nat.zero_le _, rfl, Lib.hid fun j _ h => by omega, Lib.hid rfl⟩
  case round =>
    obtain ⟨k, hk, rfl, HN, HW⟩ := hrel
    obtain rfl := HW.out
    by_cases hkl : k < R.length
    · obtain ⟨g, rfl, hc⟩ := HCL.out k hkl
      obtain ⟨y, hy⟩ : ∃ y, y = R[k] := ⟨_, rfl⟩
      rw [← hy] at hc
      have HY := Lib.hid hy
      clear hy
      by_cases hyx : y = x
      · have heq : (y.toList == x.toList) = true := by rw [hyx]; simp
        have HYX := Lib.hid hyx
        clear hyx
        go_wp2
        go_ret
        have hx : R[k] = x := by rw [← HY.out]; exact HYX.out
        exact ⟨R, k, _, .inl ⟨hx ▸ List.getElem_mem hkl, rfl⟩, by rw [List.getElem?_eq_getElem hkl, hx], rfl, HG.out, KpF.refl _ _ _, .inl rfl⟩
      · have heq : (y.toList == x.toList) = false := by
          rw [← str_byt y, ← str_byt x, same_str]
          simp
          exact fun e => hyx (byt_inj e)
        have HYX := Lib.hid hyx
        clear hyx
        go_wp2
        go_roundw
        case rel =>
          refine ⟨k + 1, by omega, by go_num, Lib.hid fun j hj hjk => ?_, by first | exact Lib.hid rfl | exact Lib.hid trivial⟩
          by_cases e : j = k
          · subst e
            rw [← HY.out]
            exact HYX.out
          · exact HN.out j hj (by omega)
        case measure => simp [intOf]; omega
    · have hxR : x ∉ R := fun hm => by
        obtain ⟨j, hj, e⟩ := List.getElem_of_mem hm
        exact HN.out j hj (by omega) e
      have HX := Lib.hid hxR
      have hrow := HG.out.row
      have hln : R.length + 1 ≤ maxLen := by unfold maxLen; omega
      have hln2 : (R.length + 1) * 16 ≤ 140737488355328 := by omega
      have hbn : some B ≠ (Value.slice A R.length cap).ownBlock := fun e => hap e.symm
      have HBN := Lib.hid hbn
      clear hxR hbn HN
      go_wp2_with (first
        | (at_builtin; refine wpList_append_lies _ rfl _ _ 22 rfl R0 9 i0 (.string ByteArray.empty) 1 16 Tryd.underlying22 HI.out HZ0.out HZ1.out HZ2.out rfl (by decide) _ R.length _ rfl (hrow.alloc _) ⟨wr.heap.size, 0, none⟩ 1 1 [.string x] rfl rfl (cell_one_atF _ _ (by simp) _ _) (fun u hu => by simp at hu; subst hu; rfl) (by decide) hln hln2 ?_ _ rfl ?_; rotate_right; intro g7 cap7 w6 hrow6 hg6 hat6 hlt6; have hg6' : (wr.alloc (Obj.cells #[.string x] 9)).grownBy w6 (Value.slice A R.length cap).ownBlock := hg6; have hat6' : (Value.slice A R.length cap).ownBlock = some g7 ∨ g7 = (wr.alloc (Obj.cells #[.string x] 9)).heap.size := hat6; have hb6 : w6.heap[B]? = wr.heap[B]? := (hg6'.block B (by simp; omega) HBN.out).trans (((Below.refl wr.heap.size wr).alloc (Nat.le_refl _) (Obj.cells #[.string x] 9)).block B hlt); have c06 := (World.cell?_of_block (a := ⟨B, 0, none⟩) hb6).trans c0; have f06 := frz_block hb6 f0; have f16 := frz_block hb6 f1; clear hg6 hat6))
      · have c16 := (World.cell?_of_block (a := ⟨B, 1, none⟩) hb6).trans c1
        have hB6 : B < w6.heap.size := by have := hg6'.size; simp at this; omega
        have hg7 : g7 ≠ B := by
          rcases hat6' with h | h
          · intro e
            subst e
            exact hap h
          · simp at h
            omega
        have hk : k = R.length := by omega
        go_ret
        refine ⟨R ++ [x], R.length, .slice (some ⟨g7, 0, none⟩) (R.length + 1) cap7, .inr ⟨HX.out, rfl⟩, by simp, rfl, ⟨World.cell?_setCell_same _ _ _ c06, ?_, ?_, ?_, ?_, (fun e => by injection e with e; exact hg7 e), ?_, ?_⟩, ⟨hg6'.os, hg6'.tape, hg6'.output, ?_, ?_⟩, ?_⟩
        · rw [World.cell?_setCell_other _ _ _ _ (by intro e; injection e with _ e; omega)]
          exact c16
        · simpa using f06
        · simpa using f16
        · simpa using hB6
        · have := hg6'.size
          simp at this ⊢
          omega
        · have e : txB (R ++ [x]) = txB R ++ [.string x] := by simp [txB]
          rw [e, List.length_append]
          have hgs : w6.grownBy (w6.setCell ⟨B, 0, none⟩ (.slice (some ⟨g7, 0, none⟩) (R.length + 1) cap7)) (some B) := ⟨rfl, rfl, rfl, by simp, fun k _ hk => Below.heap_setCell _ _ _ _ (fun e => hk (by rw [e]))⟩
          exact hrow6.kept hgs (.inr (by show some g7 ≠ some B; simp; exact hg7))
        · have := hg6'.size
          simp at this ⊢
          omega
        · intro b hb hne hr
          rw [Below.heap_setCell _ _ _ _ hne, hg6'.block b (by simp; omega) hr]
          exact ((Below.refl wr.heap.size wr).alloc (Nat.le_refl _) (Obj.cells #[.string x] 9)).block b hb
        · rcases hat6' with h | h
          · exact .inl h.symm
          · refine .inr fun b hb => ?_
            have hb : some g7 = some b := hb
            injection hb with hb
            simp at h
            omega
      · (try simp); omega
end Go.Proofs.YtdcbjbmnkajjcaaDoor
