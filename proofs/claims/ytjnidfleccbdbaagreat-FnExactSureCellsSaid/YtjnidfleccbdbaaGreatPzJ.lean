/- Contracts: the program's doesFit and DoesFit; the law's walk. -/
import Derived.Test.YtjnidfleccbdbaaGreatPzI
import Derived.Test.YtjnidfleccbdbaaGreatPzCl
import Derived.Laws.StructEq
namespace Go.Proofs.YtjnidfleccbdbaaGreat
open Go.RowKit

theorem eql_cl (a b c d e f : Int) (w : World) : (binOp .eql 45 (.agg #[.int .i64 a, .int .i64 b, .int .i64 c]) (.agg #[.int .i64 d, .int .i64 e, .int .i64 f])).run Tryz.prog w = .ok (.bool (a == d && (b == e && c == f))) w := by
  have u3 := Tryz.underlying3
  have a3 := Tryz.isAgg3
  have z3 := Tryz.sizeOf3
  have hS : Tryz.prog.underlying 45 = some (.struct (Tryz.prog.fieldsOf 45)) := by kernel_rfl
  have hp : Tryz.prog.stoodInHeld 45 = false := by kernel_rfl
  rw [run_eql_struct, show (10000 : Nat) = 9999 + 1 from rfl, run_equalIn_agg w 9999 45 _ _ hS hp]
  simp only [Program.fieldsOf, Tryz.underlying45]
  go_simp
  by_cases h1 : a = d <;> by_cases h2 : b = e <;> by_cases h3 : c = f <;> simp [h1, h2, h3]
theorem fitC_eq (x y z : Int) (l : List UInt8) (h : clueOk l.length x y z = true) :
    fitC (x, y, z) l = if x = 0 then (clV 0 y.toNat l == z) else (clV x 0 l == y && (0 : Int) == z) := by
  unfold fitC
  by_cases h0 : x = 0
  · rw [if_pos h0, if_pos h0]
  · rw [if_neg h0, if_neg h0]
    have hz : z = 0 := by
      unfold clueOk at h
      rw [if_neg h0] at h
      simp only [Bool.and_eq_true, decide_eq_true_eq] at h
      exact h.1
    subst hz
    simp
theorem clue_kind {n x y z : Int} (h : clueOk n x y z = true) : (0 ≤ x ∧ x ≤ 5) ∧ (x = 0 → 0 ≤ y ∧ y < n) := by
  refine ⟨?_, fun h0 => ?_⟩
  · by_cases hk : 0 ≤ x ∧ x ≤ 5
    · exact hk
    · rw [clueOk_none _ _ _ _ hk] at h; cases h
  · subst h0
    unfold clueOk inR at h
    simp only [if_pos, Bool.and_eq_true, decide_eq_true_eq] at h
    omega

set_option maxRecDepth 100000 in
set_option maxHeartbeats 2000000 in
theorem doesFit_any (L B Bt Br Bs : Nat) (l : List UInt8) (x y z : Int) (w : World) (hL : l.length = L) (hg : goodL (str l) = true) (h5 : l.length ≤ 5) (hc : clueOk l.length x y z = true) (hI : TellI w L B Bt Br Bs) :
    Calls Tryz.prog 29 #[telV Bt Br Bs, .agg #[.int .i64 x, .int .i64 y, .int .i64 z], .string (str l)] w (CoP w L B Bt Br Bs (.bool (fitC (x, y, z) l))) := by
  obtain ⟨hk, ha⟩ := clue_kind hc
  have HCO := Lib.hid (fun wx (h : TellI wx L B Bt Br Bs) => clueOf_any L B Bt Br Bs l x y wx hL hg h5 hk ha h)
  have HF := Lib.hid (fitC_eq x y z l hc)
  have hBl := hI.map.lt
  have hB : Below w.heap.size w (w.alloc (Obj.cells #[.int .i64 x, .int .i64 y, .int .i64 z] 45)) := (Below.refl _ _).alloc (Nat.le_refl _) _
  have c0 : (w.alloc (Obj.cells #[.int .i64 x, .int .i64 y, .int .i64 z] 45)).cell? ⟨w.heap.size, 0, none⟩ = some (.int .i64 x) := by rw [cell_new' _ _ _ _ _ rfl]; rfl
  have c1 : (w.alloc (Obj.cells #[.int .i64 x, .int .i64 y, .int .i64 z] 45)).cell? ⟨w.heap.size, 1, none⟩ = some (.int .i64 y) := by rw [cell_new' _ _ _ _ _ rfl]; rfl
  have c2 : (w.alloc (Obj.cells #[.int .i64 x, .int .i64 y, .int .i64 z] 45)).cell? ⟨w.heap.size, 2, none⟩ = some (.int .i64 z) := by rw [cell_new' _ _ _ _ _ rfl]; rfl
  have hlt : w.heap.size < (w.alloc (Obj.cells #[.int .i64 x, .int .i64 y, .int .i64 z] 45)).heap.size := by simp
  have HT := Lib.hid (hI.below hB)
  obtain ⟨W, hW⟩ : ∃ W, W = w.alloc (Obj.cells #[.int .i64 x, .int .i64 y, .int .i64 z] 45) := ⟨_, rfl⟩
  rw [← hW] at hB c0 c1 c2 hlt HT
  have hne : w.heap.size ≠ B := by omega
  have HTD : Hid (TellI W.drew L B Bt Br Bs) := Lib.hid (HT.out.below (Below.drew (Below.refl _ _)))
  have heq := eql_cl
  clear hc hg hI ha
  by_cases h0 : x = 0
  · subst h0
    have HV : Hid (∀ a, clVal 0 a l = .agg #[.int .i64 0, .int .i64 a, .int .i64 (clV 0 a.toNat l)]) := Lib.hid fun a => if_pos rfl
    rw [HV.out] at HCO
    simp only [if_pos] at HF
    generalize clV 0 y.toNat l = V at HCO HF
    generalize hfq : fitC (0, y, z) l = fq at HF ⊢
    clear hfq HV
    generalize str l = s at *
    go_enter Tryz.func29, Tryz.ntmps29
    go_wp2_with fail
    rw [← hW]
    clear hW
    go_region_held3 (fun w' => w'.cell? ⟨w.heap.size, 0, none⟩ = some (.int .i64 0) ∧ w'.cell? ⟨w.heap.size, 1, none⟩ = some (.int .i64 y) ∧ w'.cell? ⟨w.heap.size, 2, none⟩ = some (.int .i64 z)) (first | exact ⟨c0, c1, c2⟩ | exact ⟨(hk1.cell hlt hne).trans c0, (hk1.cell hlt hne).trans c1, (hk1.cell hlt hne).trans c2⟩) (first | (go_at_call 41; refine (HCO.out _ HTD.out).mono ?_; rintro e w1 ⟨rfl, ht1, hk1⟩))
    go_wp2_with fail
    go_ret
    exact ⟨congrArg (fun b => Ending.returned (.bool b)) HF.out.symm, ht1, (KpM.below ((Below.drew hB).mono (Nat.le_refl _))).trans hk1⟩
  · have HV : Hid (clVal x y l = .agg #[.int .i64 x, .int .i64 (clV x 0 l), .int .i64 0]) := Lib.hid (if_neg h0)
    rw [HV.out] at HCO
    simp only [if_neg h0] at HF
    generalize clV x 0 l = V at HCO HF
    generalize hfq : fitC (x, y, z) l = fq at HF ⊢
    clear hfq HV
    generalize str l = s at *
    go_enter Tryz.func29, Tryz.ntmps29
    go_wp2_with fail
    rw [← hW]
    clear hW
    go_region_held3 (fun w' => w'.cell? ⟨w.heap.size, 0, none⟩ = some (.int .i64 x) ∧ w'.cell? ⟨w.heap.size, 1, none⟩ = some (.int .i64 y) ∧ w'.cell? ⟨w.heap.size, 2, none⟩ = some (.int .i64 z)) (first | exact ⟨c0, c1, c2⟩ | exact ⟨(hk1.cell hlt hne).trans c0, (hk1.cell hlt hne).trans c1, (hk1.cell hlt hne).trans c2⟩) (first | (go_at_call 41; refine (HCO.out _ HTD.out).mono ?_; rintro e w1 ⟨rfl, ht1, hk1⟩))
    go_wp2_with fail
    go_ret
    exact ⟨congrArg (fun b => Ending.returned (.bool b)) HF.out.symm, ht1, (KpM.below ((Below.drew hB).mono (Nat.le_refl _))).trans hk1⟩

theorem hid_clue (l : List UInt8) (x y z : Int) : (goodL (str l) && clueC l.length x y z) = (hidB l && clueOk l.length x y z) := by
  unfold hidB clueC inR
  cases hg : goodL (str l)
  · rfl
  · have h1 := ((goodL_iff (str l)).1 hg).1
    rw [str_size] at h1
    rw [decide_eq_true (by omega : (1 : Int) ≤ (l.length : Int)), Bool.true_and, Bool.true_and, Bool.true_and]
    congr 1
    rw [decide_eq_decide]
    omega
end Go.Proofs.YtjnidfleccbdbaaGreat
