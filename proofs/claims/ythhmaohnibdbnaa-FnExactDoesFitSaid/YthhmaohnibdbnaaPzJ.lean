/- Contracts: the program's doesFit and DoesFit; the law's walk. -/
import Derived.Test.YthhmaohnibdbnaaPzI
import Derived.Test.YthhmaohnibdbnaaPzCl
import Derived.Laws.StructEq
namespace Go.Proofs.Ythhmaohnibdbnaa
open Go.RowKit

theorem eql_cl (a b c d e f : Int) (w : World) : (binOp .eql 25 (.agg #[.int .i64 a, .int .i64 b, .int .i64 c]) (.agg #[.int .i64 d, .int .i64 e, .int .i64 f])).run Try.prog w = .ok (.bool (a == d && (b == e && c == f))) w := by
  have u3 := Try.underlying3
  have a3 := Try.isAgg3
  have z3 := Try.sizeOf3
  have hS : Try.prog.underlying 25 = some (.struct (Try.prog.fieldsOf 25)) := by kernel_rfl
  have hp : Try.prog.stoodInHeld 25 = false := by kernel_rfl
  rw [run_eql_struct, show (10000 : Nat) = 9999 + 1 from rfl, run_equalIn_agg w 9999 25 _ _ hS hp]
  simp only [Program.fieldsOf, Try.underlying25]
  go_simp
  by_cases h1 : a = d <;> by_cases h2 : b = e <;> by_cases h3 : c = f <;> simp [h1, h2, h3]
theorem fitC_eq (x y z : Int) (l : List UInt8) (h : clueOk l.length x y z = true) :
    fitC (x, y, z) l = if x = 0 then (clV 0 y.toNat l == z) else (clV x 0 l == y && (0 : Int) == z) := by
  unfold fitC
  by_cases h0 : x = 0
  · rw [if_pos h0, if_pos h0]
  · rw [if_neg h0, if_neg h0]
    have hz : z = 0 := by
      unfold clueOk at h
      rw [if_neg h0] at h
      simp only [Bool.and_eq_true, decide_eq_true_eq] at h
      exact h.1
    subst hz
    simp
theorem clue_kind {n x y z : Int} (h : clueOk n x y z = true) : (0 ≤ x ∧ x ≤ 5) ∧ (x = 0 → 0 ≤ y ∧ y < n) := by
  refine ⟨?_, fun h0 => ?_⟩
  · by_cases hk : 0 ≤ x ∧ x ≤ 5
    · exact hk
    · rw [clueOk_none _ _ _ _ hk] at h; cases h
  · subst h0
    unfold clueOk inR at h
    simp only [if_pos, Bool.and_eq_true, decide_eq_true_eq] at h
    omega

set_option maxRecDepth 100000 in
set_option maxHeartbeats 2000000 in
theorem doesFit_any (L B Bt Br Bs : Nat) (l : List UInt8) (x y z : Int) (w : World) (hL : l.length = L) (hg : goodL (str l) = true) (h5 : l.length ≤ 5) (hc : clueOk l.length x y z = true) (hI : TellI w L B Bt Br Bs) :
    Calls Try.prog 37 #[telV Bt Br Bs, .agg #[.int .i64 x, .int .i64 y, .int .i64 z], .string (str l)] w (CoP w L B Bt Br Bs (.bool (fitC (x, y, z) l))) := by
  obtain ⟨hk, ha⟩ := clue_kind hc
  have HCO := Lib.hid (fun wx (h : TellI wx L B Bt Br Bs) => clueOf_any L B Bt Br Bs l x y wx hL hg h5 hk ha h)
  have HF := Lib.hid (fitC_eq x y z l hc)
  have hBl := hI.map.lt
  have hB : Below w.heap.size w (w.alloc (Obj.cells #[.int .i64 x, .int .i64 y, .int .i64 z] 25)) := (Below.refl _ _).alloc (Nat.le_refl _) _
  have c0 : (w.alloc (Obj.cells #[.int .i64 x, .int .i64 y, .int .i64 z] 25)).cell? ⟨w.heap.size, 0, none⟩ = some (.int .i64 x) := by rw [cell_new' _ _ _ _ _ rfl]; rfl
  have c1 : (w.alloc (Obj.cells #[.int .i64 x, .int .i64 y, .int .i64 z] 25)).cell? ⟨w.heap.size, 1, none⟩ = some (.int .i64 y) := by rw [cell_new' _ _ _ _ _ rfl]; rfl
  have c2 : (w.alloc (Obj.cells #[.int .i64 x, .int .i64 y, .int .i64 z] 25)).cell? ⟨w.heap.size, 2, none⟩ = some (.int .i64 z) := by rw [cell_new' _ _ _ _ _ rfl]; rfl
  have hlt : w.heap.size < (w.alloc (Obj.cells #[.int .i64 x, .int .i64 y, .int .i64 z] 25)).heap.size := by simp
  have HT := Lib.hid (hI.below hB)
  obtain ⟨W, hW⟩ : ∃ W, W = w.alloc (Obj.cells #[.int .i64 x, .int .i64 y, .int .i64 z] 25) := ⟨_, rfl⟩
  rw [← hW] at hB c0 c1 c2 hlt HT
  have hne : w.heap.size ≠ B := by omega
  have HTD : Hid (TellI W.drew L B Bt Br Bs) := Lib.hid (HT.out.below (Below.drew (Below.refl _ _)))
  have heq := eql_cl
  clear hc hg hI ha
  by_cases h0 : x = 0
  · subst h0
    have HV : Hid (∀ a, clVal 0 a l = .agg #[.int .i64 0, .int .i64 a, .int .i64 (clV 0 a.toNat l)]) := Lib.hid fun a => if_pos rfl
    rw [HV.out] at HCO
    simp only [if_pos] at HF
    generalize clV 0 y.toNat l = V at HCO HF
    generalize hfq : fitC (0, y, z) l = fq at HF ⊢
    clear hfq HV
    generalize str l = s at *
    go_enter Try.func37, Try.ntmps37
    go_wp2_with fail
    rw [← hW]
    clear hW
    go_region_held3 (fun w' => w'.cell? ⟨w.heap.size, 0, none⟩ = some (.int .i64 0) ∧ w'.cell? ⟨w.heap.size, 1, none⟩ = some (.int .i64 y) ∧ w'.cell? ⟨w.heap.size, 2, none⟩ = some (.int .i64 z)) (first | exact ⟨c0, c1, c2⟩ | exact ⟨(hk1.cell hlt hne).trans c0, (hk1.cell hlt hne).trans c1, (hk1.cell hlt hne).trans c2⟩) (first | (go_at_call 47; refine (HCO.out _ HTD.out).mono ?_; rintro e w1 ⟨rfl, ht1, hk1⟩))
    go_wp2_with fail
    go_ret
    exact ⟨congrArg (fun b => Ending.returned (.bool b)) HF.out.symm, ht1, (KpM.below ((Below.drew hB).mono (Nat.le_refl _))).trans hk1⟩
  · have HV : Hid (clVal x y l = .agg #[.int .i64 x, .int .i64 (clV x 0 l), .int .i64 0]) := Lib.hid (if_neg h0)
    rw [HV.out] at HCO
    simp only [if_neg h0] at HF
    generalize clV x 0 l = V at HCO HF
    generalize hfq : fitC (x, y, z) l = fq at HF ⊢
    clear hfq HV
    generalize str l = s at *
    go_enter Try.func37, Try.ntmps37
    go_wp2_with fail
    rw [← hW]
    clear hW
    go_region_held3 (fun w' => w'.cell? ⟨w.heap.size, 0, none⟩ = some (.int .i64 x) ∧ w'.cell? ⟨w.heap.size, 1, none⟩ = some (.int .i64 y) ∧ w'.cell? ⟨w.heap.size, 2, none⟩ = some (.int .i64 z)) (first | exact ⟨c0, c1, c2⟩ | exact ⟨(hk1.cell hlt hne).trans c0, (hk1.cell hlt hne).trans c1, (hk1.cell hlt hne).trans c2⟩) (first | (go_at_call 47; refine (HCO.out _ HTD.out).mono ?_; rintro e w1 ⟨rfl, ht1, hk1⟩))
    go_wp2_with fail
    go_ret
    exact ⟨congrArg (fun b => Ending.returned (.bool b)) HF.out.symm, ht1, (KpM.below ((Below.drew hB).mono (Nat.le_refl _))).trans hk1⟩

theorem hid_clue (l : List UInt8) (x y z : Int) : (goodL (str l) && clueC l.length x y z) = (hidB l && clueOk l.length x y z) := by
  unfold hidB clueC inR
  cases hg : goodL (str l)
  · rfl
  · have h1 := ((goodL_iff (str l)).1 hg).1
    rw [str_size] at h1
    rw [decide_eq_true (by omega : (1 : Int) ≤ (l.length : Int)), Bool.true_and, Bool.true_and, Bool.true_and]
    congr 1
    rw [decide_eq_decide]
    omega
set_option maxRecDepth 100000 in
set_option maxHeartbeats 2000000 in
theorem DoesFit_any (l : List UInt8) (x y z : Int) (w : World) (hs : l.length ≤ maxLen) :
    Calls Try.prog 18 #[.agg #[.int .i64 x, .int .i64 y, .int .i64 z], .string (str l)] w fun e w' => e = .returned (boolOr2 (hidB l && clueOk l.length x y z) (fitC (x, y, z) l)) ∧ Below w.heap.size w w' := by
  have hsz : (str l).size = l.length := str_size l
  have hB : Below w.heap.size w (w.alloc (Obj.cells #[.int .i64 x, .int .i64 y, .int .i64 z] 25)) := (Below.refl _ _).alloc (Nat.le_refl _) _
  have HL := Lib.hid (fun wx => isLine_any (str l) wx (by rw [hsz]; exact hs))
  have HK := Lib.hid (fun wx => IsClue_any (l.length : Int) x y z wx)
  unfold maxLen at hs
  rw [← hid_clue]
  cases hg : goodL (str l)
  · rw [hg] at HL
    clear hg hsz HK
    generalize str l = s at *
    go_enter Try.func18, Try.ntmps18
    go_wp2_with fail
    refine (HL.out _).mono ?_; rintro e w' ⟨rfl, rfl⟩
    go_wp2_with fail
    go_ret2
    exact ⟨rfl, hB⟩
  · rw [hg] at HL
    rw [← hsz] at HK
    have hq := hid_clue l x y z
    rw [hg, Bool.true_and] at hq
    cases hck : clueC l.length x y z
    · rw [← hsz] at hck
      rw [hck] at HK
      clear hck hq hg hsz
      generalize str l = s at *
      go_enter Try.func18, Try.ntmps18
      go_wp2_with fail
      refine (HL.out _).mono ?_; rintro e w' ⟨rfl, rfl⟩
      go_wp2_with fail
      refine (HK.out _).mono ?_; rintro e w1 ⟨rfl, hb1⟩
      go_wp2_with fail
      go_ret2
      exact ⟨rfl, hB.trans (hb1.mono (by simp))⟩
    · rw [hck] at hq
      obtain ⟨h5, hok⟩ : l.length ≤ 5 ∧ clueOk l.length x y z = true := by
        have hq := hq.symm
        simp only [Bool.and_eq_true] at hq
        refine ⟨?_, hq.2⟩
        have := hq.1
        unfold hidB at this
        simp only [Bool.and_eq_true, decide_eq_true_eq] at this
        exact this.2
      rw [← hsz] at hck
      rw [hck] at HK
      have HD := Lib.hid (fun B Bt Br Bs wx (h : TellI wx l.length B Bt Br Bs) => doesFit_any l.length B Bt Br Bs l x y z wx rfl hg h5 hok h)
      have HW := Lib.hid (fun wx => winning_ex l.length wx)
      clear hck hq hg hsz hok
      generalize fitC (x, y, z) l = F at *
      generalize str l = s at *
      go_enter Try.func18, Try.ntmps18
      go_wp2_with fail
      refine (HL.out _).mono ?_; rintro e w' ⟨rfl, rfl⟩
      go_wp2_with fail
      refine (HK.out _).mono ?_; rintro e w1 ⟨rfl, hb1⟩
      have c0 : w1.cell? ⟨w.heap.size, 0, none⟩ = some (.int .i64 x) := by rw [(bcell hb1).1 _ _ (by simp), cell_new' _ _ _ _ _ rfl]; rfl
      have c1 : w1.cell? ⟨w.heap.size, 1, none⟩ = some (.int .i64 y) := by rw [(bcell hb1).1 _ _ (by simp), cell_new' _ _ _ _ _ rfl]; rfl
      have c2 : w1.cell? ⟨w.heap.size, 2, none⟩ = some (.int .i64 z) := by rw [(bcell hb1).1 _ _ (by simp), cell_new' _ _ _ _ _ rfl]; rfl
      have hB1 := hB.trans (hb1.mono (by simp))
      have hlt : w.heap.size < w1.heap.size := by have := hb1.size; simp at this; omega
      go_wp2_with fail
      go_region_held3 (fun w' => w'.cell? ⟨w.heap.size, 0, none⟩ = some (.int .i64 x) ∧ w'.cell? ⟨w.heap.size, 1, none⟩ = some (.int .i64 y) ∧ w'.cell? ⟨w.heap.size, 2, none⟩ = some (.int .i64 z)) (first | exact ⟨c0, c1, c2⟩ | exact ⟨(hb2.cell hlt).trans c0, (hb2.cell hlt).trans c1, (hb2.cell hlt).trans c2⟩ | exact ⟨((hb2.trans (hb3.mono (Nat.le_refl _))).cell hlt).trans c0, ((hb2.trans (hb3.mono (Nat.le_refl _))).cell hlt).trans c1, ((hb2.trans (hb3.mono (Nat.le_refl _))).cell hlt).trans c2⟩) (first | (go_at_call 38; refine (HW.out _).mono ?_; rintro e w2 ⟨B, Bt, Br, Bs, rfl, ht2, hle, hb2⟩) | (go_at_call 37; refine (HD.out B Bt Br Bs _ ht2).mono ?_; rintro e w3 ⟨rfl, ht3, hk3⟩; have hb3 : Below w1.drew.heap.size w2 w3 := hk3.to_below hle hb2.size))
      have hBe : Below w.heap.size w w3 := (Below.drew hB1).trans ((hb2.trans (hb3.mono (Nat.le_refl _))).mono hB1.size)
      go_wp2_with fail
      go_ret2
      exact ⟨rfl, hBe⟩

set_option maxRecDepth 100000 in
set_option maxHeartbeats 2000000 in
theorem walk_FnExactDoesFit (a b c : Int) (s : ByteArray) (hs : s.size ≤ maxLen) (w : World) :
    Calls Try.prog 5 #[.agg #[.int .i64 a, .int .i64 b, .int .i64 c], .string s] w fun e w' => e = .returned (.bool true) ∧ Below w.heap.size w w' := by
  obtain ⟨l, rfl⟩ : ∃ l, s = str l := ⟨byt s, (str_byt s).symm⟩
  have hB : Below w.heap.size w (w.alloc (Obj.cells #[.int .i64 a, .int .i64 b, .int .i64 c] 23)) := (Below.refl _ _).alloc (Nat.le_refl _) _
  by_cases hbig0 : (1048576 : Int) < ((str l).size : Int)
  · generalize str l = s at *
    go_enter Try.func5, Try.ntmps5
    go_wp2
    go_ret
    exact ⟨rfl, hB⟩
  · rw [str_size] at hs
    have HS := Lib.hid (fun wx => sDoesFit_any l a b c wx hs)
    have HM := Lib.hid (fun wx => DoesFit_any l a b c wx hs)
    clear hs
    unfold boolOr2 at HS HM
    generalize (hidB l && clueOk l.length a b c) = p at HS HM
    generalize (p && fitC (a, b, c) l) = q at HS HM
    generalize str l = s at *
    go_enter Try.func5, Try.ntmps5
    go_wp2_with fail
    refine (toClue_any a b c _).mono ?_
    rintro e w1 ⟨rfl, hb1⟩
    have h1 := hB.trans (hb1.mono hB.size)
    have k1 := hb1
    go_wp2_with fail
    refine (HS.out _).mono ?_
    rintro e w2 ⟨rfl, hb2⟩
    have h2 := h1.trans (hb2.mono h1.size)
    have k2 := k1.trans (hb2.mono k1.size)
    have d0 : w2.cell? ⟨w.heap.size, 0, none⟩ = some (.int .i64 a) := by rw [(bcell k2).1 _ _ (by simp), cell_new' _ _ _ _ _ rfl]; rfl
    have d1 : w2.cell? ⟨w.heap.size, 1, none⟩ = some (.int .i64 b) := by rw [(bcell k2).1 _ _ (by simp), cell_new' _ _ _ _ _ rfl]; rfl
    have d2 : w2.cell? ⟨w.heap.size, 2, none⟩ = some (.int .i64 c) := by rw [(bcell k2).1 _ _ (by simp), cell_new' _ _ _ _ _ rfl]; rfl
    go_wp2_with fail
    refine (toClue_any a b c _).mono ?_
    rintro e w3 ⟨rfl, hb3⟩
    have h3 := h2.trans (hb3.mono h2.size)
    go_wp2_with fail
    refine (HM.out _).mono ?_
    rintro e w4 ⟨rfl, hb4⟩
    have h4 := h3.trans (hb4.mono h3.size)
    go_wp2
    go_ret
    exact ⟨rfl, h4⟩
end Go.Proofs.Ythhmaohnibdbnaa
