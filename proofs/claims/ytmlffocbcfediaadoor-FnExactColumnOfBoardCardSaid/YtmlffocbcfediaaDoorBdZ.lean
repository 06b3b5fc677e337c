/- RowOfBoard: both sides' contracts. -/
import Derived.Test.YtmlffocbcfediaaDoorBdYb
import Derived.Test.YtmlffocbcfediaaDoorBdX
namespace Go.Proofs.YtmlffocbcfediaaDoor
open Go.RowKit

/-- A row of a board, if it is there. -/
def rowAsk (l : List UInt8) (k : Int) : Bool := goodB l && decide (0 ≤ k) && decide (k < (spl l).length)
def rowAt (l : List UInt8) (k : Int) : List UInt8 := (spl l).getD k.toNat []
theorem rowAsk_iff (l : List UInt8) (k : Int) : rowAsk l k = true ↔ goodB l = true ∧ 0 ≤ k ∧ k < (spl l).length := by
  unfold rowAsk
  rw [Bool.and_eq_true, Bool.and_eq_true, decide_eq_true_iff, decide_eq_true_iff, and_assoc]

set_option maxRecDepth 100000 in
set_option maxHeartbeats 1000000 in
theorem sRow_any (s : ByteArray) (k : Int) (w : World) (hs : s.size ≤ maxLen) :
    Calls Tryd.prog 28 #[.string s, .int .i64 k] w fun e w' => e = .returned (strOr (rowAsk (byt s) k) (rowAt (byt s) k)) ∧ Below w.heap.size w w' := by
  cases hc : goodB (byt s)
  · have HR := Lib.hid (fun wx => boRows_no s wx hs hc)
    have e : rowAsk (byt s) k = false := by unfold rowAsk; rw [hc]; rfl
    rw [e, strOr_no _ _ rfl]
    clear hc e
    go_enter Tryd.func28, Tryd.ntmps28
    go_wp2_with fail
    refine (HR.out _).mono ?_
    rintro e w1 ⟨rfl, hb1⟩
    go_wp2
    go_ret2
    exact ⟨rfl, hb1⟩
  · have HR := Lib.hid (fun wx => boRows_yes s wx hs hc)
    have h5 := ((boOk_iff _).1 hc).1
    have hask : rowAsk (byt s) k = (decide (0 ≤ k) && decide (k < (spl (byt s)).length)) := by unfold rowAsk; rw [hc]; rfl
    unfold rowAt
    rw [hask]
    clear hask hc
    generalize spl (byt s) = R at HR h5 ⊢
    have HIN := Lib.hid (fun wx => l1In_any k 0 ((R.length : Int) - 1) wx)
    by_cases h0 : 0 ≤ k
    · by_cases h1 : k < R.length
      · have e : (decide (0 ≤ k) && decide (k < R.length)) = true := by simp [h0, h1]
        rw [e, strOr_yes _ _ rfl]
        have hin : inR k 0 ((R.length : Int) - 1) = true := by unfold inR; simp; omega
        rw [hin] at HIN
        obtain ⟨q, rfl⟩ := Int.eq_ofNat_of_zero_le h0
        have hq : q < R.length := by omega
        have hgd : R.getD (q : Int).toNat [] = R[q] := by
          show R.getD q [] = _
          rw [List.getD_eq_getElem?_getD, List.getElem?_eq_getElem hq]; rfl
        rw [hgd]
        obtain ⟨x, hx⟩ : ∃ x, x = str R[q] := ⟨_, rfl⟩
        rw [← hx]
        have HX := Lib.hid hx
        clear hgd e hin hx
        go_enter Tryd.func28, Tryd.ntmps28
        go_wp2_with fail
        refine (HR.out _).mono ?_
        rintro e w1 ⟨A, cap, rfl, hle, AT, hb1⟩
        obtain ⟨g, rfl, hg, hcell⟩ := AT q hq
        rw [← HX.out] at hcell
        clear AT
        go_wp2_with (go_at_call 57; refine (HIN.out _).mono ?_; rintro e w' ⟨rfl, rfl⟩)
        go_ret2
        exact ⟨rfl, hb1⟩
      · have e : (decide (0 ≤ k) && decide (k < R.length)) = false := by simp [h1]
        rw [e, strOr_no _ _ rfl]
        have hin : inR k 0 ((R.length : Int) - 1) = false := by unfold inR; simp; omega
        rw [hin] at HIN
        clear e hin
        go_enter Tryd.func28, Tryd.ntmps28
        go_wp2_with fail
        refine (HR.out _).mono ?_
        rintro e w1 ⟨A, cap, rfl, hle, AT, hb1⟩
        clear AT
        go_wp2_with (go_at_call 57; refine (HIN.out _).mono ?_; rintro e w' ⟨rfl, rfl⟩)
        go_ret2
        exact ⟨rfl, hb1⟩
    · have e : (decide (0 ≤ k) && decide (k < R.length)) = false := by simp [h0]
      rw [e, strOr_no _ _ rfl]
      have hin : inR k 0 ((R.length : Int) - 1) = false := by unfold inR; simp; omega
      rw [hin] at HIN
      clear e hin
      go_enter Tryd.func28, Tryd.ntmps28
      go_wp2_with fail
      refine (HR.out _).mono ?_
      rintro e w1 ⟨A, cap, rfl, hle, AT, hb1⟩
      clear AT
      go_wp2_with (go_at_call 57; refine (HIN.out _).mono ?_; rintro e w' ⟨rfl, rfl⟩)
      go_ret2
      exact ⟨rfl, hb1⟩
/-- The bytes of a row, out of a block. -/
theorem row_bytes {R : List (List UInt8)} {wd : Nat} (h : ∀ r ∈ R, r.length = wd) {w : World} {g : Nat} (hb : BsAt w g R.flatten) (q : Nat) (hq : q < R.length) :
    ∀ j (hj : j < R[q].length), w.cell? ⟨g, q * wd + j, none⟩ = some (.int .u8 R[q][j].toNat) := by
  intro j hj
  have hl := h _ (List.getElem_mem hq)
  have hfl := flat_eq R wd h
  have hlt : q * wd + j < R.flatten.length := by
    rw [hfl]
    have : (q + 1) * wd ≤ R.length * wd := Nat.mul_le_mul_right wd hq
    rw [Nat.add_mul] at this
    omega
  have e := hb (q * wd + j) hlt
  have h2 := flat_get R wd q j h hq (by omega)
  rw [List.getD_eq_getElem?_getD, List.getElem?_eq_getElem hlt, List.getD_eq_getElem?_getD, List.getD_eq_getElem?_getD, List.getElem?_eq_getElem hq] at h2
  simp only [Option.getD_some] at h2
  rw [List.getElem?_eq_getElem hj] at h2
  simp only [Option.getD_some] at h2
  rw [e, h2]

theorem own_op {w : World} {base n : Nat} {e : TypeId} {v : Value} {vs : List Value} (ho : w.ownsRow base e 1 v n vs) (hn : 0 < n) : ∃ g cap, v = .slice (some ⟨g, 0, none⟩) n cap ∧ base ≤ g ∧ g < w.heap.size ∧ n ≤ cap ∧ cap ≤ maxLen ∧ ∀ k (h : k < vs.length), w.cell? ⟨g, k, none⟩ = some vs[k] := by
  obtain ⟨hlen, h2 | ⟨g, cap, cur, rfl, hb, hg, hle, hm, hs, ht⟩⟩ := ho
  · omega
  · have ho : w.ownsRow base e 1 (.slice (some ⟨g, 0, none⟩) n cap) n vs := ⟨hlen, .inr ⟨g, cap, cur, rfl, hb, hg, hle, hm, hs, ht⟩⟩
    refine ⟨g, cap, rfl, hb, (Array.getElem?_eq_some_iff.1 hg).1, hle, hm, fun k hk => ?_⟩
    have := ho.cells (g := g) rfl k vs[k] (by simp)
    rw [addr_o, Nat.zero_add] at this
    exact this
/-- The rows of the program's board: slices of its bytes. -/
def RwP (g wd hi : Nat) (w : World) (e : Ending) (w' : World) : Prop :=
  ∃ g' c', e = .returned (.slice (some ⟨g', 0, none⟩) hi c') ∧ w.heap.size ≤ g' ∧ g' < w'.heap.size ∧ hi ≤ c' ∧ (∀ k, k < hi → w'.cell? ⟨g', k, none⟩ = some (.slice (some ⟨g, k * wd, none⟩) wd wd)) ∧ Below w.heap.size w w'
theorem rowsB_any (fl g wd hi cap : Nat) (hfl : fl = hi * wd) (hwd : 1 ≤ wd) (hw5 : wd ≤ 1000) (hh1 : 1 ≤ hi) (hh5 : hi ≤ 1000) (hcap : fl ≤ cap) (w : World) :
    Calls Tryd.prog 58 #[.agg #[.int .i64 wd, .slice (some ⟨g, 0, none⟩) fl cap]] w (RwP g wd hi w) := by
  subst hfl
  refine (rows_any g wd hi cap hwd hw5 hh5 hcap w).mono ?_
  rintro e w1 ⟨v, rfl, ho, hb⟩
  obtain ⟨g', c', rfl, h1, h2, h3, _, h4⟩ := own_op ho hh1
  refine ⟨g', c', rfl, h1, h2, h3, fun k hk => ?_, hb⟩
  rw [h4 k (by simpa using hk)]
  simp [chV]

set_option maxRecDepth 100000 in
set_option maxHeartbeats 1000000 in
theorem row_any (s : ByteArray) (k : Int) (w : World) (hs : s.size ≤ 2000000) :
    Calls Tryd.prog 29 #[.string s, .int .i64 k] w fun e w' => e = .returned (strOr (rowAsk (byt s) k) (rowAt (byt s) k)) ∧ Below w.heap.size w w' := by
  cases hc : goodB (byt s)
  · have HR := Lib.hid (fun wx => boardOf_no s wx hs hc)
    have e : rowAsk (byt s) k = false := by unfold rowAsk; rw [hc]; rfl
    rw [e, strOr_no _ _ rfl]
    clear hc e
    go_enter Tryd.func29, Tryd.ntmps29
    go_wp2_with fail
    refine (HR.out _).mono ?_
    rintro e w1 ⟨rfl, hb1⟩
    go_wp2
    go_ret2
    exact ⟨rfl, hb1.alloc hb1.size _⟩
  · have HR := Lib.hid (fun wx => boardOf_yes s wx hs hc)
    obtain ⟨g1, g2, g3, g4, g5⟩ := good_size hc
    obtain ⟨_, hrow⟩ := (boOk_iff _).1 hc
    have hask : rowAsk (byt s) k = (decide (0 ≤ k) && decide (k < (spl (byt s)).length)) := by unfold rowAsk; rw [hc]; rfl
    have HLW : Hid (∀ r ∈ spl (byt s), r.length = ((spl (byt s)).headD []).length) := Lib.hid fun r hr => (hrow r hr).2.2
    unfold rowAt
    rw [hask]
    clear hask hc hrow
    generalize ((spl (byt s)).headD []).length = wd at HR g1 g2 g5 HLW ⊢
    generalize spl (byt s) = R at HR g3 g4 g5 HLW ⊢
    obtain ⟨hi, hhi⟩ : ∃ hi, hi = R.length := ⟨_, rfl⟩
    rw [← hhi] at g3 g4 g5 ⊢
    have HHI := Lib.hid hhi
    have hf5 : R.flatten.length ≤ 25 := by
      rw [g5]
      have := Nat.mul_le_mul g4 g2
      omega
    have hq : R.flatten.length / wd = hi := by rw [g5]; exact Nat.mul_div_cancel _ (by omega)
    have HH := Lib.hid (fun g cap wx => high_any wd g cap R.flatten.length wx g1 (by omega) (by omega))
    rw [hq] at HH
    have HRO := Lib.hid (fun g cap hcap wx => rowsB_any R.flatten.length g wd hi cap g5 g1 (by omega) g3 (by omega) hcap wx)
    have HRB := Lib.hid (fun (wx : World) (g : Nat) (h : BsAt wx g R.flatten) => row_bytes HLW.out h)
    clear hq g5 hhi
    obtain ⟨F, hF⟩ : ∃ F, F = R.flatten := ⟨_, rfl⟩
    rw [← hF] at HR hf5 HH HRO HRB
    clear hF
    by_cases h0 : 0 ≤ k
    · by_cases h1 : k < hi
      · have e : (decide (0 ≤ k) && decide (k < hi)) = true := by simp [h0, h1]
        rw [e, strOr_yes _ _ rfl]
        obtain ⟨q, rfl⟩ := Int.eq_ofNat_of_zero_le h0
        have hq : q < R.length := by rw [← HHI.out]; omega
        have hqh : q < hi := by omega
        have hgd : R.getD (q : Int).toNat [] = R[q] := by
          show R.getD q [] = _
          rw [List.getD_eq_getElem?_getD, List.getElem?_eq_getElem hq]; rfl
        rw [hgd]
        have HLQ := Lib.hid (HLW.out _ (List.getElem_mem hq))
        have HRQ := Lib.hid (fun wx g h => HRB.out wx g h q hq)
        clear hgd e HRB HLW h0
        generalize R[q] = r at HLQ HRQ ⊢
        obtain ⟨m, hm⟩ : ∃ m, m = q * wd := ⟨_, rfl⟩
        rw [← hm] at HRQ
        have HRO2 := Lib.hid (fun (v' : World) (g g' : Nat) (h : ∀ k, k < hi → v'.cell? ⟨g', k, none⟩ = some (.slice (some ⟨g, k * wd, none⟩) wd wd)) => (by rw [hm]; exact h q hqh : v'.cell? ⟨g', q, none⟩ = some (.slice (some ⟨g, m, none⟩) wd wd)))
        clear hm hq
        go_enter Tryd.func29, Tryd.ntmps29
        go_wp2_with fail
        refine (HR.out _).mono ?_
        rintro e w1 ⟨g, cap, rfl, b1, b2, b3, b4, hb1⟩
        have HB4 := Lib.hid b4
        clear b4
        have HHg := Lib.hid (fun wx => HH.out g cap wx)
        have HRg := Lib.hid (fun wx => HRO.out g cap b3 wx)
        generalize F.length = fl at HHg HRg b3 hf5 ⊢
        clear HH HRO
        go_wp2_with fail
        obtain ⟨W2, hW2⟩ : ∃ W2, W2 = w1.alloc (Obj.cells #[.int .i64 wd, .slice (some ⟨g, 0, none⟩) fl cap] 51) := ⟨_, rfl⟩
        rw [← hW2]
        have c0 : W2.cell? ⟨w1.heap.size, 0, none⟩ = some (.int .i64 wd) := by rw [hW2, World.cell?_alloc_new]; rfl
        have c1 : W2.cell? ⟨w1.heap.size, 1, none⟩ = some (.slice (some ⟨g, 0, none⟩) fl cap) := by rw [hW2, World.cell?_alloc_new]; rfl
        have z2 : w1.heap.size < W2.heap.size := by rw [hW2]; simp
        have HB2 := Lib.hid (hb1.alloc hb1.size (Obj.cells #[.int .i64 wd, .slice (some ⟨g, 0, none⟩) fl cap] 51))
        rw [← hW2] at HB2
        have HBS2 : Hid (BsAt W2 g F) := Lib.hid (by rw [hW2]; exact HB4.out.below b2 ((Below.refl _ _).alloc (Nat.le_refl _) _))
        have hg2 : g < W2.heap.size := by omega
        clear hW2 HB4 hb1
        refine (HHg.out _).mono ?_
        rintro e w3 ⟨rfl, hb3⟩
        have d0 := (hb3.cell (p := ⟨w1.heap.size, 0, none⟩) z2).trans c0
        have d1 := (hb3.cell (p := ⟨w1.heap.size, 1, none⟩) z2).trans c1
        have HBS3 := Lib.hid (HBS2.out.below hg2 hb3)
        have hg3 : g < w3.heap.size := Nat.lt_of_lt_of_le hg2 hb3.size
        have HB3 := Lib.hid (HB2.out.trans (hb3.mono HB2.out.size))
        clear c0 c1 hb3 HBS2
        go_wp2_with fail
        refine (HRg.out _).mono ?_
        rintro e w4 ⟨g', c', rfl, r1, r2, r3, r4, hb4⟩
        have hcell := HRO2.out w4 g g' r4
        have HBS4 := Lib.hid (HBS3.out.below hg3 hb4)
        have HB5 := Lib.hid (HB3.out.trans (hb4.mono HB3.out.size))
        have hcv := run_convert_bytes_back (P := Tryd.prog) w4 49 9 5 ⟨g, m, none⟩ wd r Tryd.underlying49 Tryd.underlying5 Tryd.underlying9 (by
          intro j hj
          rw [addr_o]
          exact HRQ.out w4 g HBS4.out j hj)
        rw [HLQ.out] at hcv
        clear r4 hb4
        go_wp2
        go_ret2
        exact ⟨rfl, HB5.out⟩
      · have e : (decide (0 ≤ k) && decide (k < hi)) = false := by simp [h1]
        rw [e, strOr_no _ _ rfl]
        clear HRB HLW e HRO
        go_enter Tryd.func29, Tryd.ntmps29
        go_wp2_with fail
        refine (HR.out _).mono ?_
        rintro e w1 ⟨g, cap, rfl, b1, b2, b3, b4, hb1⟩
        clear b4
        have HHg := Lib.hid (fun wx => HH.out g cap wx)
        generalize F.length = fl at HHg b3 hf5 ⊢
        clear HH
        go_wp2_with fail
        obtain ⟨W2, hW2⟩ : ∃ W2, W2 = w1.alloc (Obj.cells #[.int .i64 wd, .slice (some ⟨g, 0, none⟩) fl cap] 51) := ⟨_, rfl⟩
        rw [← hW2]
        have c0 : W2.cell? ⟨w1.heap.size, 0, none⟩ = some (.int .i64 wd) := by rw [hW2, World.cell?_alloc_new]; rfl
        have c1 : W2.cell? ⟨w1.heap.size, 1, none⟩ = some (.slice (some ⟨g, 0, none⟩) fl cap) := by rw [hW2, World.cell?_alloc_new]; rfl
        have z2 : w1.heap.size < W2.heap.size := by rw [hW2]; simp
        have HB2 := Lib.hid (hb1.alloc hb1.size (Obj.cells #[.int .i64 wd, .slice (some ⟨g, 0, none⟩) fl cap] 51))
        rw [← hW2] at HB2
        clear hW2 hb1
        refine (HHg.out _).mono ?_
        rintro e w3 ⟨rfl, hb3⟩
        go_wp2
        go_ret2
        exact ⟨rfl, HB2.out.trans (hb3.mono HB2.out.size)⟩
    · have e : (decide (0 ≤ k) && decide (k < hi)) = false := by simp [h0]
      rw [e, strOr_no _ _ rfl]
      clear HRB HLW e HRO HH
      go_enter Tryd.func29, Tryd.ntmps29
      go_wp2_with fail
      refine (HR.out _).mono ?_
      rintro e w1 ⟨g, cap, rfl, b1, b2, b3, b4, hb1⟩
      clear b4
      generalize F.length = fl at b3 hf5 ⊢
      go_wp2
      go_ret2
      exact ⟨rfl, hb1.alloc hb1.size _⟩
set_option maxRecDepth 100000 in
set_option maxHeartbeats 2000000 in
theorem walk_FnExactRowOfBoard (s : ByteArray) (hs : s.size ≤ maxLen) (k : Int) (_ : (Lit.int .i64 k).wf = true) (w : World) :
    Calls Tryd.prog 8 #[.string s, .int .i64 k] w fun e w' => e = .returned (.bool true) ∧ Below w.heap.size w w' := by
  by_cases hbig0 : (1048576 : Int) < (s.size : Int)
  · go_enter Tryd.func8, Tryd.ntmps8
    go_wp2
    go_ret
    exact ⟨rfl, Below.refl _ _⟩
  · skip
    have HS := Lib.hid (fun wx => sRow_any s k wx hs)
    have HM := Lib.hid (fun wx => row_any s k wx (by omega))
    obtain ⟨x, y, hxy⟩ : ∃ x y, strOr (rowAsk (byt s) k) (rowAt (byt s) k) = .tuple #[.string x, .bool y] := by cases rowAsk (byt s) k <;> exact ⟨_, _, rfl⟩
    rw [hxy] at HS HM
    clear hxy
    go_enter Tryd.func8, Tryd.ntmps8
    go_wp2_with fail
    refine (HS.out _).mono ?_
    rintro e w1 ⟨rfl, hb1⟩
    go_wp2_with fail
    refine (HM.out _).mono ?_
    rintro e w2 ⟨rfl, hb2⟩
    go_wp2
    go_ret
    exact ⟨rfl, hb1.trans (hb2.mono hb1.size)⟩
end Go.Proofs.YtmlffocbcfediaaDoor
