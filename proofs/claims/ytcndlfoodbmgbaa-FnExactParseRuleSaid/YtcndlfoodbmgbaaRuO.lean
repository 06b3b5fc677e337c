/- The text of a rule, read. -/
import Derived.Test.YtcndlfoodbmgbaaRuT
import Derived.Test.YtcndlfoodbmgbaaShelfB
import Derived.Lib.IndexAny
namespace Go.Proofs.Ytcndlfoodbmgbaa
open Go.RowKit

def hasC (s : ByteArray) (c : UInt8) : Bool := (byt s).contains c
theorem contains_any (s : ByteArray) (c : UInt8) (w : World) : Calls Try.prog 95 #[.string s, .string ⟨#[c]⟩] w fun e w' => e = .returned (.bool (hasC s c)) ∧ w = w' := by
  refine (Try.strings_Contains_one s c w).mono ?_
  rintro e w' ⟨rfl, rfl⟩
  refine ⟨?_, rfl⟩
  unfold hasC
  rw [Lib.contains_iff_indexByte]
  rfl
/-- The rule that a text would tell, and whether it does. -/
def parV (s : ByteArray) : Value := if str (ruT (hasC s 111) (hasC s 98) (hasC s 108)) = s then .tuple #[ruV (hasC s 111) (hasC s 98) (hasC s 108), .bool true] else .tuple #[ruV false false false, .bool false]
theorem ruT_has (o b l : Bool) : hasC (str (ruT o b l)) 111 = o ∧ hasC (str (ruT o b l)) 98 = b ∧ hasC (str (ruT o b l)) 108 = l := by
  unfold hasC
  rw [byt_str]
  cases o <;> cases b <;> cases l <;> decide
theorem results_par (tmps : Array Value) (w : World) (g : Nat) (x y z : Value) (hp : tmps.getD 2 undef = .pointer (some ⟨g, 0, none⟩)) (c0 : w.cell? ⟨g, 0, none⟩ = some x) (c1 : w.cell? ⟨g, 1, none⟩ = some y) (c2 : w.cell? ⟨g, 2, none⟩ = some z) :
    (results Try.f54 tmps).run Try.prog w = .ok (.tuple #[.agg #[x, y, z], tmps.getD 3 undef]) w := by
  have hr : Try.f54.results = #[.cell 2 27, .tmp 3] := rfl
  unfold results
  rw [hr]
  simp at hp
  simp [hp, asAddr, c0, c1, c2, go_sem]
theorem results_ruPar (tmps : Array Value) (w : World) (g : Nat) (x y z : Value) (hp : tmps.getD 2 undef = .pointer (some ⟨g, 0, none⟩)) (c0 : w.cell? ⟨g, 0, none⟩ = some x) (c1 : w.cell? ⟨g, 1, none⟩ = some y) (c2 : w.cell? ⟨g, 2, none⟩ = some z) :
    (results Try.f94 tmps).run Try.prog w = .ok (.tuple #[.agg #[x, y, z], tmps.getD 3 undef]) w := by
  have hr : Try.f94.results = #[.cell 2 27, .tmp 3] := rfl
  unfold results
  rw [hr]
  simp at hp
  simp [hp, asAddr, c0, c1, c2, go_sem]
theorem set3 {W : World} {B : Nat} {a b c : Value} (x y z : Value) (h0 : W.cell? ⟨B, 0, none⟩ = some a) (h1 : W.cell? ⟨B, 1, none⟩ = some b) (h2 : W.cell? ⟨B, 2, none⟩ = some c) :
    (((W.setCell ⟨B, 0, none⟩ x).setCell ⟨B, 1, none⟩ y).setCell ⟨B, 2, none⟩ z).cell? ⟨B, 0, none⟩ = some x ∧ (((W.setCell ⟨B, 0, none⟩ x).setCell ⟨B, 1, none⟩ y).setCell ⟨B, 2, none⟩ z).cell? ⟨B, 1, none⟩ = some y ∧
      (((W.setCell ⟨B, 0, none⟩ x).setCell ⟨B, 1, none⟩ y).setCell ⟨B, 2, none⟩ z).cell? ⟨B, 2, none⟩ = some z := by
  refine ⟨?_, ?_, ?_⟩
  · rw [World.cell?_setCell_other _ _ _ _ (by simp), World.cell?_setCell_other _ _ _ _ (by simp), World.cell?_setCell_same _ _ _ h0]
  · rw [World.cell?_setCell_other _ _ _ _ (by simp), World.cell?_setCell_same _ _ _ (by rw [World.cell?_setCell_other _ _ _ _ (by simp)]; exact h1)]
  · rw [World.cell?_setCell_same _ _ _ (by rw [World.cell?_setCell_other _ _ _ _ (by simp), World.cell?_setCell_other _ _ _ _ (by simp)]; exact h2)]
/-- A rule's block, whole. -/
def BlU (W : World) (B : Nat) (x y z : Value) : Prop := W.heap[B]? = some (.cells #[x, y, z] 27 (0, 0))
theorem BlU.new (W : World) (x y z : Value) : BlU (W.alloc (.cells #[x, y, z] 27)) W.heap.size x y z := heap_alloc_new W _
theorem BlU.alloc {W : World} {B : Nat} {x y z : Value} (h : BlU W B x y z) (o : Obj) : BlU (W.alloc o) B x y z := (Below.heap_alloc W o B (Array.getElem?_eq_some_iff.1 h).1).trans h
theorem BlU.below {W W' : World} {B : Nat} {x y z : Value} (h : BlU W B x y z) (hb : Below W.heap.size W W') : BlU W' B x y z := (hb.block B (Array.getElem?_eq_some_iff.1 h).1).trans h
theorem BlU.all {W : World} {B : Nat} {x y z : Value} (h : BlU W B x y z) : W.cell? ⟨B, 0, none⟩ = some x ∧ W.cell? ⟨B, 1, none⟩ = some y ∧ W.cell? ⟨B, 2, none⟩ = some z ∧ W.frozen? ⟨B, 0, none⟩ = false ∧ W.frozen? ⟨B, 1, none⟩ = false ∧ W.frozen? ⟨B, 2, none⟩ = false := by
  have h : W.heap[B]? = _ := h
  refine ⟨?_, ?_, ?_, ?_, ?_, ?_⟩ <;> simp [World.cell?, World.frozen?, h]
theorem eq_bytes (a b : ByteArray) : (a.toList == b.toList) = decide (a = b) := by
  rw [Lib.toList_data, Lib.toList_data]
  by_cases h : a = b
  · subst h; simp
  · rw [decide_eq_false h, beq_eq_false_iff_ne]
    intro e
    exact h (by rw [← str_byt a, ← str_byt b]; exact congrArg str e)

set_option maxRecDepth 100000 in
set_option maxHeartbeats 4000000 in
theorem parseRule_any (s : ByteArray) (w : World) :
    Calls Try.prog 54 #[.string s] w fun e w' => e = .returned (parV s) ∧ Below w.heap.size w w' := by
  have H1 := Lib.hid (fun wx => contains_any s 111 wx)
  have H2 := Lib.hid (fun wx => contains_any s 98 wx)
  have H3 := Lib.hid (fun wx => contains_any s 108 wx)
  by_cases he : str (ruT (hasC s 111) (hasC s 98) (hasC s 108)) = s
  · have hV : Hid (parV s = .tuple #[ruV (hasC s 111) (hasC s 98) (hasC s 108), .bool true]) := Lib.hid (by unfold parV; rw [if_pos he])
    have heq : ((str (ruT (hasC s 111) (hasC s 98) (hasC s 108))).toList == s.toList) = true := by rw [eq_bytes, decide_eq_true he]
    generalize hasC s 111 = o at H1 hV heq
    generalize hasC s 98 = b at H2 hV heq
    generalize hasC s 108 = l at H3 hV heq
    clear he
    have HT := Lib.hid (fun wx => ruleText_any o b l wx)
    generalize str (ruT o b l) = x at HT heq
    go_enter Try.func54, Try.ntmps54
    go_wp2_with fail
    refine (H1.out _).mono ?_; rintro e w' ⟨rfl, rfl⟩
    go_wp2_with fail
    refine (H2.out _).mono ?_; rintro e w' ⟨rfl, rfl⟩
    go_wp2_with fail
    refine (H3.out _).mono ?_; rintro e w' ⟨rfl, rfl⟩
    go_wp2_with fail
    refine (HT.out _).mono ?_
    rintro e w1 ⟨rfl, hb1⟩
    have hu0 : BlU ((w.alloc (ruO false false false)).alloc (ruO o b l)) w.heap.size (.bool false) (.bool false) (.bool false) := (BlU.new w _ _ _).alloc _
    have hu1 : BlU ((w.alloc (ruO false false false)).alloc (ruO o b l)) (w.heap.size + 1) (.bool o) (.bool b) (.bool l) := by
      have h := BlU.new (w.alloc (ruO false false false)) (.bool o) (.bool b) (.bool l)
      rwa [World.size_alloc] at h
    obtain ⟨a0, a1, a2, f0, f1, f2⟩ := (hu0.below hb1).all
    obtain ⟨b0, b1, b2, _, _, _⟩ := (hu1.below hb1).all
    have HB1 := Lib.hid ((((Below.refl w.heap.size w).alloc (Nat.le_refl _) (ruO false false false)).alloc (by simp) (ruO o b l)).trans (hb1.mono (by simp; omega)))
    have hne : (x.toList != s.toList) = false := by simp only [bne, heq]; rfl
    clear hb1 hu0 hu1
    go_wp2
    obtain ⟨r0, r1, r2⟩ := set3 (.bool o) (.bool b) (.bool l) a0 a1 a2
    (try simp only [Exit.inBlock, Exit.then]); refine bodyPost_ret (results_par _ _ w.heap.size (.bool o) (.bool b) (.bool l) rfl r0 r1 r2) rfl ?_
    exact ⟨by rw [hV.out]; rfl, ((HB1.out.setCell (Nat.le_refl _) _).setCell (Nat.le_refl _) _).setCell (Nat.le_refl _) _⟩
  · have hV : Hid (parV s = .tuple #[ruV false false false, .bool false]) := Lib.hid (by unfold parV; rw [if_neg he])
    have heq : ((str (ruT (hasC s 111) (hasC s 98) (hasC s 108))).toList == s.toList) = false := by rw [eq_bytes, decide_eq_false he]
    generalize hasC s 111 = o at H1 hV heq
    generalize hasC s 98 = b at H2 hV heq
    generalize hasC s 108 = l at H3 hV heq
    clear he
    have HT := Lib.hid (fun wx => ruleText_any o b l wx)
    generalize str (ruT o b l) = x at HT heq
    go_enter Try.func54, Try.ntmps54
    go_wp2_with fail
    refine (H1.out _).mono ?_; rintro e w' ⟨rfl, rfl⟩
    go_wp2_with fail
    refine (H2.out _).mono ?_; rintro e w' ⟨rfl, rfl⟩
    go_wp2_with fail
    refine (H3.out _).mono ?_; rintro e w' ⟨rfl, rfl⟩
    go_wp2_with fail
    refine (HT.out _).mono ?_
    rintro e w1 ⟨rfl, hb1⟩
    have hu0 : BlU ((w.alloc (ruO false false false)).alloc (ruO o b l)) w.heap.size (.bool false) (.bool false) (.bool false) := (BlU.new w _ _ _).alloc _
    have hu1 : BlU ((w.alloc (ruO false false false)).alloc (ruO o b l)) (w.heap.size + 1) (.bool o) (.bool b) (.bool l) := by
      have h := BlU.new (w.alloc (ruO false false false)) (.bool o) (.bool b) (.bool l)
      rwa [World.size_alloc] at h
    obtain ⟨a0, a1, a2, f0, f1, f2⟩ := (hu0.below hb1).all
    have HB1 := Lib.hid ((((Below.refl w.heap.size w).alloc (Nat.le_refl _) (ruO false false false)).alloc (by simp) (ruO o b l)).trans (hb1.mono (by simp; omega)))
    have hne : (x.toList != s.toList) = true := by simp only [bne, heq]; rfl
    clear hb1 hu0 hu1
    go_wp2
    obtain ⟨r0, r1, r2⟩ := set3 (.bool false) (.bool false) (.bool false) a0 a1 a2
    (try simp only [Exit.inBlock, Exit.then]); refine bodyPost_ret (results_par _ _ w.heap.size (.bool false) (.bool false) (.bool false) rfl r0 r1 r2) rfl ?_
    exact ⟨by rw [hV.out]; rfl, ((HB1.out.setCell (Nat.le_refl _) _).setCell (Nat.le_refl _) _).setCell (Nat.le_refl _) _⟩
/-- No rule of the first ones has this text. -/
def NoneB (s : ByteArray) (k : Nat) : Prop := ∀ j, j < k → str (ruT (j % 2 == 1) (j / 2 % 2 == 1) (j / 4 % 2 == 1)) ≠ s
theorem noneB_next {s : ByteArray} {k : Nat} (h : NoneB s k) (h2 : str (ruT (k % 2 == 1) (k / 2 % 2 == 1) (k / 4 % 2 == 1)) ≠ s) : NoneB s (k + 1) := by
  intro j hj
  by_cases e : j = k
  · subst e; exact h2
  · exact h j (by omega)
theorem par_yes {s : ByteArray} {o b l : Bool} (h : str (ruT o b l) = s) : parV s = .tuple #[ruV o b l, .bool true] := by
  obtain ⟨h1, h2, h3⟩ := ruT_has o b l
  rw [h] at h1 h2 h3
  unfold parV
  rw [h1, h2, h3, if_pos h]
theorem par_no {s : ByteArray} (h : NoneB s 8) : parV s = .tuple #[ruV false false false, .bool false] := by
  unfold parV
  rw [if_neg]
  generalize hasC s 111 = o
  generalize hasC s 98 = b
  generalize hasC s 108 = l
  have h0 := h 0 (by decide)
  have h1 := h 1 (by decide)
  have h2 := h 2 (by decide)
  have h3 := h 3 (by decide)
  have h4 := h 4 (by decide)
  have h5 := h 5 (by decide)
  have h6 := h 6 (by decide)
  have h7 := h 7 (by decide)
  cases o <;> cases b <;> cases l
  · exact h0
  · exact h4
  · exact h2
  · exact h6
  · exact h1
  · exact h5
  · exact h3
  · exact h7

set_option maxRecDepth 100000 in
set_option maxHeartbeats 8000000 in
theorem ruParse_any (s : ByteArray) (w : World) :
    Calls Try.prog 94 #[.string s] w fun e w' => e = .returned (parV s) ∧ Below w.heap.size w w' := by
  go_enter Try.func94, Try.ntmps94
  go_wp2
  obtain ⟨W0, hW0⟩ : ∃ W0, W0 = w.alloc (ruO false false false) := ⟨_, rfl⟩
  rw [← hW0]
  have HU0 : Hid (BlU W0 w.heap.size (.bool false) (.bool false) (.bool false)) := Lib.hid (by rw [hW0]; exact BlU.new w _ _ _)
  have HB0 : Hid (Below w.heap.size w W0) := Lib.hid (by rw [hW0]; exact (Below.refl _ _).alloc (Nat.le_refl _) _)
  clear hW0
  go_loopw [4] (fun t wr => ∃ K : Int, t = .int .i64 K ∧ BlU wr w.heap.size (.bool false) (.bool false) (.bool false) ∧ Below w.heap.size w wr ∧ ((K = 0 ∧ NoneB s 0) ∨ (K = 1 ∧ NoneB s 1) ∨ (K = 2 ∧ NoneB s 2) ∨ (K = 3 ∧ NoneB s 3) ∨ (K = 4 ∧ NoneB s 4) ∨ (K = 5 ∧ NoneB s 5) ∨ (K = 6 ∧ NoneB s 6) ∨ (K = 7 ∧ NoneB s 7) ∨ (K = 8 ∧ NoneB s 8))) (fun t _ => 8 - (intOf t).toNat)
  case atStart => exact ⟨0, rfl, HU0.out, HB0.out, .inl ⟨rfl, fun j h => absurd h (by omega)⟩⟩
  case round =>
    obtain ⟨K, rfl, hu, hB, hc⟩ := hrel
    rcases hc with ⟨rfl, hno⟩ | ⟨rfl, hno⟩ | ⟨rfl, hno⟩ | ⟨rfl, hno⟩ | ⟨rfl, hno⟩ | ⟨rfl, hno⟩ | ⟨rfl, hno⟩ | ⟨rfl, hno⟩ | ⟨rfl, hno⟩
    · have HNO := Lib.hid hno
      have HT := Lib.hid (fun wx => ruText_any false false false wx)
      by_cases he : str (ruT false false false) = s
      · have hV := Lib.hid (par_yes he)
        have heq : ((str (ruT false false false)).toList == s.toList) = true := by rw [eq_bytes, decide_eq_true he]
        clear he hno
        generalize str (ruT false false false) = x at HT heq
        go_wp2_with fail
        refine (HT.out _).mono ?_
        rintro e w1 ⟨rfl, hb1⟩
        have hu1 := (hu.alloc (ruO false false false)).below hb1
        have hu2 := (BlU.new wr (.bool false) (.bool false) (.bool false)).below hb1
        obtain ⟨a0, a1, a2, f0, f1, f2⟩ := hu1.all
        obtain ⟨b0, b1, b2, _, _, _⟩ := hu2.all
        have HB1 := Lib.hid ((hB.alloc hB.size (ruO false false false)).trans (hb1.mono (by have := hB.size; simp; omega)))
        clear hb1 hu1 hu2 hu hB
        go_wp2
        obtain ⟨r0, r1, r2⟩ := set3 (.bool false) (.bool false) (.bool false) a0 a1 a2
        (try simp only [Exit.inBlock, Exit.then]); refine bodyPost_ret (results_ruPar _ _ w.heap.size (.bool false) (.bool false) (.bool false) rfl r0 r1 r2) rfl ?_
        exact ⟨by rw [hV.out]; rfl, ((HB1.out.setCell (Nat.le_refl _) _).setCell (Nat.le_refl _) _).setCell (Nat.le_refl _) _⟩
      · have HN2 := Lib.hid (noneB_next hno he)
        have heq : ((str (ruT false false false)).toList == s.toList) = false := by rw [eq_bytes, decide_eq_false he]
        clear he hno
        generalize str (ruT false false false) = x at HT heq
        go_wp2_with fail
        refine (HT.out _).mono ?_
        rintro e w1 ⟨rfl, hb1⟩
        have HU1 := Lib.hid ((hu.alloc (ruO false false false)).below hb1)
        have HB1 := Lib.hid ((hB.alloc hB.size (ruO false false false)).trans (hb1.mono (by have := hB.size; simp; omega)))
        clear hb1 hu hB
        go_wp2
        go_roundw
        case rel => exact ⟨1, rfl, HU1.out, HB1.out, .inr (.inl ⟨rfl, HN2.out⟩)⟩
        case measure => simp [intOf]
    · have HNO := Lib.hid hno
      have HT := Lib.hid (fun wx => ruText_any true false false wx)
      by_cases he : str (ruT true false false) = s
      · have hV := Lib.hid (par_yes he)
        have heq : ((str (ruT true false false)).toList == s.toList) = true := by rw [eq_bytes, decide_eq_true he]
        clear he hno
        generalize str (ruT true false false) = x at HT heq
        go_wp2_with fail
        refine (HT.out _).mono ?_
        rintro e w1 ⟨rfl, hb1⟩
        have hu1 := (hu.alloc (ruO true false false)).below hb1
        have hu2 := (BlU.new wr (.bool true) (.bool false) (.bool false)).below hb1
        obtain ⟨a0, a1, a2, f0, f1, f2⟩ := hu1.all
        obtain ⟨b0, b1, b2, _, _, _⟩ := hu2.all
        have HB1 := Lib.hid ((hB.alloc hB.size (ruO true false false)).trans (hb1.mono (by have := hB.size; simp; omega)))
        clear hb1 hu1 hu2 hu hB
        go_wp2
        obtain ⟨r0, r1, r2⟩ := set3 (.bool true) (.bool false) (.bool false) a0 a1 a2
        (try simp only [Exit.inBlock, Exit.then]); refine bodyPost_ret (results_ruPar _ _ w.heap.size (.bool true) (.bool false) (.bool false) rfl r0 r1 r2) rfl ?_
        exact ⟨by rw [hV.out]; rfl, ((HB1.out.setCell (Nat.le_refl _) _).setCell (Nat.le_refl _) _).setCell (Nat.le_refl _) _⟩
      · have HN2 := Lib.hid (noneB_next hno he)
        have heq : ((str (ruT true false false)).toList == s.toList) = false := by rw [eq_bytes, decide_eq_false he]
        clear he hno
        generalize str (ruT true false false) = x at HT heq
        go_wp2_with fail
        refine (HT.out _).mono ?_
        rintro e w1 ⟨rfl, hb1⟩
        have HU1 := Lib.hid ((hu.alloc (ruO true false false)).below hb1)
        have HB1 := Lib.hid ((hB.alloc hB.size (ruO true false false)).trans (hb1.mono (by have := hB.size; simp; omega)))
        clear hb1 hu hB
        go_wp2
        go_roundw
        case rel => exact ⟨2, rfl, HU1.out, HB1.out, .inr (.inr (.inl ⟨rfl, HN2.out⟩))⟩
        case measure => simp [intOf]
    · have HNO := Lib.hid hno
      have HT := Lib.hid (fun wx => ruText_any false true false wx)
      by_cases he : str (ruT false true false) = s
      · have hV := Lib.hid (par_yes he)
        have heq : ((str (ruT false true false)).toList == s.toList) = true := by rw [eq_bytes, decide_eq_true he]
        clear he hno
        generalize str (ruT false true false) = x at HT heq
        go_wp2_with fail
        refine (HT.out _).mono ?_
        rintro e w1 ⟨rfl, hb1⟩
        have hu1 := (hu.alloc (ruO false true false)).below hb1
        have hu2 := (BlU.new wr (.bool false) (.bool true) (.bool false)).below hb1
        obtain ⟨a0, a1, a2, f0, f1, f2⟩ := hu1.all
        obtain ⟨b0, b1, b2, _, _, _⟩ := hu2.all
        have HB1 := Lib.hid ((hB.alloc hB.size (ruO false true false)).trans (hb1.mono (by have := hB.size; simp; omega)))
        clear hb1 hu1 hu2 hu hB
        go_wp2
        obtain ⟨r0, r1, r2⟩ := set3 (.bool false) (.bool true) (.bool false) a0 a1 a2
        (try simp only [Exit.inBlock, Exit.then]); refine bodyPost_ret (results_ruPar _ _ w.heap.size (.bool false) (.bool true) (.bool false) rfl r0 r1 r2) rfl ?_
        exact ⟨by rw [hV.out]; rfl, ((HB1.out.setCell (Nat.le_refl _) _).setCell (Nat.le_refl _) _).setCell (Nat.le_refl _) _⟩
      · have HN2 := Lib.hid (noneB_next hno he)
        have heq : ((str (ruT false true false)).toList == s.toList) = false := by rw [eq_bytes, decide_eq_false he]
        clear he hno
        generalize str (ruT false true false) = x at HT heq
        go_wp2_with fail
        refine (HT.out _).mono ?_
        rintro e w1 ⟨rfl, hb1⟩
        have HU1 := Lib.hid ((hu.alloc (ruO false true false)).below hb1)
        have HB1 := Lib.hid ((hB.alloc hB.size (ruO false true false)).trans (hb1.mono (by have := hB.size; simp; omega)))
        clear hb1 hu hB
        go_wp2
        go_roundw
        case rel => exact ⟨3, rfl, HU1.out, HB1.out, .inr (.inr (.inr (.inl ⟨rfl, HN2.out⟩)))⟩
        case measure => simp [intOf]
    · have HNO := Lib.hid hno
      have HT := Lib.hid (fun wx => ruText_any true true false wx)
      by_cases he : str (ruT true true false) = s
      · have hV := Lib.hid (par_yes he)
        have heq : ((str (ruT true true false)).toList == s.toList) = true := by rw [eq_bytes, decide_eq_true he]
        clear he hno
        generalize str (ruT true true false) = x at HT heq
        go_wp2_with fail
        refine (HT.out _).mono ?_
        rintro e w1 ⟨rfl, hb1⟩
        have hu1 := (hu.alloc (ruO true true false)).below hb1
        have hu2 := (BlU.new wr (.bool true) (.bool true) (.bool false)).below hb1
        obtain ⟨a0, a1, a2, f0, f1, f2⟩ := hu1.all
        obtain ⟨b0, b1, b2, _, _, _⟩ := hu2.all
        have HB1 := Lib.hid ((hB.alloc hB.size (ruO true true false)).trans (hb1.mono (by have := hB.size; simp; omega)))
        clear hb1 hu1 hu2 hu hB
        go_wp2
        obtain ⟨r0, r1, r2⟩ := set3 (.bool true) (.bool true) (.bool false) a0 a1 a2
        (try simp only [Exit.inBlock, Exit.then]); refine bodyPost_ret (results_ruPar _ _ w.heap.size (.bool true) (.bool true) (.bool false) rfl r0 r1 r2) rfl ?_
        exact ⟨by rw [hV.out]; rfl, ((HB1.out.setCell (Nat.le_refl _) _).setCell (Nat.le_refl _) _).setCell (Nat.le_refl _) _⟩
      · have HN2 := Lib.hid (noneB_next hno he)
        have heq : ((str (ruT true true false)).toList == s.toList) = false := by rw [eq_bytes, decide_eq_false he]
        clear he hno
        generalize str (ruT true true false) = x at HT heq
        go_wp2_with fail
        refine (HT.out _).mono ?_
        rintro e w1 ⟨rfl, hb1⟩
        have HU1 := Lib.hid ((hu.alloc (ruO true true false)).below hb1)
        have HB1 := Lib.hid ((hB.alloc hB.size (ruO true true false)).trans (hb1.mono (by have := hB.size; simp; omega)))
        clear hb1 hu hB
        go_wp2
        go_roundw
        case rel => exact ⟨4, rfl, HU1.out, HB1.out, .inr (.inr (.inr (.inr (.inl ⟨rfl, HN2.out⟩))))⟩
        case measure => simp [intOf]
    · have HNO := Lib.hid hno
      have HT := Lib.hid (fun wx => ruText_any false false true wx)
      by_cases he : str (ruT false false true) = s
      · have hV := Lib.hid (par_yes he)
        have heq : ((str (ruT false false true)).toList == s.toList) = true := by rw [eq_bytes, decide_eq_true he]
        clear he hno
        generalize str (ruT false false true) = x at HT heq
        go_wp2_with fail
        refine (HT.out _).mono ?_
        rintro e w1 ⟨rfl, hb1⟩
        have hu1 := (hu.alloc (ruO false false true)).below hb1
        have hu2 := (BlU.new wr (.bool false) (.bool false) (.bool true)).below hb1
        obtain ⟨a0, a1, a2, f0, f1, f2⟩ := hu1.all
        obtain ⟨b0, b1, b2, _, _, _⟩ := hu2.all
        have HB1 := Lib.hid ((hB.alloc hB.size (ruO false false true)).trans (hb1.mono (by have := hB.size; simp; omega)))
        clear hb1 hu1 hu2 hu hB
        go_wp2
        obtain ⟨r0, r1, r2⟩ := set3 (.bool false) (.bool false) (.bool true) a0 a1 a2
        (try simp only [Exit.inBlock, Exit.then]); refine bodyPost_ret (results_ruPar _ _ w.heap.size (.bool false) (.bool false) (.bool true) rfl r0 r1 r2) rfl ?_
        exact ⟨by rw [hV.out]; rfl, ((HB1.out.setCell (Nat.le_refl _) _).setCell (Nat.le_refl _) _).setCell (Nat.le_refl _) _⟩
      · have HN2 := Lib.hid (noneB_next hno he)
        have heq : ((str (ruT false false true)).toList == s.toList) = false := by rw [eq_bytes, decide_eq_false he]
        clear he hno
        generalize str (ruT false false true) = x at HT heq
        go_wp2_with fail
        refine (HT.out _).mono ?_
        rintro e w1 ⟨rfl, hb1⟩
        have HU1 := Lib.hid ((hu.alloc (ruO false false true)).below hb1)
        have HB1 := Lib.hid ((hB.alloc hB.size (ruO false false true)).trans (hb1.mono (by have := hB.size; simp; omega)))
        clear hb1 hu hB
        go_wp2
        go_roundw
        case rel => exact ⟨5, rfl, HU1.out, HB1.out, .inr (.inr (.inr (.inr (.inr (.inl ⟨rfl, HN2.out⟩)))))⟩
        case measure => simp [intOf]
    · have HNO := Lib.hid hno
      have HT := Lib.hid (fun wx => ruText_any true false true wx)
      by_cases he : str (ruT true false true) = s
      · have hV := Lib.hid (par_yes he)
        have heq : ((str (ruT true false true)).toList == s.toList) = true := by rw [eq_bytes, decide_eq_true he]
        clear he hno
        generalize str (ruT true false true) = x at HT heq
        go_wp2_with fail
        refine (HT.out _).mono ?_
        rintro e w1 ⟨rfl, hb1⟩
        have hu1 := (hu.alloc (ruO true false true)).below hb1
        have hu2 := (BlU.new wr (.bool true) (.bool false) (.bool true)).below hb1
        obtain ⟨a0, a1, a2, f0, f1, f2⟩ := hu1.all
        obtain ⟨b0, b1, b2, _, _, _⟩ := hu2.all
        have HB1 := Lib.hid ((hB.alloc hB.size (ruO true false true)).trans (hb1.mono (by have := hB.size; simp; omega)))
        clear hb1 hu1 hu2 hu hB
        go_wp2
        obtain ⟨r0, r1, r2⟩ := set3 (.bool true) (.bool false) (.bool true) a0 a1 a2
        (try simp only [Exit.inBlock, Exit.then]); refine bodyPost_ret (results_ruPar _ _ w.heap.size (.bool true) (.bool false) (.bool true) rfl r0 r1 r2) rfl ?_
        exact ⟨by rw [hV.out]; rfl, ((HB1.out.setCell (Nat.le_refl _) _).setCell (Nat.le_refl _) _).setCell (Nat.le_refl _) _⟩
      · have HN2 := Lib.hid (noneB_next hno he)
        have heq : ((str (ruT true false true)).toList == s.toList) = false := by rw [eq_bytes, decide_eq_false he]
        clear he hno
        generalize str (ruT true false true) = x at HT heq
        go_wp2_with fail
        refine (HT.out _).mono ?_
        rintro e w1 ⟨rfl, hb1⟩
        have HU1 := Lib.hid ((hu.alloc (ruO true false true)).below hb1)
        have HB1 := Lib.hid ((hB.alloc hB.size (ruO true false true)).trans (hb1.mono (by have := hB.size; simp; omega)))
        clear hb1 hu hB
        go_wp2
        go_roundw
        case rel => exact ⟨6, rfl, HU1.out, HB1.out, .inr (.inr (.inr (.inr (.inr (.inr (.inl ⟨rfl, HN2.out⟩))))))⟩
        case measure => simp [intOf]
    · have HNO := Lib.hid hno
      have HT := Lib.hid (fun wx => ruText_any false true true wx)
      by_cases he : str (ruT false true true) = s
      · have hV := Lib.hid (par_yes he)
        have heq : ((str (ruT false true true)).toList == s.toList) = true := by rw [eq_bytes, decide_eq_true he]
        clear he hno
        generalize str (ruT false true true) = x at HT heq
        go_wp2_with fail
        refine (HT.out _).mono ?_
        rintro e w1 ⟨rfl, hb1⟩
        have hu1 := (hu.alloc (ruO false true true)).below hb1
        have hu2 := (BlU.new wr (.bool false) (.bool true) (.bool true)).below hb1
        obtain ⟨a0, a1, a2, f0, f1, f2⟩ := hu1.all
        obtain ⟨b0, b1, b2, _, _, _⟩ := hu2.all
        have HB1 := Lib.hid ((hB.alloc hB.size (ruO false true true)).trans (hb1.mono (by have := hB.size; simp; omega)))
        clear hb1 hu1 hu2 hu hB
        go_wp2
        obtain ⟨r0, r1, r2⟩ := set3 (.bool false) (.bool true) (.bool true) a0 a1 a2
        (try simp only [Exit.inBlock, Exit.then]); refine bodyPost_ret (results_ruPar _ _ w.heap.size (.bool false) (.bool true) (.bool true) rfl r0 r1 r2) rfl ?_
        exact ⟨by rw [hV.out]; rfl, ((HB1.out.setCell (Nat.le_refl _) _).setCell (Nat.le_refl _) _).setCell (Nat.le_refl _) _⟩
      · have HN2 := Lib.hid (noneB_next hno he)
        have heq : ((str (ruT false true true)).toList == s.toList) = false := by rw [eq_bytes, decide_eq_false he]
        clear he hno
        generalize str (ruT false true true) = x at HT heq
        go_wp2_with fail
        refine (HT.out _).mono ?_
        rintro e w1 ⟨rfl, hb1⟩
        have HU1 := Lib.hid ((hu.alloc (ruO false true true)).below hb1)
        have HB1 := Lib.hid ((hB.alloc hB.size (ruO false true true)).trans (hb1.mono (by have := hB.size; simp; omega)))
        clear hb1 hu hB
        go_wp2
        go_roundw
        case rel => exact ⟨7, rfl, HU1.out, HB1.out, .inr (.inr (.inr (.inr (.inr (.inr (.inr (.inl ⟨rfl, HN2.out⟩)))))))⟩
        case measure => simp [intOf]
    · have HNO := Lib.hid hno
      have HT := Lib.hid (fun wx => ruText_any true true true wx)
      by_cases he : str (ruT true true true) = s
      · have hV := Lib.hid (par_yes he)
        have heq : ((str (ruT true true true)).toList == s.toList) = true := by rw [eq_bytes, decide_eq_true he]
        clear he hno
        generalize str (ruT true true true) = x at HT heq
        go_wp2_with fail
        refine (HT.out _).mono ?_
        rintro e w1 ⟨rfl, hb1⟩
        have hu1 := (hu.alloc (ruO true true true)).below hb1
        have hu2 := (BlU.new wr (.bool true) (.bool true) (.bool true)).below hb1
        obtain ⟨a0, a1, a2, f0, f1, f2⟩ := hu1.all
        obtain ⟨b0, b1, b2, _, _, _⟩ := hu2.all
        have HB1 := Lib.hid ((hB.alloc hB.size (ruO true true true)).trans (hb1.mono (by have := hB.size; simp; omega)))
        clear hb1 hu1 hu2 hu hB
        go_wp2
        obtain ⟨r0, r1, r2⟩ := set3 (.bool true) (.bool true) (.bool true) a0 a1 a2
        (try simp only [Exit.inBlock, Exit.then]); refine bodyPost_ret (results_ruPar _ _ w.heap.size (.bool true) (.bool true) (.bool true) rfl r0 r1 r2) rfl ?_
        exact ⟨by rw [hV.out]; rfl, ((HB1.out.setCell (Nat.le_refl _) _).setCell (Nat.le_refl _) _).setCell (Nat.le_refl _) _⟩
      · have HN2 := Lib.hid (noneB_next hno he)
        have heq : ((str (ruT true true true)).toList == s.toList) = false := by rw [eq_bytes, decide_eq_false he]
        clear he hno
        generalize str (ruT true true true) = x at HT heq
        go_wp2_with fail
        refine (HT.out _).mono ?_
        rintro e w1 ⟨rfl, hb1⟩
        have HU1 := Lib.hid ((hu.alloc (ruO true true true)).below hb1)
        have HB1 := Lib.hid ((hB.alloc hB.size (ruO true true true)).trans (hb1.mono (by have := hB.size; simp; omega)))
        clear hb1 hu hB
        go_wp2
        go_roundw
        case rel => exact ⟨8, rfl, HU1.out, HB1.out, .inr (.inr (.inr (.inr (.inr (.inr (.inr (.inr (⟨rfl, HN2.out⟩))))))))⟩
        case measure => simp [intOf]
    · have hV := Lib.hid (par_no hno)
      obtain ⟨a0, a1, a2, f0, f1, f2⟩ := hu.all
      have HB1 := Lib.hid hB
      clear hno hu hB
      go_wp2
      obtain ⟨r0, r1, r2⟩ := set3 (.bool false) (.bool false) (.bool false) a0 a1 a2
      (try simp only [Exit.inBlock, Exit.then]); refine bodyPost_ret (results_ruPar _ _ w.heap.size (.bool false) (.bool false) (.bool false) rfl r0 r1 r2) rfl ?_
      exact ⟨by rw [hV.out]; rfl, ((HB1.out.setCell (Nat.le_refl _) _).setCell (Nat.le_refl _) _).setCell (Nat.le_refl _) _⟩
end Go.Proofs.Ytcndlfoodbmgbaa
