/- Contracts: ranks of lines, the program's. -/
import Derived.Test.YticdhapbkfbhjabRank
namespace Go.Proofs.Yticdhapbkfbhjab
open Go.RowKit

/-- What is left: how many gaps, frogs and toads, in a block of the call's own. -/
def LeftAt (w : World) (b : Nat) (g f t : Int) : Prop :=
  b < w.heap.size ∧ w.cell? ⟨b, 0, none⟩ = some (.int .i64 g) ∧ w.cell? ⟨b, 1, none⟩ = some (.int .i64 f) ∧ w.cell? ⟨b, 2, none⟩ = some (.int .i64 t) ∧
    w.frozen? ⟨b, 0, none⟩ = false ∧ w.frozen? ⟨b, 1, none⟩ = false ∧ w.frozen? ⟨b, 2, none⟩ = false
theorem LeftAt.below {w w' : World} {b : Nat} {g f t : Int} (h : LeftAt w b g f t) (hb : Below w.heap.size w w') : LeftAt w' b g f t := by
  obtain ⟨hz, c0, c1, c2, f0, f1, f2⟩ := h
  exact ⟨Nat.lt_of_lt_of_le hz hb.size, (hb.cell (p := ⟨b, 0, none⟩) hz).trans c0, (hb.cell (p := ⟨b, 1, none⟩) hz).trans c1, (hb.cell (p := ⟨b, 2, none⟩) hz).trans c2,
    (hb.frozen (p := ⟨b, 0, none⟩) hz).trans f0, (hb.frozen (p := ⟨b, 1, none⟩) hz).trans f1, (hb.frozen (p := ⟨b, 2, none⟩) hz).trans f2⟩
theorem left_new (w : World) (g f t : Int) : LeftAt (w.alloc (ctB g f t)) w.heap.size g f t := by
  refine ⟨by simp, ?_, ?_, ?_, ?_, ?_, ?_⟩
  · rw [World.cell?_alloc_new]; rfl
  · rw [World.cell?_alloc_new]; rfl
  · rw [World.cell?_alloc_new]; rfl
  all_goals
    unfold World.frozen? World.alloc
    simp
theorem left_set {w : World} {b : Nat} (hz : b < w.heap.size) {g f t : Int} (x0 : w.cell? ⟨b, 0, none⟩ = some (.int .i64 g)) (x1 : w.cell? ⟨b, 1, none⟩ = some (.int .i64 f)) (x2 : w.cell? ⟨b, 2, none⟩ = some (.int .i64 t))
    (y0 : w.frozen? ⟨b, 0, none⟩ = false) (y1 : w.frozen? ⟨b, 1, none⟩ = false) (y2 : w.frozen? ⟨b, 2, none⟩ = false) (g' f' t' : Int) :
    LeftAt (((w.setCell ⟨b, 0, none⟩ (.int .i64 g')).setCell ⟨b, 1, none⟩ (.int .i64 f')).setCell ⟨b, 2, none⟩ (.int .i64 t')) b g' f' t' := by
  have n01 : (⟨b, 0, none⟩ : Addr) ≠ ⟨b, 1, none⟩ := by simp
  have n02 : (⟨b, 0, none⟩ : Addr) ≠ ⟨b, 2, none⟩ := by simp
  have n12 : (⟨b, 1, none⟩ : Addr) ≠ ⟨b, 2, none⟩ := by simp
  refine ⟨by simpa using hz, ?_, ?_, ?_, ?_, ?_, ?_⟩
  · rw [World.cell?_setCell_other _ _ _ _ (by first | exact n02 | exact n02.symm), World.cell?_setCell_other _ _ _ _ (by first | exact n01 | exact n01.symm)]
    exact World.cell?_setCell_same _ _ _ x0
  · rw [World.cell?_setCell_other _ _ _ _ (by first | exact n12 | exact n12.symm)]
    exact World.cell?_setCell_same _ _ _ (by rw [World.cell?_setCell_other _ _ _ _ (by first | exact n01 | exact n01.symm)]; exact x1)
  · exact World.cell?_setCell_same _ _ _ (by rw [World.cell?_setCell_other _ _ _ _ (by first | exact n12 | exact n12.symm), World.cell?_setCell_other _ _ _ _ (by first | exact n02 | exact n02.symm)]; exact x2)
  all_goals simp [y0, y1, y2]

/-- What the lesser signs add, the first j of them. -/
def partR (t g f j : Int) : Int := if j = 0 then 0 else if j = 1 then manyI t (g - 1) f else manyI t (g - 1) f + manyI t g (f - 1)
theorem part_01 (t g f : Int) : partR t g f 1 = manyI t (g - 1) f := by simp [partR]
theorem part_12 (t g f : Int) : partR t g f 2 = manyI t (g - 1) f + manyI t g (f - 1) := by simp [partR]

set_option maxRecDepth 100000 in
set_option maxHeartbeats 1000000 in
theorem rank_any (s : ByteArray) (w : World) (hs : s.size ≤ maxLen) :
    Calls Try.prog 42 #[.string s] w fun e w' => e = .returned (intOr (goodL s) (rkAt s s.size)) ∧ Below w.heap.size w w' := by
  cases hc : goodL s
  · have hR : Hid (countsOr s = .tuple #[.int .i64 0, .int .i64 0, .int .i64 0, .bool false]) := by show _ = _; unfold countsOr; rw [hc]; rfl
    clear hc
    go_enter Try.func42, Try.ntmps42
    go_wp2_with (go_at_call 44; refine (countOf_any _ _ hs).mono ?_; rintro e w' ⟨rfl, rfl⟩; rw [hR.out])
    go_ret2
    exact ⟨rfl, Below.refl _ _⟩
  · have hR : Hid (countsOr s = .tuple #[.int .i64 (cnt 84 (byt s)), .int .i64 (cnt 46 (byt s)), .int .i64 (cnt 70 (byt s)), .bool true]) := by show _ = _; unfold countsOr; rw [hc]; rfl
    have hsg := Lib.hid (good_sign hc)
    obtain ⟨_, h12, hall⟩ := (goodL_iff s).1 hc
    have HD := Lib.hid (cnts_drop hall)
    have HL := Lib.hid (fun k => rkAt_le hall h12 k)
    clear hc hall
    go_enter Try.func42, Try.ntmps42
    go_wp2_with (go_at_call 44; refine (countOf_any _ _ hs).mono ?_; rintro e w' ⟨rfl, rfl⟩; rw [hR.out])
    go_loopw [9, 10, 11, 12, 28, 36] (fun x _ _ _ i _ wr => ∃ k : Nat, k ≤ s.size ∧ i = .int .i64 k ∧ x = .int .i64 (rkAt s k) ∧ LeftAt wr w.heap.size (cnt 46 ((byt s).drop k)) (cnt 70 ((byt s).drop k)) (cnt 84 ((byt s).drop k)) ∧ Below w.heap.size w wr) (fun _ _ _ _ i _ _ => s.size - (intOf i).toNat)
    case atStart => exact ⟨0, Nat.zero_le _, rfl, rfl, left_new _ _ _ _, (Below.refl _ _).alloc (Nat.le_refl _) _⟩
    case round =>
      obtain ⟨k, hk, rfl, rfl, hleft, hB⟩ := hrel
      by_cases hlt : k < s.size
      · have hsum := HD.out k
        obtain ⟨hr0, hr1⟩ := HL.out k (by omega)
        have hr2 : rkAt s k ≤ 213986410758144 := by omega
        have hS : Hid (rkAt s (k + 1) = rkAt s k + addR (sgAt s k) (cnt 84 ((byt s).drop k)) (cnt 46 ((byt s).drop k)) (cnt 70 ((byt s).drop k))) := rfl
        have hsk := Lib.hid (sgAt_in s k hlt)
        have d1 := Lib.hid (cnt_drop s 84 k hlt)
        have d2 := Lib.hid (cnt_drop s 46 k hlt)
        have d3 := Lib.hid (cnt_drop s 70 k hlt)
        generalize rkAt s k = r at hS hr0 hr2
        generalize cnt 84 ((byt s).drop k) = t at hS hsum d1 hleft
        generalize cnt 46 ((byt s).drop k) = g at hS hsum d2 hleft
        generalize cnt 70 ((byt s).drop k) = f at hS hsum d3 hleft
        clear hr1
        have m1 := manyI_le t ((g : Int) - 1) f (by omega)
        have m2 := manyI_le t g ((f : Int) - 1) (by omega)
        obtain ⟨_, _⟩ := m1
        obtain ⟨_, _⟩ := m2
        obtain ⟨wo, hwo⟩ : ∃ wo : World, wo = wr := ⟨_, rfl⟩
        subst hwo
        rcases sign_split (hsg.out k hlt) with ⟨hc, hv⟩ | ⟨hc, hv⟩ | ⟨hc, hv⟩
        · have e1 := d1.out
          have e2 := d2.out
          have e3 := d3.out
          rw [hc] at e1 e2 e3
          simp at e1 e2 e3
          have hA : Hid (addR (sgAt s k) t g f = 0) := by show _ = _; rw [hsk.out, hc]; rfl
          have hX : Hid (sgIx s[k] = 0) := by show _ = _; rw [hc]; rfl
          have E1 := Lib.hid e1
          have E2 := Lib.hid e2
          have E3 := Lib.hid e3
          have hpos : 1 ≤ g := by omega
          clear hc hv e1 e2 e3
          go_wp2_with fail
          refine (index_any' s[k] _).mono ?_; rintro e w' ⟨rfl, rfl⟩; rw [hX.out]
          go_wp2_with fail
          go_loopw [9, 12, 36] (fun x _ i wq => ∃ j : Int, 0 ≤ j ∧ j ≤ 0 ∧ i = .int .i64 j ∧ x = .int .i64 (r + partR t g f j) ∧ LeftAt wq w.heap.size g f t ∧ Below w.heap.size w wq) (fun _ _ i _ => (0 - intOf i).toNat)
          case atStart => exact ⟨0, by omega, by omega, rfl, by simp [partR], hleft, hB⟩
          case round =>
            obtain ⟨j, hj0, hj, rfl, rfl, hleft, hB⟩ := hrel
            by_cases hlt2 : j < 0
            · have hj2 : j = 0 ∨ j = 1 := by omega
              obtain ⟨hz, c0, c1, c2, f0, f1, f2⟩ := hleft
              rcases hj2 with rfl | rfl
              · have hp := Lib.hid (part_01 t g f)
                have hp0 : partR t g f 0 = 0 := by simp [partR]
                rw [hp0, Int.add_zero]
                go_wp2_with fail
                refine (linesFrom_0 _ _ _ _ (by omega)).mono ?_
                rintro e w2 ⟨rfl, hb2⟩
                have hl2 : LeftAt w2 w.heap.size g f t := LeftAt.below ⟨hz, c0, c1, c2, f0, f1, f2⟩ hb2
                have hB2 := hB.trans (hb2.mono hB.size)
                clear c0 c1 c2 f0 f1 f2 hb2 hB hp0
                go_wp2
                go_roundw
                case rel => exact ⟨1, by omega, by omega, rfl, by rw [hp.out], hl2, hB2⟩
                case measure => simp [intOf]; try omega
              · have hp := Lib.hid (part_12 t g f)
                have hp1 := Lib.hid (part_01 t g f)
                rw [hp1.out]
                go_wp2_with fail
                refine (linesFrom_1 _ _ _ _ (by omega)).mono ?_
                rintro e w2 ⟨rfl, hb2⟩
                have hl2 : LeftAt w2 w.heap.size g f t := LeftAt.below ⟨hz, c0, c1, c2, f0, f1, f2⟩ hb2
                have hB2 := hB.trans (hb2.mono hB.size)
                clear c0 c1 c2 f0 f1 f2 hb2 hB
                go_wp2
                go_roundw
                case rel => exact ⟨2, by omega, by omega, rfl, by rw [hp.out, Int.add_assoc], hl2, hB2⟩
                case measure => simp [intOf]; try omega
            · obtain rfl : j = 0 := by omega
              obtain ⟨hz, c0, c1, c2, f0, f1, f2⟩ := hleft
              have hP : Hid (r + partR t g f 0 = rkAt s (k + 1)) := by show _ = _; rw [hS.out, hA.out]; simp [partR]
              rw [hP.out]
              go_wp2_with fail
              refine (without_0 _ _ _ _ (by omega)).mono ?_
              rintro e w2 ⟨rfl, hb2⟩
              obtain ⟨_, x0, x1, x2, y0, y1, y2⟩ := LeftAt.below ⟨hz, c0, c1, c2, f0, f1, f2⟩ hb2
              have hB2 := hB.trans (hb2.mono hB.size)
              have hz2 : w.heap.size < w2.heap.size := Nat.lt_of_lt_of_le hz hb2.size
              clear c0 c1 c2 f0 f1 f2 hb2 hB
              have hset := Lib.hid (left_set (w := w2) (b := w.heap.size) hz2 x0 x1 x2 y0 y1 y2 ((g : Int) - 1) ((f : Int)) ((t : Int)))
              go_wp2
              go_roundw
              case rel =>
                refine ⟨k + 1, by omega, by go_num, rfl, ?_, ((hB2.setCell (Nat.le_refl _) _).setCell (Nat.le_refl _) _).setCell (Nat.le_refl _) _⟩
                have q0 : (cnt 46 ((byt s).drop (k + 1)) : Int) = (g : Int) - 1 := by have := E2.out; omega
                have q1 : (cnt 70 ((byt s).drop (k + 1)) : Int) = (f : Int) := by have := E3.out; omega
                have q2 : (cnt 84 ((byt s).drop (k + 1)) : Int) = (t : Int) := by have := E1.out; omega
                rw [q0, q1, q2]
                exact hset.out
              case measure => simp [intOf]; omega
        · have e1 := d1.out
          have e2 := d2.out
          have e3 := d3.out
          rw [hc] at e1 e2 e3
          simp at e1 e2 e3
          have hA : Hid (addR (sgAt s k) t g f = manyI t ((g : Int) - 1) f) := by show _ = _; rw [hsk.out, hc]; rfl
          have hX : Hid (sgIx s[k] = 1) := by show _ = _; rw [hc]; rfl
          have E1 := Lib.hid e1
          have E2 := Lib.hid e2
          have E3 := Lib.hid e3
          have hpos : 1 ≤ f := by omega
          clear hc hv e1 e2 e3
          go_wp2_with fail
          refine (index_any' s[k] _).mono ?_; rintro e w' ⟨rfl, rfl⟩; rw [hX.out]
          go_wp2_with fail
          go_loopw [9, 12, 36] (fun x _ i wq => ∃ j : Int, 0 ≤ j ∧ j ≤ 1 ∧ i = .int .i64 j ∧ x = .int .i64 (r + partR t g f j) ∧ LeftAt wq w.heap.size g f t ∧ Below w.heap.size w wq) (fun _ _ i _ => (1 - intOf i).toNat)
          case atStart => exact ⟨0, by omega, by omega, rfl, by simp [partR], hleft, hB⟩
          case round =>
            obtain ⟨j, hj0, hj, rfl, rfl, hleft, hB⟩ := hrel
            by_cases hlt2 : j < 1
            · have hj2 : j = 0 ∨ j = 1 := by omega
              obtain ⟨hz, c0, c1, c2, f0, f1, f2⟩ := hleft
              rcases hj2 with rfl | rfl
              · have hp := Lib.hid (part_01 t g f)
                have hp0 : partR t g f 0 = 0 := by simp [partR]
                rw [hp0, Int.add_zero]
                go_wp2_with fail
                refine (linesFrom_0 _ _ _ _ (by omega)).mono ?_
                rintro e w2 ⟨rfl, hb2⟩
                have hl2 : LeftAt w2 w.heap.size g f t := LeftAt.below ⟨hz, c0, c1, c2, f0, f1, f2⟩ hb2
                have hB2 := hB.trans (hb2.mono hB.size)
                clear c0 c1 c2 f0 f1 f2 hb2 hB hp0
                go_wp2
                go_roundw
                case rel => exact ⟨1, by omega, by omega, rfl, by rw [hp.out], hl2, hB2⟩
                case measure => simp [intOf]; try omega
              · have hp := Lib.hid (part_12 t g f)
                have hp1 := Lib.hid (part_01 t g f)
                rw [hp1.out]
                go_wp2_with fail
                refine (linesFrom_1 _ _ _ _ (by omega)).mono ?_
                rintro e w2 ⟨rfl, hb2⟩
                have hl2 : LeftAt w2 w.heap.size g f t := LeftAt.below ⟨hz, c0, c1, c2, f0, f1, f2⟩ hb2
                have hB2 := hB.trans (hb2.mono hB.size)
                clear c0 c1 c2 f0 f1 f2 hb2 hB
                go_wp2
                go_roundw
                case rel => exact ⟨2, by omega, by omega, rfl, by rw [hp.out, Int.add_assoc], hl2, hB2⟩
                case measure => simp [intOf]; try omega
            · obtain rfl : j = 1 := by omega
              obtain ⟨hz, c0, c1, c2, f0, f1, f2⟩ := hleft
              have hP : Hid (r + partR t g f 1 = rkAt s (k + 1)) := by show _ = _; rw [hS.out, hA.out]; simp [partR]
              rw [hP.out]
              go_wp2_with fail
              refine (without_1 _ _ _ _ (by omega)).mono ?_
              rintro e w2 ⟨rfl, hb2⟩
              obtain ⟨_, x0, x1, x2, y0, y1, y2⟩ := LeftAt.below ⟨hz, c0, c1, c2, f0, f1, f2⟩ hb2
              have hB2 := hB.trans (hb2.mono hB.size)
              have hz2 : w.heap.size < w2.heap.size := Nat.lt_of_lt_of_le hz hb2.size
              clear c0 c1 c2 f0 f1 f2 hb2 hB
              have hset := Lib.hid (left_set (w := w2) (b := w.heap.size) hz2 x0 x1 x2 y0 y1 y2 ((g : Int)) ((f : Int) - 1) ((t : Int)))
              go_wp2
              go_roundw
              case rel =>
                refine ⟨k + 1, by omega, by go_num, rfl, ?_, ((hB2.setCell (Nat.le_refl _) _).setCell (Nat.le_refl _) _).setCell (Nat.le_refl _) _⟩
                have q0 : (cnt 46 ((byt s).drop (k + 1)) : Int) = (g : Int) := by have := E2.out; omega
                have q1 : (cnt 70 ((byt s).drop (k + 1)) : Int) = (f : Int) - 1 := by have := E3.out; omega
                have q2 : (cnt 84 ((byt s).drop (k + 1)) : Int) = (t : Int) := by have := E1.out; omega
                rw [q0, q1, q2]
                exact hset.out
              case measure => simp [intOf]; omega
        · have e1 := d1.out
          have e2 := d2.out
          have e3 := d3.out
          rw [hc] at e1 e2 e3
          simp at e1 e2 e3
          have hA : Hid (addR (sgAt s k) t g f = manyI t ((g : Int) - 1) f + manyI t g ((f : Int) - 1)) := by show _ = _; rw [hsk.out, hc]; rfl
          have hX : Hid (sgIx s[k] = 2) := by show _ = _; rw [hc]; rfl
          have E1 := Lib.hid e1
          have E2 := Lib.hid e2
          have E3 := Lib.hid e3
          have hpos : 1 ≤ t := by omega
          clear hc hv e1 e2 e3
          go_wp2_with fail
          refine (index_any' s[k] _).mono ?_; rintro e w' ⟨rfl, rfl⟩; rw [hX.out]
          go_wp2_with fail
          go_loopw [9, 12, 36] (fun x _ i wq => ∃ j : Int, 0 ≤ j ∧ j ≤ 2 ∧ i = .int .i64 j ∧ x = .int .i64 (r + partR t g f j) ∧ LeftAt wq w.heap.size g f t ∧ Below w.heap.size w wq) (fun _ _ i _ => (2 - intOf i).toNat)
          case atStart => exact ⟨0, by omega, by omega, rfl, by simp [partR], hleft, hB⟩
          case round =>
            obtain ⟨j, hj0, hj, rfl, rfl, hleft, hB⟩ := hrel
            by_cases hlt2 : j < 2
            · have hj2 : j = 0 ∨ j = 1 := by omega
              obtain ⟨hz, c0, c1, c2, f0, f1, f2⟩ := hleft
              rcases hj2 with rfl | rfl
              · have hp := Lib.hid (part_01 t g f)
                have hp0 : partR t g f 0 = 0 := by simp [partR]
                rw [hp0, Int.add_zero]
                go_wp2_with fail
                refine (linesFrom_0 _ _ _ _ (by omega)).mono ?_
                rintro e w2 ⟨rfl, hb2⟩
                have hl2 : LeftAt w2 w.heap.size g f t := LeftAt.below ⟨hz, c0, c1, c2, f0, f1, f2⟩ hb2
                have hB2 := hB.trans (hb2.mono hB.size)
                clear c0 c1 c2 f0 f1 f2 hb2 hB hp0
                go_wp2
                go_roundw
                case rel => exact ⟨1, by omega, by omega, rfl, by rw [hp.out], hl2, hB2⟩
                case measure => simp [intOf]; try omega
              · have hp := Lib.hid (part_12 t g f)
                have hp1 := Lib.hid (part_01 t g f)
                rw [hp1.out]
                go_wp2_with fail
                refine (linesFrom_1 _ _ _ _ (by omega)).mono ?_
                rintro e w2 ⟨rfl, hb2⟩
                have hl2 : LeftAt w2 w.heap.size g f t := LeftAt.below ⟨hz, c0, c1, c2, f0, f1, f2⟩ hb2
                have hB2 := hB.trans (hb2.mono hB.size)
                clear c0 c1 c2 f0 f1 f2 hb2 hB
                go_wp2
                go_roundw
                case rel => exact ⟨2, by omega, by omega, rfl, by rw [hp.out, Int.add_assoc], hl2, hB2⟩
                case measure => simp [intOf]; try omega
            · obtain rfl : j = 2 := by omega
              obtain ⟨hz, c0, c1, c2, f0, f1, f2⟩ := hleft
              have hP : Hid (r + partR t g f 2 = rkAt s (k + 1)) := by show _ = _; rw [hS.out, hA.out]; simp [partR]
              rw [hP.out]
              go_wp2_with fail
              refine (without_2 _ _ _ _ (by omega)).mono ?_
              rintro e w2 ⟨rfl, hb2⟩
              obtain ⟨_, x0, x1, x2, y0, y1, y2⟩ := LeftAt.below ⟨hz, c0, c1, c2, f0, f1, f2⟩ hb2
              have hB2 := hB.trans (hb2.mono hB.size)
              have hz2 : w.heap.size < w2.heap.size := Nat.lt_of_lt_of_le hz hb2.size
              clear c0 c1 c2 f0 f1 f2 hb2 hB
              have hset := Lib.hid (left_set (w := w2) (b := w.heap.size) hz2 x0 x1 x2 y0 y1 y2 ((g : Int)) ((f : Int)) ((t : Int) - 1))
              go_wp2
              go_roundw
              case rel =>
                refine ⟨k + 1, by omega, by go_num, rfl, ?_, ((hB2.setCell (Nat.le_refl _) _).setCell (Nat.le_refl _) _).setCell (Nat.le_refl _) _⟩
                have q0 : (cnt 46 ((byt s).drop (k + 1)) : Int) = (g : Int) := by have := E2.out; omega
                have q1 : (cnt 70 ((byt s).drop (k + 1)) : Int) = (f : Int) := by have := E3.out; omega
                have q2 : (cnt 84 ((byt s).drop (k + 1)) : Int) = (t : Int) - 1 := by have := E1.out; omega
                rw [q0, q1, q2]
                exact hset.out
              case measure => simp [intOf]; omega
      · go_wp2
        go_ret2
        obtain rfl : k = s.size := by omega
        exact ⟨rfl, hB⟩
end Go.Proofs.Yticdhapbkfbhjab
