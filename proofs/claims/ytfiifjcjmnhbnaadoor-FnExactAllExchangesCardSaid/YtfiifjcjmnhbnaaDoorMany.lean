/- How many lines there are: the model's reckoning and the program's. -/
import Derived.Test.YtfiifjcjmnhbnaaDoorImp
import Derived.Test.YtfiifjcjmnhbnaaDoorPlay
import Derived.Test.YtfiifjcjmnhbnaaDoorMove
namespace Go.Proofs.YtfiifjcjmnhbnaaDoor
open Go.RowKit

/-- Behind k rounds: each multiplies by one more and divides by how many there have been. -/
def rnd (c l : Nat) : Nat → Nat
  | 0 => l
  | k + 1 => rnd c l k * (c + (k + 1)) / (k + 1)
theorem rnd_le (c l k : Nat) (h : c + k ≤ 12) : rnd c l k ≤ l * 12 ^ k := by
  induction k with
  | zero => simp [rnd]
  | succ k ih =>
    have ih := ih (by omega)
    simp only [rnd]
    refine Nat.le_trans (Nat.div_le_self _ _) ?_
    calc rnd c l k * (c + (k + 1)) ≤ (l * 12 ^ k) * 12 := Nat.mul_le_mul ih (by omega)
      _ = l * 12 ^ (k + 1) := by rw [Nat.pow_succ, Nat.mul_assoc]
def manyN (t g f : Nat) : Nat := rnd g (rnd (g + f) 1 t) f
def linesN (g f t : Nat) : Nat := rnd (g + f) (rnd g (rnd 0 1 g) f) t
/-- The model's number, with numbers that may be less than 0. -/
def manyI (t g f : Int) : Int := if t < 0 ∨ g < 0 ∨ f < 0 then 0 else manyN t.toNat g.toNat f.toNat
theorem lines_many : ∀ g f t : Nat, g + f + t ≤ 12 → linesN g f t = manyN t g f := by
  have h : ((List.range 13).all fun g => (List.range 13).all fun f => (List.range 13).all fun t => decide (12 < g + f + t) || linesN g f t == manyN t g f) = true := by decide +kernel
  intro g f t hs
  rw [List.all_eq_true] at h
  have h1 := h g (List.mem_range.2 (by omega))
  rw [List.all_eq_true] at h1
  have h2 := h1 f (List.mem_range.2 (by omega))
  rw [List.all_eq_true] at h2
  have h3 := h2 t (List.mem_range.2 (by omega))
  simpa [Nat.not_lt.2 hs] using h3
theorem pow12 (k : Nat) (h : k ≤ 12) : 12 ^ k ≤ 8916100448256 := Nat.le_trans (Nat.pow_le_pow_right (by omega) h) (by decide)
theorem rnd_one (c k : Nat) (h : c + k ≤ 12) : rnd c 1 k ≤ 8916100448256 := by
  have := rnd_le c 1 k h
  have := pow12 k (by omega)
  omega
theorem manyN_part (t g f k : Nat) (h : t + g + f ≤ 12) (hk : k ≤ f) : rnd g (rnd (g + f) 1 t) k ≤ 8916100448256 := by
  have h1 := rnd_le (g + f) 1 t (by omega)
  have h2 := rnd_le g (rnd (g + f) 1 t) k (by omega)
  have h3 := pow12 (t + k) (by omega)
  rw [Nat.pow_add] at h3
  have h4 : rnd (g + f) 1 t * 12 ^ k ≤ 12 ^ t * 12 ^ k := Nat.mul_le_mul_right _ (by omega)
  omega

theorem Tryd.cellsC : Tryd.prog.cellsOf 84 = 3 := by kernel_rfl

theorem lines_part (g f t k : Nat) (h : g + f + t ≤ 12) (hk : k ≤ t) : rnd (g + f) (rnd g (rnd 0 1 g) f) k ≤ 8916100448256 ∧ rnd g (rnd 0 1 g) f ≤ 8916100448256 ∧ rnd 0 1 g ≤ 8916100448256 := by
  have a1 := rnd_le 0 1 g (by omega)
  have a2 := rnd_le g (rnd 0 1 g) f (by omega)
  have a3 := rnd_le (g + f) (rnd g (rnd 0 1 g) f) k (by omega)
  have p := pow12 (g + f + k) (by omega)
  have q := pow12 (g + f) (by omega)
  have r := pow12 g (by omega)
  rw [Nat.pow_add, Nat.pow_add] at p
  rw [Nat.pow_add] at q
  have b1 : rnd 0 1 g * 12 ^ f ≤ 12 ^ g * 12 ^ f := Nat.mul_le_mul_right _ (by omega)
  have b2 : rnd g (rnd 0 1 g) f * 12 ^ k ≤ (12 ^ g * 12 ^ f) * 12 ^ k := Nat.mul_le_mul_right _ (by omega)
  omega

/-- The part of the reckoning that lies behind j of the three numbers: how many cells, how many lines. -/
def linesTo (g f t : Nat) (j : Int) : Nat × Nat := if j = 0 then (0, 1) else if j = 1 then (g, rnd 0 1 g) else if j = 2 then (g + f, rnd g (rnd 0 1 g) f) else (g + f + t, linesN g f t)
def numAt (g f t : Nat) (j : Int) : Nat := if j = 0 then g else if j = 1 then f else t

theorem linesTo_next (g f t : Nat) (j : Int) (h : j = 0 ∨ j = 1 ∨ j = 2) : linesTo g f t (j + 1) = ((linesTo g f t j).1 + numAt g f t j, rnd (linesTo g f t j).1 (linesTo g f t j).2 (numAt g f t j)) := by
  rcases h with rfl | rfl | rfl
  · simp [linesTo, numAt]
  · simp [linesTo, numAt]
  · simp [linesTo, numAt, linesN]
theorem linesTo_le (g f t : Nat) (hs : g + f + t ≤ 12) (j : Int) (h : j = 0 ∨ j = 1 ∨ j = 2) : (linesTo g f t j).1 + numAt g f t j ≤ 12 ∧ ∀ k, k ≤ numAt g f t j → rnd (linesTo g f t j).1 (linesTo g f t j).2 k ≤ 8916100448256 := by
  rcases h with rfl | rfl | rfl
  · refine ⟨by simp [linesTo, numAt]; omega, fun k hk => ?_⟩
    simp [linesTo, numAt] at hk ⊢
    exact rnd_one 0 k (by omega)
  · refine ⟨by simp [linesTo, numAt]; omega, fun k hk => ?_⟩
    simp [linesTo, numAt] at hk ⊢
    exact (lines_part g k 0 0 (by omega) (by omega)).2.1
  · refine ⟨by simp [linesTo, numAt]; omega, fun k hk => ?_⟩
    simp [linesTo, numAt] at hk ⊢
    exact (lines_part g f t k (by omega) hk).1

end Go.Proofs.YtfiifjcjmnhbnaaDoor
namespace Go.Proofs.YtfiifjcjmnhbnaaDoor
open Go.RowKit

abbrev ctB (a b c : Int) : Obj := Obj.cells #[Value.int IntKind.i64 a, Value.int IntKind.i64 b, Value.int IntKind.i64 c] 84
def ctV (a b c : Int) : Value := .agg #[.int .i64 a, .int .i64 b, .int .i64 c]

/-- What a sign adds to the rank, of so many toads, gaps and frogs from it on. -/
def addR (c : UInt8) (t g f : Int) : Int := if c = 46 then 0 else if c = 70 then manyI t (g - 1) f else manyI t (g - 1) f + manyI t g (f - 1)
def rkAt (s : ByteArray) : Nat → Int
  | 0 => 0
  | k + 1 => rkAt s k + addR (sgAt s k) (cnt 84 ((byt s).drop k)) (cnt 46 ((byt s).drop k)) (cnt 70 ((byt s).drop k))
theorem manyI_le (t g f : Int) (h : 0 ≤ t → 0 ≤ g → 0 ≤ f → t + g + f ≤ 12) : 0 ≤ manyI t g f ∧ manyI t g f ≤ 8916100448256 := by
  unfold manyI
  split
  · omega
  · rename_i hn
    have := manyN_part t.toNat g.toNat f.toNat f.toNat (by omega) (Nat.le_refl _)
    unfold manyN
    omega
theorem addR_le (c : UInt8) (t g f : Int) (h : t + g + f ≤ 12) : 0 ≤ addR c t g f ∧ addR c t g f ≤ 17832200896512 := by
  have h1 := manyI_le t (g - 1) f (by omega)
  have h2 := manyI_le t g (f - 1) (by omega)
  unfold addR
  split
  · omega
  · split <;> omega
theorem cnts_drop {s : ByteArray} (hg : (byt s).all isSign = true) (k : Nat) : cnt 84 ((byt s).drop k) + cnt 46 ((byt s).drop k) + cnt 70 ((byt s).drop k) = s.size - k := by
  have h := cnt_sum ((byt s).drop k) (by rw [List.all_eq_true] at hg ⊢; exact fun x hx => hg x (List.mem_of_mem_drop hx))
  rw [List.length_drop, byt_len] at h
  exact h
theorem cnt_drop (s : ByteArray) (c : UInt8) (k : Nat) (h : k < s.size) : cnt c ((byt s).drop k) = (if s[k] = c then 1 else 0) + cnt c ((byt s).drop (k + 1)) := by
  rw [drop_cons s k h, cnt_cons]
theorem rkAt_le {s : ByteArray} (hg : (byt s).all isSign = true) (hs : s.size ≤ 12) (k : Nat) (hk : k ≤ 12) : 0 ≤ rkAt s k ∧ rkAt s k ≤ 17832200896512 * k := by
  induction k with
  | zero => simp [rkAt]
  | succ k ih =>
    have ih := ih (by omega)
    have hc := cnts_drop hg k
    have := addR_le (sgAt s k) (cnt 84 ((byt s).drop k)) (cnt 46 ((byt s).drop k)) (cnt 70 ((byt s).drop k)) (by omega)
    simp only [rkAt]
    omega
/-- What is known of a sign, for the walk. -/
theorem sign_split {c : UInt8} (h : isSign c = true) : (c = 46 ∧ (c.toNat : Int) = 46) ∨ (c = 70 ∧ (c.toNat : Int) = 70) ∨ (c = 84 ∧ (c.toNat : Int) = 84) := by
  rcases sign_cases c with rfl | rfl | rfl | h2
  · exact .inr (.inr ⟨rfl, rfl⟩)
  · exact .inr (.inl ⟨rfl, rfl⟩)
  · exact .inl ⟨rfl, rfl⟩
  · rw [h] at h2; cases h2

end Go.Proofs.YtfiifjcjmnhbnaaDoor
namespace Go.Proofs.YtfiifjcjmnhbnaaDoor
open Go.RowKit

/-- What is left: how many gaps, frogs and toads, in a block of the call's own. -/
def LeftAt (w : World) (b : Nat) (g f t : Int) : Prop :=
  b < w.heap.size ∧ w.cell? ⟨b, 0, none⟩ = some (.int .i64 g) ∧ w.cell? ⟨b, 1, none⟩ = some (.int .i64 f) ∧ w.cell? ⟨b, 2, none⟩ = some (.int .i64 t) ∧
    w.frozen? ⟨b, 0, none⟩ = false ∧ w.frozen? ⟨b, 1, none⟩ = false ∧ w.frozen? ⟨b, 2, none⟩ = false
theorem LeftAt.below {w w' : World} {b : Nat} {g f t : Int} (h : LeftAt w b g f t) (hb : Below w.heap.size w w') : LeftAt w' b g f t := by
  obtain ⟨hz, c0, c1, c2, f0, f1, f2⟩ := h
  exact ⟨Nat.lt_of_lt_of_le hz hb.size, (hb.cell (p := ⟨b, 0, none⟩) hz).trans c0, (hb.cell (p := ⟨b, 1, none⟩) hz).trans c1, (hb.cell (p := ⟨b, 2, none⟩) hz).trans c2,
    (hb.frozen (p := ⟨b, 0, none⟩) hz).trans f0, (hb.frozen (p := ⟨b, 1, none⟩) hz).trans f1, (hb.frozen (p := ⟨b, 2, none⟩) hz).trans f2⟩
theorem left_new (w : World) (g f t : Int) : LeftAt (w.alloc (ctB g f t)) w.heap.size g f t := by
  refine ⟨by simp, ?_, ?_, ?_, ?_, ?_, ?_⟩
  · rw [World.cell?_alloc_new]; rfl
  · rw [World.cell?_alloc_new]; rfl
  · rw [World.cell?_alloc_new]; rfl
  all_goals
    unfold World.frozen? World.alloc
    simp
theorem left_set {w : World} {b : Nat} (hz : b < w.heap.size) {g f t : Int} (x0 : w.cell? ⟨b, 0, none⟩ = some (.int .i64 g)) (x1 : w.cell? ⟨b, 1, none⟩ = some (.int .i64 f)) (x2 : w.cell? ⟨b, 2, none⟩ = some (.int .i64 t))
    (y0 : w.frozen? ⟨b, 0, none⟩ = false) (y1 : w.frozen? ⟨b, 1, none⟩ = false) (y2 : w.frozen? ⟨b, 2, none⟩ = false) (g' f' t' : Int) :
    LeftAt (((w.setCell ⟨b, 0, none⟩ (.int .i64 g')).setCell ⟨b, 1, none⟩ (.int .i64 f')).setCell ⟨b, 2, none⟩ (.int .i64 t')) b g' f' t' := by
  have n01 : (⟨b, 0, none⟩ : Addr) ≠ ⟨b, 1, none⟩ := by simp
  have n02 : (⟨b, 0, none⟩ : Addr) ≠ ⟨b, 2, none⟩ := by simp
  have n12 : (⟨b, 1, none⟩ : Addr) ≠ ⟨b, 2, none⟩ := by simp
  refine ⟨by simpa using hz, ?_, ?_, ?_, ?_, ?_, ?_⟩
  · rw [World.cell?_setCell_other _ _ _ _ (by first | exact n02 | exact n02.symm), World.cell?_setCell_other _ _ _ _ (by first | exact n01 | exact n01.symm)]
    exact World.cell?_setCell_same _ _ _ x0
  · rw [World.cell?_setCell_other _ _ _ _ (by first | exact n12 | exact n12.symm)]
    exact World.cell?_setCell_same _ _ _ (by rw [World.cell?_setCell_other _ _ _ _ (by first | exact n01 | exact n01.symm)]; exact x1)
  · exact World.cell?_setCell_same _ _ _ (by rw [World.cell?_setCell_other _ _ _ _ (by first | exact n12 | exact n12.symm), World.cell?_setCell_other _ _ _ _ (by first | exact n02 | exact n02.symm)]; exact x2)
  all_goals simp [y0, y1, y2]

/-- What the lesser signs add, the first j of them. -/
def partR (t g f j : Int) : Int := if j = 0 then 0 else if j = 1 then manyI t (g - 1) f else manyI t (g - 1) f + manyI t g (f - 1)
theorem part_01 (t g f : Int) : partR t g f 1 = manyI t (g - 1) f := by simp [partR]
theorem part_12 (t g f : Int) : partR t g f 2 = manyI t (g - 1) f + manyI t g (f - 1) := by simp [partR]

end Go.Proofs.YtfiifjcjmnhbnaaDoor
namespace Go.Proofs.YtfiifjcjmnhbnaaDoor
open Go.RowKit

theorem many_sum (t g f : Int) (ht : 0 ≤ t) (hg : 0 ≤ g) (hf : 0 ≤ f) (h1 : 1 ≤ t + g + f) (h12 : t + g + f ≤ 12) :
    manyI t g f = manyI t (g - 1) f + manyI t g (f - 1) + manyI (t - 1) g f := by
  have h : ((List.range 13).all fun t => (List.range 13).all fun g => (List.range 13).all fun f => decide (t + g + f < 1) || decide (12 < t + g + f) ||
      manyI (t : Int) (g : Int) (f : Int) == manyI (t : Int) ((g : Int) - 1) (f : Int) + manyI (t : Int) (g : Int) ((f : Int) - 1) + manyI ((t : Int) - 1) (g : Int) (f : Int)) = true := by decide +kernel
  obtain ⟨x, rfl⟩ := Int.eq_ofNat_of_zero_le ht
  obtain ⟨y, rfl⟩ := Int.eq_ofNat_of_zero_le hg
  obtain ⟨z, rfl⟩ := Int.eq_ofNat_of_zero_le hf
  rw [List.all_eq_true] at h
  have a := h x (List.mem_range.2 (by omega))
  rw [List.all_eq_true] at a
  have b := a y (List.mem_range.2 (by omega))
  rw [List.all_eq_true] at b
  have c := b z (List.mem_range.2 (by omega))
  have e1 : decide (x + y + z < 1) = false := by rw [decide_eq_false_iff_not]; omega
  have e2 : decide (12 < x + y + z) = false := by rw [decide_eq_false_iff_not]; omega
  rw [e1, e2, Bool.false_or, Bool.false_or, beq_iff_eq] at c
  exact c
theorem many_pos {t g f : Int} (h : 0 < manyI t g f) : 0 ≤ t ∧ 0 ≤ g ∧ 0 ≤ f := by
  unfold manyI at h
  split at h <;> omega

/-- The line of n signs with a rank. -/
def unr : Nat → Int → Int → Int → Int → List UInt8
  | 0, _, _, _, _ => []
  | n + 1, t, g, f, r =>
    if r < manyI t (g - 1) f then 46 :: unr n t (g - 1) f r
    else if r < manyI t (g - 1) f + manyI t g (f - 1) then 70 :: unr n t g (f - 1) (r - manyI t (g - 1) f)
    else 84 :: unr n (t - 1) g f (r - (manyI t (g - 1) f + manyI t g (f - 1)))
theorem unr_len : ∀ (n : Nat) (t g f r : Int), (unr n t g f r).length = n
  | 0, _, _, _, _ => rfl
  | n + 1, t, g, f, r => by
    unfold unr
    split
    · simp [unr_len n]
    · split <;> simp [unr_len n]

end Go.Proofs.YtfiifjcjmnhbnaaDoor
namespace Go.Proofs.YtfiifjcjmnhbnaaDoor
open Go.RowKit

/-- The rank of a list of signs, from its first sign on. -/
def rkL : List UInt8 → Int
  | [] => 0
  | c :: r => addR c (cnt 84 (c :: r)) (cnt 46 (c :: r)) (cnt 70 (c :: r)) + rkL r
theorem rkAt_rkL (s : ByteArray) : ∀ k, k ≤ s.size → rkAt s k + rkL ((byt s).drop k) = rkL (byt s)
  | 0, _ => by simp [rkAt]
  | k + 1, h => by
    have ih := rkAt_rkL s k (by omega)
    have hk : k < s.size := by omega
    rw [drop_cons s k hk, rkL, ← drop_cons s k hk] at ih
    rw [rkAt, sgAt_in s k hk]
    omega
theorem rkAt_all (s : ByteArray) : rkAt s s.size = rkL (byt s) := by
  have h := rkAt_rkL s s.size (Nat.le_refl _)
  rw [drop_all] at h
  simpa [rkL] using h

theorem many_zero : manyI 0 0 0 = 1 := by decide

/-- A line's rank is below the number of lines, and leads back to it. -/
theorem unr_rkL : ∀ (l : List UInt8), l.all isSign = true → l.length ≤ 12 →
    (0 ≤ rkL l ∧ rkL l < manyI (cnt 84 l) (cnt 46 l) (cnt 70 l)) ∧ unr l.length (cnt 84 l) (cnt 46 l) (cnt 70 l) (rkL l) = l
  | [], _, _ => ⟨by show 0 ≤ (0 : Int) ∧ 0 < manyI 0 0 0; rw [many_zero]; omega, rfl⟩
  | c :: r, h, h12 => by
    have hl := cnt_sum (c :: r) h
    rw [List.all_cons, Bool.and_eq_true] at h
    obtain ⟨⟨i0, i1⟩, i2⟩ := unr_rkL r h.2 (by simp at h12; omega)
    have hs := many_sum (cnt 84 (c :: r)) (cnt 46 (c :: r)) (cnt 70 (c :: r)) (by omega) (by omega) (by omega) (by simp at hl; omega) (by simp at hl h12; omega)
    have m1 := (manyI_le (cnt 84 (c :: r)) ((cnt 46 (c :: r) : Int) - 1) (cnt 70 (c :: r)) (by simp at hl h12; omega)).1
    have m2 := (manyI_le (cnt 84 (c :: r)) (cnt 46 (c :: r)) ((cnt 70 (c :: r) : Int) - 1) (by simp at hl h12; omega)).1
    have m3 := (manyI_le ((cnt 84 (c :: r) : Int) - 1) (cnt 46 (c :: r)) (cnt 70 (c :: r)) (by simp at hl h12; omega)).1
    have d1 := cnt_cons 84 c r
    have d2 := cnt_cons 46 c r
    have d3 := cnt_cons 70 c r
    rw [List.length_cons, unr]
    rcases sign_split h.1 with ⟨hc, _⟩ | ⟨hc, _⟩ | ⟨hc, _⟩
    · subst hc
      have e1 : cnt 84 (46 :: r) = cnt 84 r := by simpa using d1
      have e2 : ((cnt 46 (46 :: r) : Nat) : Int) - 1 = cnt 46 r := by simp at d2; omega
      have e3 : cnt 70 (46 :: r) = cnt 70 r := by simpa using d3
      have eR : rkL (46 :: r) = rkL r := by rw [rkL]; simp [addR]
      rw [eR]
      rw [e1, e2, e3] at m1 ⊢
      rw [e1, e2, e3] at hs
      rw [if_pos i1, i2]
      exact ⟨⟨i0, by rw [e1, e3] at m2 m3; omega⟩, rfl⟩
    · subst hc
      have e1 : cnt 84 (70 :: r) = cnt 84 r := by simpa using d1
      have e2 : cnt 46 (70 :: r) = cnt 46 r := by simpa using d2
      have e3 : ((cnt 70 (70 :: r) : Nat) : Int) - 1 = cnt 70 r := by simp at d3; omega
      have eR : rkL (70 :: r) = manyI (cnt 84 (70 :: r)) ((cnt 46 (70 :: r) : Int) - 1) (cnt 70 (70 :: r)) + rkL r := by rw [rkL]; simp [addR]
      rw [eR]
      generalize manyI (cnt 84 (70 :: r)) ((cnt 46 (70 :: r) : Int) - 1) (cnt 70 (70 :: r)) = a at *
      rw [e1, e2, e3] at m2 hs ⊢
      rw [if_neg (by omega), if_pos (by omega), show a + rkL r - a = rkL r by omega, i2]
      exact ⟨⟨by omega, by rw [e1, e2] at m3; omega⟩, rfl⟩
    · subst hc
      have e1 : ((cnt 84 (84 :: r) : Nat) : Int) - 1 = cnt 84 r := by simp at d1; omega
      have e2 : cnt 46 (84 :: r) = cnt 46 r := by simpa using d2
      have e3 : cnt 70 (84 :: r) = cnt 70 r := by simpa using d3
      have eR : rkL (84 :: r) = manyI (cnt 84 (84 :: r)) ((cnt 46 (84 :: r) : Int) - 1) (cnt 70 (84 :: r)) + manyI (cnt 84 (84 :: r)) (cnt 46 (84 :: r)) ((cnt 70 (84 :: r) : Int) - 1) + rkL r := by rw [rkL]; simp [addR]
      rw [eR]
      generalize manyI (cnt 84 (84 :: r)) ((cnt 46 (84 :: r) : Int) - 1) (cnt 70 (84 :: r)) = a at *
      generalize manyI (cnt 84 (84 :: r)) (cnt 46 (84 :: r)) ((cnt 70 (84 :: r) : Int) - 1) = b at *
      rw [e1, e2, e3] at hs m3 ⊢
      rw [if_neg (by omega), if_neg (by omega), show a + b + rkL r - (a + b) = rkL r by omega, i2]
      exact ⟨⟨by omega, by rw [hs]; omega⟩, rfl⟩

/-- The line of a rank has the numbers and the rank. -/
theorem rkL_unr : ∀ (n : Nat) (t g f r : Int), 0 ≤ t → 0 ≤ g → 0 ≤ f → t + g + f = n → n ≤ 12 → 0 ≤ r → r < manyI t g f →
    (unr n t g f r).all isSign = true ∧ (cnt 84 (unr n t g f r) : Int) = t ∧ (cnt 46 (unr n t g f r) : Int) = g ∧ (cnt 70 (unr n t g f r) : Int) = f ∧ rkL (unr n t g f r) = r
  | 0, t, g, f, r, ht, hg, hf, hn, _, h0, h1 => by
    obtain rfl : t = 0 := by omega
    obtain rfl : g = 0 := by omega
    obtain rfl : f = 0 := by omega
    rw [many_zero] at h1
    exact ⟨rfl, rfl, rfl, rfl, by show (0 : Int) = r; omega⟩
  | n + 1, t, g, f, r, ht, hg, hf, hn, h12, h0, h1 => by
    have hs := many_sum t g f ht hg hf (by omega) (by omega)
    have p1 : 0 < manyI t (g - 1) f → 0 ≤ t ∧ 0 ≤ g - 1 ∧ 0 ≤ f := many_pos
    have p2 : 0 < manyI t g (f - 1) → 0 ≤ t ∧ 0 ≤ g ∧ 0 ≤ f - 1 := many_pos
    have p3 : 0 < manyI (t - 1) g f → 0 ≤ t - 1 ∧ 0 ≤ g ∧ 0 ≤ f := many_pos
    rw [unr]
    split
    · rename_i c1
      obtain ⟨a, b, c, d, e⟩ := rkL_unr n t (g - 1) f r ht (by omega) hf (by omega) (by omega) h0 c1
      refine ⟨by rw [List.all_cons, a]; rfl, ?_, ?_, ?_, ?_⟩
      · rw [cnt_cons]; simp; omega
      · rw [cnt_cons]; simp; omega
      · rw [cnt_cons]; simp; omega
      · rw [rkL, e]; simp [addR]
    · rename_i c1
      split
      · rename_i c2
        obtain ⟨a, b, c, d, e⟩ := rkL_unr n t g (f - 1) (r - manyI t (g - 1) f) ht hg (by omega) (by omega) (by omega) (by omega) (by omega)
        have k1 : ((cnt 84 (70 :: unr n t g (f - 1) (r - manyI t (g - 1) f)) : Nat) : Int) = t := by rw [cnt_cons]; simp; omega
        have k2 : ((cnt 46 (70 :: unr n t g (f - 1) (r - manyI t (g - 1) f)) : Nat) : Int) = g := by rw [cnt_cons]; simp; omega
        have k3 : ((cnt 70 (70 :: unr n t g (f - 1) (r - manyI t (g - 1) f)) : Nat) : Int) = f := by rw [cnt_cons]; simp; omega
        refine ⟨by rw [List.all_cons, a]; rfl, k1, k2, k3, ?_⟩
        rw [rkL, e, k1, k2, k3]
        simp [addR]
        omega
      · rename_i c2
        obtain ⟨a, b, c, d, e⟩ := rkL_unr n (t - 1) g f (r - (manyI t (g - 1) f + manyI t g (f - 1))) (by omega) hg hf (by omega) (by omega) (by omega) (by omega)
        have k1 : ((cnt 84 (84 :: unr n (t - 1) g f (r - (manyI t (g - 1) f + manyI t g (f - 1)))) : Nat) : Int) = t := by rw [cnt_cons]; simp; omega
        have k2 : ((cnt 46 (84 :: unr n (t - 1) g f (r - (manyI t (g - 1) f + manyI t g (f - 1)))) : Nat) : Int) = g := by rw [cnt_cons]; simp; omega
        have k3 : ((cnt 70 (84 :: unr n (t - 1) g f (r - (manyI t (g - 1) f + manyI t g (f - 1)))) : Nat) : Int) = f := by rw [cnt_cons]; simp; omega
        refine ⟨by rw [List.all_cons, a]; rfl, k1, k2, k3, ?_⟩
        rw [rkL, e, k1, k2, k3]
        simp [addR]
        omega

/-- Bytes in order: the first that differs decides. -/
def lexLt : List UInt8 → List UInt8 → Prop
  | a :: l, b :: m => a < b ∨ (a = b ∧ lexLt l m)
  | [], _ :: _ => True
  | _, [] => False
theorem unr_lt : ∀ (n : Nat) (t g f r r' : Int), 0 ≤ t → 0 ≤ g → 0 ≤ f → t + g + f = n → n ≤ 12 → 0 ≤ r → r < r' → r' < manyI t g f → lexLt (unr n t g f r) (unr n t g f r')
  | 0, t, g, f, r, r', ht, hg, hf, hn, _, h0, h1, h2 => by
    obtain rfl : t = 0 := by omega
    obtain rfl : g = 0 := by omega
    obtain rfl : f = 0 := by omega
    rw [many_zero] at h2
    omega
  | n + 1, t, g, f, r, r', ht, hg, hf, hn, h12, h0, h1, h2 => by
    have hs := many_sum t g f ht hg hf (by omega) (by omega)
    have p1 : 0 < manyI t (g - 1) f → 0 ≤ t ∧ 0 ≤ g - 1 ∧ 0 ≤ f := many_pos
    have p2 : 0 < manyI t g (f - 1) → 0 ≤ t ∧ 0 ≤ g ∧ 0 ≤ f - 1 := many_pos
    have p3 : 0 < manyI (t - 1) g f → 0 ≤ t - 1 ∧ 0 ≤ g ∧ 0 ≤ f := many_pos
    rw [unr, unr]
    by_cases a1 : r' < manyI t (g - 1) f
    · rw [if_pos a1, if_pos (by omega)]
      exact .inr ⟨rfl, unr_lt n t (g - 1) f r r' ht (by omega) hf (by omega) (by omega) h0 h1 a1⟩
    · rw [if_neg a1]
      by_cases a2 : r' < manyI t (g - 1) f + manyI t g (f - 1)
      · rw [if_pos a2]
        by_cases b1 : r < manyI t (g - 1) f
        · rw [if_pos b1]; exact .inl (by decide)
        · rw [if_neg b1, if_pos (by omega)]
          exact .inr ⟨rfl, unr_lt n t g (f - 1) _ _ ht hg (by omega) (by omega) (by omega) (by omega) (by omega) (by omega)⟩
      · rw [if_neg a2]
        by_cases b1 : r < manyI t (g - 1) f
        · rw [if_pos b1]; exact .inl (by decide)
        · rw [if_neg b1]
          by_cases b2 : r < manyI t (g - 1) f + manyI t g (f - 1)
          · rw [if_pos b2]; exact .inl (by decide)
          · rw [if_neg b2]
            exact .inr ⟨rfl, unr_lt n (t - 1) g f _ _ (by omega) hg hf (by omega) (by omega) (by omega) (by omega) (by omega)⟩
end Go.Proofs.YtfiifjcjmnhbnaaDoor
namespace Go.Proofs.YtfiifjcjmnhbnaaDoor
open Go.RowKit

theorem cnt_app (c : UInt8) (l m : List UInt8) : cnt c (l ++ m) = cnt c l + cnt c m := by simp [cnt]
theorem cnt_rep (c d : UInt8) (n : Nat) : cnt c (List.replicate n d) = if d = c then n else 0 := by
  induction n with
  | zero => simp [cnt]
  | succ n ih => rw [List.replicate_succ, cnt_cons, ih]; split <;> omega
theorem all_rep (c : UInt8) (h : isSign c = true) (n : Nat) : (List.replicate n c).all isSign = true := by
  induction n with
  | zero => rfl
  | succ n ih => rw [List.replicate_succ, List.all_cons, h, ih]; rfl

/-- A last line is a line of the same numbers, with no way to go. -/
theorem lastL_all (l : List UInt8) : (lastL l).all isSign = true := by
  unfold lastL
  rw [List.all_append, List.all_append, all_rep 70 (by decide), all_rep 46 (by decide), all_rep 84 (by decide)]; rfl
theorem lastL_cnt (l : List UInt8) : cnt 84 (lastL l) = cnt 84 l ∧ cnt 46 (lastL l) = cnt 46 l ∧ cnt 70 (lastL l) = cnt 70 l := by
  unfold lastL
  simp [cnt_app, cnt_rep]
theorem lastL_same (l : List UInt8) (h : l.all isSign = true) : (lastL l).length = l.length := by
  rw [← cnt_sum _ (lastL_all l), (lastL_cnt l).1, (lastL_cnt l).2.1, (lastL_cnt l).2.2, cnt_sum l h]
theorem lastL_twice (l : List UInt8) : lastL (lastL l) = lastL l := by
  show List.replicate (cnt 70 (lastL l)) 70 ++ List.replicate (cnt 46 (lastL l)) 46 ++ List.replicate (cnt 84 (lastL l)) 84 = lastL l
  rw [(lastL_cnt l).1, (lastL_cnt l).2.1, (lastL_cnt l).2.2]; rfl
theorem lastL_way (l : List UInt8) : wayL (lastL l) = 0 := by
  unfold wayL
  rw [lastL_twice]; omega

/-- A first line has as many pairs as the numbers say, and the longest way. -/
theorem pairSt_toads (l : List UInt8) : ∀ n, pairSt (l ++ List.replicate n 84) = ((pairSt l).1, (pairSt l).2 + n)
  | 0 => by simp
  | n + 1 => by rw [List.replicate_succ', ← List.append_assoc, pairSt_snoc, pairSt_toads l n]; simp [pairStep]; omega
theorem pairSt_gaps (l : List UInt8) : ∀ n, pairSt (l ++ List.replicate n 46) = pairSt l
  | 0 => by simp
  | n + 1 => by rw [List.replicate_succ', ← List.append_assoc, pairSt_snoc, pairSt_gaps l n]; simp [pairStep]
theorem pairSt_frogs (l : List UInt8) : ∀ n, pairSt (l ++ List.replicate n 70) = ((pairSt l).1 + n * (pairSt l).2, (pairSt l).2)
  | 0 => by simp
  | n + 1 => by
    rw [List.replicate_succ', ← List.append_assoc, pairSt_snoc, pairSt_frogs l n]
    simp only [pairStep, Nat.add_mul]
    simp; omega
theorem firstL_pairs (t g f : Nat) : (pairSt (firstL t g f)).1 = t * f := by
  unfold firstL
  have h := pairSt_toads [] t
  rw [List.nil_append] at h
  rw [pairSt_frogs, pairSt_gaps, h]
  simp [pairSt, Nat.mul_comm]
theorem firstL_all (t g f : Nat) : (firstL t g f).all isSign = true := by
  unfold firstL
  rw [List.all_append, List.all_append, all_rep 70 (by decide), all_rep 46 (by decide), all_rep 84 (by decide)]; rfl
theorem firstL_cnt (t g f : Nat) : cnt 84 (firstL t g f) = t ∧ cnt 46 (firstL t g f) = g ∧ cnt 70 (firstL t g f) = f := by
  unfold firstL
  simp [cnt_app, cnt_rep]
theorem firstL_len (t g f : Nat) : (firstL t g f).length = t + g + f := by simp [firstL]; omega
theorem pl_move (b m : Nat) : pl b m = pl 0 m + b * m := by
  induction m with
  | zero => simp [pl]
  | succ m ih => rw [pl, pl, ih, Nat.mul_succ]; omega
theorem firstL_way (t g f : Nat) : wayL (firstL t g f) = ((t * (g + f) + f * (t + g) : Nat) : Int) := by
  unfold wayL
  have h1 := last84 _ (firstL_all t g f)
  have h2 := last70 (firstL t g f)
  rw [h1, h2, (firstL_cnt t g f).1, (firstL_cnt t g f).2.2, firstL_len]
  have e1 : (sumSt 84 (firstL t g f)).1 = pl 0 t := by
    unfold firstL
    rw [sumSt_other 84 70 (by decide), sumSt_other 84 46 (by decide)]
    have := sumSt_same 84 [] t
    simpa [sumSt] using this
  have e2 : (sumSt 70 (firstL t g f)).1 = pl (t + g) f := by
    unfold firstL
    rw [sumSt_same, sumSt_other 70 46 (by decide)]
    have := sumSt_other 70 84 (by decide) [] t
    rw [List.nil_append] at this
    rw [this]
    simp [sumSt]
  rw [e1, e2, pl_move (t + g + f - t) t, pl_move (t + g) f]
  have e3 : t + g + f - t = g + f := by omega
  rw [e3, Nat.mul_comm (g + f) t, Nat.mul_comm (t + g) f]
  omega

theorem lexLt_ne {a b : List UInt8} (h : lexLt a b) : a ≠ b := by
  intro e; subst e
  induction a with
  | nil => exact h
  | cons c r ih =>
    rcases h with h | ⟨_, h⟩
    · exact absurd h (by simp [UInt8.lt_irrefl])
    · exact ih h
/-- A line is not at or before one that it follows. -/
theorem lexLt_not : ∀ (a b : List UInt8), lexLt a b → Op.bytesLess b a = false
  | [], [], h => by simp [lexLt] at h
  | [], _ :: _, _ => by simp [Op.bytesLess]
  | _ :: _, [], h => by simp [lexLt] at h
  | c :: r, d :: q, h => by
    rw [Op.bytesLess]
    rcases h with h | ⟨rfl, h⟩
    · have h1 : ¬ d < c := by
        intro h2
        exact absurd (UInt8.lt_trans h h2) (by simp [UInt8.lt_irrefl])
      have h3 : ¬ d = c := by
        intro e; subst e
        exact absurd h (by simp [UInt8.lt_irrefl])
      simp [h1, h3]
    · have h1 : ¬ c < c := by simp [UInt8.lt_irrefl]
      simp [h1, lexLt_not r q h]
theorem leq_no (t : TypeId) (P : Program) (w : World) {a b : List UInt8} (h : lexLt a b) : (binOp .leq t (.string (str b)) (.string (str a))).run P w = .ok (.bool false) w := by
  have h1 := lexLt_not a b h
  have h2 : ¬ b = a := fun e => lexLt_ne h e.symm
  have e : binOp .leq t (.string (str b)) (.string (str a)) = pure (.bool (Op.bytesLess (str b).toList (str a).toList || ((str b).toList == (str a).toList))) := by simp [binOp, Op.stringOp]
  rw [e, Lib.toList_data, Lib.toList_data]
  show (pure (.bool (Op.bytesLess b a || (b == a))) : Sem Value).run P w = _
  rw [h1]
  simp [h2]
end Go.Proofs.YtfiifjcjmnhbnaaDoor
