/- Contracts: how many moves are left; a look at the live lines. -/
import Derived.Test.YtfiifjcjmnhbnaaDoorSwV
import Derived.Test.YtfiifjcjmnhbnaaDoorPlay
import Derived.Test.YtfiifjcjmnhbnaaDoorImp
namespace Go.Proofs.YtfiifjcjmnhbnaaDoor
open Go.RowKit Go.Shelf Go.Maps

set_option maxHeartbeats 1000000 in
theorem swLeft_any (n : Nat) (l : List UInt8) (w : World) (hg : goodT n l) (h8 : n ≤ 8) :
    Calls Tryd.prog 29 #[swpV l] w fun e w' => e = .returned (.int .i64 (msL l)) ∧ Below w.heap.size w w' := by
  have G := G8.of hg h8
  have HT := Lib.hid (fun wx => swpText_any l wx G.len G.nz)
  have hmx : (str l).size ≤ maxLen := by rw [str_size]; have := G.len; unfold maxLen; omega
  have HW := Lib.hid (fun wx => way_any (str l) wx hmx)
  have HP := Lib.hid (fun wx => pairs_any (str l) wx hmx)
  have e1 : intOr (goodL (str l)) (wayL (byt (str l))) = .tuple #[.int .i64 (wayL l), .bool true] := by rw [hg.1, byt_str]; rfl
  have e2 : intOr (goodL (str l)) (pairSt (byt (str l))).1 = .tuple #[.int .i64 ((pairSt l).1 : Int), .bool true] := by rw [hg.1, byt_str]; rfl
  rw [e1] at HW
  rw [e2] at HP
  have b0 : 0 ≤ wayL l := (steps_line n).pos l hg
  have b1 := wayL_le hg
  have b2 : (pairSt l).1 ≤ 64 := by
    have h1 := (pairSt_le l).2
    have h2 := Nat.mul_le_mul G.len G.len
    omega
  have HM : Hid (msL l = wayL l - ((pairSt l).1 : Int)) := Lib.hid rfl
  rw [HM.out]
  obtain ⟨c0, c1, c2, c3, c4, c5, c6, c7, hc⟩ := eight_of G.len
  rw [hc.val] at HT ⊢
  generalize wayL l = y at *
  generalize (pairSt l).1 = p at *
  clear e1 e2 G hg hc HM hmx
  go_enter Tryd.func29, Tryd.ntmps29
  go_wp2_with fail
  refine (HT.out _).mono ?_
  rintro e w1 ⟨rfl, hb1⟩
  have HB := Lib.hid (((Below.refl w.heap.size w).alloc (Nat.le_refl _) _).trans (hb1.mono (by simp)))
  clear hb1
  go_wp2_with fail
  refine (HW.out _).mono ?_
  rintro e w2 ⟨rfl, rfl⟩
  go_wp2_with fail
  refine (HP.out _).mono ?_
  rintro e w3 ⟨rfl, rfl⟩
  go_wp2_with fail
  go_ret
  exact ⟨rfl, HB.out⟩
/-- A look at the map of live lines. -/
theorem live_at {W : World} {b k : Nat} {D : DataW Unit} {L : List (List UInt8)} (h : W.ownsMap Tryd.prog 39 iRw b k D) (hv : LiveV D L) (hL : ∀ y ∈ L, G8 y) {y : List UInt8} (hy : G8 y) :
    ∀ W', W'.ownsMap Tryd.prog 39 iRw b k D → (Instr.lookup 41 (.map (some b)) (swpV y) false).run Tryd.prog W' = .ok (.int .i64 (lvN L y : Int)) W' := by
  obtain ⟨d, hd, hr⟩ := live_look h hy.len
  rw [hv.at hL hy] at hd
  simp only [DataW.lit.injEq, Lit.int.injEq] at hd
  rw [hd.2]
  exact hr
set_option maxHeartbeats 1000000 in
theorem liveHas_any (l : List UInt8) (L : List (List UInt8)) (b k : Nat) (D : DataW Unit) (w : World) (hl : G8 l) (h : w.ownsMap Tryd.prog 39 iRw b k D) (hv : LiveV D L) (hL : ∀ y ∈ L, G8 y) :
    Calls Tryd.prog 47 #[.map (some b), swpV l] w fun e w' => e = .returned (.bool (decide (0 < lvN L l))) ∧ Below w.heap.size w w' := by
  have hlook := live_at h hv hL hl
  obtain ⟨c0, c1, c2, c3, c4, c5, c6, c7, hc⟩ := eight_of hl.len
  rw [hc.val] at hlook ⊢
  have HR := Lib.hid (hlook _ (h.alloc (Obj.cells #[Value.int .u8 c0, .int .u8 c1, .int .u8 c2, .int .u8 c3, .int .u8 c4, .int .u8 c5, .int .u8 c6, .int .u8 c7] 39)))
  have hr := HR.out
  generalize lvN L l = q at *
  clear hlook hc
  go_enter Tryd.func47, Tryd.ntmps47
  go_wp2_with fail
  go_ret
  refine ⟨by simp, (Below.refl _ _).alloc (Nat.le_refl _) _⟩
end Go.Proofs.YtfiifjcjmnhbnaaDoor
namespace Go.Proofs.YtfiifjcjmnhbnaaDoor
open Go.RowKit

/-- Few toads, gaps and frogs. -/
def few (t g f : Int) : Bool := [t, g, f].all (inR · 0 8) && inR (t + g + f) 1 8
theorem few_iff (t g f : Int) : few t g f = true ↔ (0 ≤ t ∧ t ≤ 8) ∧ (0 ≤ g ∧ g ≤ 8) ∧ (0 ≤ f ∧ f ≤ 8) ∧ 1 ≤ t + g + f ∧ t + g + f ≤ 8 := by
  simp [few, inR, and_assoc]
theorem few_three {t g f : Int} (h : few t g f = true) : three t g f = true := by
  have := (few_iff t g f).1 h
  exact (three_iff t g f).2 (by omega)
theorem few_of {t g f : Int} (h : three t g f = true) : few t g f = decide (t + g + f ≤ 8) := by
  have := (three_iff t g f).1 h
  rw [Bool.eq_iff_iff, few_iff]
  simp
  omega
/-- How many moves an exchange has. -/
def exLen (t g f : Int) : Int := g * (t + f) + t * f
/-- There is an exchange. -/
def hasEx (t g f : Int) : Bool := decide (0 < g) || (t == 0) || (f == 0)
theorem mul_in {a b : Int} (n m : Int) (h1 : 0 ≤ a) (h2 : a ≤ n) (h3 : 0 ≤ b) (h4 : b ≤ m) : 0 ≤ a * b ∧ a * b ≤ n * m :=
  ⟨Int.mul_nonneg h1 h3, Int.mul_le_mul h2 h4 h3 (by omega)⟩

set_option maxHeartbeats 400000 in
theorem swNumbers_any (t g f : Int) (w : World) :
    Calls Tryd.prog 9 #[.int .i64 t, .int .i64 g, .int .i64 f] w fun e w' => e = .returned (.bool (few t g f)) ∧ Below w.heap.size w w' := by
  have hcell := Lib.hid (three_cells t g f w)
  cases ha : [t, g, f].all (inR · 0 8)
  · have hA := Lib.hid ha
    have h3 : Hid (few t g f = false) := by show _ = _; unfold few; rw [ha]; rfl
    clear ha
    go_enter Tryd.func9, Tryd.ntmps9
    go_wp2_with (go_at_call 19; refine (l1All_any _ 3 [t, g, f] _ _ _ (by simp) hcell.out).mono ?_; rintro e w' ⟨rfl, rfl⟩; rw [hA.out])
    go_ret
    exact ⟨congrArg (fun b => Ending.returned (.bool b)) h3.out.symm, (Below.refl _ _).alloc (Nat.le_refl _) _⟩
  · have hA := Lib.hid ha
    have h3 : Hid (few t g f = inR (t + g + f) 1 8) := by show _ = _; unfold few; rw [ha]; rfl
    have hb : (0 ≤ t ∧ t ≤ 8) ∧ (0 ≤ g ∧ g ≤ 8) ∧ (0 ≤ f ∧ f ≤ 8) := by simpa [inR] using ha
    clear ha
    obtain ⟨⟨_, _⟩, ⟨_, _⟩, ⟨_, _⟩⟩ := hb
    go_enter Tryd.func9, Tryd.ntmps9
    go_wp2_with (first | (go_at_call 19; refine (l1All_any _ 3 [t, g, f] _ _ _ (by simp) hcell.out).mono ?_; rintro e w' ⟨rfl, rfl⟩; rw [hA.out]) | (go_at_call 20; refine (l1In_any _ _ _ _).mono ?_; rintro e w' ⟨rfl, rfl⟩))
    go_ret
    exact ⟨congrArg (fun b => Ending.returned (.bool b)) h3.out.symm, (Below.refl _ _).alloc (Nat.le_refl _) _⟩

set_option maxHeartbeats 400000 in
theorem swapCounts_any (t g f : Int) (w : World) :
    Calls Tryd.prog 25 #[.int .i64 t, .int .i64 g, .int .i64 f] w fun e w' => e = .returned (.bool (few t g f)) ∧ w = w' := by
  cases hc : three t g f
  · have hC := Lib.hid hc
    have h3 : Hid (few t g f = false) := by
      show _ = _
      rw [Bool.eq_false_iff]
      intro h
      rw [few_three h] at hc
      cases hc
    clear hc
    go_enter Tryd.func25, Tryd.ntmps25
    go_wp2_with (go_at_call 38; refine (areCounts_any _ _ _ _).mono ?_; rintro e w' ⟨rfl, rfl⟩; rw [hC.out])
    go_ret
    exact ⟨congrArg (fun b => Ending.returned (.bool b)) h3.out.symm, rfl⟩
  · have hC := Lib.hid hc
    have h3 := Lib.hid (few_of hc)
    obtain ⟨⟨_, _⟩, ⟨_, _⟩, ⟨_, _⟩, _, _⟩ := (three_iff t g f).1 hc
    clear hc
    go_enter Tryd.func25, Tryd.ntmps25
    go_wp2_with (go_at_call 38; refine (areCounts_any _ _ _ _).mono ?_; rintro e w' ⟨rfl, rfl⟩; rw [hC.out])
    go_ret
    exact ⟨congrArg (fun b => Ending.returned (.bool b)) h3.out.symm, rfl⟩

theorem exLen_in {t g f : Int} (h : few t g f = true) : (0 ≤ g * (t + f) ∧ g * (t + f) ≤ 64) ∧ (0 ≤ t * f ∧ t * f ≤ 64) := by
  have := (few_iff t g f).1 h
  exact ⟨mul_in (n := 8) (m := 8) (by omega) (by omega) (by omega) (by omega), mul_in (n := 8) (m := 8) (by omega) (by omega) (by omega) (by omega)⟩

/-- The model's pair of length and whether there is one. -/
def lenPair (t g f : Int) : Value := .tuple #[.int .i64 (exLen t g f), .bool (hasEx t g f)]

theorem asks_no {t g f : Int} (h : few t g f = false) : (few t g f && hasEx t g f) = false := by rw [h]; rfl
theorem asks_ex {t g f : Int} (h : few t g f = true) : (few t g f && hasEx t g f) = hasEx t g f := by rw [h]; rfl

theorem asked_few {t g f : Int} (h : (few t g f && hasEx t g f) = true) : few t g f = true := by
  rw [Bool.and_eq_true] at h
  exact h.1
/-- The lines of slides are what is left without the jumps. -/
theorem slides_eq (t g f : Int) : exLen t g f - t * f = g * (t + f) := by unfold exLen; omega

/-- Two numbers of kinds, few together. -/
def few2 (t f : Int) : Bool := [t, f].all (inR · 0 8) && decide (t + f ≤ 8)
theorem few2_iff (t f : Int) : few2 t f = true ↔ (0 ≤ t ∧ t ≤ 8) ∧ (0 ≤ f ∧ f ≤ 8) ∧ t + f ≤ 8 := by
  simp [few2, inR, and_assoc]
theorem two_cells (t f : Int) (w : World) : ∀ (j : Nat),
  j < [t, f].length →
    (w.alloc (Obj.cells #[Value.int IntKind.i64 t, Value.int IntKind.i64 f] 3)).cell? { block := w.heap.size, off := j } =
      some (Value.int IntKind.i64 ([t, f].getD j 0)) := by
  intro j hj
  rw [World.cell?_alloc_new]
  match j, hj with
  | 0, _ => rfl
  | 1, _ => rfl

end Go.Proofs.YtfiifjcjmnhbnaaDoor
namespace Go.Proofs.YtfiifjcjmnhbnaaDoor
open Go.RowKit Go.Shelf Go.Maps

theorem first_len {t g f : Int} (h : few t g f = true) : (firstL t.toNat g.toNat f.toNat).length = (t + g + f).toNat := by
  have := (few_iff t g f).1 h
  simp [firstL]
  omega
theorem first_goodT {t g f : Int} (h : few t g f = true) : goodT (t + g + f).toNat (firstL t.toNat g.toNat f.toNat) := by
  have h1 := (few_iff t g f).1 h
  have h2 := first_len h
  refine ⟨(goodL_iff _).2 ⟨by rw [str_size, h2]; omega, by rw [str_size, h2]; omega, ?_⟩, h2, by omega⟩
  rw [byt_str]
  unfold firstL
  rw [List.all_append, List.all_append, all_rep 84 (by decide), all_rep 46 (by decide), all_rep 70 (by decide)]
  rfl
/-- The result's ten cells, read. -/
theorem results_ex (tmps : Array Value) (w : World) (r : Nat) (c0 c1 c2 c3 c4 c5 c6 c7 m : Int) (v : Value) (hp : tmps.getD 6 undef = .pointer (some ⟨r, 0, none⟩)) (h : Cells8 w r 0 c0 c1 c2 c3 c4 c5 c6 c7) (h8 : w.cell? ⟨r, 8, none⟩ = some (.int .i64 m)) (h9 : w.cell? ⟨r, 9, none⟩ = some v) :
    (results Tryd.f13 tmps).run Tryd.prog w = .ok (.tuple #[.agg #[.int .u8 c0, .int .u8 c1, .int .u8 c2, .int .u8 c3, .int .u8 c4, .int .u8 c5, .int .u8 c6, .int .u8 c7, .int .i64 m, v], tmps.getD 7 undef]) w := by
  obtain ⟨q0, q1, q2, q3, q4, q5, q6, q7⟩ := h.zero
  have hr : Tryd.f13.results = #[.cell 6 43, .tmp 7] := rfl
  unfold results
  rw [hr]
  simp at hp
  simp [hp, asAddr, q0, q1, q2, q3, q4, q5, q6, q7, h8, h9, go_sem]
/-- A new result in memory: all zero, and to be written. -/
structure Z10 (W : World) (B : Nat) : Prop where
  lt : B < W.heap.size
  c : Cells8 W B 0 0 0 0 0 0 0 0 0
  c8 : W.cell? ⟨B, 8, none⟩ = some (.int .i64 0)
  c9 : W.cell? ⟨B, 9, none⟩ = some (.map none)
  f : ∀ j, j < 10 → W.frozen? ⟨B, j, none⟩ = false
theorem Z10.new (W : World) : Z10 (W.alloc (Obj.cells #[.int .u8 0, .int .u8 0, .int .u8 0, .int .u8 0, .int .u8 0, .int .u8 0, .int .u8 0, .int .u8 0, .int .i64 0, .map none] 43)) W.heap.size := by
  have hb : (W.alloc (Obj.cells #[.int .u8 0, .int .u8 0, .int .u8 0, .int .u8 0, .int .u8 0, .int .u8 0, .int .u8 0, .int .u8 0, .int .i64 0, .map none] 43)).heap[W.heap.size]? = some (Obj.cells #[.int .u8 0, .int .u8 0, .int .u8 0, .int .u8 0, .int .u8 0, .int .u8 0, .int .u8 0, .int .u8 0, .int .i64 0, .map none] 43) := heap_alloc_new W _
  refine ⟨by simp, ?_, ?_, ?_, fun j hj => ?_⟩
  · unfold Cells8 World.cell?
    rw [hb]
    exact ⟨rfl, rfl, rfl, rfl, rfl, rfl, rfl, rfl⟩
  · unfold World.cell?
    rw [hb]
    rfl
  · unfold World.cell?
    rw [hb]
    rfl
  · unfold World.frozen?
    rw [hb]
    rcases (by omega : j = 0 ∨ j = 1 ∨ j = 2 ∨ j = 3 ∨ j = 4 ∨ j = 5 ∨ j = 6 ∨ j = 7 ∨ j = 8 ∨ j = 9) with rfl | rfl | rfl | rfl | rfl | rfl | rfl | rfl | rfl | rfl <;> rfl
theorem Z10.step {W W' : World} {B : Nat} (h : Z10 W B) (hb : Below W.heap.size W W') : Z10 W' B := by
  have hl := h.lt
  have e := fun j => hb.cell (p := ⟨B, j, none⟩) hl
  refine ⟨Nat.lt_of_lt_of_le hl hb.size, h.c.kept hb hl, (e 8).trans h.c8, (e 9).trans h.c9, fun j hj => ?_⟩
  rw [hb.frozen (p := ⟨B, j, none⟩) hl]
  exact h.f j hj
theorem Z10.fill {W : World} {B : Nat} (h : Z10 W B) (c0 c1 c2 c3 c4 c5 c6 c7 m : Int) (v : Value) : Cells8 ((((((((((W.setCell ⟨B, 0, none⟩ (.int .u8 c0)).setCell ⟨B, 1, none⟩ (.int .u8 c1)).setCell ⟨B, 2, none⟩ (.int .u8 c2)).setCell ⟨B, 3, none⟩ (.int .u8 c3)).setCell ⟨B, 4, none⟩ (.int .u8 c4)).setCell ⟨B, 5, none⟩ (.int .u8 c5)).setCell ⟨B, 6, none⟩ (.int .u8 c6)).setCell ⟨B, 7, none⟩ (.int .u8 c7)).setCell ⟨B, 8, none⟩ (.int .i64 m)).setCell ⟨B, 9, none⟩ v) B 0 c0 c1 c2 c3 c4 c5 c6 c7 ∧ ((((((((((W.setCell ⟨B, 0, none⟩ (.int .u8 c0)).setCell ⟨B, 1, none⟩ (.int .u8 c1)).setCell ⟨B, 2, none⟩ (.int .u8 c2)).setCell ⟨B, 3, none⟩ (.int .u8 c3)).setCell ⟨B, 4, none⟩ (.int .u8 c4)).setCell ⟨B, 5, none⟩ (.int .u8 c5)).setCell ⟨B, 6, none⟩ (.int .u8 c6)).setCell ⟨B, 7, none⟩ (.int .u8 c7)).setCell ⟨B, 8, none⟩ (.int .i64 m)).setCell ⟨B, 9, none⟩ v).cell? ⟨B, 8, none⟩ = some (.int .i64 m) ∧ ((((((((((W.setCell ⟨B, 0, none⟩ (.int .u8 c0)).setCell ⟨B, 1, none⟩ (.int .u8 c1)).setCell ⟨B, 2, none⟩ (.int .u8 c2)).setCell ⟨B, 3, none⟩ (.int .u8 c3)).setCell ⟨B, 4, none⟩ (.int .u8 c4)).setCell ⟨B, 5, none⟩ (.int .u8 c5)).setCell ⟨B, 6, none⟩ (.int .u8 c6)).setCell ⟨B, 7, none⟩ (.int .u8 c7)).setCell ⟨B, 8, none⟩ (.int .i64 m)).setCell ⟨B, 9, none⟩ v).cell? ⟨B, 9, none⟩ = some v := by
  obtain ⟨q0, q1, q2, q3, q4, q5, q6, q7⟩ := h.c.zero
  have hb : W.there B 0 [.int .u8 c0, .int .u8 c1, .int .u8 c2, .int .u8 c3, .int .u8 c4, .int .u8 c5, .int .u8 c6, .int .u8 c7, .int .i64 m, v].length := fun j hj => by
    have hj : j < 10 := hj
    rw [Nat.zero_add, h.f j hj]
    refine ⟨?_, rfl⟩
    rcases (by omega : j = 0 ∨ j = 1 ∨ j = 2 ∨ j = 3 ∨ j = 4 ∨ j = 5 ∨ j = 6 ∨ j = 7 ∨ j = 8 ∨ j = 9) with rfl | rfl | rfl | rfl | rfl | rfl | rfl | rfl | rfl | rfl
    · rw [q0]; rfl
    · rw [q1]; rfl
    · rw [q2]; rfl
    · rw [q3]; rfl
    · rw [q4]; rfl
    · rw [q5]; rfl
    · rw [q6]; rfl
    · rw [q7]; rfl
    · rw [h.c8]; rfl
    · rw [h.c9]; rfl
  have hr : (W.setCells B 0 [.int .u8 c0, .int .u8 c1, .int .u8 c2, .int .u8 c3, .int .u8 c4, .int .u8 c5, .int .u8 c6, .int .u8 c7, .int .i64 m, v]).rangeAt B 0 [.int .u8 c0, .int .u8 c1, .int .u8 c2, .int .u8 c3, .int .u8 c4, .int .u8 c5, .int .u8 c6, .int .u8 c7, .int .i64 m, v] := World.rangeAt_setCells_same _ _ _ _ hb
  have e : W.setCells B 0 [.int .u8 c0, .int .u8 c1, .int .u8 c2, .int .u8 c3, .int .u8 c4, .int .u8 c5, .int .u8 c6, .int .u8 c7, .int .i64 m, v] = ((((((((((W.setCell ⟨B, 0, none⟩ (.int .u8 c0)).setCell ⟨B, 1, none⟩ (.int .u8 c1)).setCell ⟨B, 2, none⟩ (.int .u8 c2)).setCell ⟨B, 3, none⟩ (.int .u8 c3)).setCell ⟨B, 4, none⟩ (.int .u8 c4)).setCell ⟨B, 5, none⟩ (.int .u8 c5)).setCell ⟨B, 6, none⟩ (.int .u8 c6)).setCell ⟨B, 7, none⟩ (.int .u8 c7)).setCell ⟨B, 8, none⟩ (.int .i64 m)).setCell ⟨B, 9, none⟩ v) := by simp [World.setCells]
  rw [e] at hr
  exact ⟨⟨hr 0 _ rfl, hr 1 _ rfl, hr 2 _ rfl, hr 3 _ rfl, hr 4 _ rfl, hr 5 _ rfl, hr 6 _ rfl, hr 7 _ rfl⟩, hr 8 _ rfl, hr 9 _ rfl⟩
/-- All but one block stand as they stood. -/
structure OffR (r : Nat) (V W : World) : Prop where
  cell : ∀ b, b < V.heap.size → b ≠ r → ∀ o, W.cell? ⟨b, o, none⟩ = V.cell? ⟨b, o, none⟩
theorem OffR.below {r : Nat} {V W : World} (h : Below V.heap.size V W) : OffR r V W := ⟨fun b hb _ o => h.cell (p := ⟨b, o, none⟩) hb⟩
theorem OffR.setCell {r j : Nat} {V W : World} {v : Value} (h : OffR r V W) : OffR r V (W.setCell ⟨r, j, none⟩ v) := ⟨fun b hb hne o => (World.cell?_setCell_far _ _ _ _ (Ne.symm hne)).trans (h.cell b hb hne o)⟩
theorem OffR.drew {r : Nat} {V W : World} (h : OffR r V W) : OffR r V W.drew := ⟨fun b hb hne o => h.cell b hb hne o⟩
theorem OffR.eight {r g : Nat} {V W : World} {c0 c1 c2 c3 c4 c5 c6 c7 : Int} (h : OffR r V W) (hc : Cells8 V g 0 c0 c1 c2 c3 c4 c5 c6 c7) (hl : g < V.heap.size) (hne : g ≠ r) : Cells8 W g 0 c0 c1 c2 c3 c4 c5 c6 c7 := by
  obtain ⟨h0, h1, h2, h3, h4, h5, h6, h7⟩ := hc
  have e := h.cell g hl hne
  exact ⟨(e _).trans h0, (e _).trans h1, (e _).trans h2, (e _).trans h3, (e _).trans h4, (e _).trans h5, (e _).trans h6, (e _).trans h7⟩
/-- No exchange: all zero. -/
def ExNo (w : World) (e : Ending) (w' : World) : Prop :=
  e = .returned (.tuple #[.agg #[.int .u8 0, .int .u8 0, .int .u8 0, .int .u8 0, .int .u8 0, .int .u8 0, .int .u8 0, .int .u8 0, .int .i64 0, .map none], .bool false]) ∧ Below w.heap.size w w'
/-- The exchange that begins at a line. -/
def ExYes (l : List UInt8) (w : World) (e : Ending) (w' : World) : Prop :=
  ∃ bm D c0 c1 c2 c3 c4 c5 c6 c7, Eight l c0 c1 c2 c3 c4 c5 c6 c7 ∧ e = .returned (.tuple #[.agg #[.int .u8 c0, .int .u8 c1, .int .u8 c2, .int .u8 c3, .int .u8 c4, .int .u8 c5, .int .u8 c6, .int .u8 c7, .int .i64 (msL l), .map (some bm)], .bool true]) ∧
    w.heap.size ≤ bm ∧ w'.ownsMap Tryd.prog 39 iRw bm (swA l).length D ∧ LiveV D (swA l) ∧ Below w.heap.size w w'
set_option maxRecDepth 100000 in
set_option maxHeartbeats 4000000 in
theorem exchangeOf_no (t g f : Int) (w : World) (h : few t g f = false) :
    Calls Tryd.prog 13 #[.int .i64 t, .int .i64 g, .int .i64 f] w (ExNo w) := by
  have HC := Lib.hid h
  clear h
  go_enter Tryd.func13, Tryd.ntmps13
  go_wp2_with fail
  refine (swapCounts_any _ _ _ _).mono ?_
  rintro e w1 ⟨rfl, rfl⟩
  rw [HC.out]
  go_wp2_with fail
  (try simp only [Exit.inBlock, Exit.then]); refine bodyPost_ret (results_ex _ _ w.heap.size 0 0 0 0 0 0 0 0 0 (.map none) rfl (Z10.new w).c (Z10.new w).c8 (Z10.new w).c9) rfl ?_
  exact ⟨rfl, (Below.refl _ _).alloc (Nat.le_refl _) _⟩
set_option maxRecDepth 100000 in
set_option maxHeartbeats 4000000 in
theorem exchangeOf_yes (t g f : Int) (w : World) (h : few t g f = true) :
    Calls Tryd.prog 13 #[.int .i64 t, .int .i64 g, .int .i64 f] w (ExYes (firstL t.toNat g.toNat f.toNat) w) := by
  have hg := first_goodT h
  have h8 : (t + g + f).toNat ≤ 8 := by have := (few_iff t g f).1 h; omega
  have hF := Lib.hid (strOr_yes (three t g f) (firstL t.toNat g.toNat f.toNat) (few_three h))
  have HFL := Lib.hid (fun wx => firstLine_any t g f wx)
  rw [hF.out] at HFL
  have HC := Lib.hid h
  generalize (t + g + f).toNat = n at hg h8
  generalize firstL t.toNat g.toNat f.toNat = l at *
  have hl8 := (G8.of hg h8).len
  have hs : (str l).size ≤ maxLen := by rw [str_size]; unfold maxLen; omega
  have HLL := Lib.hid (fun wx => lastLine_any (str l) wx hs)
  have hLY := strOr_yes (goodL (str l)) (lastL (byt (str l))) hg.1
  rw [hLY, byt_str] at HLL
  have hgL : goodT n (lastL l) := by
    have hs : l.all isSign = true := by have := ((goodL_iff (str l)).1 hg.1).2.2; rwa [byt_str] at this
    have h1 : (lastL l).length = l.length := lastL_same l hs
    refine ⟨(goodL_iff _).2 ?_, by rw [h1]; exact hg.2⟩
    have h2 := (goodL_iff _).1 hg.1
    rw [str_size] at h2 ⊢
    rw [h1]
    exact ⟨h2.1, h2.2.1, by rw [byt_str]; exact lastL_all l⟩
  have HO1 := Lib.hid (fun wx => swpOf_any (str l) wx (by rw [str_size]; exact hl8))
  have HO2 := Lib.hid (fun wx => swpOf_any (str (lastL l)) wx (by rw [str_size]; exact (G8.of hgL h8).len))
  have HLV := Lib.hid (fun wx => liveBetween_any n l wx hg h8)
  have HML := Lib.hid (fun wx => swLeft_any n l wx hg h8)
  rw [byt_str] at HO1 HO2
  obtain ⟨c0, c1, c2, c3, c4, c5, c6, c7, hc⟩ := eight_of hl8
  obtain ⟨b0, b1, b2, b3, b4, b5, b6, b7, hb⟩ := eight_of (G8.of hgL h8).len
  rw [hc.val] at HO1 HLV HML
  rw [hb.val] at HO2 HLV
  have HCE := Lib.hid hc
  clear h hF hLY hg hgL hl8 hs hc hb
  go_enter Tryd.func13, Tryd.ntmps13
  go_wp2_with fail
  refine (swapCounts_any _ _ _ _).mono ?_
  rintro e w1 ⟨rfl, rfl⟩
  rw [HC.out]
  go_wp2_with fail
  refine (HFL.out _).mono ?_
  rintro e w1 ⟨rfl, hb1⟩
  go_wp2_with fail
  refine (HLL.out _).mono ?_
  rintro e w2 ⟨rfl, hb2⟩
  go_wp2_with fail
  refine (HO1.out _).mono ?_
  rintro e w3 ⟨rfl, hb3⟩
  go_wp2_with fail
  refine (HO2.out _).mono ?_
  rintro e w4 ⟨rfl, hb4⟩
  go_upto_region 6 with fail
  have hz1 := hb1.size
  have HZ0 := (Z10.new w).step hb1
  have hBw : Below w.heap.size w w1 := ((Below.refl w.heap.size w).alloc (Nat.le_refl _) _).trans (hb1.mono (by simp))
  have hB4 : Below w.heap.size w w4 := ((hBw.trans (hb2.mono hBw.size)).trans (hb3.mono (hBw.trans (hb2.mono hBw.size)).size)).trans (hb4.mono ((hBw.trans (hb2.mono hBw.size)).trans (hb3.mono (hBw.trans (hb2.mono hBw.size)).size)).size)
  have HZ4 := ((HZ0.step hb2).step hb3).step hb4
  have k1 := (Box8.new w4 c0 c1 c2 c3 c4 c5 c6 c7).kept (World.grownBy_alloc (w4.alloc (.cells #[Value.int .u8 c0, .int .u8 c1, .int .u8 c2, .int .u8 c3, .int .u8 c4, .int .u8 c5, .int .u8 c6, .int .u8 c7] 39)) (.cells #[Value.int .u8 b0, .int .u8 b1, .int .u8 b2, .int .u8 b3, .int .u8 b4, .int .u8 b5, .int .u8 b6, .int .u8 b7] 39) none) (by simp)
  have k2 := Box8.new (w4.alloc (.cells #[Value.int .u8 c0, .int .u8 c1, .int .u8 c2, .int .u8 c3, .int .u8 c4, .int .u8 c5, .int .u8 c6, .int .u8 c7] 39)) b0 b1 b2 b3 b4 b5 b6 b7
  rw [World.size_alloc] at k2
  have hB5 : Below w4.heap.size w4 ((w4.alloc (.cells #[Value.int .u8 c0, .int .u8 c1, .int .u8 c2, .int .u8 c3, .int .u8 c4, .int .u8 c5, .int .u8 c6, .int .u8 c7] 39)).alloc (.cells #[Value.int .u8 b0, .int .u8 b1, .int .u8 b2, .int .u8 b3, .int .u8 b4, .int .u8 b5, .int .u8 b6, .int .u8 b7] 39)) := ((Below.refl _ w4).alloc (Nat.le_refl _) _).alloc (by simp) _
  generalize ((w4.alloc (.cells #[Value.int .u8 c0, .int .u8 c1, .int .u8 c2, .int .u8 c3, .int .u8 c4, .int .u8 c5, .int .u8 c6, .int .u8 c7] 39)).alloc (.cells #[Value.int .u8 b0, .int .u8 b1, .int .u8 b2, .int .u8 b3, .int .u8 b4, .int .u8 b5, .int .u8 b6, .int .u8 b7] 39)) = V1 at k1 k2 hB5 ⊢
  have HZ := Lib.hid (HZ4.step hB5)
  have HBV := Lib.hid (hB4.trans (hB5.mono hB4.size))
  have hr4 : w.heap.size < w4.heap.size := HZ4.lt
  have hK : ∀ w', OffR w.heap.size V1 w' → (w'.cell? ⟨w4.heap.size, 0, none⟩ = some (.int .u8 c0) ∧ w'.cell? ⟨w4.heap.size, 1, none⟩ = some (.int .u8 c1) ∧ w'.cell? ⟨w4.heap.size, 2, none⟩ = some (.int .u8 c2) ∧ w'.cell? ⟨w4.heap.size, 3, none⟩ = some (.int .u8 c3) ∧ w'.cell? ⟨w4.heap.size, 4, none⟩ = some (.int .u8 c4) ∧ w'.cell? ⟨w4.heap.size, 5, none⟩ = some (.int .u8 c5) ∧ w'.cell? ⟨w4.heap.size, 6, none⟩ = some (.int .u8 c6) ∧ w'.cell? ⟨w4.heap.size, 7, none⟩ = some (.int .u8 c7) ∧ w'.cell? ⟨w4.heap.size + 1, 0, none⟩ = some (.int .u8 b0) ∧ w'.cell? ⟨w4.heap.size + 1, 1, none⟩ = some (.int .u8 b1) ∧ w'.cell? ⟨w4.heap.size + 1, 2, none⟩ = some (.int .u8 b2) ∧ w'.cell? ⟨w4.heap.size + 1, 3, none⟩ = some (.int .u8 b3) ∧ w'.cell? ⟨w4.heap.size + 1, 4, none⟩ = some (.int .u8 b4) ∧ w'.cell? ⟨w4.heap.size + 1, 5, none⟩ = some (.int .u8 b5) ∧ w'.cell? ⟨w4.heap.size + 1, 6, none⟩ = some (.int .u8 b6) ∧ w'.cell? ⟨w4.heap.size + 1, 7, none⟩ = some (.int .u8 b7)) := fun w' hb => by
    obtain ⟨a0, a1, a2, a3, a4, a5, a6, a7⟩ := (hb.eight k1.cells k1.lt (by omega)).zero
    obtain ⟨d0, d1, d2, d3, d4, d5, d6, d7⟩ := (hb.eight k2.cells k2.lt (by omega)).zero
    exact ⟨a0, a1, a2, a3, a4, a5, a6, a7, d0, d1, d2, d3, d4, d5, d6, d7⟩
  have HK := Lib.hid hK
  clear hK k1 k2 hB5 hB4 HZ4 HZ0 hBw hb1 hb2 hb3 hb4 hz1
  go_region_held3 (fun w' => w'.cell? ⟨w4.heap.size, 0, none⟩ = some (.int .u8 c0) ∧ w'.cell? ⟨w4.heap.size, 1, none⟩ = some (.int .u8 c1) ∧ w'.cell? ⟨w4.heap.size, 2, none⟩ = some (.int .u8 c2) ∧ w'.cell? ⟨w4.heap.size, 3, none⟩ = some (.int .u8 c3) ∧ w'.cell? ⟨w4.heap.size, 4, none⟩ = some (.int .u8 c4) ∧ w'.cell? ⟨w4.heap.size, 5, none⟩ = some (.int .u8 c5) ∧ w'.cell? ⟨w4.heap.size, 6, none⟩ = some (.int .u8 c6) ∧ w'.cell? ⟨w4.heap.size, 7, none⟩ = some (.int .u8 c7) ∧ w'.cell? ⟨w4.heap.size + 1, 0, none⟩ = some (.int .u8 b0) ∧ w'.cell? ⟨w4.heap.size + 1, 1, none⟩ = some (.int .u8 b1) ∧ w'.cell? ⟨w4.heap.size + 1, 2, none⟩ = some (.int .u8 b2) ∧ w'.cell? ⟨w4.heap.size + 1, 3, none⟩ = some (.int .u8 b3) ∧ w'.cell? ⟨w4.heap.size + 1, 4, none⟩ = some (.int .u8 b4) ∧ w'.cell? ⟨w4.heap.size + 1, 5, none⟩ = some (.int .u8 b5) ∧ w'.cell? ⟨w4.heap.size + 1, 6, none⟩ = some (.int .u8 b6) ∧ w'.cell? ⟨w4.heap.size + 1, 7, none⟩ = some (.int .u8 b7)) (exact HK.out _ (by repeat first | with_reducible refine OffR.setCell ?_ | with_reducible refine OffR.drew ?_ | with_reducible refine OffR.below ?_ | with_reducible exact hB | with_reducible exact Below.refl _ _)) (first | (go_at_call 29; refine (HML.out _).mono ?_; rintro e wa ⟨rfl, hb2⟩; have hB : Below V1.heap.size V1 wa := Below.trans (by repeat first | with_reducible exact hB | with_reducible exact Below.refl _ _ | with_reducible refine Below.drew ?_) (hb2.mono (Below.size (B := V1.heap.size) (w := V1) (by repeat first | with_reducible exact hB | with_reducible exact Below.refl _ _ | with_reducible refine Below.drew ?_))); clear hb2) | (go_at_call 30; refine (HLV.out _).mono ?_; rintro e wb ⟨bm, D, rfl, hbm, hmap, hlv, hb2⟩; have hbm2 := Nat.le_trans (Below.size (B := V1.heap.size) (w := V1) (by repeat first | with_reducible exact hB | with_reducible exact Below.refl _ _ | with_reducible refine Below.drew ?_)) hbm; have hB : Below V1.heap.size V1 wb := Below.trans (by repeat first | with_reducible exact hB | with_reducible exact Below.refl _ _ | with_reducible refine Below.drew ?_) (hb2.mono (Below.size (B := V1.heap.size) (w := V1) (by repeat first | with_reducible exact hB | with_reducible exact Below.refl _ _ | with_reducible refine Below.drew ?_))); have zb := HZ.out.step hB; obtain ⟨y0, y1, y2, y3, y4, y5, y6, y7⟩ := zb.c.zero; have y8 := zb.c8; have y9 := zb.c9; have x0 := zb.f 0 (by decide); have x1 := zb.f 1 (by decide); have x2 := zb.f 2 (by decide); have x3 := zb.f 3 (by decide); have x4 := zb.f 4 (by decide); have x5 := zb.f 5 (by decide); have x6 := zb.f 6 (by decide); have x7 := zb.f 7 (by decide); have x8 := zb.f 8 (by decide); have x9 := zb.f 9 (by decide); clear hb2))
  all_goals go_wp2_with fail
  all_goals
    obtain ⟨f1, f2, f3⟩ := zb.fill c0 c1 c2 c3 c4 c5 c6 c7 (msL l) (.map (some bm))
    have HBE : Below w.heap.size w wb := HBV.out.trans (hB.mono HBV.out.size)
    have hzv : w.heap.size < V1.heap.size := HZ.out.lt
    (try simp only [Exit.inBlock, Exit.then])
    refine bodyPost_ret (results_ex _ _ w.heap.size c0 c1 c2 c3 c4 c5 c6 c7 (msL l) (.map (some bm)) rfl f1 f2 f3) rfl ?_
    exact ⟨bm, D, c0, c1, c2, c3, c4, c5, c6, c7, HCE.out, rfl, by omega, (World.ownsMap.setCell (World.ownsMap.setCell (World.ownsMap.setCell (World.ownsMap.setCell (World.ownsMap.setCell (World.ownsMap.setCell (World.ownsMap.setCell (World.ownsMap.setCell (World.ownsMap.setCell (World.ownsMap.setCell hmap (by show bm ≠ w.heap.size; omega) _) (by show bm ≠ w.heap.size; omega) _) (by show bm ≠ w.heap.size; omega) _) (by show bm ≠ w.heap.size; omega) _) (by show bm ≠ w.heap.size; omega) _) (by show bm ≠ w.heap.size; omega) _) (by show bm ≠ w.heap.size; omega) _) (by show bm ≠ w.heap.size; omega) _) (by show bm ≠ w.heap.size; omega) _) (by show bm ≠ w.heap.size; omega) _), hlv, (Below.setCell (Below.setCell (Below.setCell (Below.setCell (Below.setCell (Below.setCell (Below.setCell (Below.setCell (Below.setCell (Below.setCell HBE (Nat.le_refl _) _) (Nat.le_refl _) _) (Nat.le_refl _) _) (Nat.le_refl _) _) (Nat.le_refl _) _) (Nat.le_refl _) _) (Nat.le_refl _) _) (Nat.le_refl _) _) (Nat.le_refl _) _) (Nat.le_refl _) _)⟩
end Go.Proofs.YtfiifjcjmnhbnaaDoor
