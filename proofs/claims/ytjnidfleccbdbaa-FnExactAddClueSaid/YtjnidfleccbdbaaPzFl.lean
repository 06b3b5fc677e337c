/- The law's walk: FnExactAddClue. -/
import Derived.Test.YtjnidfleccbdbaaPzGa
import Derived.Deep.CutRange
namespace Go.Proofs.Ytjnidfleccbdbaa
open Go.RowKit

set_option maxRecDepth 100000 in
set_option maxHeartbeats 8000000 in
theorem core_FnExactAddClue (n : Int) (x y z : Int) (A : Option Addr) (c : Nat) (l : List Cl) (w : World) (b : Bool) (N : Int) (L : List Cl) (hl : l.length ≤ 1048576) (hL : L.length ≤ 1000) (hin : ClIn w A l)
    (HS : Hid (∀ g wx, ClIn wx (some ⟨g, 0, none⟩) l → Calls Try.prog 6 #[.agg #[.int .i64 n, .slice (some ⟨g, 0, none⟩) l.length l.length], .agg #[.int .i64 x, .int .i64 y, .int .i64 z]] wx (PzAnsL wx b N L)))
    (HM : Hid (∀ g wx, ClIn wx (some ⟨g, 0, none⟩) l → Calls Try.prog 9 #[.agg #[.int .i64 n, .slice (some ⟨g, 0, none⟩) l.length l.length], .agg #[.int .i64 x, .int .i64 y, .int .i64 z]] wx (PzAnsL wx b N L))) :
    Calls Try.prog 3 #[.agg #[.int .i64 n, .slice A l.length c], .agg #[.int .i64 x, .int .i64 y, .int .i64 z]] w fun e w' => e = .returned (.bool true) ∧ Below w.heap.size w w' := by
  have hP00 := CxP.start (x := x) (y := y) (z := z) (w.alloc (Obj.cells #[.int .i64 n, .slice A l.length c] 24))
  have hP0 := (LawP.start (n := n) (c := c) 24 hin).step ((Below.refl _ _).alloc (Nat.le_refl _) (Obj.cells #[.int .i64 x, .int .i64 y, .int .i64 z] 26))
  rw [show (w.alloc (Obj.cells #[.int .i64 n, .slice A l.length c] 24)).heap.size = w.heap.size + 1 by simp] at hP00
  have Q0 := Lib.hid hP00
  have HSZ := Lib.hid (fun wx => szPuzzle_any n A l.length c wx (by unfold maxLen; omega))
  simp only [if_pos hl] at HSZ
  have hpos : ¬ ((1048576 : Int) - l.length < 0) := by omega
  have HT := Lib.hid (fun wx (h : ClIn wx A l) => toPuzzle_any n l A c wx h (by omega))
  have HE := Lib.hid (fun (n : Int) (l : List Cl) (A B : Option Addr) (c d : Nat) wx (h : ClIn wx A l) (h' : ClIn wx B l) (hl : l.length ≤ 2000000) => eqPuzzle_same n l A B c d wx h h' hl)
  have HC := Lib.hid (fun wx => toClue_any x y z wx)
  have H0 := Lib.hid hP0
  clear hP0 hin hP00
  have p1 : ¬ ((1 : Int) + 3 * (l.length : Int) < 0) := by omega
  have p2 : ¬ ((1 : Int) + 3 * (L.length : Int) < 0) := by omega
  go_enter Try.func3, Try.ntmps3
  go_wp2_with fail
  refine (HSZ.out _).mono ?_
  rintro e w1 ⟨rfl, hb1⟩
  have H1 := Lib.hid (H0.out.step hb1)
  have Q1 := Lib.hid (Q0.out.step hb1)
  clear H0 Q0 hb1
  have INN : Hid (∀ w', Below w1.heap.size w1 w' → ClIn w' A l) := Lib.hid fun w' hb => (H1.out.step hb).inn
  have HK : Hid (∀ w', Below w1.heap.size w1 w' → (w'.cell? ⟨w.heap.size, 0, none⟩ = some (.int .i64 n) ∧ w'.cell? ⟨w.heap.size, 1, none⟩ = some (.slice A l.length c) ∧ w'.cell? ⟨w.heap.size + 1, 0, none⟩ = some (.int .i64 x) ∧ w'.cell? ⟨w.heap.size + 1, 1, none⟩ = some (.int .i64 y) ∧ w'.cell? ⟨w.heap.size + 1, 2, none⟩ = some (.int .i64 z))) := Lib.hid fun w' hb => ⟨(H1.out.step hb).c0, (H1.out.step hb).c1, (Q1.out.step hb).d0, (Q1.out.step hb).d1, (Q1.out.step hb).d2⟩
  have zs1 : w.heap.size + 2 ≤ w1.heap.size := by have := Q1.out.lt; omega
  go_upto_region 5 with fail
  go_cut [6, 7] from 16 (fun s6 s7 wz => ∃ b6 A3 c3, s6 = Value.pointer (some ⟨b6, 0, none⟩) ∧ s7 = Value.bool b ∧ Hid (LawP w n A c l wz) ∧ Hid (CxP (w.heap.size + 1) x y z wz) ∧ Hid (BoxAt b6 N (.slice A3 L.length c3) wz) ∧ Hid (RowN wz (w.heap.size + 2) b6 A3 c3 L))
  case first =>
    go_region_held3 (fun w' => w'.cell? ⟨w.heap.size, 0, none⟩ = some (.int .i64 n) ∧ w'.cell? ⟨w.heap.size, 1, none⟩ = some (.slice A l.length c) ∧ w'.cell? ⟨w.heap.size + 1, 0, none⟩ = some (.int .i64 x) ∧ w'.cell? ⟨w.heap.size + 1, 1, none⟩ = some (.int .i64 y) ∧ w'.cell? ⟨w.heap.size + 1, 2, none⟩ = some (.int .i64 z)) (exact HK.out _ (by repeat first | exact hBf | exact hBc | exact hB | exact Below.refl _ _ | refine Below.drew ?_ | refine Below.alloc ?_ (by first | omega | (simp <;> omega)) _ | refine Below.setCell ?_ (by first | omega | (simp <;> omega)) _)) (first | (go_at_call 7; refine (HT.out _ (INN.out _ (by repeat first | exact hBf | exact hBc | exact hB | exact Below.refl _ _ | refine Below.drew ?_ | refine Below.alloc ?_ (by first | omega | (simp <;> omega)) _ | refine Below.setCell ?_ (by first | omega | (simp <;> omega)) _))).mono ?_; rintro e wb ⟨gb, rfl, ob, hb2⟩; have hB : Below w1.heap.size w1 wb := Below.trans (by repeat first | exact hBf | exact hBc | exact hB | exact Below.refl _ _ | refine Below.drew ?_ | refine Below.alloc ?_ (by first | omega | (simp <;> omega)) _ | refine Below.setCell ?_ (by first | omega | (simp <;> omega)) _) (hb2.mono (Below.size (B := w1.heap.size) (w := w1) (by repeat first | exact hBf | exact hBc | exact hB | exact Below.refl _ _ | refine Below.drew ?_ | refine Below.alloc ?_ (by first | omega | (simp <;> omega)) _ | refine Below.setCell ?_ (by first | omega | (simp <;> omega)) _))); have Ib := own_in ob; have szb := hB.size; (first | (have zb := ZBox.step (ZBox.drew (ZBox.new _)) hb2) | (have zb := ZBox.step (ZBox.new _) hb2) | skip); clear ob hb2) | (go_at_call 8; refine (HC.out _).mono ?_; rintro e wc ⟨rfl, hbc⟩; have hBc : Below w1.heap.size w1 wc := Below.trans (by repeat first | exact hBf | exact hBc | exact hB | exact Below.refl _ _ | refine Below.drew ?_ | refine Below.alloc ?_ (by first | omega | (simp <;> omega)) _ | refine Below.setCell ?_ (by first | omega | (simp <;> omega)) _) (hbc.mono (Below.size (B := w1.heap.size) (w := w1) (by repeat first | exact hBf | exact hBc | exact hB | exact Below.refl _ _ | refine Below.drew ?_ | refine Below.alloc ?_ (by first | omega | (simp <;> omega)) _ | refine Below.setCell ?_ (by first | omega | (simp <;> omega)) _))); have Ic := ClIn.below (ClIn.below Ib (by repeat first | exact Below.refl _ _ | refine Below.drew ?_ | refine Below.alloc ?_ (by first | omega | (simp <;> omega)) _)) hbc; have szc := hBc.size; (first | (have zc := ZBox.step zb hbc) | (have zc := ZBox.step (ZBox.drew (ZBox.new _)) hbc) | (have zc := ZBox.step (ZBox.new _) hbc) | skip); clear hbc) | (go_at_call 6; refine (HS.out gb _ (ClIn.below Ic (by repeat first | exact Below.refl _ _ | refine Below.drew ?_ | refine Below.alloc ?_ (by first | omega | (simp <;> omega)) _))).mono ?_; rintro e wd ⟨Ad, cd, rfl, od, hbf⟩; have hBf : Below w1.heap.size w1 wd := Below.trans (by repeat first | exact hBf | exact hBc | exact hB | exact Below.refl _ _ | refine Below.drew ?_ | refine Below.alloc ?_ (by first | omega | (simp <;> omega)) _ | refine Below.setCell ?_ (by first | omega | (simp <;> omega)) _) (hbf.mono (Below.size (B := w1.heap.size) (w := w1) (by repeat first | exact hBf | exact hBc | exact hB | exact Below.refl _ _ | refine Below.drew ?_ | refine Below.alloc ?_ (by first | omega | (simp <;> omega)) _ | refine Below.setCell ?_ (by first | omega | (simp <;> omega)) _))); have szd := hBf.size; (first | (have zd := ZBox.step zc hbf; have y0 := zd.c0; have y1 := zd.c1; have y2 := zd.f0; have y3 := zd.f1) | (have zd := ZBox.step (ZBox.new _) hbf; have y0 := zd.c0; have y1 := zd.c1; have y2 := zd.f0; have y3 := zd.f1) | skip); clear hbf))
    all_goals (go_wp2_with fail; go_meet)
    all_goals first | exact ⟨_, Ad, cd, rfl, rfl, Lib.hid (H1.out.step (by repeat first | exact hBf | exact hBc | exact hB | exact Below.refl _ _ | refine Below.drew ?_ | refine Below.alloc ?_ (by first | omega | (simp <;> omega)) _ | refine Below.setCell ?_ (by first | omega | (simp <;> omega)) _)), Lib.hid (Q1.out.step (by repeat first | exact hBf | exact hBc | exact hB | exact Below.refl _ _ | refine Below.drew ?_ | refine Below.alloc ?_ (by first | omega | (simp <;> omega)) _ | refine Below.setCell ?_ (by first | omega | (simp <;> omega)) _)), Lib.hid (BoxAt.start _ _ _), Lib.hid (RowN.last od (by first | omega | (simp <;> omega)) _)⟩ | exact ⟨_, Ad, cd, rfl, rfl, Lib.hid (H1.out.step (by repeat first | exact hBf | exact hBc | exact hB | exact Below.refl _ _ | refine Below.drew ?_ | refine Below.alloc ?_ (by first | omega | (simp <;> omega)) _ | refine Below.setCell ?_ (by first | omega | (simp <;> omega)) _)), Lib.hid (Q1.out.step (by repeat first | exact hBf | exact hBc | exact hB | exact Below.refl _ _ | refine Below.drew ?_ | refine Below.alloc ?_ (by first | omega | (simp <;> omega)) _ | refine Below.setCell ?_ (by first | omega | (simp <;> omega)) _)), Lib.hid (zd.fill N _), Lib.hid (RowN.fill od (by first | exact zc.lt | (simp <;> omega)) (by first | omega | (simp <;> omega)) _ _)⟩
  case rest =>
  obtain ⟨b6, A3, c3, rfl, rfl, H3, Q3, BW3, RW3⟩ := hcut
  obtain ⟨w3, rfl⟩ : ∃ w3, w3 = wc := ⟨_, rfl⟩
  clear H1 Q1 INN HK zs1
  have z6 := BW3.out.lt
  have zq := Q3.out.lt
  have d0 := H3.out.c0
  have d1 := H3.out.c1
  go_wp2_with fail
  refine (HT.out _ H3.out.inn).mono ?_
  rintro e w4 ⟨g4, rfl, o4, hb4⟩
  have s34 : w3.heap.size ≤ g4 := (o4.lt g4 rfl).1
  have s4 : g4 < w4.heap.size := (o4.lt g4 rfl).2
  obtain ⟨w5, hw5⟩ : ∃ w5, w5 = w4.alloc (Obj.cells #[.int .i64 n, .slice (some ⟨g4, 0, none⟩) l.length l.length] 30) := ⟨_, rfl⟩
  have hba : Below w4.heap.size w4 w5 := by rw [hw5]; exact (Below.refl _ _).alloc (Nat.le_refl _) _
  have hb45 := hb4.trans (hba.mono hb4.size)
  have BX5 := Lib.hid (show BoxAt w4.heap.size n (.slice (some ⟨g4, 0, none⟩) l.length l.length) w5 by rw [hw5]; exact BoxAt.start _ _ _)
  have z5 : w4.heap.size < w5.heap.size := BX5.out.lt
  have s34w : w3.heap.size ≤ w4.heap.size := hb4.size
  have RX5 := Lib.hid (own_below o4 hba)
  have H5 := Lib.hid (H3.out.step hb45)
  have Q5 := Lib.hid (Q3.out.step hb45)
  have BW5 := Lib.hid (BW3.out.step hb45)
  have RW5 := Lib.hid (RW3.out.step hb45)
  have lw := Lib.hid RW3.out.2
  clear H3 Q3 BW3 RW3 d0 d1 o4 hb4 hba hb45
  have HK : Hid (∀ w', Below w5.heap.size w5 w' → (w'.cell? ⟨w4.heap.size, 0, none⟩ = some (.int .i64 n) ∧ w'.cell? ⟨w4.heap.size, 1, none⟩ = some (.slice (some ⟨g4, 0, none⟩) l.length l.length) ∧ w'.cell? ⟨w.heap.size + 1, 0, none⟩ = some (.int .i64 x) ∧ w'.cell? ⟨w.heap.size + 1, 1, none⟩ = some (.int .i64 y) ∧ w'.cell? ⟨w.heap.size + 1, 2, none⟩ = some (.int .i64 z))) := Lib.hid fun w' hb => ⟨(BX5.out.step hb).c0, (BX5.out.step hb).c1, (Q5.out.step hb).d0, (Q5.out.step hb).d1, (Q5.out.step hb).d2⟩
  have IX := Lib.hid (own_in RX5.out)
  go_upto_region 7 with fail
  rw [← hw5]
  clear hw5
  go_cut [9, 10] from 16 (fun s9 s10 wz => ∃ b9 A5 c5, s9 = Value.pointer (some ⟨b9, 0, none⟩) ∧ s10 = Value.bool b ∧ w5.heap.size ≤ b9 ∧ Hid (LawP w n A c l wz) ∧ Hid (CxP (w.heap.size + 1) x y z wz) ∧ Hid (BoxAt b6 N (.slice A3 L.length c3) wz) ∧ Hid (RowN wz (w.heap.size + 2) b6 A3 c3 L) ∧ Hid (BoxAt w4.heap.size n (.slice (some ⟨g4, 0, none⟩) l.length l.length) wz) ∧ Hid (wz.ownsRow w3.heap.size 34 3 (.slice (some ⟨g4, 0, none⟩) l.length l.length) l.length (flat3 l)) ∧ Hid (BoxAt b9 N (.slice A5 L.length c5) wz) ∧ Hid (RowN wz w5.heap.size b9 A5 c5 L))
  case first =>
    go_region_held3 (fun w' => w'.cell? ⟨w4.heap.size, 0, none⟩ = some (.int .i64 n) ∧ w'.cell? ⟨w4.heap.size, 1, none⟩ = some (.slice (some ⟨g4, 0, none⟩) l.length l.length) ∧ w'.cell? ⟨w.heap.size + 1, 0, none⟩ = some (.int .i64 x) ∧ w'.cell? ⟨w.heap.size + 1, 1, none⟩ = some (.int .i64 y) ∧ w'.cell? ⟨w.heap.size + 1, 2, none⟩ = some (.int .i64 z)) (exact HK.out _ (by repeat first | exact hBf | exact hBc | exact hB | exact Below.refl _ _ | refine Below.drew ?_ | refine Below.alloc ?_ (by first | omega | (simp <;> omega)) _ | refine Below.setCell ?_ (by first | omega | (simp <;> omega)) _)) (first | (go_at_call 8; refine (HC.out _).mono ?_; rintro e wc ⟨rfl, hbc⟩; have hBc : Below w5.heap.size w5 wc := Below.trans (by repeat first | exact hBf | exact hBc | exact hB | exact Below.refl _ _ | refine Below.drew ?_ | refine Below.alloc ?_ (by first | omega | (simp <;> omega)) _ | refine Below.setCell ?_ (by first | omega | (simp <;> omega)) _) (hbc.mono (Below.size (B := w5.heap.size) (w := w5) (by repeat first | exact hBf | exact hBc | exact hB | exact Below.refl _ _ | refine Below.drew ?_ | refine Below.alloc ?_ (by first | omega | (simp <;> omega)) _ | refine Below.setCell ?_ (by first | omega | (simp <;> omega)) _))); have Ic := ClIn.below (ClIn.below IX.out (by repeat first | exact Below.refl _ _ | refine Below.drew ?_ | refine Below.alloc ?_ (by first | omega | (simp <;> omega)) _)) hbc; have szc := hBc.size; (first | (have zc := ZBox.step zb hbc) | (have zc := ZBox.step (ZBox.drew (ZBox.new _)) hbc) | (have zc := ZBox.step (ZBox.new _) hbc) | skip); clear hbc) | (go_at_call 9; refine (HM.out g4 _ (ClIn.below Ic (by repeat first | exact Below.refl _ _ | refine Below.drew ?_ | refine Below.alloc ?_ (by first | omega | (simp <;> omega)) _))).mono ?_; rintro e wd ⟨Ad, cd, rfl, od, hbf⟩; have hBf : Below w5.heap.size w5 wd := Below.trans (by repeat first | exact hBf | exact hBc | exact hB | exact Below.refl _ _ | refine Below.drew ?_ | refine Below.alloc ?_ (by first | omega | (simp <;> omega)) _ | refine Below.setCell ?_ (by first | omega | (simp <;> omega)) _) (hbf.mono (Below.size (B := w5.heap.size) (w := w5) (by repeat first | exact hBf | exact hBc | exact hB | exact Below.refl _ _ | refine Below.drew ?_ | refine Below.alloc ?_ (by first | omega | (simp <;> omega)) _ | refine Below.setCell ?_ (by first | omega | (simp <;> omega)) _))); have szd := hBf.size; (first | (have zd := ZBox.step zc hbf; have y0 := zd.c0; have y1 := zd.c1; have y2 := zd.f0; have y3 := zd.f1) | (have zd := ZBox.step (ZBox.new _) hbf; have y0 := zd.c0; have y1 := zd.c1; have y2 := zd.f0; have y3 := zd.f1) | skip); clear hbf))
    all_goals (go_wp2_with fail; go_meet)
    all_goals first | exact ⟨_, Ad, cd, rfl, rfl, (by first | exact Nat.le_refl _ | omega), Lib.hid (H5.out.step (by repeat first | exact hBf | exact hBc | exact hB | exact Below.refl _ _ | refine Below.drew ?_ | refine Below.alloc ?_ (by first | omega | (simp <;> omega)) _ | refine Below.setCell ?_ (by first | omega | (simp <;> omega)) _)), Lib.hid (Q5.out.step (by repeat first | exact hBf | exact hBc | exact hB | exact Below.refl _ _ | refine Below.drew ?_ | refine Below.alloc ?_ (by first | omega | (simp <;> omega)) _ | refine Below.setCell ?_ (by first | omega | (simp <;> omega)) _)), Lib.hid (BW5.out.step (by repeat first | exact hBf | exact hBc | exact hB | exact Below.refl _ _ | refine Below.drew ?_ | refine Below.alloc ?_ (by first | omega | (simp <;> omega)) _ | refine Below.setCell ?_ (by first | omega | (simp <;> omega)) _)), Lib.hid (RW5.out.step (by repeat first | exact hBf | exact hBc | exact hB | exact Below.refl _ _ | refine Below.drew ?_ | refine Below.alloc ?_ (by first | omega | (simp <;> omega)) _ | refine Below.setCell ?_ (by first | omega | (simp <;> omega)) _)), Lib.hid (BX5.out.step (by repeat first | exact hBf | exact hBc | exact hB | exact Below.refl _ _ | refine Below.drew ?_ | refine Below.alloc ?_ (by first | omega | (simp <;> omega)) _ | refine Below.setCell ?_ (by first | omega | (simp <;> omega)) _)), Lib.hid (own_below RX5.out (by repeat first | exact hBf | exact hBc | exact hB | exact Below.refl _ _ | refine Below.drew ?_ | refine Below.alloc ?_ (by first | omega | (simp <;> omega)) _ | refine Below.setCell ?_ (by first | omega | (simp <;> omega)) _)), Lib.hid (BoxAt.start _ _ _), Lib.hid (RowN.last od (by first | omega | (simp <;> omega)) _)⟩ | exact ⟨_, Ad, cd, rfl, rfl, (by first | exact Nat.le_refl _ | omega), Lib.hid (H5.out.step (by repeat first | exact hBf | exact hBc | exact hB | exact Below.refl _ _ | refine Below.drew ?_ | refine Below.alloc ?_ (by first | omega | (simp <;> omega)) _ | refine Below.setCell ?_ (by first | omega | (simp <;> omega)) _)), Lib.hid (Q5.out.step (by repeat first | exact hBf | exact hBc | exact hB | exact Below.refl _ _ | refine Below.drew ?_ | refine Below.alloc ?_ (by first | omega | (simp <;> omega)) _ | refine Below.setCell ?_ (by first | omega | (simp <;> omega)) _)), Lib.hid (BW5.out.step (by repeat first | exact hBf | exact hBc | exact hB | exact Below.refl _ _ | refine Below.drew ?_ | refine Below.alloc ?_ (by first | omega | (simp <;> omega)) _ | refine Below.setCell ?_ (by first | omega | (simp <;> omega)) _)), Lib.hid (RW5.out.step (by repeat first | exact hBf | exact hBc | exact hB | exact Below.refl _ _ | refine Below.drew ?_ | refine Below.alloc ?_ (by first | omega | (simp <;> omega)) _ | refine Below.setCell ?_ (by first | omega | (simp <;> omega)) _)), Lib.hid (BX5.out.step (by repeat first | exact hBf | exact hBc | exact hB | exact Below.refl _ _ | refine Below.drew ?_ | refine Below.alloc ?_ (by first | omega | (simp <;> omega)) _ | refine Below.setCell ?_ (by first | omega | (simp <;> omega)) _)), Lib.hid (own_below RX5.out (by repeat first | exact hBf | exact hBc | exact hB | exact Below.refl _ _ | refine Below.drew ?_ | refine Below.alloc ?_ (by first | omega | (simp <;> omega)) _ | refine Below.setCell ?_ (by first | omega | (simp <;> omega)) _)), Lib.hid (zd.fill N _), Lib.hid (RowN.fill od (by first | exact zc.lt | (simp <;> omega)) (by first | omega | (simp <;> omega)) _ _)⟩
  case rest =>
  obtain ⟨b9, A5, c5, rfl, rfl, le9, H6, Q6, BW6, RW6, BX6, RX6, BG6, RG6⟩ := hcut
  obtain ⟨w6, rfl⟩ : ∃ w6, w6 = wc := ⟨_, rfl⟩
  clear H5 Q5 BW5 RW5 BX5 RX5 HK IX
  have lg := Lib.hid RG6.out.2
  have sz6 : w5.heap.size ≤ w6.heap.size := by have := BG6.out.lt; omega
  have g0 := BG6.out.c0
  have g1 := BG6.out.c1
  have e0 := BW6.out.c0
  have e1 := BW6.out.c1
  go_wp2_with fail
  refine (HE.out N L A5 A3 c5 c3 _ (own_inA RG6.out.1) (own_inA RW6.out.1) (by omega)).mono ?_
  rintro e w7 ⟨rfl, hb7⟩
  clear g0 g1 e0 e1
  have Hs7 := Lib.hid (H6.out.step hb7)
  have Qs7 := Lib.hid (Q6.out.step hb7)
  have BWs7 := Lib.hid (BW6.out.step hb7)
  have RWs7 := Lib.hid (RW6.out.step hb7)
  have BXs7 := Lib.hid (BX6.out.step hb7)
  have RXs7 := Lib.hid (own_below RX6.out hb7)
  have BGs7 := Lib.hid (BG6.out.step hb7)
  have RGs7 := Lib.hid (RG6.out.step hb7)
  clear H6 Q6 BW6 RW6 BX6 RX6 BG6 RG6
  clear hb7
  have d0 := Hs7.out.c0
  have d1 := Hs7.out.c1
  have x0 := BXs7.out.c0
  have x1 := BXs7.out.c1
  have z0 := lt_of_cell0 d0
  have z1 := lt_of_cell0 x0
  have IX6 := Lib.hid (own_in RXs7.out)
  have INN6 := Lib.hid (Hs7.out.inn)
  go_wp2_with fail
  go_region_held3 (fun w' => w'.cell? ⟨w.heap.size, 0, none⟩ = some (.int .i64 n) ∧ w'.cell? ⟨w.heap.size, 1, none⟩ = some (.slice A l.length c) ∧ w'.cell? ⟨w4.heap.size, 0, none⟩ = some (.int .i64 n) ∧ w'.cell? ⟨w4.heap.size, 1, none⟩ = some (.slice (some ⟨g4, 0, none⟩) l.length l.length)) (first | exact ⟨d0, d1, x0, x1⟩ | exact ⟨(hb8.cell z0).trans d0, (hb8.cell z0).trans d1, (hb8.cell z1).trans x0, (hb8.cell z1).trans x1⟩ | exact ⟨((hb8.trans (hb9.mono hb8.size)).cell z0).trans d0, ((hb8.trans (hb9.mono hb8.size)).cell z0).trans d1, ((hb8.trans (hb9.mono hb8.size)).cell z1).trans x0, ((hb8.trans (hb9.mono hb8.size)).cell z1).trans x1⟩) (first | (go_at_call 7; refine (HT.out _ (clin_drew INN6.out)).mono ?_; rintro e w8 ⟨g8, rfl, o8, hb8⟩; have I8 := own_in o8; clear o8) | (go_at_call 10; refine (HE.out n l (some ⟨g4, 0, none⟩) (some ⟨g8, 0, none⟩) l.length l.length _ ((clin_drew IX6.out).below hb8) I8 (by omega)).mono ?_; rintro e w9 ⟨rfl, hb9⟩))
  have hb79 : Below w7.heap.size w7 w9 := (Below.drew (Below.refl _ _)).trans ((hb8.trans (hb9.mono hb8.size)))
  clear d0 d1 x0 x1 z0 z1 IX6 INN6 hb8 hb9 I8
  have Hs9 := Lib.hid (Hs7.out.step hb79)
  have Qs9 := Lib.hid (Qs7.out.step hb79)
  have BWs9 := Lib.hid (BWs7.out.step hb79)
  have RWs9 := Lib.hid (RWs7.out.step hb79)
  have BXs9 := Lib.hid (BXs7.out.step hb79)
  have RXs9 := Lib.hid (own_below RXs7.out hb79)
  have BGs9 := Lib.hid (BGs7.out.step hb79)
  have RGs9 := Lib.hid (RGs7.out.step hb79)
  clear Hs7 Qs7 BWs7 RWs7 BXs7 RXs7 BGs7 RGs7
  clear hb79
  have x0 := BXs9.out.c0
  have x1 := BXs9.out.c1
  have HMK := Lib.hid (fun wx b (h : wx.ownsRow b 34 3 (.slice (some ⟨g4, 0, none⟩) l.length l.length) l.length (flat3 l)) (hb : b ≤ wx.heap.size) => markPuzzle_far n l.length 1 b l (.slice (some ⟨g4, 0, none⟩) l.length l.length) wx rfl h (by omega) (by omega) hb)
  have lx := RXs9.out.lt g4 rfl
  go_wp2_with fail
  refine (HMK.out _ _ RXs9.out (Nat.le_of_lt (Nat.lt_of_le_of_lt lx.1 lx.2))).mono ?_
  rintro e w10 ⟨rfl, o10, hb10, hf10⟩
  clear x0 x1 HMK lx
  have H10 := Lib.hid (Hs9.out.mark hb10 (by omega) hf10 (fun g hg e => by have e := Option.some.inj (show some g = some g4 from e); omega))
  have Q10 := Lib.hid (Qs9.out.mark hf10 (fun e => by have e := Option.some.inj (show some _ = some g4 from e); omega))
  have BW10 := Lib.hid (BWs9.out.mark hf10 (fun e => by have e := Option.some.inj (show some _ = some g4 from e); omega))
  have BG10 := Lib.hid (BGs9.out.mark hf10 (fun e => by have e := Option.some.inj (show some _ = some g4 from e); omega))
  have RW10 := Lib.hid (RWs9.out.mark hf10 (fun j hj e => by have e := Option.some.inj (show some j = some g4 from e); have := lw.out j hj; omega))
  have RG10 := Lib.hid (RGs9.out.mark hf10 (fun j hj e => by have e := Option.some.inj (show some j = some g4 from e); have := lg.out j hj; omega))
  clear Hs9 Qs9 BWs9 RWs9 BXs9 RXs9 BGs9 RGs9 o10 hb10 hf10
  have g0 := BG10.out.c0
  have g1 := BG10.out.c1
  have e0 := BW10.out.c0
  have e1 := BW10.out.c1
  go_wp2_with fail
  refine (HE.out N L A5 A3 c5 c3 _ (own_inA RG10.out.1) (own_inA RW10.out.1) (by omega)).mono ?_
  rintro e w11 ⟨rfl, hb11⟩
  clear g0 g1 e0 e1
  have Hs11 := Lib.hid (H10.out.step hb11)
  have Qs11 := Lib.hid (Q10.out.step hb11)
  have BWs11 := Lib.hid (BW10.out.step hb11)
  have RWs11 := Lib.hid (RW10.out.step hb11)
  have BGs11 := Lib.hid (BG10.out.step hb11)
  have RGs11 := Lib.hid (RG10.out.step hb11)
  clear H10 Q10 BW10 RW10 BG10 RG10
  clear hb11
  have g0 := BGs11.out.c0
  have g1 := BGs11.out.c1
  have HMK := Lib.hid (fun wx b (h : wx.ownsRow b 34 3 (.slice A5 L.length c5) L.length (flat3 L)) (hb : b ≤ wx.heap.size) => markPuzzle_far N L.length 1 b L (.slice A5 L.length c5) wx rfl h (by omega) (by omega) hb)
  go_wp2_with fail
  refine (HMK.out _ _ RGs11.out.1 (Nat.le_trans le9 (Nat.le_of_lt BGs11.out.lt))).mono ?_
  rintro e w12 ⟨rfl, o12, hb12, hf12⟩
  clear g0 g1 HMK
  have H12 := Lib.hid (Hs11.out.mark hb12 (by omega) hf12 (fun g hg e => by have := lg.out _ e.symm; omega))
  have Q12 := Lib.hid (Qs11.out.mark hf12 (fun e => by have := lg.out _ e.symm; omega))
  have BW12 := Lib.hid (BWs11.out.mark hf12 (fun e => by have := lg.out _ e.symm; omega))
  have BG12 := Lib.hid (BGs11.out.mark hf12 (fun e => by have := lg.out _ e.symm; omega))
  have RW12 := Lib.hid (RWs11.out.mark hf12 (fun j hj e => by have := lw.out j hj; have := lg.out j e.symm; omega))
  have RG12 := Lib.hid o12
  clear Hs11 Qs11 BWs11 RWs11 BGs11 RGs11 o12 hb12 hf12
  have g0 := BG12.out.c0
  have g1 := BG12.out.c1
  go_wp2_with fail
  refine (heldPuzzle_any N L.length 1 _ (.slice A5 L.length c5) _ RG12.out hL (by omega)).mono ?_
  rintro e w13 ⟨rfl, hb13⟩
  clear g0 g1
  have Hs13 := Lib.hid (H12.out.step hb13)
  have Qs13 := Lib.hid (Q12.out.step hb13)
  have BWs13 := Lib.hid (BW12.out.step hb13)
  have RWs13 := Lib.hid (RW12.out.step hb13)
  have BGs13 := Lib.hid (BG12.out.step hb13)
  have RGs13 := Lib.hid (own_below RG12.out hb13)
  clear H12 Q12 BW12 RW12 BG12 RG12
  clear hb13
  have INN : Hid (∀ w', Below w13.heap.size w13 w' → ClIn w' A l) := Lib.hid fun w' hb => (Hs13.out.step hb).inn
  have HK : Hid (∀ w', Below w13.heap.size w13 w' → (w'.cell? ⟨w.heap.size, 0, none⟩ = some (.int .i64 n) ∧ w'.cell? ⟨w.heap.size, 1, none⟩ = some (.slice A l.length c) ∧ w'.cell? ⟨w.heap.size + 1, 0, none⟩ = some (.int .i64 x) ∧ w'.cell? ⟨w.heap.size + 1, 1, none⟩ = some (.int .i64 y) ∧ w'.cell? ⟨w.heap.size + 1, 2, none⟩ = some (.int .i64 z))) := Lib.hid fun w' hb => ⟨(Hs13.out.step hb).c0, (Hs13.out.step hb).c1, (Qs13.out.step hb).d0, (Qs13.out.step hb).d1, (Qs13.out.step hb).d2⟩
  go_upto_region 24 with fail
  go_cut [14, 15] from 16 (fun s14 s15 wz => ∃ b14 A14 c14, s14 = Value.pointer (some ⟨b14, 0, none⟩) ∧ s15 = Value.bool b ∧ Hid (LawP w n A c l wz) ∧ Hid (BoxAt b6 N (.slice A3 L.length c3) wz) ∧ Hid (RowN wz (w.heap.size + 2) b6 A3 c3 L) ∧ Hid (BoxAt b9 N (.slice A5 L.length c5) wz) ∧ Hid (wz.ownsRow w5.heap.size 34 3 (.slice A5 L.length c5) L.length (flat3 (marks3 1 L.length))) ∧ Hid (BoxAt b14 N (.slice A14 L.length c14) wz) ∧ Hid (ClIn wz A14 L))
  case first =>
    go_region_held3 (fun w' => w'.cell? ⟨w.heap.size, 0, none⟩ = some (.int .i64 n) ∧ w'.cell? ⟨w.heap.size, 1, none⟩ = some (.slice A l.length c) ∧ w'.cell? ⟨w.heap.size + 1, 0, none⟩ = some (.int .i64 x) ∧ w'.cell? ⟨w.heap.size + 1, 1, none⟩ = some (.int .i64 y) ∧ w'.cell? ⟨w.heap.size + 1, 2, none⟩ = some (.int .i64 z)) (exact HK.out _ (by repeat first | exact hBf | exact hBc | exact hB | exact Below.refl _ _ | refine Below.drew ?_ | refine Below.alloc ?_ (by first | omega | (simp <;> omega)) _ | refine Below.setCell ?_ (by first | omega | (simp <;> omega)) _)) (first | (go_at_call 7; refine (HT.out _ (INN.out _ (by repeat first | exact hBf | exact hBc | exact hB | exact Below.refl _ _ | refine Below.drew ?_ | refine Below.alloc ?_ (by first | omega | (simp <;> omega)) _ | refine Below.setCell ?_ (by first | omega | (simp <;> omega)) _))).mono ?_; rintro e wb ⟨gb, rfl, ob, hb2⟩; have hB : Below w13.heap.size w13 wb := Below.trans (by repeat first | exact hBf | exact hBc | exact hB | exact Below.refl _ _ | refine Below.drew ?_ | refine Below.alloc ?_ (by first | omega | (simp <;> omega)) _ | refine Below.setCell ?_ (by first | omega | (simp <;> omega)) _) (hb2.mono (Below.size (B := w13.heap.size) (w := w13) (by repeat first | exact hBf | exact hBc | exact hB | exact Below.refl _ _ | refine Below.drew ?_ | refine Below.alloc ?_ (by first | omega | (simp <;> omega)) _ | refine Below.setCell ?_ (by first | omega | (simp <;> omega)) _))); have Ib := own_in ob; have szb := hB.size; (first | (have zb := ZBox.step (ZBox.drew (ZBox.new _)) hb2) | (have zb := ZBox.step (ZBox.new _) hb2) | skip); clear ob hb2) | (go_at_call 8; refine (HC.out _).mono ?_; rintro e wc ⟨rfl, hbc⟩; have hBc : Below w13.heap.size w13 wc := Below.trans (by repeat first | exact hBf | exact hBc | exact hB | exact Below.refl _ _ | refine Below.drew ?_ | refine Below.alloc ?_ (by first | omega | (simp <;> omega)) _ | refine Below.setCell ?_ (by first | omega | (simp <;> omega)) _) (hbc.mono (Below.size (B := w13.heap.size) (w := w13) (by repeat first | exact hBf | exact hBc | exact hB | exact Below.refl _ _ | refine Below.drew ?_ | refine Below.alloc ?_ (by first | omega | (simp <;> omega)) _ | refine Below.setCell ?_ (by first | omega | (simp <;> omega)) _))); have Ic := ClIn.below (ClIn.below Ib (by repeat first | exact Below.refl _ _ | refine Below.drew ?_ | refine Below.alloc ?_ (by first | omega | (simp <;> omega)) _)) hbc; have szc := hBc.size; (first | (have zc := ZBox.step zb hbc) | (have zc := ZBox.step (ZBox.drew (ZBox.new _)) hbc) | (have zc := ZBox.step (ZBox.new _) hbc) | skip); clear hbc) | (go_at_call 9; refine (HM.out gb _ (ClIn.below Ic (by repeat first | exact Below.refl _ _ | refine Below.drew ?_ | refine Below.alloc ?_ (by first | omega | (simp <;> omega)) _))).mono ?_; rintro e wd ⟨Ad, cd, rfl, od, hbf⟩; have hBf : Below w13.heap.size w13 wd := Below.trans (by repeat first | exact hBf | exact hBc | exact hB | exact Below.refl _ _ | refine Below.drew ?_ | refine Below.alloc ?_ (by first | omega | (simp <;> omega)) _ | refine Below.setCell ?_ (by first | omega | (simp <;> omega)) _) (hbf.mono (Below.size (B := w13.heap.size) (w := w13) (by repeat first | exact hBf | exact hBc | exact hB | exact Below.refl _ _ | refine Below.drew ?_ | refine Below.alloc ?_ (by first | omega | (simp <;> omega)) _ | refine Below.setCell ?_ (by first | omega | (simp <;> omega)) _))); have szd := hBf.size; (first | (have zd := ZBox.step zc hbf; have y0 := zd.c0; have y1 := zd.c1; have y2 := zd.f0; have y3 := zd.f1) | (have zd := ZBox.step (ZBox.new _) hbf; have y0 := zd.c0; have y1 := zd.c1; have y2 := zd.f0; have y3 := zd.f1) | skip); clear hbf))
    all_goals (go_wp2_with fail; go_meet)
    all_goals first | exact ⟨_, Ad, cd, rfl, rfl, Lib.hid (Hs13.out.step (by repeat first | exact hBf | exact hBc | exact hB | exact Below.refl _ _ | refine Below.drew ?_ | refine Below.alloc ?_ (by first | omega | (simp <;> omega)) _ | refine Below.setCell ?_ (by first | omega | (simp <;> omega)) _)), Lib.hid (BWs13.out.step (by repeat first | exact hBf | exact hBc | exact hB | exact Below.refl _ _ | refine Below.drew ?_ | refine Below.alloc ?_ (by first | omega | (simp <;> omega)) _ | refine Below.setCell ?_ (by first | omega | (simp <;> omega)) _)), Lib.hid (RWs13.out.step (by repeat first | exact hBf | exact hBc | exact hB | exact Below.refl _ _ | refine Below.drew ?_ | refine Below.alloc ?_ (by first | omega | (simp <;> omega)) _ | refine Below.setCell ?_ (by first | omega | (simp <;> omega)) _)), Lib.hid (BGs13.out.step (by repeat first | exact hBf | exact hBc | exact hB | exact Below.refl _ _ | refine Below.drew ?_ | refine Below.alloc ?_ (by first | omega | (simp <;> omega)) _ | refine Below.setCell ?_ (by first | omega | (simp <;> omega)) _)), Lib.hid (own_below RGs13.out (by repeat first | exact hBf | exact hBc | exact hB | exact Below.refl _ _ | refine Below.drew ?_ | refine Below.alloc ?_ (by first | omega | (simp <;> omega)) _ | refine Below.setCell ?_ (by first | omega | (simp <;> omega)) _)), Lib.hid (BoxAt.start _ _ _), Lib.hid (own_inA (RowN.last od (Nat.le_refl _) _).1)⟩ | exact ⟨_, Ad, cd, rfl, rfl, Lib.hid (Hs13.out.step (by repeat first | exact hBf | exact hBc | exact hB | exact Below.refl _ _ | refine Below.drew ?_ | refine Below.alloc ?_ (by first | omega | (simp <;> omega)) _ | refine Below.setCell ?_ (by first | omega | (simp <;> omega)) _)), Lib.hid (BWs13.out.step (by repeat first | exact hBf | exact hBc | exact hB | exact Below.refl _ _ | refine Below.drew ?_ | refine Below.alloc ?_ (by first | omega | (simp <;> omega)) _ | refine Below.setCell ?_ (by first | omega | (simp <;> omega)) _)), Lib.hid (RWs13.out.step (by repeat first | exact hBf | exact hBc | exact hB | exact Below.refl _ _ | refine Below.drew ?_ | refine Below.alloc ?_ (by first | omega | (simp <;> omega)) _ | refine Below.setCell ?_ (by first | omega | (simp <;> omega)) _)), Lib.hid (BGs13.out.step (by repeat first | exact hBf | exact hBc | exact hB | exact Below.refl _ _ | refine Below.drew ?_ | refine Below.alloc ?_ (by first | omega | (simp <;> omega)) _ | refine Below.setCell ?_ (by first | omega | (simp <;> omega)) _)), Lib.hid (own_below RGs13.out (by repeat first | exact hBf | exact hBc | exact hB | exact Below.refl _ _ | refine Below.drew ?_ | refine Below.alloc ?_ (by first | omega | (simp <;> omega)) _ | refine Below.setCell ?_ (by first | omega | (simp <;> omega)) _)), Lib.hid (zd.fill N _), Lib.hid (own_inA (RowN.fill od (by first | exact zc.lt | (simp <;> omega)) (Nat.le_refl _) _ _).1)⟩
  case rest =>
  obtain ⟨b14, A14, c14, rfl, rfl, H14, BW14, RW14, BG14, RG14, BH14, IH14⟩ := hcut
  obtain ⟨w14, rfl⟩ : ∃ w14, w14 = wc := ⟨_, rfl⟩
  clear INN HK Hs13 Qs13 BWs13 RWs13 BGs13 RGs13
  have h0 := BH14.out.c0
  have h1 := BH14.out.c1
  have e0 := BW14.out.c0
  have e1 := BW14.out.c1
  go_wp2_with fail
  refine (HE.out N L A14 A3 c14 c3 _ IH14.out (own_inA RW14.out.1) (by omega)).mono ?_
  rintro e w15 ⟨rfl, hb15⟩
  clear e0 e1 h0 h1 BH14 IH14
  have Hs15 := Lib.hid (H14.out.step hb15)
  have BWs15 := Lib.hid (BW14.out.step hb15)
  have RWs15 := Lib.hid (RW14.out.step hb15)
  have BGs15 := Lib.hid (BG14.out.step hb15)
  have RGs15 := Lib.hid (own_below RG14.out hb15)
  clear H14 BW14 RW14 BG14 RG14
  clear hb15
  have g0 := BGs15.out.c0
  have g1 := BGs15.out.c1
  go_wp2_with fail
  refine (heldPuzzle_any N L.length 1 _ (.slice A5 L.length c5) _ RGs15.out hL (by omega)).mono ?_
  rintro e w16 ⟨rfl, hb16⟩
  clear g0 g1
  have Hs16 := Lib.hid (Hs15.out.step hb16)
  have BWs16 := Lib.hid (BWs15.out.step hb16)
  have RWs16 := Lib.hid (RWs15.out.step hb16)
  have BGs16 := Lib.hid (BGs15.out.step hb16)
  have RGs16 := Lib.hid (own_below RGs15.out hb16)
  clear Hs15 BWs15 RWs15 BGs15 RGs15
  clear hb16
  go_wp2_with fail
  go_ret
  exact ⟨rfl, Hs16.out.bel⟩

set_option maxRecDepth 100000 in
set_option maxHeartbeats 2000000 in
theorem walk_FnExactAddClue (n : Int) (A : Option Addr) (len c : Nat) (l : List Cl) (x y z : Int) (w : World) (hw : len = l.length ∧ len ≤ maxLen ∧ ClIn w A l) :
    Calls Try.prog 3 #[.agg #[.int .i64 n, .slice A len c], .agg #[.int .i64 x, .int .i64 y, .int .i64 z]] w fun e w' => e = .returned (.bool true) ∧ Below w.heap.size w w' := by
  obtain ⟨rfl, hm, hin⟩ := hw
  by_cases hbig : l.length ≤ 1048576
  · have hS : ∀ g wx, ClIn wx (some ⟨g, 0, none⟩) l → Calls Try.prog 6 #[.agg #[.int .i64 n, .slice (some ⟨g, 0, none⟩) l.length l.length], .agg #[.int .i64 x, .int .i64 y, .int .i64 z]] wx (PzAns wx (addOk n l x y z) n (l ++ [(x, y, z)])) := fun g wx h => sAddClue_any n x y z l g 0 l.length wx h (by omega)
    have hM : ∀ g wx, ClIn wx (some ⟨g, 0, none⟩) l → Calls Try.prog 9 #[.agg #[.int .i64 n, .slice (some ⟨g, 0, none⟩) l.length l.length], .agg #[.int .i64 x, .int .i64 y, .int .i64 z]] wx (PzAns wx (addOk n l x y z) n (l ++ [(x, y, z)])) := fun g wx h => AddClue_any n x y z l g 0 l.length wx h (by omega) (Nat.le_refl _)
    have hfew : addOk n l x y z = true → (l ++ [(x, y, z)]).length ≤ 1000 := by intro h; have h6 := goodP_few (l := l) (n := n) (by unfold addOk at h; cases hg : goodP n l <;> simp [hg] at h ⊢); simp; omega
    generalize addOk n l x y z = b at hS hM hfew
    generalize l ++ [(x, y, z)] = L at hS hM hfew
    exact core_FnExactAddClue n x y z A c l w b _ _ hbig (by cases b <;> simp_all) hin (Lib.hid fun g wx h => (hS g wx h).mono fun _ _ h => h.slice) (Lib.hid fun g wx h => (hM g wx h).mono fun _ _ h => h.slice)
  · have HSZ := Lib.hid (fun wx => szPuzzle_any n A l.length c wx hm)
    simp only [if_neg hbig] at HSZ
    have H0 := Lib.hid ((LawP.start (n := n) (c := c) 24 hin).step ((Below.refl _ _).alloc (Nat.le_refl _) (Obj.cells #[.int .i64 x, .int .i64 y, .int .i64 z] 26)))
    clear hbig hm hin
    go_enter Try.func3, Try.ntmps3
    go_wp2_with fail
    refine (HSZ.out _).mono ?_
    rintro e w1 ⟨rfl, hb1⟩
    have H1 := Lib.hid (H0.out.step hb1)
    go_wp2
    go_ret
    exact ⟨rfl, H1.out.bel⟩
end Go.Proofs.Ytjnidfleccbdbaa
