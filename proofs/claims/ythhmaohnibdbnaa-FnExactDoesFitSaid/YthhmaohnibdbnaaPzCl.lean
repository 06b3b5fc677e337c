/- The law's walk: what a puzzle is. -/
import Derived.Test.YthhmaohnibdbnaaPzC
namespace Go.Proofs.Ythhmaohnibdbnaa
open Go.RowKit

set_option maxRecDepth 100000 in
set_option maxHeartbeats 1000000 in
theorem sIsPuzzle_any (n : Int) (l : List Cl) (A : Option Addr) (c : Nat) (w : World) (hin : ClIn w A l) (hl : l.length ≤ 2000000) :
    Calls Try.prog 13 #[.agg #[.int .i64 n, .slice A l.length c]] w fun e w' => e = .returned (.bool (goodP n l)) ∧ Below w.heap.size w w' := by
  have hB0 : Below w.heap.size w (w.alloc (Obj.cells #[.int .i64 n, .slice A l.length c] 35)) := (Below.refl _ _).alloc (Nat.le_refl _) _
  have HG := Lib.hid (pzGood_any n l A c _ (hin.below hB0) hl)
  clear hin
  generalize goodP n l = x at HG ⊢
  go_enter Try.func13, Try.ntmps13
  go_wp2_with fail
  refine HG.out.mono ?_; rintro e w1 ⟨rfl, hb1⟩
  go_wp2_with fail
  go_ret
  exact ⟨rfl, hB0.trans (hb1.mono (by simp))⟩

set_option maxRecDepth 100000 in
set_option maxHeartbeats 1000000 in
theorem IsPuzzle_any (n : Int) (l : List Cl) (g o c : Nat) (w : World) (hin : ClIn w (some ⟨g, o, none⟩) l) (hl : l.length ≤ 2000000) (hc : l.length ≤ c) :
    Calls Try.prog 15 #[.agg #[.int .i64 n, .slice (some ⟨g, o, none⟩) l.length c]] w fun e w' => e = .returned (.bool (goodP n l)) ∧ Below w.heap.size w w' := by
  have hB0 : Below w.heap.size w (w.alloc (Obj.cells #[.int .i64 n, .slice (some ⟨g, o, none⟩) l.length c] 35)) := (Below.refl _ _).alloc (Nat.le_refl _) _
  have HG := Lib.hid (cluesOf_any n l g o c _ (hin.below hB0) hl hc)
  clear hin
  cases hx : goodP n l
  · rw [hx] at HG
    rw [show clOr false g o l.length = .tuple #[.slice none 0 0, .bool false] from rfl] at HG
    clear hx
    go_enter Try.func15, Try.ntmps15
    go_wp2_with fail
    refine HG.out.mono ?_; rintro e w1 ⟨rfl, hb1⟩
    go_wp2_with fail
    go_ret
    exact ⟨rfl, hB0.trans (hb1.mono (by simp))⟩
  · rw [hx] at HG
    rw [show clOr true g o l.length = .tuple #[.slice (some ⟨g, o, none⟩) l.length l.length, .bool true] from rfl] at HG
    clear hx
    go_enter Try.func15, Try.ntmps15
    go_wp2_with fail
    refine HG.out.mono ?_; rintro e w1 ⟨rfl, hb1⟩
    go_wp2_with fail
    go_ret
    exact ⟨rfl, hB0.trans (hb1.mono (by simp))⟩

theorem own_in {w : World} {base g n c : Nat} {l : List Cl} (h : w.ownsRow base 25 3 (.slice (some ⟨g, 0, none⟩) n c) l.length (flat3 l)) : ClIn w (some ⟨g, 0, none⟩) l := by
  obtain ⟨A, cap, e, hin, _⟩ := cl_own h
  injection e with e
  rw [e]
  exact hin
/-- What a law knows of its puzzle. -/
structure LawP (w : World) (n : Int) (A : Option Addr) (c : Nat) (l : List Cl) (wx : World) : Prop where
  bel : Below w.heap.size w wx
  c0 : wx.cell? ⟨w.heap.size, 0, none⟩ = some (.int .i64 n)
  c1 : wx.cell? ⟨w.heap.size, 1, none⟩ = some (.slice A l.length c)
  inn : ClIn wx A l
  src : ClIn w A l
theorem LawP.start {w : World} {n : Int} {A : Option Addr} {c : Nat} {l : List Cl} (T : TypeId) (h : ClIn w A l) : LawP w n A c l (w.alloc (Obj.cells #[.int .i64 n, .slice A l.length c] T)) :=
  ⟨(Below.refl _ _).alloc (Nat.le_refl _) _, by rw [cell_new' _ _ _ _ _ rfl]; rfl, by rw [cell_new' _ _ _ _ _ rfl]; rfl, h.below ((Below.refl _ _).alloc (Nat.le_refl _) _), h⟩
theorem lt_of_cell0 {W : World} {b : Nat} {v : Value} (h : W.cell? ⟨b, 0, none⟩ = some v) : b < W.heap.size := by
  by_cases hlt : b < W.heap.size
  · exact hlt
  · exfalso
    unfold World.cell? at h
    simp [Array.getElem?_eq_none (Nat.le_of_not_lt hlt)] at h
theorem LawP.step {w wx wy : World} {n : Int} {A : Option Addr} {c : Nat} {l : List Cl} (h : LawP w n A c l wx) (hb : Below wx.heap.size wx wy) : LawP w n A c l wy :=
  ⟨h.bel.trans (hb.mono h.bel.size), by rw [(bcell hb).1 _ _ (lt_of_cell0 h.c0)]; exact h.c0, by rw [(bcell hb).1 _ _ (lt_of_cell0 h.c0)]; exact h.c1, h.inn.below hb, h.src⟩

set_option maxRecDepth 100000 in
set_option maxHeartbeats 2000000 in
theorem walk_FnExactIsPuzzle (n : Int) (A : Option Addr) (len c : Nat) (l : List Cl) (w : World) (hw : len = l.length ∧ len ≤ maxLen ∧ ClIn w A l) :
    Calls Try.prog 4 #[.agg #[.int .i64 n, .slice A len c]] w fun e w' => e = .returned (.bool true) ∧ Below w.heap.size w w' := by
  obtain ⟨rfl, hm, hin⟩ := hw
  have hP0 := LawP.start (n := n) (c := c) 30 hin
  have hB := hP0.bel
  have HSZ := Lib.hid (fun wx => szPuzzle_any n A l.length c wx hm)
  clear hin
  by_cases hbig : l.length ≤ 1048576
  · rw [if_pos hbig] at HSZ
    have hpos : ¬ ((1048576 : Int) - l.length < 0) := by omega
    have HT := Lib.hid (fun wx (h : ClIn wx A l) => toPuzzle_any n l A c wx h (by omega))
    have HS := Lib.hid (fun g wx (h : ClIn wx (some ⟨g, 0, none⟩) l) => sIsPuzzle_any n l (some ⟨g, 0, none⟩) l.length wx h (by omega))
    have HM := Lib.hid (fun g wx (h : ClIn wx (some ⟨g, 0, none⟩) l) => IsPuzzle_any n l g 0 l.length wx h (by omega) (Nat.le_refl _))
    have HE := Lib.hid (fun g g' wx (h : ClIn wx (some ⟨g, 0, none⟩) l) (h' : ClIn wx (some ⟨g', 0, none⟩) l) => eqPuzzle_same n l (some ⟨g, 0, none⟩) (some ⟨g', 0, none⟩) l.length l.length wx h h' (by omega))
    generalize goodP n l = x at HS HM
    have H0 := Lib.hid hP0
    clear hP0 hB hbig hm
    go_enter Try.func4, Try.ntmps4
    go_wp2_with fail
    refine (HSZ.out _).mono ?_
    rintro e w1 ⟨rfl, hb1⟩
    have H1 := Lib.hid (H0.out.step hb1)
    have d0 := H1.out.c0
    have d1 := H1.out.c1
    clear H0 hb1
    go_wp2_with fail
    refine (HT.out _ H1.out.inn).mono ?_
    rintro e w2 ⟨g, rfl, o2, hb2⟩
    have H2 := Lib.hid (H1.out.step (hb2))
    have I2 := Lib.hid (own_in o2)
    clear H1 o2 hb2 d0 d1
    go_wp2_with fail
    refine (HS.out g _ I2.out).mono ?_
    rintro e w3 ⟨rfl, hb3⟩
    have H3 := Lib.hid (H2.out.step hb3)
    have d0 := H3.out.c0
    have d1 := H3.out.c1
    clear H2 hb3 I2
    go_wp2_with fail
    refine (HT.out _ H3.out.inn).mono ?_
    rintro e w4 ⟨g4, rfl, o4, hb4⟩
    have X4 := Lib.hid (LawP.start (n := n) (c := l.length) 35 (own_in o4))
    have H4 := Lib.hid ((H3.out.step hb4).step X4.out.bel)
    clear H3 o4 hb4 d0 d1
    go_wp2_with fail
    refine (HM.out g4 _ X4.out.inn).mono ?_
    rintro e w5 ⟨rfl, hb5⟩
    have H5 := Lib.hid (H4.out.step hb5)
    have X5 := Lib.hid (X4.out.step hb5)
    have d0 := H5.out.c0
    have d1 := H5.out.c1
    have x0 := X5.out.c0
    have x1 := X5.out.c1
    have z0 := lt_of_cell0 d0
    have z1 := lt_of_cell0 x0
    clear H4 X4 hb5
    go_wp2_with fail
    go_region_held3 (fun w' => w'.cell? ⟨w.heap.size, 0, none⟩ = some (.int .i64 n) ∧ w'.cell? ⟨w.heap.size, 1, none⟩ = some (.slice A l.length c) ∧ w'.cell? ⟨w4.heap.size, 0, none⟩ = some (.int .i64 n) ∧ w'.cell? ⟨w4.heap.size, 1, none⟩ = some (.slice (some ⟨g4, 0, none⟩) l.length l.length)) (first | exact ⟨d0, d1, x0, x1⟩ | exact ⟨(hb6.cell z0).trans d0, (hb6.cell z0).trans d1, (hb6.cell z1).trans x0, (hb6.cell z1).trans x1⟩ | exact ⟨((hb6.trans (hb7.mono hb6.size)).cell z0).trans d0, ((hb6.trans (hb7.mono hb6.size)).cell z0).trans d1, ((hb6.trans (hb7.mono hb6.size)).cell z1).trans x0, ((hb6.trans (hb7.mono hb6.size)).cell z1).trans x1⟩) (first | (go_at_call 14; refine (HT.out _ (clin_drew H5.out.inn)).mono ?_; rintro e w6 ⟨g6, rfl, o6, hb6⟩; have I6 := own_in o6; clear o6) | (go_at_call 16; refine (HE.out g4 g6 _ ((clin_drew X5.out.inn).below hb6) I6).mono ?_; rintro e w7 ⟨rfl, hb7⟩))
    have H7 := Lib.hid ((Below.drew H5.out.bel).trans ((hb6.trans (hb7.mono hb6.size)).mono H5.out.bel.size))
    go_wp2_with fail
    go_ret
    exact ⟨rfl, H7.out⟩
  · rw [if_neg hbig] at HSZ
    have H0 := Lib.hid hP0
    clear hP0 hB hbig hm
    go_enter Try.func4, Try.ntmps4
    go_wp2_with fail
    refine (HSZ.out _).mono ?_
    rintro e w1 ⟨rfl, hb1⟩
    have H1 := Lib.hid (H0.out.step hb1)
    go_wp2
    go_ret
    exact ⟨rfl, H1.out.bel⟩
end Go.Proofs.Ythhmaohnibdbnaa
