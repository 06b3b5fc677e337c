/- The law's walk: FnExactLeftByClues. -/
import Derived.Test.YthhmaohnibdbnaaGreatPzCl
import Derived.Test.YthhmaohnibdbnaaGreatPzV
namespace Go.Proofs.YthhmaohnibdbnaaGreat
open Go.RowKit

set_option maxRecDepth 100000 in
set_option maxHeartbeats 4000000 in
theorem core_FnExactLeftByClues (n : Int) (A : Option Addr) (c : Nat) (l : List Cl) (w : World) (b : Bool) (L : List (Int)) (hl : l.length ≤ 1048576) (hL : L.length ≤ 1000) (hin : ClIn w A l)
    (HS : Hid (∀ g wx, ClIn wx (some ⟨g, 0, none⟩) l → g < wx.heap.size → Calls Tryz.prog 34 #[.agg #[.int .i64 n, .slice (some ⟨g, 0, none⟩) l.length l.length]] wx (ItxB wx b L)))
    (HM : Hid (∀ g wx, ClIn wx (some ⟨g, 0, none⟩) l → g < wx.heap.size → Calls Tryz.prog 35 #[.agg #[.int .i64 n, .slice (some ⟨g, 0, none⟩) l.length l.length]] wx (ItxB wx b L))) :
    Calls Tryz.prog 9 #[.agg #[.int .i64 n, .slice A l.length c]] w fun e w' => e = .returned (.bool true) ∧ Below w.heap.size w w' := by
  have hP0 := LawP.start (n := n) (c := c) 24 hin
  have HSZ := Lib.hid (fun wx => szPuzzle_any n A l.length c wx (by unfold maxLen; omega))
  simp only [if_pos hl] at HSZ
  have hpos : ¬ ((1048576 : Int) - l.length < 0) := by omega
  have HT := Lib.hid (fun wx (h : ClIn wx A l) => toPuzzle_any n l A c wx h (by omega))
  have HE := Lib.hid (fun (n : Int) (l : List Cl) (A B : Option Addr) (c d : Nat) wx (h : ClIn wx A l) (h' : ClIn wx B l) (hl : l.length ≤ 2000000) => eqPuzzle_same n l A B c d wx h h' hl)
  have HEL := Lib.hid (fun (A B : Option Addr) (c d : Nat) wx (h : InAt wx A L) (h' : InAt wx B L) => eqIntS_same L A B c d wx h h' (by omega))
  have H0 := Lib.hid hP0
  clear hP0 hin
  have p1 : ¬ ((1 : Int) + 3 * (l.length : Int) < 0) := by omega
  have p2 : ¬ (((1 + L.length : Nat) : Int) < 0) := by omega
  go_enter Tryz.func9, Tryz.ntmps9
  go_wp2_with fail
  refine (HSZ.out _).mono ?_
  rintro e w1 ⟨rfl, hb1⟩
  have H1 := Lib.hid (H0.out.step hb1)
  have d0 := H1.out.c0
  have d1 := H1.out.c1
  clear H0 hb1
  go_wp2_with fail
  refine (HT.out _ H1.out.inn).mono ?_
  rintro e w2 ⟨g2, rfl, o2, hb2⟩
  have H2 := Lib.hid (H1.out.step hb2)
  have I2 := Lib.hid (And.intro (own_in o2) (o2.lt g2 rfl).2)
  clear H1 o2 hb2 d0 d1
  go_wp2_with fail
  refine (HS.out g2 _ I2.out.1 I2.out.2).mono ?_
  rintro e w3 ⟨v3, rfl, o3, hb3⟩
  obtain ⟨A3, c3, rfl, _, _, at3⟩ := in_own o3
  have H3 := Lib.hid (H2.out.step hb3)
  have W3 := Lib.hid at3
  have lw := Lib.hid (fun j (hj : (Value.slice A3 L.length c3).ownBlock = some j) => (o3.lt j hj).2)
  have H3lt := lt_of_cell0 H3.out.c0
  clear H2 I2 at3 o3 hb3
  have d0 := H3.out.c0
  have d1 := H3.out.c1
  go_wp2_with fail
  refine (HT.out _ H3.out.inn).mono ?_
  rintro e w4 ⟨g4, rfl, o4, hb4⟩
  have H4 := Lib.hid (H3.out.step hb4)
  have W4 := Lib.hid (W3.out.below hb4)
  have s34 : w3.heap.size ≤ g4 := (o4.lt g4 rfl).1
  have s4 : g4 < w4.heap.size := (o4.lt g4 rfl).2
  clear H3 W3 d0 d1 hb4
  have BX4 := Lib.hid (BoxAt.start w4 n (.slice (some ⟨g4, 0, none⟩) l.length l.length))
  have hba : Below w4.heap.size w4 (w4.alloc (Obj.cells #[.int .i64 n, .slice (some ⟨g4, 0, none⟩) l.length l.length] 31)) := (Below.refl _ _).alloc (Nat.le_refl _) _
  have RX4 := Lib.hid (own_below o4 hba)
  have H4a := Lib.hid (H4.out.step hba)
  have W4a := Lib.hid (W4.out.below hba)
  have IX4 := Lib.hid (own_in RX4.out)
  have Z4 := Lib.hid (Nat.lt_of_lt_of_le s4 hba.size)
  clear H4 W4 hba o4
  have x0 := BX4.out.c0
  have x1 := BX4.out.c1
  go_wp2_with fail
  refine (HM.out g4 _ IX4.out Z4.out).mono ?_
  rintro e w5 ⟨v5, rfl, o5, hb5⟩
  obtain ⟨A5, c5, rfl, _, _, at5⟩ := in_own o5
  have s45 := BX4.out.lt
  have sz5 := hb5.size
  have lg := Lib.hid (fun j (hj : (Value.slice A5 L.length c5).ownBlock = some j) => o5.lt j hj)
  have H5 := Lib.hid (H4a.out.step hb5)
  have W5 := Lib.hid (W4a.out.below hb5)
  have BX5 := Lib.hid (BX4.out.step hb5)
  have RX5 := Lib.hid (own_below RX4.out hb5)
  have RG5 := Lib.hid o5
  clear H4a W4a BX4 RX4 IX4 Z4 x0 x1 o5 at5 hb5
  have atq := in_own_at RG5.out
  go_wp2_with fail
  refine (HEL.out A5 A3 c5 c3 _ atq W5.out).mono ?_
  rintro e w6 ⟨rfl, hb6⟩
  clear atq
  have H6 := Lib.hid (H5.out.step hb6)
  have W6 := Lib.hid (W5.out.below hb6)
  have BX6 := Lib.hid (BX5.out.step hb6)
  have RX6 := Lib.hid (own_below RX5.out hb6)
  have RG6 := Lib.hid (own_below RG5.out hb6)
  clear H5 W5 BX5 RX5 RG5
  clear hb6
  have d0 := H6.out.c0
  have d1 := H6.out.c1
  have x0 := BX6.out.c0
  have x1 := BX6.out.c1
  have z0 := lt_of_cell0 d0
  have z1 := lt_of_cell0 x0
  have IX6 := Lib.hid (own_in RX6.out)
  have INN6 := Lib.hid (H6.out.inn)
  go_wp2_with fail
  go_region_held3 (fun w' => w'.cell? ⟨w.heap.size, 0, none⟩ = some (.int .i64 n) ∧ w'.cell? ⟨w.heap.size, 1, none⟩ = some (.slice A l.length c) ∧ w'.cell? ⟨w4.heap.size, 0, none⟩ = some (.int .i64 n) ∧ w'.cell? ⟨w4.heap.size, 1, none⟩ = some (.slice (some ⟨g4, 0, none⟩) l.length l.length)) (first | exact ⟨d0, d1, x0, x1⟩ | exact ⟨(hb7.cell z0).trans d0, (hb7.cell z0).trans d1, (hb7.cell z1).trans x0, (hb7.cell z1).trans x1⟩ | exact ⟨((hb7.trans (hb8.mono hb7.size)).cell z0).trans d0, ((hb7.trans (hb8.mono hb7.size)).cell z0).trans d1, ((hb7.trans (hb8.mono hb7.size)).cell z1).trans x0, ((hb7.trans (hb8.mono hb7.size)).cell z1).trans x1⟩) (first | (go_at_call 14; refine (HT.out _ (clin_drew INN6.out)).mono ?_; rintro e w7 ⟨g7, rfl, o7, hb7⟩; have I7 := own_in o7; clear o7) | (go_at_call 17; refine (HE.out n l (some ⟨g4, 0, none⟩) (some ⟨g7, 0, none⟩) l.length l.length _ ((clin_drew IX6.out).below hb7) I7 (by omega)).mono ?_; rintro e w8 ⟨rfl, hb8⟩))
  have hb68 : Below w6.heap.size w6 w8 := (Below.drew (Below.refl _ _)).trans ((hb7.trans (hb8.mono hb7.size)))
  clear d0 d1 x0 x1 z0 z1 IX6 INN6 hb7 hb8 I7
  have H8 := Lib.hid (H6.out.step hb68)
  have W8 := Lib.hid (W6.out.below hb68)
  have BX8 := Lib.hid (BX6.out.step hb68)
  have RX8 := Lib.hid (own_below RX6.out hb68)
  have RG8 := Lib.hid (own_below RG6.out hb68)
  clear H6 W6 BX6 RX6 RG6
  clear hb68
  have x0 := BX8.out.c0
  have x1 := BX8.out.c1
  have HMK := Lib.hid (fun wx b (h : wx.ownsRow b 69 3 (.slice (some ⟨g4, 0, none⟩) l.length l.length) l.length (flat3 l)) (hb : b ≤ wx.heap.size) => markPuzzle_far n l.length 1 b l (.slice (some ⟨g4, 0, none⟩) l.length l.length) wx rfl h (by omega) (by omega) hb)
  have lx8 := RX8.out.lt g4 rfl
  go_wp2_with fail
  refine (HMK.out _ _ RX8.out (Nat.le_of_lt (Nat.lt_of_le_of_lt lx8.1 lx8.2))).mono ?_
  rintro e w9 ⟨rfl, o9, hb9, hf9⟩
  clear x0 x1 HMK lx8
  have H9 := Lib.hid (H8.out.mark hb9 (by omega) hf9 (fun g hg e => by have e := Option.some.inj (show some g = some g4 from e); omega))
  have W9 := Lib.hid (W8.out.farP hf9 (fun a ha e => by have e := Option.some.inj (show some _ = some g4 from e); have := lw.out a.block (by rw [ha]; rfl); omega))
  have RG9 := Lib.hid (own_farB RG8.out hf9 (fun j hj e => by have e := Option.some.inj (show some j = some g4 from e); have := (lg.out j hj).1; omega))
  clear H8 W8 BX8 RX8 RG8 o9 hb9 hf9
  have atq := in_own_at RG9.out
  go_wp2_with fail
  refine (HEL.out A5 A3 c5 c3 _ atq W9.out).mono ?_
  rintro e w10 ⟨rfl, hb10⟩
  clear atq
  have H10 := Lib.hid (H9.out.step hb10)
  have W10 := Lib.hid (W9.out.below hb10)
  have RG10 := Lib.hid (own_below RG9.out hb10)
  clear H9 W9 RG9
  clear hb10
  go_wp2_with fail
  refine (markIntS_any L.length 1 _ L _ _ rfl RG10.out (by omega) (by omega)).mono ?_
  rintro e w11 ⟨rfl, o11, hb11⟩
  have H11 := Lib.hid (H10.out.stepB hb11 (by omega))
  have W11 := Lib.hid (W10.out.belowB hb11 (fun a ha => by have := lw.out a.block (by rw [ha]; rfl); omega))
  have RG11 := Lib.hid o11
  clear H10 W10 RG10 o11 hb11
  go_wp2_with fail
  refine (heldIntS_any L.length 1 _ _ _ RG11.out (by omega) (by omega)).mono ?_
  rintro e w12 ⟨rfl, rfl⟩
  have d0 := H11.out.c0
  have d1 := H11.out.c1
  go_wp2_with fail
  refine (HT.out _ H11.out.inn).mono ?_
  rintro e w13 ⟨g13, rfl, o13, hb13⟩
  have I13 := Lib.hid (And.intro (own_in o13) (o13.lt g13 rfl).2)
  have H13 := Lib.hid (H11.out.step hb13)
  have W13 := Lib.hid (W11.out.below hb13)
  have RG13 := Lib.hid (own_below RG11.out hb13)
  clear H11 W11 RG11
  clear o13 hb13 d0 d1
  go_wp2_with fail
  refine (HM.out g13 _ I13.out.1 I13.out.2).mono ?_
  rintro e w14 ⟨v14, rfl, o14, hb14⟩
  obtain ⟨A14, c14, rfl, _, _, at14⟩ := in_own o14
  have H14 := Lib.hid (H13.out.step hb14)
  have W14 := Lib.hid (W13.out.below hb14)
  have RG14 := Lib.hid (own_below RG13.out hb14)
  clear H13 W13 RG13
  clear o14 hb14 I13
  go_wp2_with fail
  refine (HEL.out A14 A3 c14 c3 _ at14 W14.out).mono ?_
  rintro e w15 ⟨rfl, hb15⟩
  clear at14
  have H15 := Lib.hid (H14.out.step hb15)
  have W15 := Lib.hid (W14.out.below hb15)
  have RG15 := Lib.hid (own_below RG14.out hb15)
  clear H14 W14 RG14
  clear hb15
  go_wp2_with fail
  refine (heldIntS_any L.length 1 _ _ _ RG15.out (by omega) (by omega)).mono ?_
  rintro e w16 ⟨rfl, rfl⟩
  go_wp2_with fail
  go_ret
  exact ⟨rfl, H15.out.bel⟩

set_option maxRecDepth 100000 in
set_option maxHeartbeats 1000000 in
theorem walk_FnExactLeftByClues (n : Int) (A : Option Addr) (len c : Nat) (l : List Cl) (w : World) (hw : len = l.length ∧ len ≤ maxLen ∧ ClIn w A l) :
    Calls Tryz.prog 9 #[.agg #[.int .i64 n, .slice A len c]] w fun e w' => e = .returned (.bool true) ∧ Below w.heap.size w w' := by
  obtain ⟨rfl, hm, hin⟩ := hw
  by_cases hbig : l.length ≤ 1048576
  · refine core_FnExactLeftByClues n A c l w (goodP n l) (lbOr n l) hbig (lbOr_small n l) hin (Lib.hid fun g wx h hg => ?_) (Lib.hid fun g wx h hg => ?_)
    · exact sLeftByClues_any n l g 0 l.length wx h (by omega) (Nat.le_refl _) (Nat.le_refl _) hg
    · exact LeftByClues_any n l g 0 l.length wx h (by omega) (Nat.le_refl _) hg
  · have HSZ := Lib.hid (fun wx => szPuzzle_any n A l.length c wx hm)
    simp only [if_neg hbig] at HSZ
    have hP0 := LawP.start (n := n) (c := c) 24 hin
    have H0 := Lib.hid hP0
    clear hP0 hbig hm
    go_enter Tryz.func9, Tryz.ntmps9
    go_wp2_with fail
    refine (HSZ.out _).mono ?_
    rintro e w1 ⟨rfl, hb1⟩
    have H1 := Lib.hid (H0.out.step hb1)
    go_wp2
    go_ret
    exact ⟨rfl, H1.out.bel⟩
end Go.Proofs.YthhmaohnibdbnaaGreat
