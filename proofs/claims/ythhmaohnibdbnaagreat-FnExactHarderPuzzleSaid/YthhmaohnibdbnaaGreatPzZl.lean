/- The law's walk: FnExactHarderPuzzle. -/
import Derived.Test.YthhmaohnibdbnaaGreatPzG
import Derived.Test.YthhmaohnibdbnaaGreatPzZb
namespace Go.Proofs.YthhmaohnibdbnaaGreat
open Go.RowKit

set_option maxRecDepth 100000 in
set_option maxHeartbeats 4000000 in
theorem core_FnExactHarderPuzzle (n : Int) (A : Option Addr) (c : Nat) (l : List Cl) (w : World) (b : Bool) (N : Int) (L : List Cl) (hl : l.length ≤ 1048576) (hL : L.length ≤ 1000) (hin : ClIn w A l)
    (HS : Hid (∀ g wx, ClIn wx (some ⟨g, 0, none⟩) l → g < wx.heap.size → Calls Tryz.prog 38 #[.agg #[.int .i64 n, .slice (some ⟨g, 0, none⟩) l.length l.length]] wx (PzAnsL wx b N L)))
    (HM : Hid (∀ g wx, ClIn wx (some ⟨g, 0, none⟩) l → g < wx.heap.size → Calls Tryz.prog 39 #[.agg #[.int .i64 n, .slice (some ⟨g, 0, none⟩) l.length l.length]] wx (PzAnsL wx b N L))) :
    Calls Tryz.prog 11 #[.agg #[.int .i64 n, .slice A l.length c]] w fun e w' => e = .returned (.bool true) ∧ Below w.heap.size w w' := by
  have hP0 := LawP.start (n := n) (c := c) 24 hin
  have HSZ := Lib.hid (fun wx => szPuzzle_any n A l.length c wx (by unfold maxLen; omega))
  simp only [if_pos hl] at HSZ
  have hpos : ¬ ((1048576 : Int) - l.length < 0) := by omega
  have HT := Lib.hid (fun wx (h : ClIn wx A l) => toPuzzle_any n l A c wx h (by omega))
  have HE := Lib.hid (fun (n : Int) (l : List Cl) (A B : Option Addr) (c d : Nat) wx (h : ClIn wx A l) (h' : ClIn wx B l) (hl : l.length ≤ 2000000) => eqPuzzle_same n l A B c d wx h h' hl)
  have H0 := Lib.hid hP0
  clear hP0 hin
  have p1 : ¬ ((1 : Int) + 3 * (l.length : Int) < 0) := by omega
  have p2 : ¬ ((1 : Int) + 3 * (L.length : Int) < 0) := by omega
  go_enter Tryz.func11, Tryz.ntmps11
  go_wp2_with fail
  refine (HSZ.out _).mono ?_
  rintro e w1 ⟨rfl, hb1⟩
  have H1 := Lib.hid (H0.out.step hb1)
  have d0 := H1.out.c0
  have d1 := H1.out.c1
  clear H0 hb1
  go_wp2_with fail
  refine (HT.out _ H1.out.inn).mono ?_
  rintro e w2 ⟨g2, rfl, o2, hb2⟩
  have H2 := Lib.hid (H1.out.step hb2)
  have I2 := Lib.hid (own_in o2)
  have L2g := Lib.hid (o2.lt g2 rfl).2
  clear H1 o2 hb2 d0 d1
  go_wp2_with fail
  refine (HS.out g2 _ I2.out L2g.out).mono ?_
  rintro e w3 ⟨A3, c3, rfl, o3, hb3⟩
  have H3 := Lib.hid (H2.out.step hb3)
  clear H2 I2
  have BW3 := Lib.hid (BoxAt.start w3 N (.slice A3 L.length c3))
  have RW3 := Lib.hid (o3.alloc (Obj.cells #[.int .i64 N, .slice A3 L.length c3] 31))
  have lw := Lib.hid (fun j (hj : (Value.slice A3 L.length c3).ownBlock = some j) => (o3.lt j hj).2)
  have hba : Below w3.heap.size w3 (w3.alloc (Obj.cells #[.int .i64 N, .slice A3 L.length c3] 31)) := (Below.refl _ _).alloc (Nat.le_refl _) _
  have H3a := Lib.hid (H3.out.step hba)
  have H3lt := lt_of_cell0 H3.out.c0
  clear H3 hba o3 hb3
  have d0 := H3a.out.c0
  have d1 := H3a.out.c1
  go_wp2_with fail
  refine (HT.out _ H3a.out.inn).mono ?_
  rintro e w4 ⟨g4, rfl, o4, hb4⟩
  have H4 := Lib.hid (H3a.out.step hb4)
  have BW4 := Lib.hid (BW3.out.step hb4)
  have RW4 := Lib.hid (own_below RW3.out hb4)
  have s34 : w3.heap.size + 1 ≤ g4 := by have := (o4.lt g4 rfl).1; simpa using this
  have s4 : g4 < w4.heap.size := (o4.lt g4 rfl).2
  clear H3a BW3 RW3 d0 d1 hb4
  have BX4 := Lib.hid (BoxAt.start w4 n (.slice (some ⟨g4, 0, none⟩) l.length l.length))
  have hba : Below w4.heap.size w4 (w4.alloc (Obj.cells #[.int .i64 n, .slice (some ⟨g4, 0, none⟩) l.length l.length] 31)) := (Below.refl _ _).alloc (Nat.le_refl _) _
  have RX4 := Lib.hid (own_below o4 hba)
  have H4a := Lib.hid (H4.out.step hba)
  have BW4a := Lib.hid (BW4.out.step hba)
  have RW4a := Lib.hid (own_below RW4.out hba)
  have IX4 := Lib.hid (own_in RX4.out)
  clear H4 BW4 RW4 hba o4
  have x0 := BX4.out.c0
  have x1 := BX4.out.c1
  go_wp2_with fail
  refine (HM.out g4 _ IX4.out (by simp; omega)).mono ?_
  rintro e w5 ⟨A5, c5, rfl, o5, hb5⟩
  have H5 := Lib.hid (H4a.out.step hb5)
  have BW5 := Lib.hid (BW4a.out.step hb5)
  have RW5 := Lib.hid (own_below RW4a.out hb5)
  have BX5 := Lib.hid (BX4.out.step hb5)
  have RX5 := Lib.hid (own_below RX4.out hb5)
  have lg := Lib.hid (fun j (hj : (Value.slice A5 L.length c5).ownBlock = some j) => o5.lt j hj)
  have s45 := BX4.out.lt
  have sz5 := hb5.size
  have lb5 := Nat.lt_of_lt_of_le s45 hb5.size
  clear H4a BW4a RW4a BX4 RX4 IX4 x0 x1
  have BG5 := Lib.hid (BoxAt.start w5 N (.slice A5 L.length c5))
  have hba : Below w5.heap.size w5 (w5.alloc (Obj.cells #[.int .i64 N, .slice A5 L.length c5] 31)) := (Below.refl _ _).alloc (Nat.le_refl _) _
  have RG5 := Lib.hid (own_below o5 hba)
  have H5a := Lib.hid (H5.out.step hba)
  have BW5a := Lib.hid (BW5.out.step hba)
  have RW5a := Lib.hid (own_below RW5.out hba)
  have BX5a := Lib.hid (BX5.out.step hba)
  have RX5a := Lib.hid (own_below RX5.out hba)
  clear H5 BW5 RW5 BX5 RX5 hba o5 hb5
  have g0 := BG5.out.c0
  have g1 := BG5.out.c1
  have e0 := BW5a.out.c0
  have e1 := BW5a.out.c1
  go_wp2_with fail
  refine (HE.out N L A5 A3 c5 c3 _ (own_inA RG5.out) (own_inA RW5a.out) (by omega)).mono ?_
  rintro e w6 ⟨rfl, hb6⟩
  clear g0 g1 e0 e1
  have H6 := Lib.hid (H5a.out.step hb6)
  have BW6 := Lib.hid (BW5a.out.step hb6)
  have RW6 := Lib.hid (own_below RW5a.out hb6)
  have BX6 := Lib.hid (BX5a.out.step hb6)
  have RX6 := Lib.hid (own_below RX5a.out hb6)
  have BG6 := Lib.hid (BG5.out.step hb6)
  have RG6 := Lib.hid (own_below RG5.out hb6)
  clear H5a BW5a RW5a BX5a RX5a BG5 RG5
  clear hb6
  have d0 := H6.out.c0
  have d1 := H6.out.c1
  have x0 := BX6.out.c0
  have x1 := BX6.out.c1
  have z0 := lt_of_cell0 d0
  have z1 := lt_of_cell0 x0
  have IX6 := Lib.hid (own_in RX6.out)
  have INN6 := Lib.hid (H6.out.inn)
  go_wp2_with fail
  go_region_held3 (fun w' => w'.cell? ⟨w.heap.size, 0, none⟩ = some (.int .i64 n) ∧ w'.cell? ⟨w.heap.size, 1, none⟩ = some (.slice A l.length c) ∧ w'.cell? ⟨w4.heap.size, 0, none⟩ = some (.int .i64 n) ∧ w'.cell? ⟨w4.heap.size, 1, none⟩ = some (.slice (some ⟨g4, 0, none⟩) l.length l.length)) (first | exact ⟨d0, d1, x0, x1⟩ | exact ⟨(hb7.cell z0).trans d0, (hb7.cell z0).trans d1, (hb7.cell z1).trans x0, (hb7.cell z1).trans x1⟩ | exact ⟨((hb7.trans (hb8.mono hb7.size)).cell z0).trans d0, ((hb7.trans (hb8.mono hb7.size)).cell z0).trans d1, ((hb7.trans (hb8.mono hb7.size)).cell z1).trans x0, ((hb7.trans (hb8.mono hb7.size)).cell z1).trans x1⟩) (first | (go_at_call 14; refine (HT.out _ (clin_drew INN6.out)).mono ?_; rintro e w7 ⟨g7, rfl, o7, hb7⟩; have I7 := own_in o7; clear o7) | (go_at_call 17; refine (HE.out n l (some ⟨g4, 0, none⟩) (some ⟨g7, 0, none⟩) l.length l.length _ ((clin_drew IX6.out).below hb7) I7 (by omega)).mono ?_; rintro e w8 ⟨rfl, hb8⟩))
  have hb68 : Below w6.heap.size w6 w8 := (Below.drew (Below.refl _ _)).trans ((hb7.trans (hb8.mono hb7.size)))
  clear d0 d1 x0 x1 z0 z1 IX6 INN6 hb7 hb8 I7
  have H8 := Lib.hid (H6.out.step hb68)
  have BW8 := Lib.hid (BW6.out.step hb68)
  have RW8 := Lib.hid (own_below RW6.out hb68)
  have BX8 := Lib.hid (BX6.out.step hb68)
  have RX8 := Lib.hid (own_below RX6.out hb68)
  have BG8 := Lib.hid (BG6.out.step hb68)
  have RG8 := Lib.hid (own_below RG6.out hb68)
  clear H6 BW6 RW6 BX6 RX6 BG6 RG6
  clear hb68
  have x0 := BX8.out.c0
  have x1 := BX8.out.c1
  have HMK := Lib.hid (fun wx b (h : wx.ownsRow b 69 3 (.slice (some ⟨g4, 0, none⟩) l.length l.length) l.length (flat3 l)) (hb : b ≤ wx.heap.size) => markPuzzle_far n l.length 1 b l (.slice (some ⟨g4, 0, none⟩) l.length l.length) wx rfl h (by omega) (by omega) hb)
  have lx8 := RX8.out.lt g4 rfl
  go_wp2_with fail
  refine (HMK.out _ _ RX8.out (Nat.le_of_lt (Nat.lt_of_le_of_lt lx8.1 lx8.2))).mono ?_
  rintro e w9 ⟨rfl, o9, hb9, hf9⟩
  clear x0 x1 HMK lx8
  have H9 := Lib.hid (H8.out.mark hb9 (by simp; omega) hf9 (fun g hg e => by have e := Option.some.inj (show some g = some g4 from e); omega))
  have BW9 := Lib.hid (BW8.out.mark hf9 (fun e => by have e := Option.some.inj (show some _ = some g4 from e); omega))
  have BG9 := Lib.hid (BG8.out.mark hf9 (fun e => by have e := Option.some.inj (show some _ = some g4 from e); omega))
  have RW9 := Lib.hid (own_farB RW8.out hf9 (fun j hj e => by have e := Option.some.inj (show some j = some g4 from e); have := lw.out j hj; omega))
  have RG9 := Lib.hid (own_farB RG8.out hf9 (fun j hj e => by have e := Option.some.inj (show some j = some g4 from e); have := (lg.out j hj).1; omega))
  clear H8 BW8 RW8 BX8 RX8 BG8 RG8 o9 hb9 hf9
  have g0 := BG9.out.c0
  have g1 := BG9.out.c1
  have e0 := BW9.out.c0
  have e1 := BW9.out.c1
  go_wp2_with fail
  refine (HE.out N L A5 A3 c5 c3 _ (own_inA RG9.out) (own_inA RW9.out) (by omega)).mono ?_
  rintro e w10 ⟨rfl, hb10⟩
  clear g0 g1 e0 e1
  have H10 := Lib.hid (H9.out.step hb10)
  have BW10 := Lib.hid (BW9.out.step hb10)
  have RW10 := Lib.hid (own_below RW9.out hb10)
  have BG10 := Lib.hid (BG9.out.step hb10)
  have RG10 := Lib.hid (own_below RG9.out hb10)
  clear H9 BW9 RW9 BG9 RG9
  clear hb10
  have g0 := BG10.out.c0
  have g1 := BG10.out.c1
  have HMK := Lib.hid (fun wx b (h : wx.ownsRow b 69 3 (.slice A5 L.length c5) L.length (flat3 L)) (hb : b ≤ wx.heap.size) => markPuzzle_far N L.length 1 b L (.slice A5 L.length c5) wx rfl h (by omega) (by omega) hb)
  go_wp2_with fail
  refine (HMK.out _ _ RG10.out (Nat.le_trans sz5 (Nat.le_of_lt BG10.out.lt))).mono ?_
  rintro e w11 ⟨rfl, o11, hb11, hf11⟩
  clear g0 g1 HMK
  have H11 := Lib.hid (H10.out.mark hb11 (by have := H3lt; omega) hf11 (fun g hg e => by have := lg.out _ e.symm; omega))
  have BW11 := Lib.hid (BW10.out.mark hf11 (fun e => by have := lg.out _ e.symm; omega))
  have BG11 := Lib.hid (BG10.out.mark hf11 (fun e => by have := lg.out _ e.symm; omega))
  have RW11 := Lib.hid (own_farB RW10.out hf11 (fun j hj e => by have := lw.out j hj; have := (lg.out j e.symm).1; omega))
  have RG11 := Lib.hid o11
  clear H10 BW10 RW10 BG10 RG10 o11 hb11 hf11
  have g0 := BG11.out.c0
  have g1 := BG11.out.c1
  go_wp2_with fail
  refine (heldPuzzle_any N L.length 1 _ (.slice A5 L.length c5) _ RG11.out hL (by omega)).mono ?_
  rintro e w12 ⟨rfl, hb12⟩
  clear g0 g1
  have H12 := Lib.hid (H11.out.step hb12)
  have BW12 := Lib.hid (BW11.out.step hb12)
  have RW12 := Lib.hid (own_below RW11.out hb12)
  have BG12 := Lib.hid (BG11.out.step hb12)
  have RG12 := Lib.hid (own_below RG11.out hb12)
  clear H11 BW11 RW11 BG11 RG11
  clear hb12
  have d0 := H12.out.c0
  have d1 := H12.out.c1
  go_wp2_with fail
  refine (HT.out _ H12.out.inn).mono ?_
  rintro e w13 ⟨g13, rfl, o13, hb13⟩
  have I13 := Lib.hid (own_in o13)
  have L13g := Lib.hid (o13.lt g13 rfl).2
  have H13 := Lib.hid (H12.out.step hb13)
  have BW13 := Lib.hid (BW12.out.step hb13)
  have RW13 := Lib.hid (own_below RW12.out hb13)
  have BG13 := Lib.hid (BG12.out.step hb13)
  have RG13 := Lib.hid (own_below RG12.out hb13)
  clear H12 BW12 RW12 BG12 RG12
  clear o13 hb13 d0 d1
  go_wp2_with fail
  refine (HM.out g13 _ I13.out L13g.out).mono ?_
  rintro e w14 ⟨A14, c14, rfl, o14, hb14⟩
  have H14 := Lib.hid (H13.out.step hb14)
  have BW14 := Lib.hid (BW13.out.step hb14)
  have RW14 := Lib.hid (own_below RW13.out hb14)
  have BG14 := Lib.hid (BG13.out.step hb14)
  have RG14 := Lib.hid (own_below RG13.out hb14)
  clear H13 BW13 RW13 BG13 RG13
  have hba : Below w14.heap.size w14 (w14.alloc (Obj.cells #[.int .i64 N, .slice A14 L.length c14] 31)) := (Below.refl _ _).alloc (Nat.le_refl _) _
  have IH := Lib.hid (own_inA (own_below o14 hba))
  have H14a := Lib.hid (H14.out.step hba)
  have BW14a := Lib.hid (BW14.out.step hba)
  have RW14a := Lib.hid (own_below RW14.out hba)
  have BG14a := Lib.hid (BG14.out.step hba)
  have RG14a := Lib.hid (own_below RG14.out hba)
  clear H14 BW14 RW14 BG14 RG14
  clear hba hb14 o14 I13
  have e0 := BW14a.out.c0
  have e1 := BW14a.out.c1
  go_wp2_with fail
  refine (HE.out N L A14 A3 c14 c3 _ IH.out (own_inA RW14a.out) (by omega)).mono ?_
  rintro e w15 ⟨rfl, hb15⟩
  clear e0 e1 IH
  have H15 := Lib.hid (H14a.out.step hb15)
  have BW15 := Lib.hid (BW14a.out.step hb15)
  have RW15 := Lib.hid (own_below RW14a.out hb15)
  have BG15 := Lib.hid (BG14a.out.step hb15)
  have RG15 := Lib.hid (own_below RG14a.out hb15)
  clear H14a BW14a RW14a BG14a RG14a
  clear hb15
  have g0 := BG15.out.c0
  have g1 := BG15.out.c1
  go_wp2_with fail
  refine (heldPuzzle_any N L.length 1 _ (.slice A5 L.length c5) _ RG15.out hL (by omega)).mono ?_
  rintro e w16 ⟨rfl, hb16⟩
  clear g0 g1
  have H16 := Lib.hid (H15.out.step hb16)
  have BW16 := Lib.hid (BW15.out.step hb16)
  have RW16 := Lib.hid (own_below RW15.out hb16)
  have BG16 := Lib.hid (BG15.out.step hb16)
  have RG16 := Lib.hid (own_below RG15.out hb16)
  clear H15 BW15 RW15 BG15 RG15
  clear hb16
  go_wp2_with fail
  go_ret
  exact ⟨rfl, H16.out.bel⟩
set_option maxRecDepth 100000 in
set_option maxHeartbeats 2000000 in
theorem walk_FnExactHarderPuzzle (n : Int) (A : Option Addr) (len c : Nat) (l : List Cl) (w : World) (hw : len = l.length ∧ len ≤ maxLen ∧ ClIn w A l) :
    Calls Tryz.prog 11 #[.agg #[.int .i64 n, .slice A len c]] w fun e w' => e = .returned (.bool true) ∧ Below w.heap.size w w' := by
  obtain ⟨rfl, hm, hin⟩ := hw
  by_cases hbig : l.length ≤ 1048576
  · have hS : ∀ g wx, ClIn wx (some ⟨g, 0, none⟩) l → g < wx.heap.size → Calls Tryz.prog 38 #[.agg #[.int .i64 n, .slice (some ⟨g, 0, none⟩) l.length l.length]] wx (PzAns wx (harderOk n l) n (harderL n l)) := fun g wx h hg => sHarderPuzzle_any n l g 0 l.length wx h (by omega) (Nat.le_refl _) (Nat.le_refl _) hg
    have hM : ∀ g wx, ClIn wx (some ⟨g, 0, none⟩) l → g < wx.heap.size → Calls Tryz.prog 39 #[.agg #[.int .i64 n, .slice (some ⟨g, 0, none⟩) l.length l.length]] wx (PzAns wx (harderOk n l) n (harderL n l)) := fun g wx h hg => HarderPuzzle_any n l g 0 l.length wx h (by omega) (Nat.le_refl _) hg
    have hfew : (harderOk n l) = true → (harderL n l).length ≤ 1000 := harder_few n l
    generalize (harderOk n l) = b at hS hM hfew
    generalize (harderL n l) = L at hS hM hfew
    exact core_FnExactHarderPuzzle n A c l w b _ _ hbig (by cases b <;> simp_all) hin (Lib.hid fun g wx h hg => (hS g wx h hg ).mono fun _ _ h => h.slice) (Lib.hid fun g wx h hg => (hM g wx h hg ).mono fun _ _ h => h.slice)
  · have HSZ := Lib.hid (fun wx => szPuzzle_any n A l.length c wx hm)
    simp only [if_neg hbig] at HSZ
    have H0 := Lib.hid (LawP.start (n := n) (c := c) 24 hin)
    clear hbig hm hin
    go_enter Tryz.func11, Tryz.ntmps11
    go_wp2_with fail
    refine (HSZ.out _).mono ?_
    rintro e w1 ⟨rfl, hb1⟩
    have H1 := Lib.hid (H0.out.step hb1)
    go_wp2
    go_ret
    exact ⟨rfl, H1.out.bel⟩
end Go.Proofs.YthhmaohnibdbnaaGreat
