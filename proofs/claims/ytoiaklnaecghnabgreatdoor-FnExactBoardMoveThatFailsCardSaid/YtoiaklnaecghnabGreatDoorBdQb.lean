/- Contracts: the model's PlayOnBoard and BoardMoveThatFails; the program's BoardMoveThatFails. -/
import Derived.Test.YtoiaklnaecghnabGreatDoorBdPv
import Derived.Test.YtoiaklnaecghnabGreatDoorPlay
namespace Go.Proofs.YtoiaklnaecghnabGreatDoor
open Go.RowKit

set_option maxRecDepth 100000 in
set_option maxHeartbeats 4000000 in
theorem BoardMoveFails_any (s : ByteArray) (l : List (Int × Int)) (A : Option Addr) (c : Nat) (w : World) (hs : s.size ≤ 2000000) (hat : MvAt w A l) :
    Calls Tryz.prog 11 #[.string s, .slice A l.length c] w fun e w' => e = .returned (pbN (byt s) l) ∧ Below w.heap.size w w' := by
  have HAT := Lib.hid hat
  clear hat
  by_cases hl : pbAsk (byt s) l.length = true
  · unfold pbAsk at hl
    simp only [Bool.and_eq_true, decide_eq_true_eq] at hl
    obtain ⟨hg, hl⟩ := hl
    have G := good_R hg
    have HR := Lib.hid (fun wx => boardToPlay_yes s A l.length c wx hs hg hl)
    have HM := Lib.hid (fun g cap wx h1 h2 h3 h4 => moveFailsB_any _ _ l _ _ (mkW_ok (h := (spl (byt s)).length) _ (flat_eq _ _ G.hl) l) _ ⟨_, G, rfl, rfl⟩ g cap A c wx h1 h2 h3 h4 (by omega))
    rw [playW l G] at HM
    have HV : Hid (pbN (byt s) l = (if (brdP ((spl (byt s)).headD []).length (spl (byt s)) l).2 == l.length then .tuple #[.int .i64 0, .bool false] else .tuple #[.int .i64 (brdP ((spl (byt s)).headD []).length (spl (byt s)) l).2, .bool true])) := Lib.hid (by
      unfold pbN pbAsk pbR
      rw [hg]
      simp only [Bool.true_and, hl, decide_true]
      cases ((brdP ((spl (byt s)).headD []).length (spl (byt s)) l).2 == l.length) <;> rfl)
    rw [← HV.out] at HM
    clear HV
    obtain ⟨r0, r1, hR⟩ : ∃ (r0 : Int) (r1 : Bool), pbN (byt s) l = .tuple #[.int .i64 r0, .bool r1] := by
      unfold pbN
      split
      · exact ⟨_, _, rfl⟩
      · exact ⟨_, _, rfl⟩
    rw [hR] at HM ⊢
    clear hg hR
    generalize ((spl (byt s)).headD []).length = wd at HR HM G
    generalize (spl (byt s)).flatten = F at HR HM
    clear G
    go_enter Tryz.func11, Tryz.ntmps11
    go_wp2_with fail
    refine (HR.out _).mono ?_
    rintro e w1 ⟨g, cap, rfl, a0, a1, a2, a3, hb1⟩
    have hbA : Below w1.heap.size w1 (w1.alloc (Obj.cells #[.int .i64 wd, .slice (some ⟨g, 0, none⟩) F.length cap] 44)) := (Below.refl _ _).alloc (Nat.le_refl _) _
    have HA1 := Lib.hid ((HAT.out.below hb1).below hbA)
    have HB1 := Lib.hid hb1
    have HBA := Lib.hid hbA
    have HA3 := Lib.hid (a3.below a1 hbA)
    have HG := Lib.hid (Nat.lt_of_lt_of_le a1 hbA.size)
    clear hb1 a3 hbA
    go_wp2_with fail
    refine (HM.out g cap _ a2 HG.out HA3.out HA1.out).mono ?_
    rintro e w2 ⟨rfl, hb2⟩
    have HB2 := Lib.hid (HB1.out.trans ((HBA.out.trans (hb2.mono HBA.out.size)).mono HB1.out.size))
    clear hb2
    go_wp2_with fail
    go_ret2
    exact ⟨rfl, HB2.out⟩
  · have hV : Hid (pbN (byt s) l = .tuple #[.int .i64 0, .bool false]) := Lib.hid (by unfold pbN; rw [Bool.eq_false_iff.2 hl]; rfl)
    have HR : Hid (∀ wx, Calls Tryz.prog 16 #[.string s, .slice A l.length c] wx (BoN wx)) := Lib.hid (fun wx => by
      by_cases h2 : l.length ≤ 200
      · exact boardToPlay_no s A l.length c wx hs (by unfold pbAsk at hl; simpa [h2] using hl) h2
      · exact boardToPlay_big s A l.length c wx (by omega))
    rw [hV.out]
    clear hl
    go_enter Tryz.func11, Tryz.ntmps11
    go_wp2_with fail
    refine (HR.out _).mono ?_
    rintro e w1 ⟨rfl, hb1⟩
    have HB1 := Lib.hid hb1
    clear hb1
    go_wp2_with fail
    go_ret2
    exact ⟨rfl, HB1.out.alloc HB1.out.size _⟩

/-- What boPlay answers. -/
def BpP (w : World) (n : Nat) (q : List (List UInt8) × Nat) (e : Ending) (w' : World) : Prop :=
  ∃ A cap, e = .returned (.tuple #[.slice A n cap, .int .i64 q.2]) ∧ StAt w' A q.1 ∧ Below w.heap.size w w'
set_option maxRecDepth 100000 in
set_option maxHeartbeats 4000000 in
theorem boPlay_any (R0 : List (List UInt8)) (wd : Nat) (G0 : GoodR R0 wd) (l : List (Int × Int)) (A0 : Option Addr) (cap0 : Nat) (B : Option Addr) (c : Nat) (w : World) (hA : StAt w A0 R0) (hat : MvAt w B l) (hl : l.length ≤ 1000) :
    Calls Tryz.prog 13 #[.slice A0 R0.length cap0, .slice B l.length c] w (BpP w R0.length (brdP wd R0 l)) := by
  have HN := Lib.hid hat
  have HA0 := Lib.hid hA
  have HG0 := Lib.hid G0
  clear hat hA G0
  go_enter Tryz.func13, Tryz.ntmps13
  go_wp2_with fail
  go_loopw [0, 6, 7, 10] (fun x _ _ i wr => ∃ (k : Nat) (R : List (List UInt8)) (A : Option Addr) (cap : Nat), k ≤ l.length ∧ i = .int .i64 k ∧ x = .slice A R0.length cap ∧ Hid (R.length = R0.length) ∧ Hid (GoodR R wd) ∧ Hid (StAt wr A R) ∧ Hid (brdP wd R0 l = ((brdP wd R (l.drop k)).1, (brdP wd R (l.drop k)).2 + k)) ∧ Hid (Below w.heap.size w wr)) (fun _ _ _ i _ => l.length - (intOf i).toNat)
  case atStart => exact ⟨0, R0, A0, cap0, Nat.zero_le _, rfl, rfl, Lib.hid rfl, HG0, HA0, by show _ = _; simp, Lib.hid (Below.refl _ _)⟩
  case round =>
    obtain ⟨k, R, A, cap, hk, rfl, rfl, HL, HG, HA, hP, HB⟩ := hrel
    by_cases hlt : k < l.length
    · obtain ⟨g, rfl, hg, c0, c1⟩ := (HN.out.below HB.out) k hlt
      have hstep := Lib.hid (brdP_step wd R l k hlt)
      have hstop := Lib.hid (brdP_stop wd R l k hlt)
      have HMG := Lib.hid (fun (h : boC R wd l[k].1 l[k].2 = true) => mb_good HG.out h)
      have HMK := Lib.hid (fun (h : boC R wd l[k].1 l[k].2 = true) wx (hx : StAt wx A R) => boMake_ok HG.out h A cap wx hx)
      have HCN := Lib.hid (fun wx (hx : StAt wx A R) => boCan_any R wd A cap l[k].1 l[k].2 wx hx HG.out.hh.1 HG.out.hh.2 HG.out.hw.1 HG.out.hw.2 HG.out.hl)
      rw [HL.out] at HCN HMK
      generalize l[k].1 = a at c0 hstep hstop HMK HCN HMG
      generalize l[k].2 = b at c1 hstep hstop HMK HCN HMG
      have i1 : (0 : Int) ≤ (k : Int) := by omega
      have i2 : (k : Int) < (l.length : Int) := by omega
      obtain ⟨W0, hW0⟩ : ∃ W0, W0 = wr.alloc (Obj.cells #[.int .i64 a, .int .i64 b] 39) := ⟨_, rfl⟩
      have hb0 : Below wr.heap.size wr W0 := by rw [hW0]; exact (Below.refl _ _).alloc (Nat.le_refl _) _
      have k0 : W0.cell? ⟨wr.heap.size, 0, none⟩ = some (.int .i64 a) := by rw [hW0, World.cell?_alloc_new]; rfl
      have k1 : W0.cell? ⟨wr.heap.size, 1, none⟩ = some (.int .i64 b) := by rw [hW0, World.cell?_alloc_new]; rfl
      have hz0 : wr.heap.size < W0.heap.size := by rw [hW0]; simp
      have HA1 := Lib.hid (HA.out.below hb0)
      have HB0 := Lib.hid (HB.out.trans (hb0.mono HB.out.size))
      clear hb0
      go_wp2_with fail
      rw [← hW0]
      clear hW0 c0 c1
      refine (HCN.out _ HA1.out).mono ?_
      rintro e w2 ⟨rfl, hb2⟩
      have d0 := ((bcell hb2).1 _ 0 hz0).trans k0
      have d1 := ((bcell hb2).1 _ 1 hz0).trans k1
      have HA2 := Lib.hid (HA1.out.below hb2)
      have HB2 := Lib.hid (HB0.out.trans (hb2.mono HB0.out.size))
      clear hb2 k0 k1
      cases hc : boC R wd a b
      · have hR : Hid (brdP wd R0 l = (R, k)) := by show _ = _; rw [hP.out, hstop.out hc]; simp
        clear hc HMK HMG HCN
        go_wp2_with fail
        go_ret2
        exact ⟨A, cap, by rw [hR.out]; rfl, by rw [hR.out]; exact HA2.out, HB2.out⟩
      · have hR : Hid (brdP wd R0 l = ((brdP wd (mbR R wd a b) (l.drop (k + 1))).1, (brdP wd (mbR R wd a b) (l.drop (k + 1))).2 + (k + 1))) := by show _ = _; rw [hP.out, hstep.out hc, Nat.add_assoc, Nat.add_comm 1 k]
        have HMK2 := Lib.hid (HMK.out hc)
        have HG2 := Lib.hid (HMG.out hc)
        have HL2 : Hid ((mbR R wd a b).length = R0.length) := Lib.hid (by rw [mbR_len]; exact HL.out)
        clear hc HMK HMG HCN
        go_wp2_with fail
        refine (HMK2.out _ HA2.out).mono ?_
        rintro e w3 ⟨v3, rfl, o3, hb3⟩
        rw [← HL2.out] at o3
        obtain ⟨A3, c3, rfl, _, _, hA3, _⟩ := st_own o3
        rw [HL2.out]
        have HA3 := Lib.hid hA3
        have HB3 := Lib.hid (HB2.out.trans (hb3.mono HB2.out.size))
        clear o3 hb3 hA3 d0 d1
        go_wp2_with fail
        go_roundw
        case rel => exact ⟨k + 1, mbR R wd a b, A3, c3, by omega, by go_num, rfl, HL2, HG2, HA3, hR, HB3⟩
        case measure => simp [intOf]; omega
    · obtain rfl : k = l.length := by omega
      have hR : Hid (brdP wd R0 l = (R, l.length)) := by show _ = _; rw [hP.out, List.drop_length]; simp [brdP]
      go_wp2_with fail
      go_ret2
      exact ⟨A, cap, by rw [hR.out]; rfl, by rw [hR.out]; exact HA.out, HB.out⟩

set_option maxRecDepth 100000 in
set_option maxHeartbeats 4000000 in
theorem sPlayOnBoard_any (s : ByteArray) (l : List (Int × Int)) (B : Option Addr) (c : Nat) (w : World) (hs : s.size ≤ maxLen) (hat : MvAt w B l) :
    Calls Tryz.prog 6 #[.string s, .slice B l.length c] w fun e w' => e = .returned (pbV (byt s) l) ∧ Below w.heap.size w w' := by
  have HR := Lib.hid (fun wx => boRows_any s wx hs)
  have HAT := Lib.hid hat
  clear hat
  cases hc : goodB (byt s)
  · have HV : Hid (pbV (byt s) l = .tuple #[.string (str []), .bool false]) := Lib.hid (by unfold pbV pbT pbOk pbAsk; rw [hc]; rfl)
    rw [hc] at HR
    rw [HV.out]
    clear hc HV
    go_enter Tryz.func6, Tryz.ntmps6
    go_wp2_with fail
    refine (HR.out _).mono ?_
    rintro e w1 (⟨h, _⟩ | ⟨_, rfl, hb1⟩)
    · cases h
    have HB := Lib.hid hb1
    clear hb1
    go_wp2_with fail
    go_ret2
    exact ⟨rfl, HB.out⟩
  · have G := good_R hc
    by_cases hl : l.length ≤ 200
    · have hd : ¬ ((200 : Int) < (l.length : Int)) := by omega
      obtain ⟨G2, hlen⟩ := brdP_good l G
      have HPL := Lib.hid (fun A cap wx hA hM => boPlay_any (spl (byt s)) _ G l A cap B c wx hA hM (by omega))
      have HTX := Lib.hid (fun A cap wx (h : StAt wx A (pbR (byt s) l).1) => boText_any (pbR (byt s) l).1 A cap wx h (by unfold pbR; have := G2.hh; omega) (fun r hr => by have := G2.hl r hr; have := G2.hw; omega))
      have hle : (pbR (byt s) l).2 ≤ l.length := brdP_le _ _ _
      rw [show (pbR (byt s) l).1.length = (spl (byt s)).length from hlen] at HTX
      by_cases he : (pbR (byt s) l).2 = l.length
      · have HV : Hid (pbV (byt s) l = .tuple #[.string (str (Lib.join (pbR (byt s) l).1 [47])), .bool true]) := Lib.hid (by unfold pbV pbT pbOk pbAsk; rw [hc]; simp [hl, he, tbV])
        rw [HV.out]
        rw [hc] at HR
        rw [show brdP ((spl (byt s)).headD []).length (spl (byt s)) l = pbR (byt s) l from rfl] at HPL
        generalize pbR (byt s) l = q at HPL HTX he hle
        have he1 : ¬ ((q.2 : Int) < (l.length : Int)) := by omega
        clear hc G G2 hlen HV he hle
        generalize spl (byt s) = R at HR HPL HTX
        go_enter Tryz.func6, Tryz.ntmps6
        go_wp2_with fail
        refine (HR.out _).mono ?_
        rintro e w1 (⟨_, A, cap, rfl, hcap, hA, hb1⟩ | ⟨h, _⟩)
        rotate_left
        · cases h
        have HA := Lib.hid hA
        have HAT1 := Lib.hid (HAT.out.below hb1)
        have HB := Lib.hid hb1
        clear hA hb1
        go_wp2_with fail
        refine (HPL.out _ _ _ HA.out HAT1.out).mono ?_
        rintro e w2 ⟨A2, cap2, rfl, hA2, hb2⟩
        have HA2 := Lib.hid hA2
        have HB2 := Lib.hid (HB.out.trans (hb2.mono HB.out.size))
        clear hA2 hb2
        go_wp2_with fail
        refine (HTX.out _ _ _ HA2.out).mono ?_
        rintro e w3 ⟨rfl, rfl⟩
        go_wp2_with fail
        go_ret2
        exact ⟨rfl, HB2.out⟩
      · have HV : Hid (pbV (byt s) l = .tuple #[.string (str []), .bool false]) := Lib.hid (by unfold pbV pbT pbOk pbAsk; rw [hc]; simp [hl, he, tbV])
        rw [HV.out]
        rw [hc] at HR
        rw [show brdP ((spl (byt s)).headD []).length (spl (byt s)) l = pbR (byt s) l from rfl] at HPL
        generalize pbR (byt s) l = q at HPL HTX he hle
        have he1 : ((q.2 : Int) < (l.length : Int)) := by omega
        clear hc G G2 hlen HV he hle HTX
        generalize spl (byt s) = R at HR HPL
        go_enter Tryz.func6, Tryz.ntmps6
        go_wp2_with fail
        refine (HR.out _).mono ?_
        rintro e w1 (⟨_, A, cap, rfl, hcap, hA, hb1⟩ | ⟨h, _⟩)
        rotate_left
        · cases h
        have HA := Lib.hid hA
        have HAT1 := Lib.hid (HAT.out.below hb1)
        have HB := Lib.hid hb1
        clear hA hb1
        go_wp2_with fail
        refine (HPL.out _ _ _ HA.out HAT1.out).mono ?_
        rintro e w2 ⟨A2, cap2, rfl, hA2, hb2⟩
        have HB2 := Lib.hid (HB.out.trans (hb2.mono HB.out.size))
        clear hA2 hb2
        go_wp2_with fail
        go_ret2
        exact ⟨rfl, HB2.out⟩
    · have hd : ((200 : Int) < (l.length : Int)) := by omega
      have HV : Hid (pbV (byt s) l = .tuple #[.string (str []), .bool false]) := Lib.hid (by unfold pbV pbT pbOk pbAsk; simp [hl, tbV])
      rw [HV.out]
      rw [hc] at HR
      clear hc G HV
      generalize spl (byt s) = R at HR
      go_enter Tryz.func6, Tryz.ntmps6
      go_wp2_with fail
      refine (HR.out _).mono ?_
      rintro e w1 (⟨_, A, cap, rfl, hcap, hA, hb1⟩ | ⟨h, _⟩)
      rotate_left
      · cases h
      have HB := Lib.hid hb1
      clear hA hb1
      go_wp2_with fail
      go_ret2
      exact ⟨rfl, HB.out⟩

set_option maxRecDepth 100000 in
set_option maxHeartbeats 4000000 in
theorem sBoardMoveFails_any (s : ByteArray) (l : List (Int × Int)) (B : Option Addr) (c : Nat) (w : World) (hs : s.size ≤ maxLen) (hat : MvAt w B l) :
    Calls Tryz.prog 10 #[.string s, .slice B l.length c] w fun e w' => e = .returned (pbN (byt s) l) ∧ Below w.heap.size w w' := by
  have HR := Lib.hid (fun wx => boRows_any s wx hs)
  have HAT := Lib.hid hat
  clear hat
  cases hc : goodB (byt s)
  · have HV : Hid (pbN (byt s) l = .tuple #[.int .i64 0, .bool false]) := Lib.hid (by unfold pbN pbAsk; rw [hc]; rfl)
    rw [hc] at HR
    rw [HV.out]
    clear hc HV
    go_enter Tryz.func10, Tryz.ntmps10
    go_wp2_with fail
    refine (HR.out _).mono ?_
    rintro e w1 (⟨h, _⟩ | ⟨_, rfl, hb1⟩)
    · cases h
    have HB := Lib.hid hb1
    clear hb1
    go_wp2_with fail
    go_ret2
    exact ⟨rfl, HB.out⟩
  · have G := good_R hc
    by_cases hl : l.length ≤ 200
    · have hd : ¬ ((200 : Int) < (l.length : Int)) := by omega
      have HPL := Lib.hid (fun A cap wx hA hM => boPlay_any (spl (byt s)) _ G l A cap B c wx hA hM (by omega))
      have hle : (pbR (byt s) l).2 ≤ l.length := brdP_le _ _ _
      by_cases he : (pbR (byt s) l).2 = l.length
      · have HV : Hid (pbN (byt s) l = .tuple #[.int .i64 0, .bool false]) := Lib.hid (by unfold pbN pbAsk; rw [hc]; simp [hl, he])
        rw [HV.out]
        rw [hc] at HR
        rw [show brdP ((spl (byt s)).headD []).length (spl (byt s)) l = pbR (byt s) l from rfl] at HPL
        generalize pbR (byt s) l = q at HPL he hle
        have he1 : (q.2 : Int) = (l.length : Int) := by omega
        have he2 := Lib.hid he1
        clear hc G HV he hle he1
        generalize spl (byt s) = R at HR HPL
        go_enter Tryz.func10, Tryz.ntmps10
        go_wp2_with fail
        refine (HR.out _).mono ?_
        rintro e w1 (⟨_, A, cap, rfl, hcap, hA, hb1⟩ | ⟨h, _⟩)
        rotate_left
        · cases h
        have HA := Lib.hid hA
        have HAT1 := Lib.hid (HAT.out.below hb1)
        have HB := Lib.hid hb1
        clear hA hb1
        go_wp2_with fail
        refine (HPL.out _ _ _ HA.out HAT1.out).mono ?_
        rintro e w2 ⟨A2, cap2, rfl, hA2, hb2⟩
        rw [he2.out]
        have HB2 := Lib.hid (HB.out.trans (hb2.mono HB.out.size))
        clear hA2 hb2 he2
        go_wp2_with fail
        go_ret2
        exact ⟨rfl, HB2.out⟩
      · have HV : Hid (pbN (byt s) l = .tuple #[.int .i64 (pbR (byt s) l).2, .bool true]) := Lib.hid (by unfold pbN pbAsk; rw [hc]; simp [hl, he])
        rw [HV.out]
        rw [hc] at HR
        rw [show brdP ((spl (byt s)).headD []).length (spl (byt s)) l = pbR (byt s) l from rfl] at HPL
        generalize pbR (byt s) l = q at HPL he hle
        have he1 : ((q.2 : Int) == (l.length : Int)) = false := by simp; omega
        clear hc G HV he hle
        generalize spl (byt s) = R at HR HPL
        go_enter Tryz.func10, Tryz.ntmps10
        go_wp2_with fail
        refine (HR.out _).mono ?_
        rintro e w1 (⟨_, A, cap, rfl, hcap, hA, hb1⟩ | ⟨h, _⟩)
        rotate_left
        · cases h
        have HA := Lib.hid hA
        have HAT1 := Lib.hid (HAT.out.below hb1)
        have HB := Lib.hid hb1
        clear hA hb1
        go_wp2_with fail
        refine (HPL.out _ _ _ HA.out HAT1.out).mono ?_
        rintro e w2 ⟨A2, cap2, rfl, hA2, hb2⟩
        have HB2 := Lib.hid (HB.out.trans (hb2.mono HB.out.size))
        clear hA2 hb2
        go_wp2_with fail
        go_ret2
        exact ⟨rfl, HB2.out⟩
    · have hd : ((200 : Int) < (l.length : Int)) := by omega
      have HV : Hid (pbN (byt s) l = .tuple #[.int .i64 0, .bool false]) := Lib.hid (by unfold pbN pbAsk; simp [hl])
      rw [HV.out]
      rw [hc] at HR
      clear hc G HV
      generalize spl (byt s) = R at HR
      go_enter Tryz.func10, Tryz.ntmps10
      go_wp2_with fail
      refine (HR.out _).mono ?_
      rintro e w1 (⟨_, A, cap, rfl, hcap, hA, hb1⟩ | ⟨h, _⟩)
      rotate_left
      · cases h
      have HB := Lib.hid hb1
      clear hA hb1
      go_wp2_with fail
      go_ret2
      exact ⟨rfl, HB.out⟩
end Go.Proofs.YtoiaklnaecghnabGreatDoor
namespace Go.Proofs.YtoiaklnaecghnabGreatDoor
open Go.RowKit

set_option maxRecDepth 100000 in
set_option maxHeartbeats 4000000 in
theorem walk_FnExactPlayOnBoard (s : ByteArray) (hs : s.size ≤ maxLen) (A : Option Addr) (n c : Nat) (l : List (Int × Int)) (w : World) (hin : n = l.length ∧ n ≤ maxLen ∧ MvIn w A l) :
    Calls Tryz.prog 3 #[.string s, .slice A n c] w fun e w' => e = .returned (.bool true) ∧ Below w.heap.size w w' := by
  obtain ⟨rfl, hmax, hin⟩ := hin
  by_cases hbig : (1048576 : Int) < (s.size : Int)
  · clear hin
    go_enter Tryz.func3, Tryz.ntmps3
    go_wp2
    go_ret
    exact ⟨rfl, Below.refl _ _⟩
  · have HI := Lib.hid hin
    clear hin
    have hs2 : s.size ≤ 2000000 := by omega
    by_cases hl : 1048576 < l.length
    · go_enter Tryz.func3, Tryz.ntmps3
      go_wp2_with fail
      refine (szMoveS_any _ _ _ _ hmax).mono ?_
      rintro e w1 ⟨rfl, rfl⟩
      rw [if_pos hl]
      go_wp2
      go_ret
      exact ⟨rfl, Below.refl _ _⟩
    · have hln : l.length ≤ 2000000 := by omega
      have hnn : ¬ (1048576 : Int) - (l.length : Int) < 0 := by omega
      obtain ⟨r0, r1, hR⟩ : ∃ (r0 : Value) (r1 : Bool), pbV (byt s) l = .tuple #[r0, .bool r1] ∧ ∃ z : ByteArray, r0 = .string z := by
        exact ⟨_, _, rfl, _, rfl⟩
      obtain ⟨hR, r2, rfl⟩ := hR
      have hR := Lib.hid hR
      go_enter Tryz.func3, Tryz.ntmps3
      go_wp2_with fail
      refine (szMoveS_any _ _ _ _ hmax).mono ?_
      rintro e w1 ⟨rfl, rfl⟩
      rw [if_neg hl]
      go_wp2_with fail
      refine (toMoveS_any l A c _ HI.out hln).mono ?_
      rintro e w1 ⟨rfl, ho1, hb1⟩
      obtain ⟨A1, c1, hv1, at1⟩ := at_of_own ho1
      injection hv1 with hA1 _ hc1
      subst hA1; subst hc1
      have AT1 := Lib.hid at1
      clear ho1 at1
      go_wp2_with fail
      refine (sPlayOnBoard_any s l _ _ _ hs AT1.out).mono ?_
      rintro e w2 ⟨rfl, hb2⟩
      rw [hR.out]
      have hB2 := hb1.trans (hb2.mono hb1.size)
      have H2 := Lib.hid (HI.out.below hB2)
      clear hb1 hb2 AT1 HI
      go_wp2_with fail
      refine (toMoveS_any l A c _ H2.out hln).mono ?_
      rintro e w3 ⟨rfl, ho3, hb3⟩
      obtain ⟨A3, c3, hv3, at3⟩ := at_of_own ho3
      injection hv3 with hA3 _ hc3
      subst hA3; subst hc3
      have AT3 := Lib.hid at3
      have hB3 := hB2.trans (hb3.mono hB2.size)
      have H3 := Lib.hid (H2.out.below hb3)
      clear ho3 at3 hb3 hB2 H2
      go_wp2_with fail
      refine (PlayOnB_any s l _ _ _ hs2 AT3.out).mono ?_
      rintro e w4 ⟨rfl, hb4⟩
      rw [hR.out]
      have AT4 := Lib.hid (AT3.out.below hb4)
      have H4 := Lib.hid (H3.out.below hb4)
      have hB4 := hB3.trans (hb4.mono hB3.size)
      clear hb4 AT3 H3 hB3
      go_wp2_with fail
      refine (toMoveS_any l A c _ H4.out hln).mono ?_
      rintro e w5 ⟨rfl, ho5, hb5⟩
      obtain ⟨A5, c5, hv5, at5⟩ := at_of_own ho5
      injection hv5 with hA5 _ hc5
      subst hA5; subst hc5
      have AT5 := Lib.hid at5
      have AT4' := Lib.hid (AT4.out.below hb5)
      have hB5 := hB4.trans (hb5.mono hB4.size)
      clear ho5 at5 hb5 hB4 AT4 H4
      go_wp2_with fail
      refine (eqMoveS_same l _ _ _ _ _ AT4'.out AT5.out hln).mono ?_
      rintro e w6 ⟨rfl, hb6⟩
      have hB6 := hB5.trans (hb6.mono hB5.size)
      clear hb6 hB5 AT4' AT5
      go_wp2
      go_ret
      exact ⟨rfl, hB6⟩

set_option maxRecDepth 100000 in
set_option maxHeartbeats 4000000 in
theorem walk_FnExactBoardMoveThatFails (s : ByteArray) (hs : s.size ≤ maxLen) (A : Option Addr) (n c : Nat) (l : List (Int × Int)) (w : World) (hin : n = l.length ∧ n ≤ maxLen ∧ MvIn w A l) :
    Calls Tryz.prog 4 #[.string s, .slice A n c] w fun e w' => e = .returned (.bool true) ∧ Below w.heap.size w w' := by
  obtain ⟨rfl, hmax, hin⟩ := hin
  by_cases hbig : (1048576 : Int) < (s.size : Int)
  · clear hin
    go_enter Tryz.func4, Tryz.ntmps4
    go_wp2
    go_ret
    exact ⟨rfl, Below.refl _ _⟩
  · have HI := Lib.hid hin
    clear hin
    have hs2 : s.size ≤ 2000000 := by omega
    by_cases hl : 1048576 < l.length
    · go_enter Tryz.func4, Tryz.ntmps4
      go_wp2_with fail
      refine (szMoveS_any _ _ _ _ hmax).mono ?_
      rintro e w1 ⟨rfl, rfl⟩
      rw [if_pos hl]
      go_wp2
      go_ret
      exact ⟨rfl, Below.refl _ _⟩
    · have hln : l.length ≤ 2000000 := by omega
      have hnn : ¬ (1048576 : Int) - (l.length : Int) < 0 := by omega
      obtain ⟨r0, r1, hR⟩ : ∃ (r0 : Value) (r1 : Bool), pbN (byt s) l = .tuple #[r0, .bool r1] ∧ ∃ z : Int, r0 = .int .i64 z := by
        unfold pbN
        split
        · exact ⟨_, _, rfl, _, rfl⟩
        · exact ⟨_, _, rfl, _, rfl⟩
      obtain ⟨hR, r2, rfl⟩ := hR
      have hR := Lib.hid hR
      go_enter Tryz.func4, Tryz.ntmps4
      go_wp2_with fail
      refine (szMoveS_any _ _ _ _ hmax).mono ?_
      rintro e w1 ⟨rfl, rfl⟩
      rw [if_neg hl]
      go_wp2_with fail
      refine (toMoveS_any l A c _ HI.out hln).mono ?_
      rintro e w1 ⟨rfl, ho1, hb1⟩
      obtain ⟨A1, c1, hv1, at1⟩ := at_of_own ho1
      injection hv1 with hA1 _ hc1
      subst hA1; subst hc1
      have AT1 := Lib.hid at1
      clear ho1 at1
      go_wp2_with fail
      refine (sBoardMoveFails_any s l _ _ _ hs AT1.out).mono ?_
      rintro e w2 ⟨rfl, hb2⟩
      rw [hR.out]
      have hB2 := hb1.trans (hb2.mono hb1.size)
      have H2 := Lib.hid (HI.out.below hB2)
      clear hb1 hb2 AT1 HI
      go_wp2_with fail
      refine (toMoveS_any l A c _ H2.out hln).mono ?_
      rintro e w3 ⟨rfl, ho3, hb3⟩
      obtain ⟨A3, c3, hv3, at3⟩ := at_of_own ho3
      injection hv3 with hA3 _ hc3
      subst hA3; subst hc3
      have AT3 := Lib.hid at3
      have hB3 := hB2.trans (hb3.mono hB2.size)
      have H3 := Lib.hid (H2.out.below hb3)
      clear ho3 at3 hb3 hB2 H2
      go_wp2_with fail
      refine (BoardMoveFails_any s l _ _ _ hs2 AT3.out).mono ?_
      rintro e w4 ⟨rfl, hb4⟩
      rw [hR.out]
      have AT4 := Lib.hid (AT3.out.below hb4)
      have H4 := Lib.hid (H3.out.below hb4)
      have hB4 := hB3.trans (hb4.mono hB3.size)
      clear hb4 AT3 H3 hB3
      go_wp2_with fail
      refine (toMoveS_any l A c _ H4.out hln).mono ?_
      rintro e w5 ⟨rfl, ho5, hb5⟩
      obtain ⟨A5, c5, hv5, at5⟩ := at_of_own ho5
      injection hv5 with hA5 _ hc5
      subst hA5; subst hc5
      have AT5 := Lib.hid at5
      have AT4' := Lib.hid (AT4.out.below hb5)
      have hB5 := hB4.trans (hb5.mono hB4.size)
      clear ho5 at5 hb5 hB4 AT4 H4
      go_wp2_with fail
      refine (eqMoveS_same l _ _ _ _ _ AT4'.out AT5.out hln).mono ?_
      rintro e w6 ⟨rfl, hb6⟩
      have hB6 := hB5.trans (hb6.mono hB5.size)
      clear hb6 hB5 AT4' AT5
      go_wp2
      go_ret
      exact ⟨rfl, hB6⟩
end Go.Proofs.YtoiaklnaecghnabGreatDoor
