/- Contract: the needless clues, the program's. -/
import Derived.Test.YthhmaohnibdbnaaGreatPzS
namespace Go.Proofs.YthhmaohnibdbnaaGreat
open Go.RowKit

theorem ndOr_small (n : Int) (l : List Cl) : (ndOr n l).length ≤ 1000 := by
  unfold ndOr
  cases hg : goodP n l
  · simp
  · have h1 := ndL_len n.toNat l l.length
    have h2 := goodP_few hg
    rw [if_pos rfl]
    omega

set_option maxRecDepth 100000 in
set_option maxHeartbeats 4000000 in
theorem NeedlessClues_any (n : Int) (l : List Cl) (g o c : Nat) (w : World) (hin : ClIn w (some ⟨g, o, none⟩) l) (hl : l.length ≤ 2000000) (hc : l.length ≤ c) (hgo : g < w.heap.size) :
    Calls Tryz.prog 30 #[.agg #[.int .i64 n, .slice (some ⟨g, o, none⟩) l.length c]] w (ItxB w (goodP n l) (ndOr n l)) := by
  obtain ⟨W0, hW0⟩ : ∃ W0, W0 = w.alloc (Obj.cells #[.int .i64 n, .slice (some ⟨g, o, none⟩) l.length c] 31) := ⟨_, rfl⟩
  have hB0 : Below w.heap.size w W0 := by rw [hW0]; exact (Below.refl _ _).alloc (Nat.le_refl _) _
  have hz : w.heap.size < W0.heap.size := by rw [hW0]; simp
  have HH := Lib.hid (huntFor_any n l g o c W0 (hin.below hB0) hl hc (fun h => by omega))
  have HNH := Lib.hid noCnt_any
  unfold ndOr
  cases hg : goodP n l
  · go_enter Tryz.func30, Tryz.ntmps30
    go_wp2_with fail
    rw [← hW0]
    clear hW0
    refine HH.out.mono ?_
    rintro e w1 hp
    rcases hp with ⟨hg', _⟩ | ⟨_, rfl, hb1⟩
    · rw [hg] at hg'; cases hg'
    have HB := Lib.hid (hB0.trans (hb1.mono hB0.size))
    clear hb1 hg
    go_wp2_with fail
    refine (HNH.out _).mono ?_
    rintro e w2 ⟨rfl, hb2⟩
    have HB2 := Lib.hid ((HB.out.alloc HB.out.size _).trans (hb2.mono (by have := HB.out.size; simp; omega)))
    clear hb2
    go_wp2_with fail
    go_loopw [8, 9, 21] (fun v _ i wr => i = .int .i64 0 ∧ v = .slice none 0 0 ∧ wr = w2) (fun _ _ _ _ => 0)
    case atStart => exact ⟨rfl, rfl, rfl⟩
    case round =>
      obtain ⟨rfl, rfl, rfl⟩ := hrel
      go_wp2
      go_ret2
      exact ⟨_, rfl, World.ownsRow_nil _ _ _ _, HB2.out⟩
  · obtain ⟨m, rfl, h15⟩ := goodP_nat hg
    have hl6 := goodP_few hg
    obtain ⟨i0, hi, hz0, hz1, hz2⟩ := info_parts Tryz.infoN
    have II := Lib.hid hi
    have HZ0 := Lib.hid hz0
    have HZ1 := Lib.hid hz1
    have HZ2 := Lib.hid hz2
    clear hi hz0 hz1 hz2
    have HF := Lib.hid (fun N3 hN B Bt Br Bs cl AL cs A c wx (hok : ∀ k ∈ cs, ckOk m k = true) hcs => cntH_any W0 m N3 hN l g o B Bt Br Bs cl AL (by omega) h15 cs A c wx hok hcs)
    have HOK := Lib.hid (goodP_ok hg)
    have HWO := Lib.hid (fun k (hk : k < l.length) wx (h : ClIn wx (some ⟨g, o, none⟩) l) => withoutClue_any l g o l.length k wx h (by omega) (Nat.le_refl _) (by omega) hk)
    have HNB : Hid (∀ k, ndB m l k = (((solL m (woC l k)).length : Int) == ((solL m l).length : Int))) := Lib.hid fun _ => rfl
    have HLN := Lib.hid (ndL_len m l)
    rw [if_pos rfl, show (m : Int).toNat = m from rfl]
    go_enter Tryz.func30, Tryz.ntmps30
    go_wp2_with fail
    rw [← hW0]
    clear hW0
    refine HH.out.mono ?_
    rintro e w1 hp
    rcases hp with ⟨_, AL, cl, B, Bt, Br, Bs, rfl, hHW⟩ | ⟨hg', _⟩
    rotate_left
    · rw [hg] at hg'; cases hg'
    rw [show (m : Int).toNat = m from rfl] at hHW ⊢
    generalize hN : 3 ^ m = N3
    obtain ⟨W1, hW1⟩ : ∃ W1, W1 = w1.alloc (Obj.cells #[.slice AL N3 cl, telV Bt Br Bs] 57) := ⟨_, rfl⟩
    have hHW' : HuntW W0 m l g o B Bt Br Bs AL W1 := by rw [hW1]; exact hHW.step ((Below.refl _ _).alloc (Nat.le_refl _) _)
    have b0 : W1.cell? ⟨w1.heap.size, 0, none⟩ = some (.slice AL N3 cl) := by rw [hW1, cell_new' _ _ _ _ _ rfl]; rfl
    have b1 : W1.cell? ⟨w1.heap.size, 1, none⟩ = some (telV Bt Br Bs) := by rw [hW1, cell_new' _ _ _ _ _ rfl]; rfl
    have zb : w1.heap.size < W1.heap.size := by rw [hW1]; simp
    have hgB : g ≠ B := by have := hHW.new; omega
    have hBl1 : B < w1.heap.size := hHW.tell.map.lt
    have HW := Lib.hid hHW'
    have HCT := Lib.hid (fun cs A c wx hok hcs => HF.out N3 hN B Bt Br Bs cl AL cs A c wx hok hcs)
    have HC := Lib.hid (HCT.out l (some ⟨g, o, none⟩) l.length _ HOK.out (by omega) hHW' hHW'.inn (fun a e => by injection e with e; subst e; exact hgB))
    generalize solL m l = L at HC HNB
    clear hg hHW hHW' HF hN HH
    go_wp2_with fail
    rw [← hW1]
    clear hW1
    refine HC.out.mono ?_
    rintro e w2 ⟨rfl, hH2, hk2⟩
    have HS2 := Lib.hid (And.intro hH2 hk2)
    clear hH2 hk2 HC
    go_wp2_with fail
    go_loopw [8, 9, 21] (fun v _ i wr => ∃ k : Nat, k ≤ l.length ∧ i = .int .i64 k ∧ wr.ownsRow W1.heap.size 3 1 v (ndL m l k).length (itx (ndL m l k)) ∧ HuntW W0 m l g o B Bt Br Bs AL wr ∧ KpM B W1 wr) (fun _ _ i _ => l.length - (intOf i).toNat)
    case atStart => exact ⟨0, Nat.zero_le _, rfl, World.ownsRow_nil _ _ _ _, HS2.out.1, HS2.out.2⟩
    case round =>
      obtain ⟨k, hk, rfl, hown, hHr, hkr⟩ := hrel
      by_cases hlt : k < l.length
      · have i1 : (0 : Int) ≤ (k : Int) := by omega
        have i2 : (k : Int) < (l.length : Int) := by omega
        have r0 := (hkr.cell zb (by omega : w1.heap.size ≠ B)).trans b0
        have r1 := (hkr.cell zb (by omega : w1.heap.size ≠ B)).trans b1
        have zr := hkr.size
        have HO := Lib.hid hown
        have HHR := Lib.hid hHr
        have HKR := Lib.hid hkr
        clear hown hHr hkr b0 b1
        have hln := HLN.out k
        have HB := HNB.out k
        have HNX := Lib.hid (ndL_next m l k)
        have HCK := Lib.hid (fun A c wx => HCT.out (woC l k) A c wx (fun x hx => HOK.out x (mem_woC hx)) (by have := woC_len l k; omega))
        generalize solL m (woC l k) = L2 at HB HCK
        generalize ndL m l k = F at HO hln HNX
        clear HCT HLN HNB HOK
        cases hb : ndB m l k
        · have HQ := Lib.hid (HB.symm.trans hb)
          rw [hb] at HNX
          clear HB hb
          go_wp2_with fail
          go_region_held3 (fun w' => w'.cell? ⟨w1.heap.size, 0, none⟩ = some (.slice AL N3 cl) ∧ w'.cell? ⟨w1.heap.size, 1, none⟩ = some (telV Bt Br Bs)) (first | exact ⟨r0, r1⟩ | exact ⟨(hx1.cell (by simp; omega)).trans r0, (hx1.cell (by simp; omega)).trans r1⟩ | exact ⟨(hk2.cell (by have := hx1.size; omega) (by omega)).trans ((hx1.cell (by simp; omega)).trans r0), (hk2.cell (by have := hx1.size; omega) (by omega)).trans ((hx1.cell (by simp; omega)).trans r1)⟩) (first | (go_at_call 53; refine (HWO.out k hlt _ (clin_drew HHR.out.inn)).mono ?_; rintro e wa ⟨va, rfl, oa, hba⟩; have hx1 := (Below.drew (Below.refl _ _)).trans hba; obtain ⟨Aa, ca, rfl, Ia, Za⟩ := own_block oa; clear oa) | (go_at_call 52; refine (HCK.out Aa ca _ (HHR.out.step hx1) Ia (fun a ha => by have := (Za a ha).1; simp at this; omega)).mono ?_; rintro e wb ⟨rfl, hH2, hk2⟩))
          rw [HQ.out]
          have HON := Lib.hid (own_kpM (own_below HO.out hx1) hk2 (by omega))
          have HHN := Lib.hid (And.intro hH2 (HKR.out.trans ((KpM.below hx1).trans hk2)))
          clear hx1 hH2 hk2 HO
          go_wp2_with fail
          go_roundw
          case rel => exact ⟨k + 1, by omega, by go_num, by rw [HNX.out]; simpa using HON.out, HHN.out.1, HHN.out.2⟩
          case measure => simp [intOf]; omega
        · have HQ := Lib.hid (HB.symm.trans hb)
          rw [hb] at HNX
          clear HB hb
          go_wp2_with fail
          go_region_held3 (fun w' => w'.cell? ⟨w1.heap.size, 0, none⟩ = some (.slice AL N3 cl) ∧ w'.cell? ⟨w1.heap.size, 1, none⟩ = some (telV Bt Br Bs)) (first | exact ⟨r0, r1⟩ | exact ⟨(hx1.cell (by simp; omega)).trans r0, (hx1.cell (by simp; omega)).trans r1⟩ | exact ⟨(hk2.cell (by have := hx1.size; omega) (by omega)).trans ((hx1.cell (by simp; omega)).trans r0), (hk2.cell (by have := hx1.size; omega) (by omega)).trans ((hx1.cell (by simp; omega)).trans r1)⟩) (first | (go_at_call 53; refine (HWO.out k hlt _ (clin_drew HHR.out.inn)).mono ?_; rintro e wa ⟨va, rfl, oa, hba⟩; have hx1 := (Below.drew (Below.refl _ _)).trans hba; obtain ⟨Aa, ca, rfl, Ia, Za⟩ := own_block oa; clear oa) | (go_at_call 52; refine (HCK.out Aa ca _ (HHR.out.step hx1) Ia (fun a ha => by have := (Za a ha).1; simp at this; omega)).mono ?_; rintro e wb ⟨rfl, hH2, hk2⟩))
          rw [HQ.out]
          have hszn := hk2.size
          have HON := Lib.hid (own_kpM (own_below HO.out hx1) hk2 (by omega))
          have HHN := Lib.hid (And.intro hH2 (HKR.out.trans ((KpM.below hx1).trans hk2)))
          have hsx := hx1.size
          clear hx1 hH2 hk2 HO
          go_wp2_with (first | (at_builtin; refine wpList_append_own _ rfl _ _ 44 rfl W1.heap.size 3 i0 (.int .i64 0) 1 8 Tryz.underlying44 II.out HZ0.out HZ1.out HZ2.out rfl (by decide) _ F.length (itx F) rfl (HON.out.alloc _) ⟨wb.heap.size, 0, none⟩ 1 1 [.int .i64 k] rfl rfl (cell_one_newP wb _ _) (fun u hu => by simp at hu; subst hu; rfl) (by unfold maxLen; omega) (by omega) (by simp; omega) ?_; intro v' w4 hown' hgrow _))
          go_roundw
          case rel =>
            have hrow := HON.out.alloc (Obj.cells #[.int .i64 (k : Int)] 3)
            have hbb : Below wb.heap.size wb (wb.alloc (Obj.cells #[.int .i64 (k : Int)] 3)) := (Below.refl _ _).alloc (Nat.le_refl _) _
            have hH3 := HHN.out.1.step hbb
            have hk3 := HHN.out.2.trans (KpM.below hbb)
            have hk4 := hk3.grownP hgrow (fun j hj => (hrow.lt j hj).1)
            refine ⟨k + 1, by omega, by go_num, ?_, ?_, ?_⟩
            · rw [HNX.out]
              simp only [if_true]
              rw [List.length_append, itx_app]
              exact hown'
            · exact HW.out.fit (by omega) hk4 (hH3.tell.grownP hgrow (fun j hj => (hrow.lt j hj).1) ⟨HW.out.tell.map.lt, HW.out.tell.box.lt⟩)
            · exact hk4
          case measure => simp [intOf]; omega
      · obtain rfl : k = l.length := by omega
        have HR := Lib.hid (And.intro hown (hB0.trans (hHr.bel.mono hB0.size)))
        clear hown hHr hkr
        go_wp2_with fail
        go_ret2
        exact ⟨_, rfl, own_lowerC HR.out.1 (Nat.le_trans hB0.size HW.out.bel.size), HR.out.2⟩
end Go.Proofs.YthhmaohnibdbnaaGreat
