/- Contract: the harder puzzle, the program's. -/
import Derived.Test.YthhmaohnibdbnaaGreatPzZ
namespace Go.Proofs.YthhmaohnibdbnaaGreat
open Go.RowKit

set_option maxRecDepth 100000 in
set_option maxHeartbeats 4000000 in
theorem HarderPuzzle_any (n : Int) (l : List Cl) (g o c : Nat) (w : World) (hin : ClIn w (some ⟨g, o, none⟩) l) (hl : l.length ≤ 2000000) (hc : l.length ≤ c) (hgo : g < w.heap.size) :
    Calls Tryz.prog 39 #[.agg #[.int .i64 n, .slice (some ⟨g, o, none⟩) l.length c]] w (PzAns w (harderOk n l) n (harderL n l)) := by
  have hX := BxP.start w n (.slice (some ⟨g, o, none⟩) l.length c)
  obtain ⟨W0, hW0⟩ : ∃ W0, W0 = (w.alloc (Obj.cells #[.int .i64 n, .slice (some ⟨g, o, none⟩) l.length c] 31)).alloc (Obj.cells #[.int .i64 0, .slice none 0 0] 31) := ⟨_, rfl⟩
  rw [← hW0] at hX
  have HH := Lib.hid (huntFor_any n l g o c W0 (hin.below hX.bel) hl hc (fun h => by have := hX.bel.size; omega))
  have HX := Lib.hid hX
  have hg0 : g < W0.heap.size := by have := hX.bel.size; omega
  clear hX hin
  obtain ⟨b, hb⟩ : ∃ b, harderOk n l = b := ⟨_, rfl⟩
  rw [hb]
  have HBq := Lib.hid hb
  clear hb
  cases hg : goodP n l
  · obtain rfl : false = b := by rw [← HBq.out]; unfold harderOk; rw [hg]; rfl
    go_enter Tryz.func39, Tryz.ntmps39
    go_wp2_with fail
    rw [← hW0]
    clear hW0
    refine HH.out.mono ?_
    rintro e w1 hp
    rcases hp with ⟨hg', _⟩ | ⟨_, rfl, hb1⟩
    · rw [hg] at hg'; cases hg'
    clear hg
    have hba : Below w1.heap.size w1 (w1.alloc (Obj.cells #[.slice none 0 0, .nilFunc] 57)) := (Below.refl _ _).alloc (Nat.le_refl _) _
    have h1 := (HX.out.step hb1).step hba
    have r0 := h1.r0
    have r1 := h1.r1
    have f0 := h1.fr 0
    have f1 := h1.fr 1
    have HE := Lib.hid (h1.ends (x := .int .i64 0) (World.ownsRow_nil _ w.heap.size 69 3) (Nat.le_refl _) (by simp [Value.ownBlock]))
    clear h1 hb1 hba
    go_wp2_with fail
    exact bodyPost_ret (results_pzc rfl _ _ (w.heap.size + 1) (.int .i64 0) (.slice none 0 0) rfl HE.out.1 HE.out.2.1) rfl ⟨_, rfl, HE.out.2.2.1, HE.out.2.2.2⟩
  · have h6 := goodP_few hg
    obtain ⟨m, rfl, h15⟩ := goodP_nat hg
    have HF := Lib.hid (fun N3 hN B Bt Br Bs cl AL cs A c wx (hok : ∀ k ∈ cs, ckOk m k = true) hcs => cntH_any W0 m N3 hN l g o B Bt Br Bs cl AL hg0 h15 cs A c wx hok hcs)
    have HOK := Lib.hid (goodP_ok hg)
    have HWO := Lib.hid (fun (cs : List Cl) gL cap k (hk : k < cs.length) (h1 : cs.length ≤ l.length) (h2 : cs.length ≤ cap) (h3 : cap ≤ maxLen) wx (h : ClIn wx (some ⟨gL, 0, none⟩) cs) => withoutClue_cap cs gL 0 cap k wx h (by omega) h2 h3 hk)
    have HHL : Hid (harderL (m : Int) l = hdL m l.length 0 l) := Lib.hid rfl
    rw [HHL.out]
    have HBs : Hid (decide ((solL m l).length = 1) = b) := Lib.hid (by rw [← HBq.out]; unfold harderOk; rw [hg, show (m : Int).toNat = m from rfl]; simp)
    go_enter Tryz.func39, Tryz.ntmps39
    go_wp2_with fail
    rw [← hW0]
    clear hW0
    refine HH.out.mono ?_
    rintro e w1 hp
    rcases hp with ⟨_, AL, cl, B, Bt, Br, Bs, rfl, hHW⟩ | ⟨hg', _⟩
    rotate_left
    · rw [hg] at hg'; cases hg'
    rw [show (m : Int).toNat = m from rfl] at hHW ⊢
    generalize hN : 3 ^ m = N3
    obtain ⟨W1, hW1⟩ : ∃ W1, W1 = w1.alloc (Obj.cells #[.slice AL N3 cl, telV Bt Br Bs] 57) := ⟨_, rfl⟩
    have hHW' : HuntW W0 m l g o B Bt Br Bs AL W1 := by rw [hW1]; exact hHW.step ((Below.refl _ _).alloc (Nat.le_refl _) _)
    have b0 : W1.cell? ⟨w1.heap.size, 0, none⟩ = some (.slice AL N3 cl) := by rw [hW1, cell_new' _ _ _ _ _ rfl]; rfl
    have b1 : W1.cell? ⟨w1.heap.size, 1, none⟩ = some (telV Bt Br Bs) := by rw [hW1, cell_new' _ _ _ _ _ rfl]; rfl
    have zb : w1.heap.size < W1.heap.size := by rw [hW1]; simp
    have hgB : g ≠ B := by have := hHW.new; omega
    have hBl1 : B < w1.heap.size := hHW.tell.map.lt
    have HW := Lib.hid hHW'
    have HCT := Lib.hid (fun cs A c wx hok hcs => HF.out N3 hN B Bt Br Bs cl AL cs A c wx hok hcs)
    have HC := Lib.hid (HCT.out l (some ⟨g, o, none⟩) l.length _ HOK.out (by omega) hHW' hHW'.inn (fun a e => by injection e with e; subst e; exact hgB))
    have hq : (((solL m l).length : Int) != 1) = !b := by
      rw [← HBs.out]
      by_cases h : (solL m l).length = 1
      · rw [decide_eq_true h, h]; rfl
      · rw [decide_eq_false h]; simp; omega
    have HQ := Lib.hid hq
    clear hq
    generalize solL m l = L at HC HQ
    clear hg hHW hHW' HF hN HH
    go_wp2_with fail
    rw [← hW1]
    clear hW1
    refine HC.out.mono ?_
    rintro e w2 ⟨rfl, hH2, hk2⟩
    have HS2 := Lib.hid (And.intro hH2 hk2)
    clear hH2 hk2 HC
    have hq := HQ.out
    clear HBs HQ
    cases b
    · have h1 := HX.out.step HS2.out.1.bel
      have r0 := h1.r0
      have r1 := h1.r1
      have f0 := h1.fr 0
      have f1 := h1.fr 1
      have HE := Lib.hid (h1.ends (x := .int .i64 0) (World.ownsRow_nil _ w.heap.size 69 3) (Nat.le_refl _) (by simp [Value.ownBlock]))
      clear h1
      go_wp2_with fail
      exact bodyPost_ret (results_pzc rfl _ _ (w.heap.size + 1) (.int .i64 0) (.slice none 0 0) rfl HE.out.1 HE.out.2.1) rfl ⟨_, rfl, HE.out.2.2.1, HE.out.2.2.2⟩
    · have HCL := Lib.hid (cloneC_any l g o l.length w2 HS2.out.1.inn (by omega))
      go_wp2_with fail
      refine HCL.out.mono ?_
      rintro e w3 ⟨v3, rfl, o3, hb3⟩
      have HS3 := Lib.hid (And.intro (HS2.out.1.step hb3) (HS2.out.2.trans (KpM.below hb3)))
      have HO3 := Lib.hid (own_lowerC o3 HS2.out.2.size)
      obtain ⟨A3, cap3, rfl, _⟩ := own_block o3
      clear o3 hb3
      go_wp2_with fail
      go_loopw [7, 8, 9] (fun v i _ wr => ∃ (f k : Nat) (cs : List Cl) (A : Option Addr) (cap : Nat), f + k = cs.length ∧ i = .int .i64 k ∧ v = .slice A cs.length cap ∧ Hid (hdL m f k cs = hdL m l.length 0 l) ∧ cs.length ≤ l.length ∧ Hid (∀ x ∈ cs, x ∈ l) ∧ Hid (wr.ownsRow W1.heap.size 69 3 (.slice A cs.length cap) cs.length (flat3 cs)) ∧ Hid (HuntW W0 m l g o B Bt Br Bs AL wr) ∧ Hid (KpM B W1 wr)) (fun v i _ _ => slLen v - (intOf i).toNat)
      case atStart => exact ⟨l.length, 0, l, A3, cap3, rfl, rfl, rfl, Lib.hid rfl, Nat.le_refl _, Lib.hid fun _ h => h, HO3, Lib.hid HS3.out.1, Lib.hid HS3.out.2⟩
      case round =>
        obtain ⟨f, k, cs, A, cap, hfk, rfl, rfl, HHd, hcl, HM, HO, HHr, HKr⟩ := hrel
        cases f with
        | zero =>
          have hnlt : ¬ (k : Int) < (cs.length : Int) := by omega
          have HL : Hid (cs = hdL m l.length 0 l) := Lib.hid HHd.out
          have X := HX.out.step HHr.out.bel
          have c0 := X.c0
          have r0 := X.r0
          have r1 := X.r1
          have f0 := X.fr 0
          have f1 := X.fr 1
          have HE := Lib.hid (X.ends (x := .int .i64 m) HO.out (Nat.le_trans HX.out.bel.size HW.out.bel.size) (own_newer HO.out (Nat.lt_of_lt_of_le HX.out.lt HW.out.bel.size)))
          clear X
          go_wp2_with fail
          refine bodyPost_ret (results_pzc rfl _ _ (w.heap.size + 1) (.int .i64 m) (.slice A cs.length cap) rfl HE.out.1 HE.out.2.1) rfl ⟨_, rfl, ?_, HE.out.2.2.2⟩
          rw [if_pos rfl, ← HL.out]
          exact HE.out.2.2.1
        | succ f =>
          have i1 : (k : Int) < (cs.length : Int) := by omega
          have hkl : k < cs.length := by omega
          obtain ⟨gL, capL, e, hgL, hgs, hle, hmx, hci⟩ := own_formC HO.out (by omega)
          injection e with e1 _ e3
          subst e1; subst e3
          have HWk := Lib.hid (HWO.out cs gL cap k hkl hcl hle hmx wr hci)
          have hwl := woC_less cs k hkl
          have hwm : ∀ x ∈ woC cs k, x ∈ l := fun x hx => HM.out x (mem_woC hx)
          have HNX : Hid (hdL m (f + 1) k cs = if (solL m (woC cs k)).length = 1 then hdL m f k (woC cs k) else hdL m f (k + 1) cs) := Lib.hid rfl
          rw [HNX.out] at HHd
          have HPk := Lib.hid (fun A c wx => HCT.out (woC cs k) A c wx (fun x hx => HOK.out x (hwm x hx)) (by omega))
          have HWM := Lib.hid hwm
          generalize woC cs k = cs2 at HWk HHd HPk HWM hwl
          have zr := HKr.out.size
          clear hwm hci
          by_cases hs1 : (solL m cs2).length = 1
          · rw [if_pos hs1] at HHd
            have hs2 : (((solL m cs2).length : Int) == 1) = true := by rw [hs1]; rfl
            have HS := Lib.hid hs2
            generalize solL m cs2 = L2 at HPk HS
            clear hs1 hs2
            go_wp2_with fail
            refine HWk.out.mono ?_
            rintro e wa ⟨va, rfl, oa, hba⟩
            have HHa := Lib.hid (And.intro (HHr.out.step hba) (HKr.out.trans (KpM.below hba)))
            have r0 := (HHa.out.2.cell zb (by omega : w1.heap.size ≠ B)).trans b0
            have r1 := (HHa.out.2.cell zb (by omega : w1.heap.size ≠ B)).trans b1
            have HOa := Lib.hid (own_lowerC oa zr)
            obtain ⟨Aa, ca, rfl, Ia, Za⟩ := own_block oa
            have HIa := Lib.hid (And.intro Ia Za)
            clear oa hba Ia Za
            go_wp2_with fail
            refine (HPk.out Aa ca _ HHa.out.1 HIa.out.1 (fun a ha => by have := (HIa.out.2 a ha).1; omega)).mono ?_
            rintro e wb ⟨rfl, hHb, hkb⟩
            have HHb := Lib.hid (And.intro hHb (HHa.out.2.trans hkb))
            have HOb := Lib.hid (own_kpM HOa.out hkb (by omega))
            have hs2 := HS.out
            clear hHb hkb r0 r1
            go_wp2_with fail
            go_roundw
            case rel => exact ⟨f, k, cs2, Aa, ca, by omega, rfl, rfl, HHd, by omega, HWM, HOb, Lib.hid HHb.out.1, Lib.hid HHb.out.2⟩
            case measure => simp [intOf, slLen]; omega
          · rw [if_neg hs1] at HHd
            have hs2 : (((solL m cs2).length : Int) == 1) = false := by simp; omega
            have HS := Lib.hid hs2
            generalize solL m cs2 = L2 at HPk HS
            clear hs1 hs2
            go_wp2_with fail
            refine HWk.out.mono ?_
            rintro e wa ⟨va, rfl, oa, hba⟩
            have HHa := Lib.hid (And.intro (HHr.out.step hba) (HKr.out.trans (KpM.below hba)))
            have r0 := (HHa.out.2.cell zb (by omega : w1.heap.size ≠ B)).trans b0
            have r1 := (HHa.out.2.cell zb (by omega : w1.heap.size ≠ B)).trans b1
            have HOa := Lib.hid (own_below HO.out hba)
            obtain ⟨Aa, ca, rfl, Ia, Za⟩ := own_block oa
            have HIa := Lib.hid (And.intro Ia Za)
            clear oa hba Ia Za
            go_wp2_with fail
            refine (HPk.out Aa ca _ HHa.out.1 HIa.out.1 (fun a ha => by have := (HIa.out.2 a ha).1; omega)).mono ?_
            rintro e wb ⟨rfl, hHb, hkb⟩
            have HHb := Lib.hid (And.intro hHb (HHa.out.2.trans hkb))
            have HOb := Lib.hid (own_kpM HOa.out hkb (by omega))
            have hs2 := HS.out
            clear hHb hkb r0 r1
            go_wp2_with fail
            go_roundw
            case rel => exact ⟨f, k + 1, cs, some ⟨gL, 0, none⟩, cap, by omega, by go_num, rfl, HHd, hcl, HM, HOb, Lib.hid HHb.out.1, Lib.hid HHb.out.2⟩
            case measure => simp [intOf, slLen]; omega
end Go.Proofs.YthhmaohnibdbnaaGreat
