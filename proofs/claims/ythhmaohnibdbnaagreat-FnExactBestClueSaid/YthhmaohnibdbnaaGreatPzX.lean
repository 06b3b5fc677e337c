/- Contract: the best clue, the program's. -/
import Derived.Test.YthhmaohnibdbnaaGreatPzV
import Derived.Test.YthhmaohnibdbnaaGreatPzW
namespace Go.Proofs.YthhmaohnibdbnaaGreat
open Go.RowKit

/-- How many lines fit each clue alone. -/
def cnL (n : Nat) (l : List Cl) (k : Nat) : List Int := (List.range k).map (cnI n l)
theorem cnL_next (n : Nat) (l : List Cl) (k : Nat) : cnL n l (k + 1) = cnL n l k ++ [cnI n l k] := by simp [cnL, List.range_succ]
theorem cnL_len (n : Nat) (l : List Cl) (k : Nat) : (cnL n l k).length = k := by simp [cnL]
theorem cnL_getD (n : Nat) (l : List Cl) (k j : Nat) (h : j < k) : (cnL n l k).getD j 0 = cnI n l j := by
  simp [cnL, List.getD_eq_getElem?_getD, h]
theorem best_uniq (n : Nat) (l : List Cl) (k j : Nat) (y : Int) (hk : 0 < k) (hj : j < k) (hy : ∀ x, x ∈ cnL n l k → y ≤ x) (he : (cnL n l k).getD j 0 = y) (hf : ∀ i, i < j → (cnL n l k).getD i 0 ≠ y) : j = bestN n l k := by
  obtain ⟨h1, h2, h3⟩ := bestN_is n l k hk
  rw [cnL_getD n l k j hj] at he
  have hm : ∀ i, i < k → y ≤ cnI n l i := fun i hi => hy _ (by unfold cnL; exact List.mem_map.2 ⟨i, List.mem_range.2 hi, rfl⟩)
  have h4 := hm _ h1
  have h5 := h2 j hj
  rcases Nat.lt_trichotomy j (bestN n l k) with h | h | h
  · have := h3 j h; omega
  · exact h
  · have := hf _ h
    rw [cnL_getD n l k _ h1] at this
    omega

set_option maxRecDepth 100000 in
set_option maxHeartbeats 4000000 in
theorem BestClue_any (n : Int) (l : List Cl) (g o c : Nat) (w : World) (hin : ClIn w (some ⟨g, o, none⟩) l) (hl : l.length ≤ 2000000) (hc : l.length ≤ c) (hgo : g < w.heap.size) :
    Calls Tryz.prog 37 #[.agg #[.int .i64 n, .slice (some ⟨g, o, none⟩) l.length c]] w fun e w' => e = .returned (bestV n l) ∧ Below w.heap.size w w' := by
  obtain ⟨W0, hW0⟩ : ∃ W0, W0 = w.alloc (Obj.cells #[.int .i64 n, .slice (some ⟨g, o, none⟩) l.length c] 31) := ⟨_, rfl⟩
  have hB0 : Below w.heap.size w W0 := by rw [hW0]; exact (Below.refl _ _).alloc (Nat.le_refl _) _
  have hz : w.heap.size < W0.heap.size := by rw [hW0]; simp
  have HH := Lib.hid (huntFor_any n l g o c W0 (hin.below hB0) hl hc (fun h => by omega))
  obtain ⟨V, hV⟩ : ∃ V, V = bestV n l := ⟨_, rfl⟩
  rw [← hV]
  unfold bestV bestOk at hV
  cases hg : goodP n l
  · have HVV : Hid (V = .tuple #[.int .i64 0, .bool false]) := Lib.hid (by rw [hV, hg]; rfl)
    clear hV
    go_enter Tryz.func37, Tryz.ntmps37
    go_wp2_with fail
    rw [← hW0]
    clear hW0
    refine HH.out.mono ?_
    rintro e w1 hp
    rcases hp with ⟨hg', _⟩ | ⟨_, rfl, hb1⟩
    · rw [hg] at hg'; cases hg'
    have HB := Lib.hid ((hB0.trans (hb1.mono hB0.size)).alloc (by have := hb1.size; omega) (Obj.cells #[.slice none 0 0, .nilFunc] 57))
    clear hb1 hg
    go_wp2_with fail
    go_ret2
    exact ⟨congrArg Ending.returned HVV.out.symm, HB.out⟩
  · obtain ⟨m, rfl, h15⟩ := goodP_nat hg
    have hl6 := goodP_few hg
    have HBV : Hid (V = .tuple #[.int .i64 (if l.isEmpty then 0 else ((bestN m l l.length : Nat) : Int)), .bool (!l.isEmpty)]) := Lib.hid (by rw [hV, hg]; cases l.isEmpty <;> rfl)
    clear hV
    obtain ⟨i0, hi, hz0, hz1, hz2⟩ := info_parts Tryz.infoN
    have hbytes : i0.bytes * l.length ≤ 281474976710656 := by rw [hz2]; omega
    have hmx : l.length ≤ maxLen := by unfold maxLen; omega
    have II := Lib.hid hi
    have HZ0 := Lib.hid hz0
    have HZ1 := Lib.hid hz1
    have HZ2 := Lib.hid hz2
    clear hi hz0 hz1 hz2
    have HF := Lib.hid (fun N3 hN B Bt Br Bs cl AL cs A c wx (hok : ∀ k ∈ cs, ckOk m k = true) hcs => cntH_any W0 m N3 hN l g o B Bt Br Bs cl AL (by omega) h15 cs A c wx hok hcs)
    have HOK := Lib.hid (goodP_ok hg)
    go_enter Tryz.func37, Tryz.ntmps37
    go_wp2_with fail
    rw [← hW0]
    clear hW0
    refine HH.out.mono ?_
    rintro e w1 hp
    rcases hp with ⟨_, AL, cl, B, Bt, Br, Bs, rfl, hHW⟩ | ⟨hg', _⟩
    rotate_left
    · rw [hg] at hg'; cases hg'
    rw [show (m : Int).toNat = m from rfl] at hHW ⊢
    generalize hN : 3 ^ m = N3
    obtain ⟨W1, hW1⟩ : ∃ W1, W1 = w1.alloc (Obj.cells #[.slice AL N3 cl, telV Bt Br Bs] 57) := ⟨_, rfl⟩
    have hHW' : HuntW W0 m l g o B Bt Br Bs AL W1 := by rw [hW1]; exact hHW.step ((Below.refl _ _).alloc (Nat.le_refl _) _)
    have b0 : W1.cell? ⟨w1.heap.size, 0, none⟩ = some (.slice AL N3 cl) := by rw [hW1, cell_new' _ _ _ _ _ rfl]; rfl
    have b1 : W1.cell? ⟨w1.heap.size, 1, none⟩ = some (telV Bt Br Bs) := by rw [hW1, cell_new' _ _ _ _ _ rfl]; rfl
    have zb : w1.heap.size < W1.heap.size := by rw [hW1]; simp
    have hgB : g ≠ B := by have := hHW.new; omega
    have hBl1 : B < w1.heap.size := hHW.tell.map.lt
    have HW := Lib.hid hHW'
    by_cases hl0 : l.length = 0
    · have HVV : Hid (V = .tuple #[.int .i64 0, .bool false]) := Lib.hid (by rw [HBV.out, List.eq_nil_of_length_eq_zero hl0]; rfl)
      have HB := Lib.hid (hB0.trans (hHW'.bel.mono hB0.size))
      have hl0i : (l.length : Int) = 0 := by omega
      clear hg hHW hHW' HF hN HH hl0
      go_wp2_with fail
      go_ret2
      rw [← hW1]
      exact ⟨congrArg Ending.returned HVV.out.symm, HB.out⟩
    have HVV : Hid (V = .tuple #[.int .i64 ((bestN m l l.length : Nat) : Int), .bool true]) := Lib.hid (by
      have e : l.isEmpty = false := by cases l with | nil => simp at hl0 | cons a b => rfl
      rw [HBV.out, e]; rfl)
    have hl0i : (l.length : Int) ≠ 0 := by omega
    have HCT := Lib.hid (fun cs A c wx hok hcs => HF.out N3 hN B Bt Br Bs cl AL cs A c wx hok hcs)
    clear hg hHW hHW' HF hN HH
    go_wp2_with (first | (at_make; rw [← hW1]; clear hW1; refine wpList_make_full _ rfl (.tmp 20) (.tmp 20) 44 rfl W1.heap.size 3 i0 (.int .i64 0) 1 Tryz.underlying44 II.out HZ0.out HZ1.out .i64 .i64 l.length l.length l.length rfl rfl rfl rfl hbytes hmx (Nat.le_refl _) ?_; intro w2 hown hgrow))
    have hB2 := (grown_kpM B hgrow : KpM B W1 w2)
    have hH2 := HW.out.fit (by omega) hB2 (HW.out.tell.grownP hgrow (fun j hj => by cases hj) ⟨HW.out.tell.map.lt, HW.out.tell.box.lt⟩)
    have hown0 : Hid (w2.ownsRow W1.heap.size 3 1 (.slice (some ⟨W1.heap.size, 0, none⟩) l.length l.length) l.length (itx (cnL m l 0 ++ List.replicate (l.length - 0) 0))) := Lib.hid (by
      have e : (madeCells (Value.int .i64 0).cells (l.length * 1)).toList = itx (cnL m l 0 ++ List.replicate (l.length - 0) 0) := by
        rw [Nat.mul_one, made_one (.int .i64 0) rfl]
        simp [itx, cnL]
      rw [← e]; exact hown)
    have HS2 := Lib.hid (And.intro hH2 hB2)
    clear hown hgrow hH2 hB2 hbytes II HZ0 HZ1
    go_loopw [8, 9, 24] (fun _ _ i wr => ∃ k : Nat, k ≤ l.length ∧ i = .int .i64 k ∧ Hid (wr.ownsRow W1.heap.size 3 1 (.slice (some ⟨W1.heap.size, 0, none⟩) l.length l.length) l.length (itx (cnL m l k ++ List.replicate (l.length - k) 0))) ∧ HuntW W0 m l g o B Bt Br Bs AL wr ∧ KpM B W1 wr) (fun _ _ i _ => l.length - (intOf i).toNat)
    case atStart => exact ⟨0, Nat.zero_le _, rfl, hown0, HS2.out.1, HS2.out.2⟩
    case round =>
      obtain ⟨k, hk, rfl, hown, hHr, hkr⟩ := hrel
      clear hown0 HS2
      by_cases hlt : k < l.length
      · have i1 : (0 : Int) ≤ (k : Int) := by omega
        have i2 : (k : Int) < (l.length : Int) := by omega
        have r0 := (hkr.cell zb (by omega : w1.heap.size ≠ B)).trans b0
        have r1 := (hkr.cell zb (by omega : w1.heap.size ≠ B)).trans b1
        have zr := hkr.size
        have HHR := Lib.hid hHr
        have HKR := Lib.hid hkr
        have hll := cnL_len m l k
        have HT : Hid (cnL m l (k + 1) ++ List.replicate (l.length - (k + 1)) 0 = (cnL m l k ++ List.replicate (l.length - k) 0).set k (cnI m l k)) := Lib.hid (by
          obtain ⟨q, hq⟩ : ∃ q, l.length - k = q + 1 := ⟨l.length - k - 1, by omega⟩
          rw [hq, show l.length - (k + 1) = q by omega, List.replicate_succ, iset_at _ _ _ _ k hll, cnL_next])
        have hlen : (cnL m l k ++ List.replicate (l.length - k) (0 : Int)).length = l.length := by simp [hll]; omega
        have hone : (l.drop k).take 1 = [l[k]] := by rw [List.take_one, List.head?_drop, List.getElem?_eq_getElem hlt]; rfl
        have HNB : Hid (cnI m l k = ((solL m [l[k]]).length : Int)) := Lib.hid (by unfold cnI; rw [hone])
        have HCK := Lib.hid (HCT.out [l[k]])
        have hokk := HOK.out l[k] (List.getElem_mem hlt)
        obtain ⟨gm, om, eA, zm, m0, m1, m2⟩ := hHr.inn k hlt
        injection eA with eA
        injection eA with e1 e2
        subst e1; subst e2
        generalize l[k] = ck at HNB HCK hokk m0 m1 m2
        have HCKk := Lib.hid (fun wx => HCK.out (some ⟨wr.heap.size + 1, 0, none⟩) 1 wx (fun x hx => by rw [List.mem_singleton.1 hx]; exact hokk) (by simp))
        generalize solL m [ck] = L2 at HNB HCKk
        generalize cnI m l k = xk at HNB HT
        generalize (cnL m l k ++ List.replicate (l.length - k) (0 : Int)) = F at hown HT hlen
        have hFk : k < F.length := by omega
        have HLEN := Lib.hid hlen
        have HO := hown
        have s0 : ∀ o, (wr.alloc o).cell? ⟨w1.heap.size, 0, none⟩ = some (.slice AL N3 cl) := fun o => by rw [World.cell?_alloc_past _ _ _ (by omega)]; exact r0
        have s1 : ∀ o, (wr.alloc o).cell? ⟨w1.heap.size, 1, none⟩ = some (telV Bt Br Bs) := fun o => by rw [World.cell?_alloc_past _ _ _ (by omega)]; exact r1
        clear hown hHr hkr b0 b1 HCT HOK hll hlen hone HCK hokk
        have hba : Below wr.heap.size wr ((wr.alloc (Obj.cells #[.int .i64 ck.1, .int .i64 ck.2.1, .int .i64 ck.2.2] 69)).alloc (Obj.cells #[.int .i64 ck.1, .int .i64 ck.2.1, .int .i64 ck.2.2] 69)) := ((Below.refl _ _).alloc (Nat.le_refl _) _).alloc (by simp) _
        have hci : ClIn ((wr.alloc (Obj.cells #[.int .i64 ck.1, .int .i64 ck.2.1, .int .i64 ck.2.2] 69)).alloc (Obj.cells #[.int .i64 ck.1, .int .i64 ck.2.1, .int .i64 ck.2.2] 69)) (some ⟨wr.heap.size + 1, 0, none⟩) [ck] := fun j hj => by
          obtain rfl : j = 0 := by simpa using hj
          refine ⟨wr.heap.size + 1, 0, rfl, by simp, ?_, ?_, ?_⟩ <;> (rw [cell_new' _ _ _ _ _ (by simp)]; rfl)
        have HCI := Lib.hid hci
        have HBA := Lib.hid hba
        have HOA := Lib.hid (own_below HO.out hba)
        clear hci hba HO
        go_wp2_with fail
        refine (HCKk.out _ (HHR.out.step HBA.out) HCI.out (fun a ha => by injection ha with ha; subst ha; show wr.heap.size + 1 ≠ B; omega)).mono ?_
        rintro e wb ⟨rfl, hH2, hk2⟩
        have hO2 := own_kpM HOA.out hk2 (by omega)
        have f0 := hO2.frozenAt k
        have e0 := (hO2.cellAt k (by omega)).trans (itx_get F k hFk)
        have hs1 := (hO2.stored k (.int .i64 (L2.length : Int))).1
        rw [itx_set, ← HNB.out, ← HT.out] at hs1
        have hk3 := (HKR.out.trans ((KpM.below HBA.out).trans hk2)).setAt W1.heap.size k (.int .i64 xk) (Nat.le_refl _)
        have ht3 := hH2.tell.setP W1.heap.size k (.int .i64 xk) (by have := HW.out.tell.map.lt; omega) (by have := HW.out.tell.box.lt; omega) (by have := HW.out.tell.box.lt; omega) (by have := HW.out.tell.box.lt; omega)
        have HR := Lib.hid (And.intro hs1 (And.intro (HW.out.fit (by omega) hk3 ht3) hk3))
        rw [← HNB.out]
        generalize F[k] = fk at e0
        clear hs1 hk3 ht3 hO2 hH2 hk2
        go_wp2_with fail
        go_roundw
        case rel => exact ⟨k + 1, by omega, by go_num, Lib.hid HR.out.1, HR.out.2.1, HR.out.2.2⟩
        case measure => simp [intOf]; omega
      · obtain rfl : k = l.length := by omega
        rw [Nat.sub_self, List.replicate_zero, List.append_nil] at hown
        have HB := Lib.hid (hB0.trans (hHr.bel.mono hB0.size))
        have hat := in_own_at (l := cnL m l l.length) (by rw [cnL_len]; exact hown.out)
        have HMN := Lib.hid (fun c wx (h : InAt wx (some ⟨W1.heap.size, 0, none⟩) (cnL m l l.length)) => by
          have h2 := minN_any (cnL m l l.length) (by rw [cnL_len]; omega) (by rw [cnL_len]; omega) (some ⟨W1.heap.size, 0, none⟩) c wx h
          rw [cnL_len] at h2
          exact h2)
        have HIX := Lib.hid (fun y c wx (h : InAt wx (some ⟨W1.heap.size, 0, none⟩) (cnL m l l.length)) (hy : y ∈ cnL m l l.length) => by
          have h2 := indexN_any (cnL m l l.length) y (by rw [cnL_len]; omega) (some ⟨W1.heap.size, 0, none⟩) c wx h hy
          rw [cnL_len] at h2
          exact h2)
        have HAT := Lib.hid hat
        clear hown hHr hkr hat
        go_wp2_with fail
        refine (HMN.out _ _ HAT.out).mono ?_
        rintro e w3 ⟨y, rfl, hy, hmin, rfl⟩
        have HY := Lib.hid (And.intro hy hmin)
        clear hy hmin
        go_wp2_with fail
        refine (HIX.out y _ _ HAT.out HY.out.1).mono ?_
        rintro e w4 ⟨j, rfl, hj, he, hf, hb4⟩
        have HE := Lib.hid (best_uniq m l l.length j y (by omega) hj HY.out.2 he hf)
        have HB4 := Lib.hid (HB.out.trans (hb4.mono HB.out.size))
        clear hb4 he hf
        go_wp2_with fail
        go_ret2
        exact ⟨by rw [HVV.out, ← HE.out]; rfl, HB4.out⟩
end Go.Proofs.YthhmaohnibdbnaaGreat
