/- Contract: how many lines fit the first clues, the program's. -/
import Derived.Test.YthhmaohnibdbnaaGreatPzU
namespace Go.Proofs.YthhmaohnibdbnaaGreat
open Go.RowKit

theorem grown_kpM (B : Nat) {w w' : World} (h : w.grownBy w' none) : KpM B w w' := ⟨h.os, h.tape, h.output, h.size, fun k _ hk => h.block k hk (by simp)⟩
theorem KpM.setAt {B : Nat} {w W : World} (h : KpM B w W) (b k : Nat) (v : Value) (hb : w.heap.size ≤ b) : KpM B w (W.setCell ⟨b, k, none⟩ v) := by
  have h2 : Below w.heap.size W (W.setCell ⟨b, k, none⟩ v) := (Below.refl _ _).setCell hb v
  exact ⟨h2.os.trans h.os, h2.tape.trans h.tape, h2.output.trans h.output, Nat.le_trans h.far.1 h2.size, fun i hi hlt => (h2.block i hlt).trans (h.far.2 i hi hlt)⟩

set_option maxRecDepth 100000 in
set_option maxHeartbeats 4000000 in
theorem LeftByClues_any (n : Int) (l : List Cl) (g o c : Nat) (w : World) (hin : ClIn w (some ⟨g, o, none⟩) l) (hl : l.length ≤ 2000000) (hc : l.length ≤ c) (hgo : g < w.heap.size) :
    Calls Tryz.prog 35 #[.agg #[.int .i64 n, .slice (some ⟨g, o, none⟩) l.length c]] w (ItxB w (goodP n l) (lbOr n l)) := by
  obtain ⟨W0, hW0⟩ : ∃ W0, W0 = w.alloc (Obj.cells #[.int .i64 n, .slice (some ⟨g, o, none⟩) l.length c] 31) := ⟨_, rfl⟩
  have hB0 : Below w.heap.size w W0 := by rw [hW0]; exact (Below.refl _ _).alloc (Nat.le_refl _) _
  have hz : w.heap.size < W0.heap.size := by rw [hW0]; simp
  have HH := Lib.hid (huntFor_any n l g o c W0 (hin.below hB0) hl hc (fun h => by omega))
  unfold lbOr
  cases hg : goodP n l
  · go_enter Tryz.func35, Tryz.ntmps35
    go_wp2_with fail
    rw [← hW0]
    clear hW0
    refine HH.out.mono ?_
    rintro e w1 hp
    rcases hp with ⟨hg', _⟩ | ⟨_, rfl, hb1⟩
    · rw [hg] at hg'; cases hg'
    have HB := Lib.hid ((hB0.trans (hb1.mono hB0.size)).alloc (by have := hb1.size; omega) (Obj.cells #[.slice none 0 0, .nilFunc] 57))
    clear hb1 hg
    go_wp2_with fail
    go_ret2
    exact ⟨_, rfl, World.ownsRow_nil _ _ _ _, HB.out⟩
  · obtain ⟨m, rfl, h15⟩ := goodP_nat hg
    have hl6 := goodP_few hg
    obtain ⟨i0, hi, hz0, hz1, hz2⟩ := info_parts Tryz.infoN
    have hbytes : i0.bytes * (l.length + 1) ≤ 281474976710656 := by rw [hz2]; omega
    have hmx : l.length + 1 ≤ maxLen := by unfold maxLen; omega
    have II := Lib.hid hi
    have HZ0 := Lib.hid hz0
    have HZ1 := Lib.hid hz1
    have HZ2 := Lib.hid hz2
    clear hi hz0 hz1 hz2
    have HF := Lib.hid (fun N3 hN B Bt Br Bs cl AL cs A c wx (hok : ∀ k ∈ cs, ckOk m k = true) hcs => cntH_any W0 m N3 hN l g o B Bt Br Bs cl AL (by omega) h15 cs A c wx hok hcs)
    have HOK := Lib.hid (goodP_ok hg)
    rw [if_pos rfl, show (m : Int).toNat = m from rfl]
    go_enter Tryz.func35, Tryz.ntmps35
    go_wp2_with fail
    rw [← hW0]
    clear hW0
    refine HH.out.mono ?_
    rintro e w1 hp
    rcases hp with ⟨_, AL, cl, B, Bt, Br, Bs, rfl, hHW⟩ | ⟨hg', _⟩
    rotate_left
    · rw [hg] at hg'; cases hg'
    rw [show (m : Int).toNat = m from rfl] at hHW ⊢
    generalize hN : 3 ^ m = N3
    obtain ⟨W1, hW1⟩ : ∃ W1, W1 = w1.alloc (Obj.cells #[.slice AL N3 cl, telV Bt Br Bs] 57) := ⟨_, rfl⟩
    have hHW' : HuntW W0 m l g o B Bt Br Bs AL W1 := by rw [hW1]; exact hHW.step ((Below.refl _ _).alloc (Nat.le_refl _) _)
    have b0 : W1.cell? ⟨w1.heap.size, 0, none⟩ = some (.slice AL N3 cl) := by rw [hW1, cell_new' _ _ _ _ _ rfl]; rfl
    have b1 : W1.cell? ⟨w1.heap.size, 1, none⟩ = some (telV Bt Br Bs) := by rw [hW1, cell_new' _ _ _ _ _ rfl]; rfl
    have zb : w1.heap.size < W1.heap.size := by rw [hW1]; simp
    have hgB : g ≠ B := by have := hHW.new; omega
    have hBl1 : B < w1.heap.size := hHW.tell.map.lt
    have HW := Lib.hid hHW'
    have HCT := Lib.hid (fun cs A c wx hok hcs => HF.out N3 hN B Bt Br Bs cl AL cs A c wx hok hcs)
    clear hg hHW hHW' HF hN HH
    go_wp2_with (first | (at_make; rw [← hW1]; clear hW1; refine wpList_make_full _ rfl (.tmp 19) (.tmp 19) 44 rfl W1.heap.size 3 i0 (.int .i64 0) 1 Tryz.underlying44 II.out HZ0.out HZ1.out .i64 .i64 (l.length + 1) (l.length + 1) (l.length + 1) rfl rfl rfl rfl hbytes hmx (Nat.le_refl _) ?_; intro w2 hown hgrow))
    have hB2 := (grown_kpM B hgrow : KpM B W1 w2)
    have hH2 := HW.out.fit (by omega) hB2 (HW.out.tell.grownP hgrow (fun j hj => by cases hj) ⟨HW.out.tell.map.lt, HW.out.tell.box.lt⟩)
    have hown0 : Hid (w2.ownsRow W1.heap.size 3 1 (.slice (some ⟨W1.heap.size, 0, none⟩) (l.length + 1) (l.length + 1)) (l.length + 1) (itx (lbL m l 0 ++ List.replicate (l.length + 1 - 0) 0))) := Lib.hid (by
      have e : (madeCells (Value.int .i64 0).cells ((l.length + 1) * 1)).toList = itx (lbL m l 0 ++ List.replicate (l.length + 1 - 0) 0) := by
        rw [Nat.mul_one, made_one (.int .i64 0) rfl]
        simp [itx, lbL]
      rw [← e]; exact hown)
    have HS2 := Lib.hid (And.intro hH2 hB2)
    clear hown hgrow hH2 hB2 hbytes II HZ0 HZ1
    go_loopw [8, 23] (fun _ i wr => ∃ k : Nat, k ≤ l.length + 1 ∧ i = .int .i64 k ∧ Hid (wr.ownsRow W1.heap.size 3 1 (.slice (some ⟨W1.heap.size, 0, none⟩) (l.length + 1) (l.length + 1)) (l.length + 1) (itx (lbL m l k ++ List.replicate (l.length + 1 - k) 0))) ∧ HuntW W0 m l g o B Bt Br Bs AL wr ∧ KpM B W1 wr) (fun _ i _ => l.length + 1 - (intOf i).toNat)
    case atStart => exact ⟨0, Nat.zero_le _, rfl, hown0, HS2.out.1, HS2.out.2⟩
    case round =>
      obtain ⟨k, hk, rfl, hown, hHr, hkr⟩ := hrel
      clear hown0 HS2
      by_cases hlt : k < l.length + 1
      · have i1 : (0 : Int) ≤ (k : Int) := by omega
        have i2 : (k : Int) < (l.length : Int) + 1 := by omega
        have i3 : (k : Int) ≤ (l.length : Int) := by omega
        have r0 := (hkr.cell zb (by omega : w1.heap.size ≠ B)).trans b0
        have r1 := (hkr.cell zb (by omega : w1.heap.size ≠ B)).trans b1
        have zr := hkr.size
        have HHR := Lib.hid hHr
        have HKR := Lib.hid hkr
        have hll := lbL_len m l k
        have HT : Hid (lbL m l (k + 1) ++ List.replicate (l.length + 1 - (k + 1)) 0 = (lbL m l k ++ List.replicate (l.length + 1 - k) 0).set k (lbI m l k)) := Lib.hid (by
          obtain ⟨q, hq⟩ : ∃ q, l.length + 1 - k = q + 1 := ⟨l.length + 1 - k - 1, by omega⟩
          rw [hq, show l.length + 1 - (k + 1) = q by omega, List.replicate_succ, iset_at _ _ _ _ k hll, lbL_next])
        have hlen : (lbL m l k ++ List.replicate (l.length + 1 - k) (0 : Int)).length = l.length + 1 := by simp [hll]; omega
        have HNB : Hid (lbI m l k = ((solL m (l.take k)).length : Int)) := Lib.hid rfl
        have HIR := Lib.hid (hHr.inn.take k)
        have HCK := Lib.hid (fun wx => by
          have h := HCT.out (l.take k) (some ⟨g, o, none⟩) l.length wx (fun x hx => HOK.out x (List.mem_of_mem_take hx)) (by rw [List.length_take]; omega)
          rw [List.length_take, Nat.min_eq_left (by omega : k ≤ l.length)] at h
          exact h)
        generalize solL m (l.take k) = L2 at HNB HCK
        generalize lbI m l k = xk at HNB HT
        generalize (lbL m l k ++ List.replicate (l.length + 1 - k) (0 : Int)) = F at hown HT hlen
        have hFk : k < F.length := by omega
        have HLEN := Lib.hid hlen
        have HO := hown
        clear hown hHr hkr b0 b1 HCT HOK hll hlen
        go_wp2_with fail
        go_region_held3 (fun w' => w'.cell? ⟨w1.heap.size, 0, none⟩ = some (.slice AL N3 cl) ∧ w'.cell? ⟨w1.heap.size, 1, none⟩ = some (telV Bt Br Bs)) (first | exact ⟨r0, r1⟩ | exact ⟨(hk2.cell (by simp; omega) (by omega)).trans r0, (hk2.cell (by simp; omega) (by omega)).trans r1⟩ | exact ⟨(World.cell?_setCell_other _ _ _ _ (by intro e; injection e with e1; omega)).trans ((hk2.cell (by simp; omega) (by omega)).trans r0), (World.cell?_setCell_other _ _ _ _ (by intro e; injection e with e1; omega)).trans ((hk2.cell (by simp; omega) (by omega)).trans r1)⟩) (first | (go_at_call 52; refine (HCK.out _ (HHR.out.step (Below.drew (Below.refl _ _))) (clin_drew HIR.out) (fun a ha => by injection ha with ha; subst ha; exact hgB)).mono ?_; rintro e wb ⟨rfl, hH2, hk2⟩; have hO2 := own_kpM HO.out.drew hk2 (by omega); have f0 := hO2.frozenAt k; have e0 := (hO2.cellAt k (by omega)).trans (itx_get F k hFk)))
        have hs1 := (hO2.stored k (.int .i64 (L2.length : Int))).1
        rw [itx_set, ← HNB.out, ← HT.out] at hs1
        have hk3 := (HKR.out.trans (((KpM.below (Below.drew (Below.refl _ _)))).trans hk2)).setAt W1.heap.size k (.int .i64 xk) (Nat.le_refl _)
        have ht3 := hH2.tell.setP W1.heap.size k (.int .i64 xk) (by have := HW.out.tell.map.lt; omega) (by have := HW.out.tell.box.lt; omega) (by have := HW.out.tell.box.lt; omega) (by have := HW.out.tell.box.lt; omega)
        have HR := Lib.hid (And.intro hs1 (And.intro (HW.out.fit (by omega) hk3 ht3) hk3))
        rw [← HNB.out]
        clear hs1 hk3 ht3 hO2 hH2 hk2 e0 f0
        go_wp2_with fail
        go_roundw
        case rel => exact ⟨k + 1, by omega, by go_num, Lib.hid HR.out.1, HR.out.2.1, HR.out.2.2⟩
        case measure => simp [intOf]; omega
      · obtain rfl : k = l.length + 1 := by omega
        have HR := Lib.hid (And.intro hown.out (hB0.trans (hHr.bel.mono hB0.size)))
        clear hown hHr hkr
        go_wp2_with fail
        go_ret2
        rw [Nat.sub_self, List.replicate_zero, List.append_nil] at HR
        exact ⟨_, rfl, own_lowerC (by rw [lbL_len]; exact HR.out.1) (Nat.le_trans hB0.size HW.out.bel.size), HR.out.2⟩
end Go.Proofs.YthhmaohnibdbnaaGreat
