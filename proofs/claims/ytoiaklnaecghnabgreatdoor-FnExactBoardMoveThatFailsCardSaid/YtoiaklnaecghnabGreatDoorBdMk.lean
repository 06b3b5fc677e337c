/- Contract: the model's boMake. -/
import Derived.Test.YtoiaklnaecghnabGreatDoorBdCd
import Derived.Test.YtoiaklnaecghnabGreatDoorOwS
import Derived.Test.YtoiaklnaecghnabGreatDoorMove
import Derived.Deep.RegionLaw
import Derived.Deep.CutRange
import Derived.Deep.RegionHeld3
import Derived.BigQuiet
import Derived.Deep.QuietTactic
namespace Go.Proofs.YtoiaklnaecghnabGreatDoor
open Go.RowKit

/-- The rows behind a move from x, y to u, v. -/
def mkR1 (R : List (List UInt8)) (x y : Nat) : List (List UInt8) := R.set y ((R.getD y []).set x 46)
def mkR (R : List (List UInt8)) (x y u v : Nat) : List (List UInt8) := (mkR1 R x y).set v (((mkR1 R x y).getD v []).set u ((R.getD y []).getD x 0))
theorem txs_set (l : List (List UInt8)) (j : Nat) (s : List UInt8) : txs (l.set j s) = (txs l).set j (.string (str s)) := by
  unfold txs; rw [List.map_set]
theorem mkR1_len (R : List (List UInt8)) (x y : Nat) : (mkR1 R x y).length = R.length := by simp [mkR1]
theorem mkR_len (R : List (List UInt8)) (x y u v : Nat) : (mkR R x y u v).length = R.length := by simp [mkR, mkR1]
theorem set_rows {R : List (List UInt8)} {wd : Nat} (h : ∀ r ∈ R, r.length = wd) (y x : Nat) (c : UInt8) : ∀ r ∈ R.set y ((R.getD y []).set x c), r.length = wd := by
  intro r hr
  by_cases hy : y < R.length
  · rcases List.mem_or_eq_of_mem_set hr with h1 | rfl
    · exact h _ h1
    · rw [List.length_set, List.getD_eq_getElem?_getD, List.getElem?_eq_getElem hy]
      exact h _ (List.getElem_mem hy)
  · rw [List.set_eq_of_length_le (by omega)] at hr
    exact h _ hr
theorem getD_is {R : List (List UInt8)} {y : Nat} (hy : y < R.length) : R.getD y [] = R[y] := by rw [List.getD_eq_getElem?_getD, List.getElem?_eq_getElem hy]; rfl
theorem ext_one_str (l : List UInt8) (k : Nat) (h : k < l.length) : (str l).extract k (k + 1) = str [l.getD k 0] := by
  have e : byt ((str l).extract k (k + 1)) = [l.getD k 0] := by
    have h1 : byt ((str l).extract k (k + 1)) = (l.take (k + 1)).drop k := by
      show ((str l).extract k (k + 1)).data.toList = _
      simp [str, ByteArray.data_extract, List.drop_take]
    rw [h1, List.take_succ_eq_append_getElem h, List.drop_append_of_le_length (by rw [List.length_take]; omega), List.drop_eq_nil_of_le (by rw [List.length_take]; omega), List.nil_append, List.getD_eq_getElem?_getD, List.getElem?_eq_getElem h]
    rfl
  rw [← e, str_byt]

theorem ownLow {w : World} {b b' : Nat} {e : TypeId} {size n : Nat} {v : Value} {xs : List Value} (h : w.ownsRow b e size v n xs) (hle : b' ≤ b) : w.ownsRow b' e size v n xs := by
  refine ⟨h.1, ?_⟩
  rcases h.2 with h | ⟨g1, cap1, cur, hv, hb, hh, hn, hm, hs, ht⟩
  · exact .inl h
  · exact .inr ⟨g1, cap1, cur, hv, Nat.le_trans hle hb, hh, hn, hm, hs, ht⟩
/-- What is kept between the two stores. -/
structure MkB (w : World) (g2 c2 F T : Nat) (L : List (List UInt8)) (wz : World) : Prop where
  row : wz.ownsRow w.heap.size 9 1 (.slice (some ⟨g2, 0, none⟩) L.length c2) L.length (txs L)
  bel : Below w.heap.size w wz
  d0 : wz.cell? ⟨w.heap.size, 0, none⟩ = some (.int .i64 F)
  d1 : wz.cell? ⟨w.heap.size, 1, none⟩ = some (.int .i64 T)
  lt : w.heap.size < g2 ∧ g2 < wz.heap.size
theorem MkB.put {w wz : World} {g2 c2 F T : Nat} {L : List (List UInt8)} (h : MkB w g2 c2 F T L wz) (n y : Nat) (r : List UInt8) : MkB w g2 c2 F T (L.set y r) ((wz.drewN n).setCell ⟨g2, y, none⟩ (.string (str r))) := by
  have hb : Below wz.heap.size wz (wz.drewN n) := below_drewN (Below.refl _ _) _
  have h1 := ((own_below h.row hb).stored y (.string (str r))).1
  rw [← txs_set] at h1
  obtain ⟨l1, l2⟩ := h.lt
  have hc : ∀ o, ((wz.drewN n).setCell ⟨g2, y, none⟩ (.string (str r))).cell? ⟨w.heap.size, o, none⟩ = wz.cell? ⟨w.heap.size, o, none⟩ := fun o => by
    rw [World.cell?_setCell_other _ _ _ _ (by intro e; injection e with e _; omega)]
    exact hb.cell (p := ⟨w.heap.size, o, none⟩) (by show w.heap.size < wz.heap.size; omega)
  exact ⟨by rw [List.length_set]; exact h1, (h.bel.trans (hb.mono h.bel.size)).setCell (show w.heap.size ≤ g2 by omega) _, (hc 0).trans h.d0, (hc 1).trans h.d1, l1, by simpa using Nat.lt_of_lt_of_le l2 hb.size⟩

set_option maxRecDepth 100000 in
set_option maxHeartbeats 16000000 in
theorem boMake_any (R : List (List UInt8)) (wd : Nat) (A : Option Addr) (cap F T x y u v : Nat) (w : World) (hA : StAt w A R) (h5 : R.length ≤ 5) (hw1 : 1 ≤ wd) (hw5 : wd ≤ 5) (hl : ∀ r ∈ R, r.length = wd)
    (hx : x = F % wd) (hy : y = F / wd) (hu : u = T % wd) (hv : v = T / wd) (hyR : y < R.length) (hvR : v < R.length) :
    Calls Tryz.prog 27 #[.slice A R.length cap, .agg #[.int .i64 F, .int .i64 T]] w fun e w' => ∃ v', e = .returned v' ∧ w'.ownsRow w.heap.size 9 1 v' R.length (txs (mkR R x y u v)) ∧ Below w.heap.size w w' := by
  have hne : R ≠ [] := List.ne_nil_of_length_pos (by omega)
  have HOW := Lib.hid (fun wx (h : StAt wx A R) => l1OwnS_at R A cap wx h (by omega) (by omega))
  have HA := Lib.hid hA
  have hlR := Lib.hid hl
  obtain ⟨g, rfl, hgw, hcell0⟩ := hA 0 (by omega)
  obtain ⟨g', e', _, hcelly⟩ := hA y hyR
  injection e' with e'
  injection e' with e' _
  subst e'
  have HS0 : Hid ((str (R[0]'(by omega))).size = wd) := Lib.hid (by rw [str_size]; exact hl _ (List.getElem_mem _))
  generalize str (R[0]'(by omega)) = s0 at hcell0 HS0
  have hsz : s0.size = wd := HS0.out
  have q1 : (F : Int).tmod (wd : Int) = (x : Int) := by rw [hx]; rfl
  have q2 : (F : Int).tdiv (wd : Int) = (y : Int) := by rw [hy]; rfl
  have q3 : (T : Int).tmod (wd : Int) = (u : Int) := by rw [hu]; rfl
  have q4 : (T : Int).tdiv (wd : Int) = (v : Int) := by rw [hv]; rfl
  have b1 : x < wd := by rw [hx]; exact Nat.mod_lt _ hw1
  have b3 : u < wd := by rw [hu]; exact Nat.mod_lt _ hw1
  have hzn : wd ≠ 0 := by omega
  have hw1x : IntKind.i64.wrap ((x : Int) + 1) = (x : Int) + 1 := by rw [IntKind.wrap_i64]; omega
  have hwy : IntKind.i64.wrap (y : Int) = y := by rw [IntKind.wrap_i64]; omega
  have hwv : IntKind.i64.wrap (v : Int) = v := by rw [IntKind.wrap_i64]; omega
  have hwx : IntKind.i64.wrap (x : Int) = x := by rw [IntKind.wrap_i64]; omega
  have hwu : IntKind.i64.wrap (u : Int) = u := by rw [IntKind.wrap_i64]; omega
  have i0 : (0 : Int) ≤ (y : Int) := by omega
  have i1 : (y : Int) < (R.length : Int) := by omega
  have i2 : (0 : Int) ≤ (x : Int) := by omega
  have i3 : (x : Int) + 1 ≤ (wd : Int) := by omega
  have i4 : (x : Int) ≤ (x : Int) + 1 := by omega
  have i5 : (0 : Int) ≤ (x : Int) + 1 := by omega
  have i6 : (0 : Int) ≤ (v : Int) := by omega
  have i7 : (v : Int) < (R.length : Int) := by omega
  have hly : (R[y]).length = wd := hl _ (List.getElem_mem hyR)
  have HSG : Hid ((str R[y]).extract x (x + 1) = str [(R.getD y []).getD x 0]) := Lib.hid (by rw [getD_is hyR]; exact ext_one_str _ _ (by omega))
  have hsy : (str R[y]).size = wd := by rw [str_size]; exact hly
  obtain ⟨W0, hW0⟩ : ∃ W0, W0 = w.alloc (Obj.cells #[.int .i64 F, .int .i64 T] 39) := ⟨_, rfl⟩
  have hb0 : Below w.heap.size w W0 := by rw [hW0]; exact (Below.refl _ _).alloc (Nat.le_refl _) _
  have k0 : W0.cell? ⟨w.heap.size, 0, none⟩ = some (.int .i64 F) := by rw [hW0, World.cell?_alloc_new]; rfl
  have k1 : W0.cell? ⟨w.heap.size, 1, none⟩ = some (.int .i64 T) := by rw [hW0, World.cell?_alloc_new]; rfl
  have hlw0 : w.heap.size < W0.heap.size := by rw [hW0]; simp
  have cy : W0.cell? ⟨g, y, none⟩ = some (.string (str R[y])) := (hb0.cell (p := ⟨g, y, none⟩) hgw).trans hcelly
  have HA0 := Lib.hid (HA.out.below hb0)
  have HB0 := Lib.hid hb0
  generalize str R[y] = sy at cy hsy HSG
  clear hA hl hx hy hu hv hcelly hb0
  go_enter Tryz.func27, Tryz.ntmps27
  go_wp2_with fail
  clear hsz hcell0
  rw [← hW0]
  clear hW0
  go_region
  rw [HSG.out]
  obtain ⟨W1, hW1⟩ : ∃ W1, W1 = W0.drew := ⟨_, rfl⟩
  have HA1 : Hid (StAt W1 (some ⟨g, 0, none⟩) R) := Lib.hid (by rw [hW1]; exact HA0.out)
  have HB1 : Hid (Below w.heap.size w W1) := Lib.hid (by rw [hW1]; exact Below.drew HB0.out)
  have k0' : W1.cell? ⟨w.heap.size, 0, none⟩ = some (.int .i64 F) := by rw [hW1]; exact k0
  have k1' : W1.cell? ⟨w.heap.size, 1, none⟩ = some (.int .i64 T) := by rw [hW1]; exact k1
  have hlw1 : w.heap.size < W1.heap.size := by rw [hW1]; exact hlw0
  rw [← hW1]
  clear hW1 k0 k1 HA0 HB0 hlw0 cy
  go_wp2_with fail
  refine (HOW.out _ HA1.out).mono ?_
  rintro e w2 ⟨v2, rfl, o2, hb2⟩
  have d0 := ((bcell hb2).1 _ 0 hlw1).trans k0'
  have d1 := ((bcell hb2).1 _ 1 hlw1).trans k1'
  obtain ⟨A2, c2, rfl, hc2, _, hA2, _, hA2b⟩ := st_own o2
  obtain ⟨g2, rfl, hg2, cy2⟩ := hA2 y hyR
  have hgb : W1.heap.size ≤ g2 := (hA2b _ rfl).1
  have fz := o2.frozenAt y
  have HM := Lib.hid (show MkB w g2 c2 F T R w2 from ⟨ownLow o2 HB1.out.size, HB1.out.trans (hb2.mono HB1.out.size), d0, d1, by omega, hg2⟩)
  have HPT := Lib.hid (fun wx => liPut_any (str R[y]) x (str [46]) 46 wx (by rw [str_size]; omega) (by rw [str_size]; omega) rfl)
  rw [byt_str] at HPT
  have HP1 := Lib.hid (fun n => HM.out.put n y (R[y].set x 46))
  have HR1 : Hid (R.set y (R[y].set x 46) = mkR1 R x y) := Lib.hid (by unfold mkR1; rw [getD_is hyR])
  rw [HR1.out] at HP1
  have HL1 := Lib.hid (mkR1_len R x y)
  have HROW := Lib.hid (set_rows (hlR.out) y x 46)
  have HSET : Hid (mkR R x y u v = (mkR1 R x y).set v (((mkR1 R x y).getD v []).set u ((R.getD y []).getD x 0))) := Lib.hid rfl
  generalize (R.getD y []).getD x 0 = sg at HSET ⊢
  rw [show R.set y ((R.getD y []).set x 46) = mkR1 R x y from rfl] at HROW
  generalize R[y].set x 46 = L1 at HPT HP1
  generalize str R[y] = s2 at cy2 HPT
  generalize hMR : mkR1 R x y = R1 at HP1 HL1 HROW HSET
  clear o2 hb2 hA2 hA2b k0' k1' hgb HR1 hMR HM
  go_upto_region 4 with fail
  go_cut [7] from 8 (fun s7 wz => s7 = Value.slice (some ⟨g2, 0, none⟩) R.length c2 ∧ Hid (MkB w g2 c2 F T R1 wz))
  case first =>
    go_region_law (first | (go_simp; go_at_call 37; refine (HPT.out _).mono ?_; rintro e wx ⟨rfl, nq, rfl⟩))
    all_goals (go_wp2_with fail; go_meet)
    all_goals exact ⟨rfl, Lib.hid (HP1.out _)⟩
  case rest =>
    obtain ⟨rfl, HM1⟩ := hcut
    obtain ⟨w3, rfl⟩ : ∃ w3, w3 = wc := ⟨_, rfl⟩
    clear cy2 fz d0 d1 HP1 HPT
    have hv1 : v < R1.length := by rw [HL1.out]; exact hvR
    have d0 := HM1.out.d0
    have d1 := HM1.out.d1
    have fz := HM1.out.row.frozenAt v
    have cv : w3.cell? ⟨g2, v, none⟩ = some (.string (str R1[v])) := by rw [HM1.out.row.cellAt v (by omega)]; simp [txs, hv1]
    have hlv : (R1[v]).length = wd := HROW.out _ (List.getElem_mem hv1)
    have HPT := Lib.hid (fun wx => liPut_any (str R1[v]) u (str [sg]) sg wx (by rw [str_size]; omega) (by rw [str_size]; omega) rfl)
    rw [byt_str] at HPT
    have HP1 := Lib.hid (fun n => HM1.out.put n v (R1[v].set u sg))
    have HR2 : Hid (R1.set v (R1[v].set u sg) = mkR R x y u v) := Lib.hid (by rw [HSET.out, getD_is hv1])
    rw [HR2.out] at HP1
    have HLK := Lib.hid (mkR_len R x y u v)
    obtain ⟨RR, hRR⟩ : ∃ RR, RR = mkR R x y u v := ⟨_, rfl⟩
    rw [← hRR] at HP1 HLK
    have HRR := Lib.hid hRR
    clear hRR
    generalize R1[v].set u sg = L2 at HPT HP1
    generalize str R1[v] = s3 at cv HPT
    generalize str [sg] = sgs at HPT ⊢
    clear HR2 HSET HM1 HROW hlv
    go_upto_region 5 with fail
    go_cut [7] from 8 (fun s7 wz => s7 = Value.slice (some ⟨g2, 0, none⟩) R.length c2 ∧ Hid (MkB w g2 c2 F T RR wz))
    case first =>
      go_region_law (first | (go_simp; go_at_call 37; refine (HPT.out _).mono ?_; rintro e wx ⟨rfl, nq, rfl⟩))
      all_goals (go_wp2_with fail; go_meet)
      all_goals exact ⟨rfl, Lib.hid (HP1.out _)⟩
    case rest =>
      obtain ⟨rfl, HM2⟩ := hcut
      go_wp2_with fail
      go_ret
      have h := HM2.out.row
      rw [HLK.out, HRR.out] at h
      exact ⟨_, rfl, h, HM2.out.bel⟩
end Go.Proofs.YtoiaklnaecghnabGreatDoor
