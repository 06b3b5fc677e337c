/- Contracts: whether a text is in a list; the model's search for live lines. -/
import Derived.Test.YtjadnfnpbacfdaaGreatDoorSwRa
import Derived.Test.YtjadnfnpbacfdaaGreatDoorSwG
import Derived.Deep.LoopGhost
namespace Go.Proofs.YtjadnfnpbacfdaaGreatDoor
open Go.RowKit

theorem Tryz.infoSSw : (Tryz.prog.info? 22).map (fun i => (i.zero, i.size, i.bytes)) = some (some (.slice none 0 0), 1, 24) := by kernel_rfl
set_option maxHeartbeats 1000000 in
theorem hasS_any (S : List (List UInt8)) (x : List UInt8) (A : Option Addr) (c : Nat) (w : World) (hat : StAt w A S) (hl : S.length ≤ 2000000) :
    Calls Tryz.prog 39 #[.slice A S.length c, .string (str x)] w fun e w' => e = .returned (.bool (decide (x ∈ S))) ∧ w' = w := by
  have HA := Lib.hid hat
  clear hat
  by_cases hx : x ∈ S
  · rw [decide_eq_true hx]
    have HX := Lib.hid hx
    clear hx
    go_enter Tryz.func39, Tryz.ntmps39
    go_wp2_with fail
    go_loop [9] (fun i => ∃ k : Nat, k ≤ S.length ∧ i = .int .i64 k ∧ Hid (∀ q (h : q < S.length), q < k → S[q] ≠ x)) (fun i => S.length - (intOf i).toNat)
    case atStart => exact ⟨0, Nat.zero_le _, rfl, Lib.hid fun q _ h => by omega⟩
    case round =>
      obtain ⟨k, hk, rfl, HN⟩ := hrel
      by_cases hlt : k < S.length
      · obtain ⟨g1, rfl, hg1, d1⟩ := HA.out k hlt
        have i1 : (0 : Int) ≤ (k : Int) := by omega
        have i2 : (k : Int) < (S.length : Int) := by omega
        by_cases he : S[k] = x
        · have hb : ((str S[k]).toList == (str x).toList) = true := by rw [same_str]; simpa using he
          go_wp2
          go_ret
          exact ⟨rfl, rfl⟩
        · have hb : ((str S[k]).toList == (str x).toList) = false := by rw [same_str]; simpa using he
          have HN2 : Hid (∀ q (h : q < S.length), q < k + 1 → S[q] ≠ x) := Lib.hid fun q h hq => by
            by_cases e : q < k
            · exact HN.out q h e
            · obtain rfl : q = k := by omega
              exact he
          clear he
          go_wp2
          go_round
          case rel => exact ⟨k + 1, by omega, by go_num, HN2⟩
          case measure => simp [intOf]; omega
      · exfalso
        obtain ⟨q, hq, e⟩ := List.mem_iff_getElem.1 HX.out
        exact HN.out q hq (by omega) e
  · rw [decide_eq_false hx]
    have HX := Lib.hid hx
    clear hx
    go_enter Tryz.func39, Tryz.ntmps39
    go_wp2_with fail
    go_loop [9] (fun i => ∃ k : Nat, k ≤ S.length ∧ i = .int .i64 k) (fun i => S.length - (intOf i).toNat)
    case atStart => exact ⟨0, Nat.zero_le _, rfl⟩
    case round =>
      obtain ⟨k, hk, rfl⟩ := hrel
      by_cases hlt : k < S.length
      · obtain ⟨g1, rfl, hg1, d1⟩ := HA.out k hlt
        have i1 : (0 : Int) ≤ (k : Int) := by omega
        have i2 : (k : Int) < (S.length : Int) := by omega
        have hb : ((str S[k]).toList == (str x).toList) = false := by
          rw [same_str, decide_eq_false_iff_not]
          intro e
          exact HX.out (by rw [← e]; exact List.getElem_mem hlt)
        go_wp2
        go_round
        case rel => exact ⟨k + 1, by omega, by go_num⟩
        case measure => simp [intOf]; omega
      · go_wp2
        go_ret
        exact ⟨rfl, rfl⟩
theorem one_row (w : World) (v : Value) (t : TypeId) (base : Nat) (hb : base ≤ w.heap.size) : (w.alloc (.cells #[v] t)).ownsRow base t 1 (.slice (some ⟨w.heap.size, 0, none⟩) 1 1) 1 [v] :=
  ⟨rfl, .inr ⟨w.heap.size, 1, #[v], rfl, hb, (MapKept.heap_alloc w _).1, Nat.le_refl _, by decide, rfl, rfl⟩⟩
theorem ReO.start {w : World} {B n : Nat} {ks : List (List UInt8)} {l : List UInt8} (hk : EnW w B n ks) : ReO w B n l 0 (.slice (some ⟨w.heap.size, 0, none⟩) 1 1) (.slice none 0 0) (w.alloc (.cells #[.string (str l)] 9)) := by
  have hb : Below w.heap.size w (w.alloc (.cells #[.string (str l)] 9)) := (Below.refl _ _).alloc (Nat.le_refl _) _
  refine ⟨⟨ks, hk.below hb⟩, ⟨one_row w _ _ _ (Nat.le_refl _), fun g hg he => ?_⟩, LyX.nil, KpX.below hk.lt hb⟩
  injection hg with hg
  have hg : w.heap.size = g := hg
  have := hk.ex_old hb he
  omega
/-- A list of moves of the call's own. -/
def OwM (b : Nat) (v : Value) (M : List (Int × Int)) (W : World) : Prop := W.ownsRow b 70 2 v M.length (flat M)
theorem OwM.below {b : Nat} {v : Value} {M : List (Int × Int)} {W W' : World} (h : OwM b v M W) (hb : Below W.heap.size W W') : OwM b v M W' := own_below h hb
theorem OwM.known {b B n : Nat} {v : Value} {M : List (Int × Int)} {W W' : World} {ks : List (List UInt8)} (h : OwM b v M W) (hn : EnW W B n ks) (hk : KpX B W W') : OwM b v M W' :=
  (own_kpxE (hn.apartE (by decide) (by decide) (by decide) h) h hk).1
theorem OwM.more {b B b2 : Nat} {v u : Value} {M : List (Int × Int)} {S : List (List UInt8)} {W w3 : World} {o : Obj} (h : OwM b v M W) (hr : TxX W B b2 u S) (hg : (W.alloc o).grownBy w3 u.ownBlock) : OwM b v M w3 :=
  World.ownsRow.kept (World.ownsRow.alloc h o) hg (own_apart (World.ownsRow.alloc h o) (hr.1.alloc o) (by decide))
theorem OwM.at {b c : Nat} {A : Option Addr} {M : List (Int × Int)} {W : World} (h : OwM b (.slice A M.length c) M W) : MvAt W A M := at_ownF h
/-- What the search leaves. -/
def RcPost (B n : Nat) (l : List UInt8) (W : World) (e : Ending) (w' : World) : Prop :=
  ∃ v d, e = .returned v ∧ d ≤ 60000 ∧ layW l d = [] ∧ LyX w' B W.heap.size v (layW l) d ∧ (∃ ks, EnW w' B n ks) ∧ KpX B W w'
set_option maxRecDepth 100000 in
set_option maxHeartbeats 8000000 in
theorem swReach_any (B n : Nat) (l : List UInt8) (w : World) (ks : List (List UInt8)) (hg : goodT n l) (h0 : 0 < swN l) (hk : EnW w B n ks) :
    Calls Tryz.prog 22 #[.pointer (some ⟨B, 0, none⟩), .string (str l)] w (RcPost B n l w) := by
  obtain ⟨i0, hi, hz0, hz1, hz2⟩ := info_parts Tryz.infoSSw
  have HI := Lib.hid hi
  have HZ0 := Lib.hid hz0
  have HZ1 := Lib.hid hz1
  have HZ2 := Lib.hid hz2
  clear hi hz0 hz1 hz2
  obtain ⟨iS, hi, hz0, hz1, hz2⟩ := info_parts Tryz.infoS
  have SI := Lib.hid hi
  have SZ0 := Lib.hid hz0
  have SZ1 := Lib.hid hz1
  have SZ2 := Lib.hid hz2
  clear hi hz0 hz1 hz2
  have HST := Lib.hid (ReO.start (l := l) hk)
  have hBw := hk.lt
  obtain ⟨K, hK⟩ : ∃ K : Nat, msL l = (K : Int) := ⟨(msL l).toNat, by have := (live_ms _ l hg (Nat.le_refl _) h0).1; omega⟩
  have hK5 : K ≤ 50000 := by
    have h1 : msL l = wayL l - ((pairSt l).1 : Int) := rfl
    have := wayL_le hg
    omega
  have HLE : Hid (∀ k, layW l k ≠ [] → k ≤ K) := Lib.hid fun k h => by
    obtain ⟨v, hv⟩ := List.exists_mem_of_ne_nil _ h
    have := layW_le hg h0 hv
    omega
  have HGD := Lib.hid (fun k v (hv : v ∈ layW l k) => (layW_good hg h0 k v hv).1)
  have HFW := Lib.hid (fun k => layW_few hg h0 k)
  have HSF := Lib.hid (fun k i j hi => swpt_few hg h0 k i j hi)
  have HFR := Lib.hid (fun x W ks (hx : goodT n x) hk => from_any _ B n x W ks rfl hx hk)
  have HALL := Lib.hid (fun k => swpt_all l k)
  clear hg h0 hk hK
  go_enter Tryz.func22, Tryz.ntmps22
  go_wp2_with fail
  go_loopg [5, 6] (K + 1) (fun gk vn vo wr => ∃ k : Nat, k + gk = K + 1 ∧ Hid (ReO w B n l k vn vo wr))
  case atStart => exact ⟨0, by omega, HST⟩
  case round =>
    obtain ⟨k, hik, HO⟩ := hrel
    obtain ⟨W, hW⟩ : ∃ W : World, W = wr := ⟨_, rfl⟩
    subst hW
    obtain ⟨G, hG⟩ : ∃ G : Nat, G = gk := ⟨_, rfl⟩
    subst hG
    obtain ⟨vO, hvO⟩ : ∃ v : Value, v = u6 := ⟨_, rfl⟩
    subst hvO
    clear HST
    have hLEk := HLE.out k
    have hP2 := HFW.out k
    obtain ⟨A, cap, rfl, _⟩ := st_own HO.out.now.1
    by_cases hP : layW l k = []
    · have hz : ¬ (0 : Int) < ((layW l k).length : Int) := by rw [hP]; simp
      have HPN := Lib.hid hP
      clear hP
      generalize hPl : (layW l k).length = q at *
      go_wp2_with fail
      go_ret
      exact ⟨vO, k, rfl, by omega, HPN.out, HO.out.out, HO.out.kn, HO.out.kp⟩
    · have hkK := hLEk hP
      have hz : (0 : Int) < ((layW l k).length : Int) := by have := List.length_pos_iff.2 hP; omega
      obtain ⟨us, hul, hus, hly⟩ := HO.out.out
      have HUS := Lib.hid hus
      have HLY := Lib.hid hly
      clear hus hly hP hLEk
      have H3 : k + 1 ≤ maxLen := by unfold maxLen; omega
      have H4 : (k + 1) * 24 ≤ 140737488355328 := by omega
      have H5 : w.heap.size ≤ (W.alloc (Obj.cells #[Value.slice A (layW l k).length cap] 22)).heap.size := by have := HO.out.kp.size; simp; omega
      have HALk := Lib.hid (HALL.out k)
      have HGk := Lib.hid (HGD.out k)
      have HSk := Lib.hid (HSF.out k)
      obtain ⟨P, hPe⟩ : ∃ P, P = layW l k := ⟨_, rfl⟩
      have HPE := Lib.hid hPe
      rw [← hPe] at hz H5 HALk HGk HSk hP2 ⊢
      clear hPe
      go_wp2_with (first | (at_builtin; refine wpList_append_own _ rfl _ _ 30 rfl w.heap.size 22 i0 (.slice none 0 0) 1 24 Tryz.underlying30 HI.out HZ0.out HZ1.out HZ2.out rfl (by decide) _ _ _ rfl (HUS.out.alloc _) ⟨W.heap.size, 0, none⟩ 1 1 [.slice A P.length cap] rfl rfl (cell_one_new _ _ _) (fun u hu => by simp at hu; subst hu; rfl) H3 H4 H5 ?_; intro v' w3 hown' hgrow _))
      have hput := HO.out.put hBw hul HUS.out HLY.out hgrow (by rw [HPE.out] at hown'; exact hown')
      rw [← HPE.out] at hput
      obtain ⟨hkn3, hnow3, hout3, hkp3⟩ := hput
      have HKN3 := Lib.hid hkn3
      have HNOW := Lib.hid hnow3
      have HOUT := Lib.hid hout3
      have HKP3 := Lib.hid hkp3
      have hB3 : B < w3.heap.size := by have := hkp3.size; omega
      clear hkn3 hnow3 hout3 hkp3 hown' hgrow HUS HLY HO hul H3 H4 H5
      have HS0 : Hid (ReI w3 B n (swpt P 0 0) (.slice none 0 0) w3) := Lib.hid ⟨HKN3.out, by rw [swpt_start]; exact TxX.nil, KpX.refl _ _⟩
      go_loopg [7, 24] P.length (fun gi vx t wr => ∃ i : Nat, i + gi = P.length ∧ t = .int .i64 i ∧ Hid (ReI w3 B n (swpt P i 0) vx wr))
      case atStart => exact ⟨0, by omega, rfl, HS0⟩
      case round =>
        obtain ⟨i, hii, rfl, HR⟩ := hrel
        obtain ⟨X, hX⟩ : ∃ X : World, X = wr := ⟨_, rfl⟩
        subst hX
        obtain ⟨GI, hGI⟩ : ∃ GI : Nat, GI = gk := ⟨_, rfl⟩
        subst hGI
        obtain ⟨vx0, hvx⟩ : ∃ v : Value, v = u7 := ⟨_, rfl⟩
        subst hvx
        clear HS0
        by_cases hlt : i < P.length
        · have hnowX := HNOW.out.kp HR.out.kp
          obtain ⟨A', cap', hA', _, _, hst, _⟩ := st_own hnowX.1
          injection hA' with hA1 _ hA2
          subst hA1; subst hA2
          obtain ⟨g2, rfl, hg2, hcs⟩ := hst i hlt
          have hgu := HGk.out _ (List.getElem_mem hlt)
          have HU := Lib.hid (getD_at P i hlt)
          have HROW := Lib.hid (swpt_row P i hlt)
          have HNXT := Lib.hid (fun j h => swpt_next P i j h)
          have HSi := Lib.hid (fun j => HSk.out i j hlt)
          rw [HU.out] at HROW HNXT
          clear hnowX hst
          generalize P[i] = u at *
          have hs12 : (str u).size ≤ 12 := ((goodL_iff _).1 hgu.1).2.1
          have HMV := Lib.hid (fun wx => liMoves_all (str u) wx hgu.1)
          rw [sw_kinds, show mvsTo (canM (str u)) (str u) (str u).size = mvL u from rfl] at HMV
          have HAT := Lib.hid (fun i (h : i < (mvL u).length) => mvL_at u i h)
          have HMM := Lib.hid (fun i (h : i < (mvL u).length) => mv_nx (List.getElem_mem h))
          have HNG : Hid (∀ i (h : i < (mvL u).length), (nxL u)[i]? = some (behind (str u) (mvL u)[i].1 (mvL u)[i].2)) := Lib.hid (fun i h => by rw [List.getElem?_eq_getElem (by rw [nxL_mlen]; exact h), nxL_mget u i h])
          have HNL := Lib.hid (nxL_mlen u)
          have HGU := Lib.hid hgu
          have hMle : (mvL u).length ≤ 12 := by have := mvL_le u; rw [str_size] at hs12; omega
          have j1 : (0 : Int) ≤ (i : Int) := by omega
          have j2 : (i : Int) < (P.length : Int) := by omega
          clear hgu
          go_wp2_with fail
          refine (HMV.out _).mono ?_
          rintro e w1 ⟨v1, rfl, ho1, hb1⟩
          obtain ⟨A1, cap1, rfl, at1⟩ := at_of_own ho1
          have HR1 := Lib.hid (HR.out.below hb1)
          have AT1 : Hid (OwM X.heap.size (.slice A1 (mvL u).length cap1) (mvL u) w1) := Lib.hid ho1
          clear ho1 hb1 at1 HR hcs hg2
          generalize hMMe : mvL u = M at AT1 HAT HMM HNG HNL hMle ⊢
          clear hMMe
          go_wp2_with fail
          go_loopg [7, 31] M.length (fun gj vx t wr => ∃ j : Nat, j + gj = M.length ∧ t = .int .i64 j ∧ Hid (ReI w3 B n (swpt P i j) vx wr) ∧ Hid (OwM X.heap.size (.slice A1 M.length cap1) M wr))
          case atStart => exact ⟨0, by omega, rfl, HR1, AT1⟩
          case round =>
            obtain ⟨j, hjk, rfl, HRJ, HKJ⟩ := hrel
            obtain ⟨V, hV⟩ : ∃ V : World, V = wr := ⟨_, rfl⟩
            subst hV
            clear HR1 AT1
            by_cases hltj : j < M.length
            · have hcells := HKJ.out.at j hltj
              obtain ⟨a, b, e1, e2, hai, hbi, hneab, _⟩ := HAT.out j hltj
              have hMj : M[j] = ((a : Int), (b : Int)) := Prod.ext e1 e2
              rw [e1, e2] at hcells
              have hyx := HMM.out j hltj
              rw [e1, e2, show behind (str u) (a : Int) (b : Int) = putL (str u) a b from rfl] at hyx
              have hgy := nx_good HGU.out hyx
              obtain ⟨hjn, hng⟩ := List.getElem?_eq_some_iff.1 (HNG.out j hltj)
              rw [e1, e2, show behind (str u) (a : Int) (b : Int) = putL (str u) a b from rfl] at hng
              have hnxt := HNXT.out j hjn
              rw [hng] at hnxt
              have hsf := HSi.out j
              have HMK := Lib.hid (fun wx => liMake_any (str u) a b wx (by omega) hai hbi hneab)
              generalize putL (str u) a b = y at HMK hgy hnxt
              have HNXT2 := Lib.hid hnxt
              have HFY := Lib.hid (fun W ks hk => HFR.out y W ks hgy hk)
              generalize hS : swpt P i j = S at *
              obtain ⟨gm, rfl, zz, p1, q1⟩ := hcells
              have i1 : (0 : Int) ≤ (j : Int) := by omega
              have i2 : (j : Int) < (M.length : Int) := by omega
              have hbm : B < V.heap.size := HRJ.out.lt
              clear e1 e2 hMj hyx hgy hneab hng hnxt hS
              go_upto_region 12 with fail
              generalize hV1 : V.alloc (Obj.cells #[Value.int IntKind.i64 ↑a, Value.int IntKind.i64 ↑b] 70) = V1
              have hbv : Below V.heap.size V V1 := by rw [← hV1]; exact (Below.refl _ _).alloc (Nat.le_refl _) _
              have r0 : V1.cell? ⟨V.heap.size, 0, none⟩ = some (.int .i64 a) := by rw [← hV1, World.cell?_alloc_new]; rfl
              have r1 : V1.cell? ⟨V.heap.size, 1, none⟩ = some (.int .i64 b) := by rw [← hV1, World.cell?_alloc_new]; rfl
              have HR3 := Lib.hid (HRJ.out.below hbv)
              have HK3 := Lib.hid (HKJ.out.below hbv)
              clear hV1 hbv p1 q1 hbm
              go_wp2_with fail
              refine (HMK.out _).mono ?_
              rintro e w4 ⟨rfl, hb4⟩
              have HR4 := Lib.hid (HR3.out.below hb4)
              have HK4 := Lib.hid (HK3.out.below hb4)
              clear hb4 r0 r1 HR3 HK3
              obtain ⟨ks4, hk4⟩ := HR4.out.kn
              go_wp2_with fail
              refine (HFY.out _ ks4 hk4).mono ?_
              rintro e w5 ⟨rfl, ks5, hk5, _, hkp⟩
              have HR5 := Lib.hid (HR4.out.known hkp hk5)
              have HK5 := Lib.hid (HK4.out.known hk4 hkp)
              clear hkp hk5 hk4 HR4 HK4
              by_cases hpos : 0 < swN y
              · have hpi : (0 : Int) < (swN y : Int) := by omega
                obtain ⟨A5, c5, hv5, _, _, hst5, _⟩ := st_own HR5.out.row.1
                have HHS := Lib.hid (fun x => hasS_any S x A5 c5 w5 hst5 (by omega))
                subst hv5
                have hlv : lvB y = true := lvB_iff.2 hpos
                clear hpos hst5
                generalize swN y = sy at hpi ⊢
                go_wp2_with fail
                refine (HHS.out _).mono ?_
                rintro e w6 ⟨rfl, rfl⟩
                by_cases hin : y ∈ S
                · rw [decide_eq_true hin]
                  have HSAME : Hid (swpt P i (j + 1) = S) := Lib.hid (by rw [HNXT2.out, decide_eq_true hin, hlv]; rfl)
                  clear hin hlv
                  go_wp2_with fail
                  go_roundg (gk - 1)
                  case measure => omega
                  case rel => exact ⟨j + 1, by omega, by go_num, by rw [HSAME.out]; exact HR5, HK5⟩
                · rw [decide_eq_false hin]
                  have HSAME : Hid (swpt P i (j + 1) = S ++ [y]) := Lib.hid (by rw [HNXT2.out, decide_eq_false hin, hlv]; rfl)
                  clear hin hlv
                  have H3 : S.length + 1 ≤ maxLen := by unfold maxLen; omega
                  have H4 : (S.length + 1) * 16 ≤ 140737488355328 := by omega
                  have H5 : w3.heap.size ≤ (w6.alloc (Obj.cells #[Value.string (str y)] 9)).heap.size := by have := HR5.out.kp.size; simp; omega
                  go_wp2_with (first | (at_builtin; refine wpList_append_own_at _ rfl _ _ 22 rfl w3.heap.size 9 iS (.string ByteArray.empty) 1 16 Tryz.underlying22 SI.out SZ0.out SZ1.out SZ2.out rfl (by decide) (.slice A5 S.length c5) S.length (txs S) rfl (HR5.out.row.1.alloc _) ⟨w6.heap.size, 0, none⟩ 1 1 [.string (str y)] rfl rfl (cell_one_new _ _ _) (fun u hu => by simp at hu; subst hu; rfl) H3 H4 H5 ?_; intro v7 w7 ho7 hg7 _ hat7))
                  have HR7 := Lib.hid (HR5.out.more hB3 hg7 ho7 hat7)
                  have HK7 := Lib.hid (HK5.out.more HR5.out.row hg7)
                  clear ho7 hg7 hat7
                  go_roundg (gk - 1)
                  case measure => omega
                  case rel => exact ⟨j + 1, by omega, by go_num, by rw [HSAME.out]; exact HR7, HK7⟩
              · have hpi : ¬ (0 : Int) < (swN y : Int) := by omega
                have hlv : lvB y = false := by
                  cases h : lvB y
                  · rfl
                  · exact absurd (lvB_iff.1 h) hpos
                have HSAME : Hid (swpt P i (j + 1) = S) := Lib.hid (by rw [HNXT2.out, hlv]; rfl)
                clear hpos hlv
                generalize swN y = sy at hpi ⊢
                go_wp2_with fail
                go_roundg (gk - 1)
                case measure => omega
                case rel => exact ⟨j + 1, by omega, by go_num, by rw [HSAME.out]; exact HR5, HK5⟩
            · obtain rfl : j = M.length := by omega
              have HRN : Hid (swpt P (i + 1) 0 = swpt P i M.length) := Lib.hid (by rw [HROW.out, HNL.out])
              go_wp2_with fail
              go_roundg (GI - 1)
              case measure => omega
              case rel => exact ⟨i + 1, by omega, by go_num, by rw [HRN.out]; exact HRJ⟩
        · obtain rfl : i = P.length := by omega
          have hR := HR.out
          rw [HALk.out] at hR
          have HNEXT := Lib.hid (ReO.next HOUT.out HKN3.out HKP3.out hR)
          clear hR
          go_wp2_with fail
          go_roundg (G - 1)
          case measure => omega
          case rel => exact ⟨k + 1, by omega, HNEXT⟩
end Go.Proofs.YtjadnfnpbacfdaaGreatDoor
