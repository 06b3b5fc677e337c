/- FirstShortest: the model's side. -/
import Derived.Test.YtdcbjbmnkajjcaaFsC
import Derived.Test.YtdcbjbmnkajjcaaRuY
import Derived.Test.YtdcbjbmnkajjcaaRuD
namespace Go.Proofs.Ytdcbjbmnkajjcaa
open Go.RowKit Go.Maps

set_option maxHeartbeats 1000000 in
theorem ruTwoF_any (s v : ByteArray) (w : World) (hs : s.size ≤ maxLen) (hv : v.size ≤ maxLen) :
    Calls Try.prog 13 #[.string s, .string v] w fun e w' => e = .returned (.bool (rchB s && rchB v)) ∧ w = w' := by
  cases hc : rchB s
  · have hC := Lib.hid hc
    clear hc
    go_enter Try.func13, Try.ntmps13
    go_wp2_with fail
    refine (sRch_any _ _ hs).mono ?_; rintro e w' ⟨rfl, rfl⟩; rw [hC.out]
    go_wp2
    go_ret
    exact ⟨rfl, rfl⟩
  · have hC := Lib.hid hc
    clear hc
    go_enter Try.func13, Try.ntmps13
    go_wp2_with fail
    refine (sRch_any _ _ hs).mono ?_; rintro e w' ⟨rfl, rfl⟩; rw [hC.out]
    go_wp2_with fail
    refine (sRch_any _ _ hv).mono ?_; rintro e w' ⟨rfl, rfl⟩
    go_wp2
    go_ret
    exact ⟨by rw [Bool.true_and]; rfl, rfl⟩
set_option maxRecDepth 100000 in
set_option maxHeartbeats 2000000 in
theorem sFirstShort_no (s v : ByteArray) (o b l : Bool) (w : World) (hs : s.size ≤ maxLen) (hv : v.size ≤ maxLen) (h : (rchB s && rchB v) = false) :
    Calls Try.prog 5 #[.string s, .string v, ruV o b l] w (FsPost [] false w) := by
  have H2 := Lib.hid (fun wx => ruTwoF_any s v wx hs hv)
  rw [h] at H2
  unfold FsPost
  clear h
  go_enter Try.func5, Try.ntmps5
  go_wp2_with fail
  refine (H2.out _).mono ?_; rintro e w' ⟨rfl, rfl⟩
  go_wp2_with fail
  go_ret2
  exact ⟨_, rfl, World.ownsRow_nil _ _ _ _, (Below.refl _ _).alloc (Nat.le_refl _) _⟩
set_option maxRecDepth 100000 in
set_option maxHeartbeats 4000000 in
theorem sFirstShort_any {o b l : Bool} {wl vl : List UInt8} (w : World) (hr : rchB (str wl) = true) (hv : rchB (str vl) = true) :
    Calls Try.prog 5 #[.string (str wl), .string (str vl), ruV o b l] w (fun e w' => (dstB o b l vl wl = none ∧ FsPost [] false w e w') ∨ ∃ d0, dstB o b l vl wl = some d0 ∧ FsPost (fsL o b l vl d0 wl) true w e w') := by
  obtain ⟨i0, hi, hz0, hz1, hz2⟩ := info_parts Try.infoM
  have HI := Lib.hid hi
  have HZ0 := Lib.hid hz0
  have HZ1 := Lib.hid hz1
  have HZ2 := Lib.hid hz2
  clear hi hz0 hz1 hz2
  have hg := rch_T hr
  have hgv := rch_T hv
  have hs : (str wl).size ≤ maxLen := by have := hg.2; rw [str_size]; unfold maxLen; omega
  have hs2 : (str vl).size ≤ maxLen := by have := hgv.2; rw [str_size]; unfold maxLen; omega
  have H2 := Lib.hid (fun wx => ruTwoF_any (str wl) (str vl) wx hs hs2)
  rw [hr, hv] at H2
  have HRB := Lib.hid (fun wx => ruBack_any _ o b l vl wx hgv)
  unfold RkPost at HRB
  have hFB := found_B o b l hgv
  have HND := Lib.hid hFB.nodup
  have hlen : (bfsL (nxB o b l) vl).length ≤ 59049 := found_few hFB
  have hne := bfsL_ne (nxB o b l) vl
  have HDS : Hid (∀ x, stF (bfsL (nxB o b l) vl) x = dstB o b l vl x) := Lib.hid fun x => rfl
  have hdeep : ∀ d0, dstB o b l vl wl = some d0 → d0 ≤ 60000 := fun d0 h => hFB.deep _ ((dstB_some hgv).1 h)
  have HG := Lib.hid hg
  have HGV := Lib.hid hgv
  generalize bfsL (nxB o b l) vl = L at HRB HND hlen hne HDS
  have hpos : 0 < L.length := List.length_pos_iff.2 hne
  unfold FsPost
  clear hr hv hg hgv hFB hne hs hs2
  go_enter Try.func5, Try.ntmps5
  go_wp2_with fail
  refine (H2.out _).mono ?_; rintro e w' ⟨rfl, rfl⟩
  go_wp2_with fail
  refine (HRB.out _).mono ?_
  rintro e w1 ⟨va, vb, rfl, hla, hlb, hb1⟩
  obtain ⟨ga, ca, rfl, ga1, ga2⟩ := hla.form hpos
  obtain ⟨gb, cb, rfl, gb1, gb2⟩ := hlb.form hpos
  obtain ⟨W2, hW2⟩ : ∃ W2, W2 = w1.alloc (.cells #[.slice (some ⟨ga, 0, none⟩) L.length ca, .slice (some ⟨gb, 0, none⟩) L.length cb] rrT) := ⟨_, rfl⟩
  have hb12 : Below w1.heap.size w1 W2 := by rw [hW2]; exact (Below.refl _ _).alloc (Nat.le_refl _) _
  have hz2 : W2.heap.size = w1.heap.size + 1 := by rw [hW2]; simp
  have k0 : W2.cell? ⟨w1.heap.size, 0, none⟩ = some (.slice (some ⟨ga, 0, none⟩) L.length ca) := by rw [hW2, World.cell?_alloc_new]; rfl
  have k1 : W2.cell? ⟨w1.heap.size, 1, none⟩ = some (.slice (some ⟨gb, 0, none⟩) L.length cb) := by rw [hW2, World.cell?_alloc_new]; rfl
  have hB2 : Below w.heap.size w W2 := (((Below.refl w.heap.size w).alloc (Nat.le_refl _) (ruO o b l)).trans (hb1.mono (by simp))).trans (hb12.mono (by have := hb1.size; simp at this; omega))
  have HX2 := Lib.hid (((RuBx.new w o b l 27).below hb1).below hb12)
  have HLA := own_below hla hb12
  have HLB := own_below hlb hb12
  have HLF : Hid (∀ x wx, Below W2.heap.size W2 wx → Calls Try.prog 15 #[.agg #[.slice (some ⟨ga, 0, none⟩) L.length ca, .slice (some ⟨gb, 0, none⟩) L.length cb], .string (str x)] wx fun e w' => e = .returned (.int .i64 (stI (dstB o b l vl x))) ∧ Below wx.heap.size wx w') := Lib.hid fun x wx hb => by
    have hs := hb.size
    have := ruLeft_any L x wx _ ga ca gb cb (own_below HLA hb) (own_below HLB hb) (by omega) (by omega) hlen HND.out
    rwa [HDS.out] at this
  have HK0 := Lib.hid k0
  have HK1 := Lib.hid k1
  have HB2 := Lib.hid hB2
  have hz21 : w1.heap.size < W2.heap.size := by omega
  have HLW := Lib.hid (HLF.out wl W2 (Below.refl _ _))
  clear HLA HLB hla hlb hb1 hb12 hB2 hz2 ga1 ga2 gb1 gb2 HRB
  go_wp2_with fail
  rw [← hW2]
  clear hW2
  refine HLW.out.mono ?_
  rintro e w2 ⟨rfl, hb2⟩
  have HBB := Lib.hid hb2
  have hwz : w.heap.size ≤ W2.heap.size := HB2.out.size
  clear hb2 k0 k1
  cases hd : dstB o b l vl wl with
  | none =>
    have e0 : stI none = -1 := rfl
    rw [e0]
    go_wp2_with fail
    go_ret2
    exact .inl ⟨hd, _, rfl, World.ownsRow_nil _ _ _ _, HB2.out.trans (HBB.out.mono hwz)⟩
  | some d0 =>
    have e0 : stI (some d0) = (d0 : Int) := rfl
    have i0' : (0 : Int) ≤ (d0 : Int) := by omega
    have i2' : decide ((d0 : Int) < 0) = false := decide_eq_false (by omega)
    have i1' : (d0 : Int) ≤ 60000 := by have := hdeep d0 hd; omega
    have HD0 := Lib.hid hd
    have HFI := Lib.hid (FsI.start (n := wl.length) (v := vl) HG.out hd)
    rw [e0]
    clear e0 hd hdeep
    have HO1 : Hid (w2.ownsRow W2.heap.size 44 2 (.slice none 0 0) ([] : List (Int × Int)).length (flat [])) := Lib.hid (World.ownsRow_nil _ _ _ _)
    go_wp2_with fail
    go_loopg [0, 9, 10] d0 (fun gk u t v wr => ∃ (x : List UInt8) (made : List (Int × Int)), gk ≤ d0 ∧ u = .string (str x) ∧ t = .int .i64 gk ∧ Hid (FsI o b l wl.length vl wl d0 x gk made) ∧ Hid (wr.ownsRow W2.heap.size 44 2 v made.length (flat made)) ∧ Hid (Below W2.heap.size W2 wr))
    case atStart => exact ⟨wl, [], Nat.le_refl _, rfl, rfl, HFI, HO1, HBB⟩
    case round =>
      obtain ⟨x, made, hgk, rfl, rfl, HFX, HOW, HB⟩ := hrel
      obtain ⟨W, hW⟩ : ∃ W : World, W = wr := ⟨_, rfl⟩
      subst hW
      obtain ⟨G, hG⟩ : ∃ G : Nat, G = gk := ⟨_, rfl⟩
      subst hG
      obtain ⟨vF, hvF⟩ : ∃ v : Value, v = u10 := ⟨_, rfl⟩
      subst hvF
      clear HO1 HBB
      cases hGd : G with
      | zero =>
        subst hGd
        have HE := Lib.hid HFX.out.fin
        go_wp2_with fail
        go_ret2
        exact .inr ⟨d0, HD0.out, _, rfl, by rw [← HE.out]; exact own_lowS HOW.out hwz, HB2.out.trans (HB.out.mono hwz)⟩
      | succ d =>
        subst hGd
        have hc : ((d + 1 : Nat) : Int) = (d : Int) + 1 := by omega
        rw [hc]
        clear hc
        have hgx := HFX.out.good
        have hdst := HFX.out.dst
        have hx1 := (goodL_iff _).1 hgx.1
        rw [str_size] at hx1
        have hxs : (str x).size ≤ 10 := by have := hgx.2; rw [str_size]; omega
        have hln := HFX.out.len
        have HMV : Hid (∀ wx, Calls Try.prog 16 #[.string (str x), ruV o b l] wx (SpPost wx (ruM o b l x))) := Lib.hid (fun wx => ruMoves_any (str x) o b l wx hgx.1)
        have HEX := Lib.hid (lead_ex HGV.out hdst)
        have HLA : Hid (∀ j (hj : j < (ruM o b l x).length), leadB o b l vl x d j = (dstB o b l vl (behind (str x) (ruM o b l x)[j].1 (ruM o b l x)[j].2) == some d)) := Lib.hid (fun j hj => leadB_at hj)
        have HAC : Hid (∀ j (hj : j < (ruM o b l x).length), ∃ a c : Nat, (ruM o b l x)[j] = ((a : Int), (c : Int)) ∧ a < (str x).size ∧ c < (str x).size ∧ a ≠ c) := Lib.hid fun j hj => by
          obtain ⟨a, c, e1, e2, h1, h2, h3⟩ := rrMv hj
          exact ⟨a, c, Prod.ext e1 e2, h1, h2, h3⟩
        have hML : (ruM o b l x).length ≤ 1000 := by
          have h1 : (ruM o b l x).length ≤ (str x).size * (str x).size := ruTo_le (str x) o b l (str x).size
          have : (str x).size * (str x).size ≤ 10 * 10 := Nat.mul_le_mul hxs hxs
          omega
        have HNX := Lib.hid (fun j (hj : j < (ruM o b l x).length) => HFX.out.next (j := j) hj)
        obtain ⟨z8, q0, q1, q2⟩ := HX2.out.below HB.out
        have j0' : (0 : Int) ≤ (d : Int) := by omega
        have j1' : (d : Int) + 1 ≤ 60000 := by omega
        have hmade : made.length ≤ 60000 := by omega
        clear hgx hdst hx1 hln
        generalize ruM o b l x = M at HMV HEX HLA HAC HNX hML
        go_wp2_with fail
        refine (HMV.out _).mono ?_
        rintro e w4 ⟨v4, rfl, ho4, hb4⟩
        obtain ⟨A4, cap4, rfl, at4⟩ := at_of_own ho4
        have HOW4 := Lib.hid (own_below HOW.out hb4)
        have HB4 := Lib.hid (HB.out.trans (hb4.mono HB.out.size))
        have AT := Lib.hid at4
        clear ho4 at4 hb4 q0 q1 q2 z8
        go_wp2_with fail
        go_loopg [0, 10, 34] M.length (fun gj s0 v0 t wr => ∃ j : Nat, j + gj = M.length ∧ s0 = .string (str x) ∧ v0 = vF ∧ t = .int .i64 j ∧ Hid (∀ i, i < j → leadB o b l vl x d i = false) ∧ Hid (Below w4.heap.size w4 wr))
        case atStart => exact ⟨0, by omega, rfl, rfl, rfl, Lib.hid fun i hi => by omega, Lib.hid (Below.refl _ _)⟩
        case round =>
          obtain ⟨j, hj, rfl, hv0, rfl, HNO, HB5⟩ := hrel
          subst hv0
          obtain ⟨V, hV⟩ : ∃ V : World, V = wr := ⟨_, rfl⟩
          subst hV
          by_cases hltj : j < M.length
          · obtain ⟨gm, rfl, z1, p1, r1⟩ := (AT.out.below HB5.out) j hltj
            obtain ⟨a, c, hac, ha, hcc, hne⟩ := HAC.out j hltj
            have hle := HLA.out j hltj
            rw [hac] at p1 r1 hle
            have HLE := Lib.hid hle
            have HJX : Hid (leadB o b l vl x d j = true → FsI o b l wl.length vl wl d0 (behind (str x) (a : Int) (c : Int)) d (made ++ [((a : Int), (c : Int))])) := Lib.hid fun h => by
              have := HNX.out j hltj h HNO.out
              rwa [hac] at this
            have hyy : behind (str x) (a : Int) (c : Int) = putL (str x) a c := rfl
            rw [hyy] at HLE HJX
            have HMK := Lib.hid (fun wx => liMake_any (str x) a c wx (by omega) ha hcc hne)
            generalize putL (str x) a c = y at HMK HLE HJX
            have k1' : (0 : Int) ≤ (j : Int) := by omega
            have k2' : (j : Int) < (M.length : Int) := by omega
            clear hle hac hyy ha hcc hne
            go_upto_region 13 with fail
            generalize hV1 : V.alloc (Obj.cells #[Value.int IntKind.i64 ↑a, Value.int IntKind.i64 ↑c] 44) = V1
            have hbv : Below V.heap.size V V1 := by rw [← hV1]; exact (Below.refl _ _).alloc (Nat.le_refl _) _
            have r0 : V1.cell? ⟨V.heap.size, 0, none⟩ = some (.int .i64 a) := by rw [← hV1, World.cell?_alloc_new]; rfl
            have r2 : V1.cell? ⟨V.heap.size, 1, none⟩ = some (.int .i64 c) := by rw [← hV1, World.cell?_alloc_new]; rfl
            have zv : V.heap.size < V1.heap.size := by rw [← hV1]; simp
            have HB6 := Lib.hid (HB5.out.trans (hbv.mono HB5.out.size))
            clear hV1 hbv p1 r1
            go_wp2_with fail
            refine (HMK.out _).mono ?_
            rintro e w6 ⟨rfl, hb6⟩
            replace r0 := (hb6.cell (p := ⟨V.heap.size, 0, none⟩) zv).trans r0
            replace r2 := (hb6.cell (p := ⟨V.heap.size, 1, none⟩) zv).trans r2
            have zv6 : V.heap.size < w6.heap.size := Nat.lt_of_lt_of_le zv hb6.size
            have HB7 := Lib.hid (HB6.out.trans (hb6.mono HB6.out.size))
            have HBW := Lib.hid (HB4.out.trans (HB7.out.mono HB4.out.size))
            have HLY := Lib.hid (HLF.out y w6 HBW.out)
            have k0 := (HBW.out.cell (p := ⟨w1.heap.size, 0, none⟩) hz21).trans HK0.out
            have k1 := (HBW.out.cell (p := ⟨w1.heap.size, 1, none⟩) hz21).trans HK1.out
            clear hb6 HB6
            go_wp2_with fail
            refine HLY.out.mono ?_
            rintro e w7 ⟨rfl, hb7⟩
            replace r0 := (hb7.cell (p := ⟨V.heap.size, 0, none⟩) zv6).trans r0
            replace r2 := (hb7.cell (p := ⟨V.heap.size, 1, none⟩) zv6).trans r2
            have HB8 := Lib.hid (HB7.out.trans (hb7.mono HB7.out.size))
            clear hb7 k0 k1 HLY
            by_cases hq : dstB o b l vl y = some d
            · have HFN := Lib.hid (HJX.out (by rw [HLE.out, hq]; simp))
              have e0 : stI (some d) = (d : Int) := rfl
              rw [hq, e0]
              clear e0 hq
              have heq : ((d : Int) == (d : Int)) = true := by simp
              have HROW := Lib.hid (own_below HOW4.out HB8.out)
              have H2' : ∀ u ∈ [Value.int .i64 (a : Int), Value.int .i64 (c : Int)], u.oneCell' = true := fun u hu => by simp at hu; rcases hu with rfl | rfl <;> rfl
              have H3' : made.length + 1 ≤ maxLen := by unfold maxLen; omega
              have H4' : (made.length + 1) * 16 ≤ 140737488355328 := by omega
              have hB9 := HB4.out.trans (HB8.out.mono HB4.out.size)
              have H5' : W2.heap.size ≤ (w7.alloc (Obj.cells #[.int .i64 (a : Int), .int .i64 (c : Int)] 44)).heap.size := by have := hB9.size; simp; omega
              have HB9 := Lib.hid hB9
              clear hB9
              go_wp2_with (first | (at_builtin; refine wpList_append_own _ rfl _ _ 24 rfl W2.heap.size 44 i0 (.agg #[.int .i64 0, .int .i64 0]) 2 16 Try.underlying24 HI.out HZ0.out HZ1.out HZ2.out rfl (by decide) _ _ _ rfl (HROW.out.alloc _) ⟨w7.heap.size, 0, none⟩ 1 1 [.int .i64 (a : Int), .int .i64 (c : Int)] rfl rfl (cell_two_new _ _ _ _) H2' H3' H4' H5' ?_; intro v' w8 hown' hgrow _))
              have HO8 : Hid (w8.ownsRow W2.heap.size 44 2 v' (made ++ [((a : Int), (c : Int))]).length (flat (made ++ [((a : Int), (c : Int))]))) := Lib.hid (by
                have e1 : flat (made ++ [((a : Int), (c : Int))]) = flat made ++ [.int .i64 (a : Int), .int .i64 (c : Int)] := by simp [flat]
                rw [e1, List.length_append]
                exact hown')
              have HBE := Lib.hid ((HB9.out.alloc HB9.out.size (Obj.cells #[.int .i64 (a : Int), .int .i64 (c : Int)] 44)).grown hgrow H5' (fun g e => (HROW.out.lt g e).1))
              clear hown' hgrow
              go_roundg d
              case measure => omega
              case rel => exact ⟨y, made ++ [((a : Int), (c : Int))], by omega, rfl, by go_num, HFN, HO8, HBE⟩
            · have HNO2 : Hid (∀ i, i < j + 1 → leadB o b l vl x d i = false) := Lib.hid fun i hi => by
                by_cases e : i < j
                · exact HNO.out i e
                · obtain rfl : i = j := by omega
                  rw [HLE.out]
                  simpa using hq
              have hqn : stI (dstB o b l vl y) ≠ (d : Int) := fun e => hq (by
                cases h : dstB o b l vl y with
                | none => rw [h] at e; have e : (-1 : Int) = (d : Int) := e; omega
                | some q => rw [h] at e; have e : (q : Int) = (d : Int) := e; rw [show q = d by omega])
              generalize stI (dstB o b l vl y) = q at hqn
              have heq : (q == (d : Int)) = false := by simpa using hqn
              clear hq
              go_wp2_with fail
              go_roundg (gk - 1)
              case measure => omega
              case rel => exact ⟨j + 1, by omega, rfl, rfl, by go_num, HNO2, HB8⟩
          · exfalso
            obtain ⟨q, hq, h⟩ := HEX.out
            rw [HNO.out q (by omega)] at h
            cases h
end Go.Proofs.Ytdcbjbmnkajjcaa
