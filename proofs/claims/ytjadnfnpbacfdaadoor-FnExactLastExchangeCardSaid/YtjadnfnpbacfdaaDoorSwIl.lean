/- Contract: the model's last exchange. -/
import Derived.Test.YtjadnfnpbacfdaaDoorSwG
namespace Go.Proofs.YtjadnfnpbacfdaaDoor
open Go.RowKit

theorem rfind_at {α : Type} (p : α → Bool) (L : List α) (k : Nat) (h : k < L.length) (h1 : p L[k] = true) (h2 : ∀ i (hi : i < L.length), k < i → p L[i] = false) : L.reverse.find? p = some L[k] := by
  have e : L = L.take k ++ L[k] :: L.drop (k + 1) := by rw [List.getElem_cons_drop, List.take_append_drop]
  have e2 : L.reverse = (L.drop (k + 1)).reverse ++ (L[k] :: (L.take k).reverse) := by
    have := congrArg List.reverse e
    rw [this]
    simp
  rw [e2, List.find?_append]
  have e3 : (L.drop (k + 1)).reverse.find? p = none := by
    rw [List.find?_eq_none]
    intro x hx
    rw [List.mem_reverse] at hx
    obtain ⟨i, hi, rfl⟩ := List.mem_iff_getElem.1 hx
    rw [List.getElem_drop]
    rw [h2 _ (by rw [List.length_drop] at hi; omega) (by omega)]
    decide
  rw [e3]
  simp [h1]
/-- k is the last live move before j, or 0 and none is there yet. -/
def LastB (x : List UInt8) (M : List (Int × Int)) (j k : Nat) : Prop :=
  (k = 0 ∧ ∀ q (hq : q < M.length), q < j → lvM x M[q] = false) ∨ (k < j ∧ (∃ h : k < M.length, lvM x M[k] = true) ∧ ∀ q (hq : q < M.length), k < q → q < j → lvM x M[q] = false)
theorem LastB.zero (x : List UInt8) (M : List (Int × Int)) : LastB x M 0 0 := .inl ⟨rfl, fun q _ h => by omega⟩
theorem LastB.no {x : List UInt8} {M : List (Int × Int)} {j k : Nat} (h : LastB x M j k) (hj : j < M.length) (hn : lvM x M[j] = false) : LastB x M (j + 1) k := by
  rcases h with ⟨h1, h2⟩ | ⟨h1, h2, h3⟩
  · refine .inl ⟨h1, fun q hq hqj => ?_⟩
    by_cases e : q < j
    · exact h2 q hq e
    · obtain rfl : q = j := by omega
      exact hn
  · refine .inr ⟨by omega, h2, fun q hq hkq hqj => ?_⟩
    by_cases e : q < j
    · exact h3 q hq hkq e
    · obtain rfl : q = j := by omega
      exact hn
theorem LastB.yes {x : List UInt8} {M : List (Int × Int)} {j : Nat} (hj : j < M.length) (hn : lvM x M[j] = true) : LastB x M (j + 1) j :=
  .inr ⟨by omega, ⟨hj, hn⟩, fun q _ h1 h2 => by omega⟩
theorem LastB.fin {x : List UInt8} {M : List (Int × Int)} {k : Nat} {m : Int × Int} (h : LastB x M M.length k) (hm : M.reverse.find? (lvM x) = some m) : ∃ h : k < M.length, M.reverse.find? (lvM x) = some M[k] := by
  rcases h with ⟨_, h2⟩ | ⟨_, ⟨hk, h2⟩, h3⟩
  · exfalso
    have h4 := List.mem_of_find?_eq_some hm
    have h5 := List.find?_some hm
    rw [List.mem_reverse] at h4
    obtain ⟨i, hi, rfl⟩ := List.mem_iff_getElem.1 h4
    rw [h2 i hi hi] at h5
    cases h5
  · exact ⟨hk, rfind_at _ M k hk h2 fun i hi hki => h3 i hi hki hi⟩

set_option maxRecDepth 100000 in
set_option maxHeartbeats 8000000 in
theorem swOne_last (t g f : Int) (w : World) (h : hasX t g f = true) :
    Calls Tryd.prog 45 #[.int .i64 t, .int .i64 g, .int .i64 f, .bool true] w (FxYes (movX true t g f) w) := by
  obtain ⟨i0, hi, hz0, hz1, hz2⟩ := info_parts Tryd.infoM
  have HI := Lib.hid hi
  have HZ0 := Lib.hid hz0
  have HZ1 := Lib.hid hz1
  have HZ2 := Lib.hid hz2
  clear hi hz0 hz1 hz2
  have hc : few t g f = true := by unfold hasX at h; rw [Bool.and_eq_true] at h; exact h.1
  have h0 : 0 < swN (firstL t.toNat g.toNat f.toNat) := by unfold hasX at h; rw [Bool.and_eq_true] at h; simpa using h.2
  have hg := first_goodT hc
  have hf := (few_iff t g f).1 hc
  have h8 : (t + g + f).toNat ≤ 8 := by omega
  have HF := Lib.hid (fun wx => liFirst_any t g f wx (by omega) (by omega) (by omega))
  generalize (t + g + f).toNat = n at hg h8
  have HFR := Lib.hid (fun B x W ks (hx : goodT n x) hk => from_any _ B n x W ks rfl hx hk)
  unfold movX
  generalize firstL t.toNat g.toNat f.toNat = l at *
  have hm0 := (live_ms _ _ hg (Nat.le_refl _) h0).1
  have hw1 := wayL_le hg
  obtain ⟨K, hK⟩ : ∃ K : Nat, msL l = (K : Int) := ⟨(msL l).toNat, by omega⟩
  have hK5 : K ≤ 50000 := by
    have : msL l = wayL l - ((pairSt l).1 : Int) := rfl
    omega
  rw [show (msL l).toNat = K by omega]
  have HEN := Lib.hid (exM_end true K l hg h0 hK)
  have HGX := Lib.hid (fun i => exN_good (n := n) true i l hg)
  have HLX := Lib.hid (fun i => exN_live true i l h0)
  have HMX := Lib.hid (fun i (hi : i ≤ K) => exN_ms (n := n) true i l hg h0 (by omega))
  have HG := Lib.hid hg
  have HMS := Lib.hid hK
  have hn0 : ((swN l : Int) == 0) = false := by simp; omega
  have HN0 := Lib.hid hn0
  clear hc h0 hg hf hm0 hw1 hK h hn0
  go_enter Tryd.func45, Tryd.ntmps45
  go_wp2_with fail
  refine (HF.out _).mono ?_
  rintro e w1 ⟨rfl, rfl⟩
  go_wp2_with fail
  refine (HFR.out _ l _ [] HG.out (EnW.new w n)).mono ?_
  rintro e w3 ⟨rfl, ks', hk, _, hkp⟩
  have hn := EnW.new w n
  have HB3 := Lib.hid (((Below.refl w.heap.size w).alloc (Nat.le_refl _) (.cells #[.slice none 0 0, .slice none 0 0] 69)).trans (hkp.to_below (by simp) (fun k he => (hn.ex_in k he).1)))
  have HO3 : Hid (OnW w3 w.heap.size n [] (.slice none 0 0)) := Lib.hid ⟨⟨ks', hk⟩, World.ownsRow_nil _ _ _ _⟩
  have hb0 := HN0.out
  clear hkp hk hn
  go_wp2_with fail
  go_loopg [11, 12] K (fun gk s v wr => ∃ i : Nat, i + gk = K ∧ s = .string (str (exN true i l)) ∧ Hid (OnW wr w.heap.size n (exM true i l) v) ∧ Hid (Below w.heap.size w wr))
  case atStart => exact ⟨0, by omega, rfl, HO3, HB3⟩
  case round =>
    obtain ⟨i, hik, rfl, HO, HB⟩ := hrel
    obtain ⟨W, hW⟩ : ∃ W : World, W = wr := ⟨_, rfl⟩
    subst hW
    obtain ⟨G, hG⟩ : ∃ G : Nat, G = gk := ⟨_, rfl⟩
    subst hG
    clear HO3 HB3
    have hgx := HGX.out i
    have hlx := HLX.out i
    have hs12 : (str (exN true i l)).size ≤ 12 := ((goodL_iff _).1 hgx.1).2.1
    have HLL := Lib.hid (fun wx => liLast_any (str (exN true i l)) wx (by omega))
    rw [byt_str] at HLL
    by_cases hlt : i < K
    · have hms := HMX.out i (by omega)
      have hne : exN true i l ≠ lastL (exN true i l) := fun e => by
        have := (live_ms _ _ hgx (Nat.le_refl _) hlx).2.2 e
        have := HMS.out
        omega
      have hbn : ((str (exN true i l)).toList == (str (lastL (exN true i l))).toList) = false := by rw [same_str]; simpa using hne
      obtain ⟨mp, hmp⟩ := pick_some true hgx hlx hne
      have HSN := Lib.hid (exM_snoc true i l)
      have HMV := Lib.hid (fun wx => liMoves_all (str (exN true i l)) wx hgx.1)
      rw [sw_kinds, show mvsTo (canM (str (exN true i l))) (str (exN true i l)) (str (exN true i l)).size = mvL (exN true i l) from rfl] at HMV
      have hFL := exM_len true i l
      generalize exN true i l = x at *
      generalize exM true i l = F at *
      have HMP := Lib.hid hmp
      have HGXX := Lib.hid hgx
      have HAT := Lib.hid (fun i (h : i < (mvL x).length) => mvL_at x i h)
      have HMM := Lib.hid (fun i (h : i < (mvL x).length) => mv_nx (List.getElem_mem h))
      have HPK : Hid (pickM true x = (mvL x).reverse.find? (lvM x)) := Lib.hid rfl
      have hMle : (mvL x).length ≤ 12 := by have := mvL_le x; rw [str_size] at hs12; omega
      clear hmp hne hms hlx hgx
      go_wp2_with fail
      refine (HLL.out _).mono ?_
      rintro e w2 ⟨rfl, rfl⟩
      go_wp2_with fail
      refine (HMV.out _).mono ?_
      rintro e w2 ⟨v2, rfl, ho2, hb2⟩
      obtain ⟨A2, cap2, rfl, at2⟩ := at_of_own ho2
      have HX2 : Hid (∀ a, A2 = some a → W.heap.size ≤ a.block) := Lib.hid fun a e => by
        subst e
        exact (ho2.lt _ rfl).1
      have HO2 := Lib.hid (HO.out.below hb2)
      have HB2 := Lib.hid (HB.out.trans (hb2.mono HB.out.size))
      have HOB : Hid (∀ ks, EnW W w.heap.size n ks → ∀ a, A2 = some a → ¬ Ex w.heap.size w2 a.block) := Lib.hid fun ks hk a e he => by
        have h1 := hk.ex_old hb2 he
        have h2 := HX2.out a e
        omega
      have HNX : Hid (∀ a, A2 = some a → ¬ Ex w.heap.size w2 a.block) := Lib.hid (by
        obtain ⟨ks, hk⟩ := HO.out.kn
        exact HOB.out ks hk)
      have HVB : Hid (∀ a, A2 = some a → u12.ownBlock ≠ some a.block) := Lib.hid fun a e e2 => by
        have h1 := (HO.out.row.lt a.block e2).2
        have h2 := HX2.out a e
        omega
      have AT2 := Lib.hid at2
      clear ho2 hb2 at2 HO HB HOB HX2
      generalize hMM : mvL x = M at AT2 HAT HMM HPK hMle ⊢
      clear hMM
      go_wp2_with fail
      go_loopg [14, 35] M.length (fun gj s t wr => ∃ j k : Nat, j + gj = M.length ∧ s = .int .i64 k ∧ t = .int .i64 j ∧ Hid (LastB x M j k) ∧ Hid (OnW wr w.heap.size n F u12) ∧ Hid (KpX w.heap.size w2 wr) ∧ Hid (Below w.heap.size w wr))
      case atStart => exact ⟨0, 0, by omega, rfl, rfl, Lib.hid (LastB.zero _ _), HO2, Lib.hid (KpX.refl _ _), HB2⟩
      case round =>
        obtain ⟨j, k, hjk, rfl, rfl, HN, HOJ, HKJ, HBJ⟩ := hrel
        obtain ⟨V, hV⟩ : ∃ V : World, V = wr := ⟨_, rfl⟩
        subst hV
        clear HO2 HB2
        by_cases hltj : j < M.length
        · have hcells := fun (wx : World) (hk : KpX w.heap.size w2 wx) => (AT2.out.kp hk HNX.out) j hltj
          obtain ⟨a, b, e1, e2, hai, hbi, hneab, _⟩ := HAT.out j hltj
          have hMj : M[j] = ((a : Int), (b : Int)) := Prod.ext e1 e2
          rw [e1, e2] at hcells
          have HMJ := Lib.hid hMj
          have hyx := HMM.out j hltj
          rw [e1, e2, show behind (str x) (a : Int) (b : Int) = putL (str x) a b from rfl] at hyx
          have hgy := nx_good HGXX.out hyx
          have HBEH : Hid (behind (str x) M[j].1 M[j].2 = putL (str x) a b) := Lib.hid (by rw [hMj]; rfl)
          have hlvM : lvM x M[j] = decide (0 < swN (putL (str x) a b)) := by rw [hMj]; rfl
          have HMK := Lib.hid (fun wx => liMake_any (str x) a b wx (by omega) hai hbi hneab)
          generalize putL (str x) a b = y at HMK hyx hgy HBEH hlvM
          have HFY := Lib.hid (fun W ks hk => HFR.out w.heap.size y W ks hgy hk)
          have HCE := Lib.hid hcells
          obtain ⟨gm, rfl, zz, p1, q1⟩ := hcells V HKJ.out
          have j1 : (0 : Int) ≤ (j : Int) := by omega
          have j2 : (j : Int) < (M.length : Int) := by omega
          have hbm : w.heap.size < V.heap.size := HOJ.out.lt
          clear e1 e2 hMj hyx hgy hneab hcells
          go_upto_region 12 with fail
          generalize hV1 : V.alloc (Obj.cells #[Value.int IntKind.i64 ↑a, Value.int IntKind.i64 ↑b] 64) = V1
          have hbv : Below V.heap.size V V1 := by rw [← hV1]; exact (Below.refl _ _).alloc (Nat.le_refl _) _
          have r0 : V1.cell? ⟨V.heap.size, 0, none⟩ = some (.int .i64 a) := by rw [← hV1, World.cell?_alloc_new]; rfl
          have r1 : V1.cell? ⟨V.heap.size, 1, none⟩ = some (.int .i64 b) := by rw [← hV1, World.cell?_alloc_new]; rfl
          have HO3 := Lib.hid (HOJ.out.below hbv)
          have HK3 := Lib.hid (HKJ.out.trans (KpX.below hbm hbv))
          have HB3 := Lib.hid (HBJ.out.trans (hbv.mono HBJ.out.size))
          clear hV1 hbv p1 q1 hbm
          go_wp2_with fail
          refine (HMK.out _).mono ?_
          rintro e w3 ⟨rfl, hb3⟩
          have HO4 := Lib.hid (HO3.out.below hb3)
          have HK4 := Lib.hid (HK3.out.trans (KpX.below HO3.out.lt hb3))
          have HB4 := Lib.hid (HB3.out.trans (hb3.mono HB3.out.size))
          clear hb3 r0 r1 HO3 HK3 HB3
          obtain ⟨ks4, hk4⟩ := HO4.out.kn
          go_wp2_with fail
          refine (HFY.out _ ks4 hk4).mono ?_
          rintro e w5 ⟨rfl, ks5, hk5, _, hkp⟩
          have HO5 := Lib.hid (HO4.out.kp hkp hk5)
          have HK5 := Lib.hid (HK4.out.trans hkp)
          have HB5 : Hid (Below w.heap.size w w5) := Lib.hid (HB4.out.trans ((hkp.to_below (by have := HO4.out.lt; omega) (fun k he => (hk4.ex_in k he).1)).mono (Nat.le_refl _)))
          clear hkp hk5 hk4 HO4 HK4 HB4
          obtain ⟨g5, eg, zz5, p5, q5⟩ := HCE.out w5 HK5.out
          obtain rfl : gm = g5 := by simpa using eg
          clear eg
          by_cases hpos : 0 < swN y
          · have hpi : (0 : Int) < (swN y : Int) := by omega
            have HN2 : Hid (LastB x M (j + 1) j) := Lib.hid (LastB.yes hltj (by rw [hlvM]; simpa using hpos))
            clear hpos hlvM
            generalize swN y = sy at hpi ⊢
            go_wp2_with fail
            go_roundg (gk - 1)
            case measure => omega
            case rel => exact ⟨j + 1, j, by omega, rfl, by go_num, HN2, HO5, HK5, HB5⟩
          · have hpi : ¬ (0 : Int) < (swN y : Int) := by omega
            have HN2 : Hid (LastB x M (j + 1) k) := Lib.hid (HN.out.no hltj (by rw [hlvM]; simpa using hpos))
            clear hpos hlvM
            generalize swN y = sy at hpi ⊢
            go_wp2_with fail
            go_roundg (gk - 1)
            case measure => omega
            case rel => exact ⟨j + 1, k, by omega, rfl, by go_num, HN2, HO5, HK5, HB5⟩
        · have hltk : j = M.length := by omega
          subst hltk
          obtain ⟨hkM, hfk⟩ := HN.out.fin (HPK.out.symm.trans HMP.out)
          have hcells := fun (wx : World) (hk : KpX w.heap.size w2 wx) => (AT2.out.kp hk HNX.out) k hkM
          obtain ⟨a, b, e1, e2, hai, hbi, hneab, _⟩ := HAT.out k hkM
          have hMj : M[k] = ((a : Int), (b : Int)) := Prod.ext e1 e2
          rw [e1, e2] at hcells
          have HBEH : Hid (behind (str x) M[k].1 M[k].2 = putL (str x) a b) := Lib.hid (by rw [hMj]; rfl)
          have HMK := Lib.hid (fun wx => liMake_any (str x) a b wx (by omega) hai hbi hneab)
          generalize putL (str x) a b = y at HMK HBEH
          have HYES : Hid (exM true (i + 1) l = F ++ [((a : Int), (b : Int))] ∧ exN true (i + 1) l = y) := Lib.hid (by
            obtain ⟨h1, h2⟩ := HSN.out
            rw [HPK.out, hfk] at h1 h2
            refine ⟨by rw [h1]; simp [hMj], ?_⟩
            rw [h2]
            exact HBEH.out)
          obtain ⟨gm, rfl, zz5, p5, q5⟩ := hcells V HKJ.out
          have j1 : (0 : Int) ≤ (k : Int) := by omega
          have j2 : (k : Int) < (M.length : Int) := by omega
          clear e1 e2 hMj hneab hcells hfk hltj
          have hrow := HOJ.out.row
          have hvg := HVB.out _ rfl
          have H2 : ∀ u ∈ [Value.int .i64 (a : Int), Value.int .i64 (b : Int)], u.oneCell' = true := fun u hu => by simp at hu; rcases hu with rfl | rfl <;> rfl
          have H3 : F.length + 1 ≤ maxLen := by unfold maxLen; omega
          have H4 : (F.length + 1) * 16 ≤ 140737488355328 := by omega
          have H5 : w.heap.size + 1 ≤ (V.alloc (Obj.cells #[.int .i64 (a : Int), .int .i64 (b : Int)] 64)).heap.size := by have := HOJ.out.lt; simp; omega
          go_wp2_with (first | (at_builtin; refine wpList_append_own _ rfl _ _ 22 rfl (w.heap.size + 1) 64 i0 (.agg #[.int .i64 0, .int .i64 0]) 2 16 Tryd.underlying22 HI.out HZ0.out HZ1.out HZ2.out rfl (by decide) _ _ _ rfl (hrow.alloc _) ⟨V.heap.size, 0, none⟩ 1 1 [.int .i64 (a : Int), .int .i64 (b : Int)] rfl rfl (cell_two_new _ _ _ _) H2 H3 H4 H5 ?_; intro v' w6 hown' hgrow _; have hbk := hgrow.block gm (by simp; omega) (fun e => hvg e.symm); have ha5 := ((Below.refl V.heap.size V).alloc (Nat.le_refl _) (Obj.cells #[.int .i64 (a : Int), .int .i64 (b : Int)] 64)); have p6 := (World.cell?_of_block (a := ⟨gm, k * 2, none⟩) hbk).trans ((ha5.cell (p := ⟨gm, k * 2, none⟩) zz5).trans p5); have q6 := (World.cell?_of_block (a := ⟨gm, k * 2 + 1, none⟩) hbk).trans ((ha5.cell (p := ⟨gm, k * 2 + 1, none⟩) zz5).trans q5)))
          have hrow6 : w6.ownsRow (w.heap.size + 1) 64 2 v' (F ++ [((a : Int), (b : Int))]).length (flat (F ++ [((a : Int), (b : Int))])) := by
            have e1 : flat (F ++ [((a : Int), (b : Int))]) = flat F ++ [.int .i64 (a : Int), .int .i64 (b : Int)] := by simp [flat]
            rw [e1, List.length_append]
            exact hown'
          have HO6 := Lib.hid ((HOJ.out.below ha5).more hgrow hrow6)
          have HB6 := Lib.hid ((HBJ.out.alloc HBJ.out.size (Obj.cells #[.int .i64 (a : Int), .int .i64 (b : Int)] 64)).grown hgrow (by have := HBJ.out.size; simp; omega) (fun g e => by have := (hrow.lt g e).1; omega))
          refine (HMK.out _).mono ?_
          rintro e w7 ⟨rfl, hb7⟩
          have HO7 := Lib.hid (HO6.out.below hb7)
          have HB7 := Lib.hid (HB6.out.trans (hb7.mono HB6.out.size))
          clear hb7 p5 q5 p6 q6 hgrow hown' hbk ha5 hrow6 hrow HO6 HB6
          go_wp2_with fail
          go_roundg (G - 1)
          case measure => omega
          case rel => exact ⟨i + 1, by omega, by rw [HYES.out.2], by rw [HYES.out.1]; exact HO7, HB7⟩
    · obtain rfl : i = K := by omega
      have he : exN true i l = lastL (exN true i l) := (live_ms _ _ hgx (Nat.le_refl _) hlx).2.1 (by have := HMX.out i (Nat.le_refl _); have := HMS.out; omega)
      have hbn : ((str (exN true i l)).toList == (str (lastL (exN true i l))).toList) = true := by rw [same_str]; simpa using he
      clear he hgx hlx hs12
      generalize exN true i l = x at *
      go_wp2_with fail
      refine (HLL.out _).mono ?_
      rintro e w2 ⟨rfl, rfl⟩
      go_wp2_with fail
      go_ret2
      exact ⟨_, rfl, own_lowerW HO.out.row (by omega), HB.out⟩
end Go.Proofs.YtjadnfnpbacfdaaDoor
