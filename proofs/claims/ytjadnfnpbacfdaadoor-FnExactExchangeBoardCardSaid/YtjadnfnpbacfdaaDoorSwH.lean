/- The library's reversal of moves, in place. -/
import Derived.Test.YtjadnfnpbacfdaaDoorMove
import Derived.Test.YtjadnfnpbacfdaaDoorMoves
import Derived.Test.YtjadnfnpbacfdaaDoorSwF
namespace Go.Proofs.YtjadnfnpbacfdaaDoor
open Go.RowKit

/-- What stands at place j after i exchanges from both ends. -/
def revG {α : Type} (d : α) (l : List α) (i j : Nat) : α := if j < i ∨ l.length < j + 1 + i then l.getD (l.length - 1 - j) d else l.getD j d
theorem revG_zero {α : Type} (d : α) (l : List α) (j : Nat) (h : j < l.length) : revG d l 0 j = l[j] := by
  unfold revG
  rw [if_neg (by omega)]
  simp [List.getD_eq_getElem?_getD, h]
theorem revG_end {α : Type} (d : α) (l : List α) (i j : Nat) (h : j < l.length) (hi : l.length ≤ i + i + 1) : revG d l i j = l.reverse.getD j d := by
  have e : l.reverse.getD j d = l.getD (l.length - 1 - j) d := by
    rw [List.getD_eq_getElem?_getD, List.getD_eq_getElem?_getD, List.getElem?_reverse h]
  rw [e]
  unfold revG
  split
  · rfl
  · have : l.length - 1 - j = j := by omega
    rw [this]
theorem revG_next {α : Type} (d : α) (l : List α) (i k j : Nat) (hik : i + k + 1 = l.length) (hlt : i < k) (h : j < l.length) :
    revG d l (i + 1) j = if j = k then revG d l i i else if j = i then revG d l i k else revG d l i j := by
  unfold revG
  by_cases e1 : j = k
  · subst e1
    rw [if_pos rfl, if_pos (by omega), if_neg (by omega)]
    congr 1; omega
  · rw [if_neg e1]
    by_cases e2 : j = i
    · subst e2
      rw [if_pos rfl, if_pos (by omega), if_neg (by omega)]
      congr 1; omega
    · rw [if_neg e2]
      by_cases e3 : j < i ∨ l.length < j + 1 + i
      · rw [if_pos e3, if_pos (by omega)]
      · rw [if_neg e3, if_neg (by omega)]
theorem own_setM {w : World} {base g n cap : Nat} {F : List (Int × Int)} (h : w.ownsRow base 64 2 (.slice (some ⟨g, 0, none⟩) n cap) n (flat F)) (k : Nat) (hk : k < F.length) (x y : Int) :
    ((w.setCell ⟨g, k * 2, none⟩ (.int .i64 x)).setCell ⟨g, k * 2 + 1, none⟩ (.int .i64 y)).ownsRow base 64 2 (.slice (some ⟨g, 0, none⟩) n cap) n (flat (F.set k (x, y))) := by
  rw [← flat_set F k hk]
  exact ((h.stored (k * 2) (.int .i64 x)).1.stored (k * 2 + 1) (.int .i64 y)).1
theorem own_cellM {w : World} {base g n cap : Nat} {F : List (Int × Int)} (h : w.ownsRow base 64 2 (.slice (some ⟨g, 0, none⟩) n cap) n (flat F)) (hn : F.length = n) (k : Nat) (hk : k < n) :
    w.cell? ⟨g, k * 2, none⟩ = some (.int .i64 (F.getD k (0, 0)).1) ∧ w.cell? ⟨g, k * 2 + 1, none⟩ = some (.int .i64 (F.getD k (0, 0)).2) ∧ w.frozen? ⟨g, k * 2, none⟩ = false ∧ w.frozen? ⟨g, k * 2 + 1, none⟩ = false := by
  obtain ⟨a, b⟩ := flat_at F k (by omega)
  have e : F.getD k (0, 0) = F[k]'(by omega) := by rw [List.getD_eq_getElem?_getD, List.getElem?_eq_getElem (by omega)]; rfl
  rw [e]
  exact ⟨(h.cellAt _ (by omega)).trans a, (h.cellAt _ (by omega)).trans b, h.frozenAt _, h.frozenAt _⟩

set_option maxRecDepth 100000 in
set_option maxHeartbeats 1000000 in
theorem reverseM_any (l : List (Int × Int)) (g base cap : Nat) (w : World) (h1 : 1 ≤ l.length) (h2 : l.length ≤ 1000000) (hb : base ≤ g) (hown : w.ownsRow base 64 2 (.slice (some ⟨g, 0, none⟩) l.length cap) l.length (flat l)) :
    Calls Tryd.prog 91 #[.slice (some ⟨g, 0, none⟩) l.length cap] w fun e w' => e = .returned (.tuple #[]) ∧ w'.ownsRow base 64 2 (.slice (some ⟨g, 0, none⟩) l.length cap) l.length (flat l.reverse) ∧ Below base w w' := by
  have HO := Lib.hid hown
  clear hown
  go_enter Tryd.func91, Tryd.ntmps91
  go_wp2
  go_loopw [2, 3] (fun a b wr => ∃ (i k : Nat) (F : List (Int × Int)), i + k + 1 = l.length ∧ i ≤ k + 1 ∧ a = .int .i64 i ∧ b = .int .i64 k ∧ F.length = l.length ∧ Hid (∀ j, j < l.length → F.getD j (0, 0) = revG (0, 0) l i j) ∧ Hid (wr.ownsRow base 64 2 (.slice (some ⟨g, 0, none⟩) l.length cap) l.length (flat F)) ∧ Below base w wr) (fun _ b _ => (intOf b).toNat)
  case atStart =>
    refine ⟨0, l.length - 1, l, by omega, by omega, rfl, by go_num, rfl, Lib.hid fun j hj => ?_, HO, Below.refl _ _⟩
    rw [revG_zero _ _ _ hj, List.getD_eq_getElem?_getD, List.getElem?_eq_getElem hj]
    rfl
  case round =>
    obtain ⟨i, k, F, hik, hle, rfl, rfl, hF, HF, HW, hB⟩ := hrel
    by_cases hlt : i < k
    · obtain ⟨ci0, ci1, fi0, fi1⟩ := own_cellM HW.out hF i (by omega)
      obtain ⟨ck0, ck1, fk0, fk1⟩ := own_cellM HW.out hF k (by omega)
      have HN := Lib.hid (fun j (hj : j < l.length) => revG_next (0, 0) l i k j hik hlt hj)
      obtain ⟨x0, x1, hx⟩ : ∃ x0 x1, F.getD i (0, 0) = (x0, x1) := ⟨_, _, rfl⟩
      obtain ⟨y0, y1, hy⟩ : ∃ y0 y1, F.getD k (0, 0) = (y0, y1) := ⟨_, _, rfl⟩
      rw [hx] at ci0 ci1
      rw [hy] at ck0 ck1
      have HX : Hid (revG (0, 0) l i i = (x0, x1)) := Lib.hid (by rw [← hx, HF.out i (by omega)])
      have HY : Hid (revG (0, 0) l i k = (y0, y1)) := Lib.hid (by rw [← hy, HF.out k (by omega)])
      have HB := Lib.hid hB
      have HLN := Lib.hid hF
      clear hB hx hy hF
      go_wp2
      go_region
      go_wp2
      go_roundw
      case rel =>
        refine ⟨i + 1, k - 1, (F.set i (y0, y1)).set k (x0, x1), by omega, by omega, by go_num, by go_num, by rw [List.length_set, List.length_set]; exact HLN.out, Lib.hid fun j hj => ?_, Lib.hid (own_setM (own_setM HW.out i (by rw [HLN.out]; omega) y0 y1) k (by rw [List.length_set, HLN.out]; omega) x0 x1).drew, ((((HB.out.setCell hb _).setCell hb _).setCell hb _).setCell hb _).drew⟩
        have hl := HLN.out
        rw [HN.out j hj, List.getD_eq_getElem?_getD, List.getElem?_set]
        by_cases e1 : k = j
        · rw [if_pos e1, if_pos (by rw [List.length_set]; omega), if_pos e1.symm, HX.out]
          rfl
        · rw [if_neg e1, if_neg (fun e => e1 e.symm), List.getElem?_set]
          by_cases e2 : i = j
          · rw [if_pos e2, if_pos (by omega), if_pos e2.symm, HY.out]
            rfl
          · rw [if_neg e2, if_neg (fun e => e2 e.symm), ← HF.out j hj, List.getD_eq_getElem?_getD]
      case measure => simp [intOf]; omega
    · have HB := Lib.hid hB
      have HLN := Lib.hid hF
      clear hB hF
      go_wp2
      go_end0
      have e : F = l.reverse := by
        have hl := HLN.out
        refine List.ext_getElem (by rw [List.length_reverse]; exact hl) fun j h1 h2 => ?_
        have := HF.out j (by omega)
        rw [revG_end (0, 0) l i j (by omega) (by omega), List.getD_eq_getElem?_getD, List.getD_eq_getElem?_getD, List.getElem?_eq_getElem h1, List.getElem?_eq_getElem h2] at this
        exact this
      have hw := HW.out
      rw [e] at hw
      exact ⟨rfl, hw, HB.out⟩
end Go.Proofs.YtjadnfnpbacfdaaDoor
namespace Go.Proofs.YtjadnfnpbacfdaaDoor
open Go.RowKit Go.Shelf Go.Maps

set_option maxHeartbeats 1000000 in
theorem reverseM_zero (A : Option Addr) (cap : Nat) (w : World) :
    Calls Tryd.prog 91 #[.slice A 0 cap] w fun e w' => e = .returned (.tuple #[]) ∧ w = w' := by
  go_enter Tryd.func91, Tryd.ntmps91
  go_wp2
  go_loopw [2, 3] (fun a b wr => a = .int .i64 0 ∧ b = .int .i64 (-1) ∧ wr = w) (fun _ _ _ => 0)
  case atStart => exact ⟨rfl, rfl, rfl⟩
  case round =>
    obtain ⟨rfl, rfl, rfl⟩ := hrel
    go_wp2
    go_end0
    exact ⟨rfl, rfl⟩
theorem reverse_mv (l : List (Int × Int)) (v : Value) (base : Nat) (w : World) (ho : w.ownsRow base 64 2 v l.length (flat l)) (hl : l.length ≤ 1000000) :
    Calls Tryd.prog 91 #[v] w fun e w' => e = .returned (.tuple #[]) ∧ w'.ownsRow base 64 2 v l.reverse.length (flat l.reverse) ∧ Below base w w' := by
  by_cases h0 : l = []
  · subst h0
    obtain ⟨A, cap, rfl⟩ : ∃ A cap, v = .slice A 0 cap := by
      rcases ho.2 with ⟨hv, _⟩ | ⟨g, cap, cur, hv, _⟩
      · exact ⟨none, 0, hv⟩
      · exact ⟨_, cap, hv⟩
    refine (reverseM_zero A cap w).mono ?_
    rintro e w' ⟨rfl, rfl⟩
    exact ⟨rfl, ho, Below.refl _ _⟩
  · have hp : 0 < l.length := List.length_pos_iff.2 h0
    obtain ⟨g, cap, rfl, hb, _⟩ := own_openN ho hp
    rw [List.length_reverse]
    exact reverseM_any l g base cap w hp hl hb ho
theorem rev_at (x : List UInt8) (k : Nat) (h : k < (mvL x).reverse.length) : ∃ a b : Nat, (mvL x).reverse[k].1 = a ∧ (mvL x).reverse[k].2 = b ∧ a < (str x).size ∧ b < (str x).size ∧ a ≠ b ∧ canM (str x) a b = true := by
  rw [List.getElem_reverse]
  exact mvL_at x _ _
set_option maxRecDepth 100000 in
set_option maxHeartbeats 8000000 in
theorem playOut_last (n : Nat) (l : List UInt8) (c0 c1 c2 c3 c4 c5 c6 c7 : Int) (K bm k : Nat) (D : DataW Unit) (w : World) (hc : Eight l c0 c1 c2 c3 c4 c5 c6 c7) (hg : goodT n l) (h8 : n ≤ 8) (hK : K ≤ 50000) (hm : w.ownsMap Tryd.prog 53 iRw bm k D) (hv : LiveV D (swA l)) :
    Calls Tryd.prog 48 #[.agg #[.int .u8 c0, .int .u8 c1, .int .u8 c2, .int .u8 c3, .int .u8 c4, .int .u8 c5, .int .u8 c6, .int .u8 c7, .int .i64 (K : Int), .map (some bm)], .bool true] w fun e w' => ∃ v, e = .returned v ∧ w'.ownsRow w.heap.size 64 2 v (exM true K l).length (flat (exM true K l)) ∧ Below w.heap.size w w' := by
  obtain ⟨i0, hi, hz0, hz1, hz2⟩ := info_parts Tryd.infoM
  have HI := Lib.hid hi
  have HZ0 := Lib.hid hz0
  have HZ1 := Lib.hid hz1
  have HZ2 := Lib.hid hz2
  have HGA := Lib.hid (fun x (hx : x ∈ swA l) => swA_good hg x hx)
  have HIN := Lib.hid (fun i => exN_in hg true i l (swA_root l))
  have HCL := Lib.hid (fun x v (hx : x ∈ swA l) (h : v ∈ nxL x) => swA_closed hg hx h)
  have HV := Lib.hid hv
  have HM := Lib.hid hm
  have HCE := Lib.hid hc
  have hlo := hm.lt
  clear hi hz0 hz1 hz2 hv hm hc
  go_enter Tryd.func48, Tryd.ntmps48
  go_wp2_with fail
  go_step3
  go_wp2_with fail
  go_step3
  go_wp2_with fail
  have hB0 : Below w.heap.size w ((w.alloc (.cells #[.int .u8 c0, .int .u8 c1, .int .u8 c2, .int .u8 c3, .int .u8 c4, .int .u8 c5, .int .u8 c6, .int .u8 c7, .int .i64 (K : Int), .map (some bm)] 57)).alloc (.cells #[.int .u8 c0, .int .u8 c1, .int .u8 c2, .int .u8 c3, .int .u8 c4, .int .u8 c5, .int .u8 c6, .int .u8 c7] 53)) := ((Below.refl _ w).alloc (Nat.le_refl _) _).alloc (by simp) _
  have hP0 : PoW ((w.alloc (.cells #[.int .u8 c0, .int .u8 c1, .int .u8 c2, .int .u8 c3, .int .u8 c4, .int .u8 c5, .int .u8 c6, .int .u8 c7, .int .i64 (K : Int), .map (some bm)] 57)).alloc (.cells #[.int .u8 c0, .int .u8 c1, .int .u8 c2, .int .u8 c3, .int .u8 c4, .int .u8 c5, .int .u8 c6, .int .u8 c7] 53)) w.heap.size bm k D l [] (.slice none 0 0) := by
    have h9 : (w.alloc (.cells #[.int .u8 c0, .int .u8 c1, .int .u8 c2, .int .u8 c3, .int .u8 c4, .int .u8 c5, .int .u8 c6, .int .u8 c7, .int .i64 (K : Int), .map (some bm)] 57)).cell? ⟨w.heap.size, 9, none⟩ = some (.map (some bm)) := by rw [World.cell?_alloc_new]; rfl
    have hm1 := HM.out.alloc (.cells #[.int .u8 c0, .int .u8 c1, .int .u8 c2, .int .u8 c3, .int .u8 c4, .int .u8 c5, .int .u8 c6, .int .u8 c7, .int .i64 (K : Int), .map (some bm)] 57)
    have hz : (w.alloc (.cells #[.int .u8 c0, .int .u8 c1, .int .u8 c2, .int .u8 c3, .int .u8 c4, .int .u8 c5, .int .u8 c6, .int .u8 c7, .int .i64 (K : Int), .map (some bm)] 57)).heap.size = w.heap.size + 1 := by simp
    generalize (w.alloc (.cells #[.int .u8 c0, .int .u8 c1, .int .u8 c2, .int .u8 c3, .int .u8 c4, .int .u8 c5, .int .u8 c6, .int .u8 c7, .int .i64 (K : Int), .map (some bm)] 57)) = wa at h9 hm1 hz ⊢
    have hx := Box8.new wa c0 c1 c2 c3 c4 c5 c6 c7
    have hx2 := hx
    rw [hz] at hx
    refine ⟨hm1.alloc _, ?_, hx.cells.range HCE.out, fun j hj => ?_, World.ownsRow_nil _ _ _ _, by simp; omega, hlo⟩
    · exact (((Below.refl _ wa).alloc (Nat.le_refl _) _).cell (p := ⟨w.heap.size, 9, none⟩) (by show w.heap.size < wa.heap.size; omega)).trans h9
    · unfold World.frozen?
      rw [hx]
      rcases (by omega : j = 0 ∨ j = 1 ∨ j = 2 ∨ j = 3 ∨ j = 4 ∨ j = 5 ∨ j = 6 ∨ j = 7) with rfl | rfl | rfl | rfl | rfl | rfl | rfl | rfl <;> rfl
  have HP0 := Lib.hid hP0
  have HB0 := Lib.hid hB0
  clear hP0 hB0
  go_loopg [5, 15] K (fun gk v t wr => ∃ i : Nat, i + gk = K ∧ t = .int .i64 i ∧ Hid (PoW wr w.heap.size bm k D (exN true i l) (exM true i l) v) ∧ Hid (Below w.heap.size w wr))
  case atStart => exact ⟨0, by omega, rfl, HP0, HB0⟩
  case round =>
    obtain ⟨i, hik, rfl, HP, HB⟩ := hrel
    obtain ⟨W, hW⟩ : ∃ W : World, W = wr := ⟨_, rfl⟩
    subst hW
    obtain ⟨G, hG⟩ : ∃ G : Nat, G = gk := ⟨_, rfl⟩
    subst hG
    obtain ⟨vF, hvF⟩ : ∃ v : Value, v = u5 := ⟨_, rfl⟩
    subst hvF
    clear HP0 HB0
    by_cases hlt : i < K
    · have hlti : (i : Int) < (K : Int) := by omega
      have hxin := HIN.out i
      have hgx := HGA.out _ hxin
      have HSN := Lib.hid (exM_snoc true i l)
      have hFL := exM_len true i l
      generalize exN true i l = x at HP hxin hgx HSN
      generalize exM true i l = F at HP HSN hFL
      have hx8 := (G8.of hgx h8).len
      have HX8 := Lib.hid hx8
      obtain ⟨d0, d1, d2, d3, d4, d5, d6, d7, hd⟩ := eight_of hx8
      have HD := Lib.hid hd
      have HMV := Lib.hid (fun wx => swpMoves_any n x wx hgx h8)
      have HBH := Lib.hid (fun a c wx ha hc hne => swBehind_any n x a c wx hgx h8 ha hc hne)
      rw [hd.val] at HMV HBH
      have HAT := Lib.hid (fun i (h : i < (mvL x).reverse.length) => rev_at x i h)
      have HMX := Lib.hid (fun i (h : i < (mvL x).reverse.length) => mv_nx (List.mem_reverse.1 (List.getElem_mem h)))
      have HXIN := Lib.hid hxin
      have HGX := Lib.hid hgx
      obtain ⟨q0, q1, q2, q3, q4, q5, q6, q7⟩ := (hd.at HP.out.ln).zero
      clear hd hxin hgx hx8
      go_wp2_with fail
      refine (HMV.out _).mono ?_
      rintro e w2 ⟨v2, rfl, ho2, hb2⟩
      have HBM := Lib.hid hb2
      have HRV := Lib.hid (reverse_mv (mvL x) v2 _ _ ho2 (by have := mvL_le x; have := HX8.out; omega))
      go_wp2_with fail
      refine HRV.out.mono ?_
      rintro e w3 ⟨rfl, ho3, hb3⟩
      clear ho2
      obtain ⟨A2, cap2, rfl, at2⟩ := at_of_own ho3
      have hb4 := HBM.out.trans hb3
      have HP2 := Lib.hid (HP.out.below hb4)
      have HB2 := Lib.hid (HB.out.trans (hb4.mono HB.out.size))
      have AT2 := Lib.hid at2
      clear at2 ho3 hb2 hb3 hb4 HBM HRV q0 q1 q2 q3 q4 q5 q6 q7 HMV HP HB
      have HPK : Hid (pickM true x = (mvL x).reverse.find? (lvM x)) := Lib.hid rfl
      have hMle : (mvL x).reverse.length ≤ 8 := by rw [List.length_reverse]; exact Nat.le_trans (mvL_le x) HX8.out
      generalize hMM : (mvL x).reverse = M at AT2 HAT HMX HPK hMle ⊢
      clear hMM
      go_wp2_with fail
      go_loopg [5, 24] M.length (fun gj s t wr => ∃ j : Nat, j + gj = M.length ∧ s = vF ∧ t = .int .i64 j ∧ Hid (∀ q (hq : q < M.length), q < j → lvM x M[q] = false) ∧ Hid (PoW wr w.heap.size bm k D x F vF) ∧ Hid (MvAt wr A2 M) ∧ Hid (Below w.heap.size w wr))
      case atStart => exact ⟨0, by omega, rfl, rfl, Lib.hid (fun q _ h => by omega), HP2, AT2, HB2⟩
      case round =>
        obtain ⟨j, hjk, hs5, rfl, HN, HPJ, HMA, HBJ⟩ := hrel
        subst hs5
        obtain ⟨V, hV⟩ : ∃ V : World, V = wr := ⟨_, rfl⟩
        subst hV
        clear HP2 HB2 AT2
        by_cases hltj : j < M.length
        · obtain ⟨a, c, e1, e2, ha, hc', hne, _⟩ := HAT.out j hltj
          have hyx := HMX.out j hltj
          obtain ⟨gm, rfl, hgm, m0, m1⟩ := HMA.out j hltj
          have hMj : M[j] = ((a : Int), (c : Int)) := Prod.ext e1 e2
          have HMJ := Lib.hid hMj
          rw [e1] at m0 hyx
          rw [e2] at m1 hyx
          have hHBH := fun wx => HBH.out a c wx ha hc' hne
          have hyin := HCL.out x _ HXIN.out hyx
          have hgy := nx_good HGX.out hyx
          have hlvM : lvM x M[j] = decide (0 < swN (behind (str x) (a : Int) (c : Int))) := by rw [hMj]; rfl
          have HBEH := Lib.hid (show behind (str x) M[j].1 M[j].2 = behind (str x) (a : Int) (c : Int) by rw [hMj])
          generalize behind (str x) (a : Int) (c : Int) = y at hHBH hyin hgy hlvM HBEH hyx
          have hdec : decide (0 < lvN (swA l) y) = lvM x M[j] := by
            rw [hlvM]
            unfold lvN
            rw [if_pos hyin]
          have HDEC := Lib.hid hdec
          have hy8 := G8.of hgy h8
          obtain ⟨e0, e1', e2', e3, e4, e5, e6, e7, he⟩ := eight_of hy8.len
          have HHAS := Lib.hid (fun wx hm => liveHas_any y (swA l) bm k D wx hy8 hm HV.out (fun z hz => G8.of (HGA.out z hz) h8))
          rw [he.val] at hHBH HHAS
          have HBH2 := Lib.hid hHBH
          have HEY := Lib.hid he
          have hjn : (j : Int) < (M.length : Int) := by omega
          clear e1 e2 hyx hHBH hyin hgy hlvM hy8 he hMj hne hdec
          go_upto_region 11 with fail
          generalize hV1 : V.alloc (Obj.cells #[Value.int IntKind.i64 ↑a, Value.int IntKind.i64 ↑c] 64) = V1
          have hbv1 : Below V.heap.size V V1 := by rw [← hV1]; exact (Below.refl _ _).alloc (Nat.le_refl _) _
          have p0 : V1.cell? ⟨V.heap.size, 0, none⟩ = some (.int .i64 a) := by rw [← hV1, World.cell?_alloc_new]; rfl
          have p1 : V1.cell? ⟨V.heap.size, 1, none⟩ = some (.int .i64 c) := by rw [← hV1, World.cell?_alloc_new]; rfl
          have zv1 : V.heap.size < V1.heap.size := by rw [← hV1]; simp
          obtain ⟨q0, q1, q2, q3, q4, q5, q6, q7⟩ := (HD.out.at (HPJ.out.below hbv1).ln).zero
          have HBV1 := Lib.hid hbv1
          clear hV1 m0 m1 hbv1
          go_wp2_with fail
          refine (HBH2.out _).mono ?_
          rintro e w3 ⟨rfl, hb3⟩
          have hbv : Below V.heap.size V w3 := HBV1.out.trans (hb3.mono HBV1.out.size)
          replace p0 := (hb3.cell (p := ⟨V.heap.size, 0, none⟩) zv1).trans p0
          replace p1 := (hb3.cell (p := ⟨V.heap.size, 1, none⟩) zv1).trans p1
          have zv : V.heap.size < w3.heap.size := Nat.lt_of_lt_of_le zv1 hb3.size
          have HP3 := Lib.hid (HPJ.out.below hbv)
          have HM3 := Lib.hid (HMA.out.below hbv)
          have HB3 := Lib.hid (HBJ.out.trans (hbv.mono HBJ.out.size))
          have bx3 := HP3.out.bx
          clear hb3 hbv q0 q1 q2 q3 q4 q5 q6 q7 bx3
          go_upto_region 12 with fail
          generalize hV3 : w3.alloc (Obj.cells #[.int .u8 e0, .int .u8 e1', .int .u8 e2', .int .u8 e3, .int .u8 e4, .int .u8 e5, .int .u8 e6, .int .u8 e7] 53) = V3
          have hbv3 : Below w3.heap.size w3 V3 := by rw [← hV3]; exact (Below.refl _ _).alloc (Nat.le_refl _) _
          have hx3 : Box8 V3 w3.heap.size e0 e1' e2' e3 e4 e5 e6 e7 := by rw [← hV3]; exact Box8.new _ _ _ _ _ _ _ _ _
          replace p0 := (hbv3.cell (p := ⟨V.heap.size, 0, none⟩) zv).trans p0
          replace p1 := (hbv3.cell (p := ⟨V.heap.size, 1, none⟩) zv).trans p1
          have zv3 : V.heap.size < V3.heap.size := Nat.lt_of_lt_of_le zv hbv3.size
          have HP4 := Lib.hid (HP3.out.below hbv3)
          have HM4 := Lib.hid (HM3.out.below hbv3)
          have HB4 := Lib.hid (HB3.out.trans (hbv3.mono HB3.out.size))
          have bx4 := HP4.out.bx
          have HX3 := Lib.hid hx3
          obtain ⟨r0, r1, r2, r3, r4, r5, r6, r7⟩ := hx3.cells.zero
          clear hV3 hbv3 hx3 HP3 HM3 HB3
          go_wp2_with fail
          refine (HHAS.out _ HP4.out.map).mono ?_
          rintro e w5 ⟨rfl, hb5⟩
          rw [HDEC.out]
          replace p0 := (hb5.cell (p := ⟨V.heap.size, 0, none⟩) zv3).trans p0
          replace p1 := (hb5.cell (p := ⟨V.heap.size, 1, none⟩) zv3).trans p1
          have HX5 := Lib.hid (HX3.out.kept (grown_of_below hb5) (by simp))
          have HP5 := Lib.hid (HP4.out.below hb5)
          have HM5 := Lib.hid (HM4.out.below hb5)
          have HB5 := Lib.hid (HB4.out.trans (hb5.mono HB4.out.size))
          have zv5 : V.heap.size < w5.heap.size := Nat.lt_of_lt_of_le zv3 hb5.size
          clear hb5 r0 r1 r2 r3 r4 r5 r6 r7 bx4 HX3 HP4 HM4 HB4
          cases hb : lvM x M[j]
          · have HN2 : Hid (∀ q (hq : q < M.length), q < j + 1 → lvM x M[q] = false) := Lib.hid (fun q hq hqj => by
              by_cases h : q < j
              · exact HN.out q hq h
              · obtain rfl : q = j := by omega
                exact hb)
            clear hb
            go_wp2_with fail
            go_roundg (gk - 1)
            case measure => omega
            case rel => exact ⟨j + 1, by omega, rfl, by go_num, HN2, HP5, HM5, HB5⟩
          · have HYES : Hid (exM true (i + 1) l = F ++ [((a : Int), (c : Int))] ∧ exN true (i + 1) l = y) := Lib.hid (by
              obtain ⟨h1, h2⟩ := HSN.out
              have h3 := find_at (lvM x) M j hltj (fun q hq => HN.out q (by omega) hq) hb
              rw [HPK.out, h3] at h1 h2
              refine ⟨by rw [h1]; simp [HMJ.out], ?_⟩
              rw [h2]
              exact HBEH.out)
            clear hb
            have hrow := HP5.out.row
            have hvo := fun g e => (HPJ.out.row.lt g e).2
            have H2 : ∀ u ∈ [Value.int .i64 (a : Int), Value.int .i64 (c : Int)], u.oneCell' = true := fun u hu => by simp at hu; rcases hu with rfl | rfl <;> rfl
            have H3 : F.length + 1 ≤ maxLen := by unfold maxLen; omega
            have H4 : (F.length + 1) * 16 ≤ 140737488355328 := by omega
            have H5 : w.heap.size + 2 ≤ (w5.alloc (Obj.cells #[.int .i64 (a : Int), .int .i64 (c : Int)] 64)).heap.size := by have := HP5.out.lt; simp; omega
            go_wp2_with (first | (at_builtin; refine wpList_append_own _ rfl _ _ 22 rfl (w.heap.size + 2) 64 i0 (.agg #[.int .i64 0, .int .i64 0]) 2 16 Tryd.underlying22 HI.out HZ0.out HZ1.out HZ2.out rfl (by decide) _ _ _ rfl (hrow.alloc _) ⟨w5.heap.size, 0, none⟩ 1 1 [.int .i64 (a : Int), .int .i64 (c : Int)] rfl rfl (cell_two_new _ _ _ _) H2 H3 H4 H5 ?_; intro v' w6 hown' hgrow _; obtain ⟨hm6, hb6, hl6, hf6, hz6⟩ := (HP5.out.below ((Below.refl _ w5).alloc (Nat.le_refl _) _)).grown hgrow; have hx6 := (HX5.out.kept (World.grownBy_alloc w5 (Obj.cells #[.int .i64 (a : Int), .int .i64 (c : Int)] 64) none) (by simp)).kept hgrow (fun e => by have := hvo _ e.symm; omega); obtain ⟨y0, y1, y2, y3, y4, y5, y6, y7⟩ := (HD.out.at hl6).zero; obtain ⟨z0, z1, z2, z3, z4, z5, z6, z7⟩ := hx6.cells.zero; have f0 := hf6 0 (by decide); have f1 := hf6 1 (by decide); have f2 := hf6 2 (by decide); have f3 := hf6 3 (by decide); have f4 := hf6 4 (by decide); have f5 := hf6 5 (by decide); have f6 := hf6 6 (by decide); have f7 := hf6 7 (by decide)))
            have hrow6 : w6.ownsRow (w.heap.size + 2) 64 2 v' (F ++ [((a : Int), (c : Int))]).length (flat (F ++ [((a : Int), (c : Int))])) := by
              have e1 : flat (F ++ [((a : Int), (c : Int))]) = flat F ++ [.int .i64 (a : Int), .int .i64 (c : Int)] := by simp [flat]
              rw [e1, List.length_append]
              exact hown'
            have HPN := Lib.hid (PoW.made hm6 hb6 hl6 HX8.out hf6 hz6 hlo hrow6 HEY.out)
            have HB6 := Lib.hid ((HB5.out.alloc HB5.out.size (Obj.cells #[.int .i64 (a : Int), .int .i64 (c : Int)] 64)).grown hgrow (by have := HB5.out.size; simp; omega) (fun g e => by have := (hrow.lt g e).1; omega))
            go_roundg (G - 1)
            case measure => omega
            case rel => exact ⟨i + 1, by omega, by go_num, by rw [HYES.out.1, HYES.out.2]; exact HPN, Lib.hid (Below.setCell (Below.setCell (Below.setCell (Below.setCell (Below.setCell (Below.setCell (Below.setCell (Below.setCell HB6.out (show w.heap.size ≤ w.heap.size + 1 by omega) _) (show w.heap.size ≤ w.heap.size + 1 by omega) _) (show w.heap.size ≤ w.heap.size + 1 by omega) _) (show w.heap.size ≤ w.heap.size + 1 by omega) _) (show w.heap.size ≤ w.heap.size + 1 by omega) _) (show w.heap.size ≤ w.heap.size + 1 by omega) _) (show w.heap.size ≤ w.heap.size + 1 by omega) _) (show w.heap.size ≤ w.heap.size + 1 by omega) _)⟩
        · obtain rfl : j = M.length := by omega
          have HNO : Hid (exM true (i + 1) l = F ∧ exN true (i + 1) l = x) := Lib.hid (by
            obtain ⟨h1, h2⟩ := HSN.out
            have h3 := find_no (lvM x) M (fun q hq => HN.out q hq hq)
            rw [HPK.out, h3] at h1 h2
            exact ⟨by simpa using h1, h2⟩)
          go_wp2_with fail
          go_roundg (G - 1)
          case measure => omega
          case rel => exact ⟨i + 1, by omega, by go_num, by rw [HNO.out.1, HNO.out.2]; exact HPJ, HBJ⟩
    · obtain rfl : i = K := by omega
      go_wp2_with fail
      (try rw [Exit.noGoto_ret])
      go_ret
      exact ⟨_, rfl, own_lowerW HP.out.row (by omega), HB.out⟩
end Go.Proofs.YtjadnfnpbacfdaaDoor
