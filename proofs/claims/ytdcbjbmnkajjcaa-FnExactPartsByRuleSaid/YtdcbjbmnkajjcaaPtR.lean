/- PartsByRule: the model's side, and the law's walk. -/
import Derived.Test.YtdcbjbmnkajjcaaPtQ
import Derived.Test.YtdcbjbmnkajjcaaRuD
import Derived.Test.YtdcbjbmnkajjcaaRuJ
import Derived.Test.YtdcbjbmnkajjcaaMany
import Derived.Test.YtdcbjbmnkajjcaaRuG
import Derived.Deep.RegionHeld3
import Derived.Deep.Cut
namespace Go.Proofs.Ytdcbjbmnkajjcaa
open Go.RowKit Go.Maps

set_option maxHeartbeats 400000 in
theorem l1LeastP_any (a b : Nat) (w : World) :
    Calls Try.prog 30 #[.int .i64 (a : Int), .int .i64 (b : Int)] w fun e w' => e = .returned (.int .i64 ((min a b : Nat) : Int)) ∧ w = w' := by
  by_cases h : a < b
  · have e : min a b = a := by omega
    have h2 : (a : Int) < (b : Int) := by omega
    rw [e]
    go_enter Try.func30, Try.ntmps30
    go_wp2
    go_ret
    exact ⟨rfl, rfl⟩
  · have e : min a b = b := by omega
    have h2 : ¬ (a : Int) < (b : Int) := by omega
    rw [e]
    go_enter Try.func30, Try.ntmps30
    go_wp2
    go_ret
    exact ⟨rfl, rfl⟩
set_option maxHeartbeats 400000 in
theorem l1MostP_any (a b : Nat) (w : World) :
    Calls Try.prog 31 #[.int .i64 (a : Int), .int .i64 (b : Int)] w fun e w' => e = .returned (.int .i64 ((max a b : Nat) : Int)) ∧ w = w' := by
  by_cases h : b < a
  · have e : max a b = a := by omega
    have h2 : (b : Int) < (a : Int) := by omega
    rw [e]
    go_enter Try.func31, Try.ntmps31
    go_wp2
    go_ret
    exact ⟨rfl, rfl⟩
  · have e : max a b = b := by omega
    have h2 : ¬ (b : Int) < (a : Int) := by omega
    rw [e]
    go_enter Try.func31, Try.ntmps31
    go_wp2
    go_ret
    exact ⟨rfl, rfl⟩
def lbs (P : List Nat) : List Value := P.map fun (n : Nat) => .int .i64 (n : Int)
theorem lbs_at (P : List Nat) (k : Nat) (h : k < P.length) : (lbs P)[k]? = some (.int .i64 (P.getD k 0 : Nat)) := by
  simp [lbs, h, List.getD_eq_getElem?_getD]
theorem lbs_set (P : List Nat) (k x : Nat) : (lbs P).set k (.int .i64 (x : Int)) = lbs (P.set k x) := by simp [lbs, List.map_set]
abbrev LbO (W : World) (g n : Nat) (P : List Nat) : Prop := W.ownsRow g 3 1 (.slice (some ⟨g, 0, none⟩) n n) n (lbs P)
theorem LbO.cell {W : World} {g n : Nat} {P : List Nat} (h : LbO W g n P) (hP : P.length = n) (k : Nat) (hk : k < n) : W.cell? ⟨g, k, none⟩ = some (.int .i64 (P.getD k 0 : Nat)) ∧ W.frozen? ⟨g, k, none⟩ = false :=
  ⟨(h.cellAt k (by omega)).trans (lbs_at P k (by omega)), h.frozenAt k⟩
theorem LbO.set {W : World} {g n : Nat} {P : List Nat} (h : LbO W g n P) (k x : Nat) : LbO (W.setCell ⟨g, k, none⟩ (.int .i64 (x : Int))) g n (P.set k x) := by
  have := (h.stored k (.int .i64 (x : Int))).1
  rwa [lbs_set] at this
theorem LbO.low {W W' : World} {g n : Nat} {P : List Nat} (h : LbO W g n P) (hb : Below W.heap.size W W') : LbO W' g n P := own_below h hb
/-- Labels written up to k. -/
def upTo (N k : Nat) : List Nat := List.range k ++ List.replicate (N - k) 0
theorem upTo_len (N k : Nat) (h : k ≤ N) : (upTo N k).length = N := by simp [upTo]; omega
theorem upTo_set (N k : Nat) (h : k < N) : (upTo N k).set k k = upTo N (k + 1) := by
  unfold upTo
  obtain ⟨m, hm⟩ : ∃ m, N - k = m + 1 := ⟨N - k - 1, by omega⟩
  rw [hm, show N - (k + 1) = m by omega, List.set_append_right _ _ (by simp), List.replicate_succ, List.range_succ]
  simp
theorem upTo_all (N : Nat) : upTo N N = List.range N := by simp [upTo]
/-- Labels, the first j turned. -/
def midP (F : Nat → Nat) (P : List Nat) (j : Nat) : List Nat := (P.take j).map F ++ P.drop j
theorem midP_len (F : Nat → Nat) (P : List Nat) (j : Nat) : (midP F P j).length = P.length := by
  have := congrArg List.length (List.take_append_drop j P)
  rw [List.length_append] at this
  simp only [midP, List.length_append, List.length_map]
  exact this
theorem midP_zero (F : Nat → Nat) (P : List Nat) : midP F P 0 = P := by simp [midP]
theorem midP_all (F : Nat → Nat) (P : List Nat) : midP F P P.length = P.map F := by simp [midP]
theorem midP_at (F : Nat → Nat) (P : List Nat) (j : Nat) (h : j < P.length) : (midP F P j).getD j 0 = P.getD j 0 := by
  unfold midP
  rw [List.getD_eq_getElem?_getD, List.getElem?_append_right (by simp; omega)]
  simp [List.getD_eq_getElem?_getD, Nat.min_eq_left (Nat.le_of_lt h)]
theorem midP_set (F : Nat → Nat) (P : List Nat) (j : Nat) (h : j < P.length) : (midP F P j).set j (F (P.getD j 0)) = midP F P (j + 1) := by
  unfold midP
  rw [List.set_append_right _ _ (by simp; omega), List.take_succ_eq_append_getElem h, List.map_append]
  have e : j - (List.map F (List.take j P)).length = 0 := by simp; omega
  rw [e, List.drop_eq_getElem_cons h, List.set_cons_zero, List.append_assoc]
  have h2 : P.getD j 0 = P[j] := by rw [List.getD_eq_getElem?_getD, List.getElem?_eq_getElem h]; rfl
  rw [h2]
  rfl
theorem midP_same (F : Nat → Nat) (P : List Nat) (j : Nat) (h : j < P.length) (hF : F (P.getD j 0) = P.getD j 0) : midP F P j = midP F P (j + 1) := by
  rw [← midP_set F P j h, hF]
  refine List.ext_getElem? fun i => ?_
  rw [List.getElem?_set]
  by_cases e : j = i
  · subst e
    have h1 := midP_at F P j h
    have hl : j < (midP F P j).length := by rw [midP_len]; exact h
    rw [if_pos rfl, if_pos hl, List.getElem?_eq_getElem hl]
    rw [List.getD_eq_getElem?_getD, List.getElem?_eq_getElem hl] at h1
    simpa using h1
  · rw [if_neg e]
theorem Try.infoNP : (Try.prog.info? 3).map (fun i => (i.zero, i.size, i.bytes)) = some (some (.int .i64 0), 1, 8) := by kernel_rfl
theorem ranks_any {t g f : Int} (x : List UInt8) (w : World) (hx : LnOf t g f x) (hc : thrR t g f = true) :
    Calls Try.prog 29 #[.string (str x)] w fun e w' => e = .returned (.tuple #[.int .i64 (rkN x : Nat), .bool true]) ∧ w = w' := by
  have hg := hx.good hc
  have h := sRank_any (str x) w (by rw [str_size]; have := hg.2; unfold maxLen; omega)
  rw [hg.1, rkAt_all, byt_str, (hx.rank hc).1] at h
  exact h
theorem mvAt_setP {W : World} {A : Option Addr} {l : List (Int × Int)} (h : MvAt W A l) (g k : Nat) (u : Value) (hne : ∀ a, A = some a → a.block ≠ g) : MvAt (W.setCell ⟨g, k, none⟩ u) A l := by
  intro i hi
  obtain ⟨g2, a, b, c, d⟩ := h i hi
  have hn : g2 ≠ g := hne _ a
  exact ⟨g2, a, by simpa using b, (World.cell?_setCell_other _ _ _ _ (by intro e; injection e with e _; exact hn e.symm)).trans c, (World.cell?_setCell_other _ _ _ _ (by intro e; injection e with e _; exact hn e.symm)).trans d⟩
set_option maxRecDepth 100000 in
set_option maxHeartbeats 8000000 in
theorem sPartsBy_any (t g f : Int) (o b l : Bool) (w : World) :
    Calls Try.prog 11 #[.int .i64 t, .int .i64 g, .int .i64 f, ruV o b l] w fun e w' => e = .returned (ptV t g f o l) ∧ Below w.heap.size w w' := by
  cases hc : thrR t g f
  · have hV : Hid (ptV t g f o l = .tuple #[.int .i64 0, .bool false]) := Lib.hid (by unfold ptV; rw [hc]; rfl)
    have hC := Lib.hid hc
    clear hc
    go_enter Try.func11, Try.ntmps11
    go_wp2_with fail
    refine (ruThree_any _ _ _ _).mono ?_; rintro e w1 ⟨rfl, hb1⟩; rw [hC.out]
    have HB := Lib.hid (((Below.refl w.heap.size w).alloc (Nat.le_refl _) (ruO o b l)).trans (hb1.mono (by simp)))
    clear hb1
    go_wp2
    go_ret2
    exact ⟨by rw [hV.out]; rfl, HB.out⟩
  · obtain ⟨i0, hi, hz0, hz1, hz2⟩ := info_parts Try.infoNP
    have HI := Lib.hid hi
    have HZ0 := Lib.hid hz0
    have HZ1 := Lib.hid hz1
    have HVV : Hid (ptV t g f o l = .tuple #[.int .i64 (ptN o l t g f (manyK t g f)), .bool true]) := Lib.hid (by unfold ptV; rw [if_pos hc])
    have HL := Lib.hid (fun wx => ruLines_any t g f wx hc)
    have hN1 := (many8 hc).2
    have HLN : Hid (∀ k, k < manyK t g f → LnOf t g f (lnk t g f k) ∧ goodL (str (lnk t g f k)) = true ∧ (str (lnk t g f k)).size ≤ 8) := Lib.hid fun k hk => by
      have h1 := (lnk_of hc hk).1
      have h2 := h1.good hc
      have h8 := (thrR_iff t g f).1 hc
      exact ⟨h1, h2.1, by rw [str_size]; have := h2.2.1; omega⟩
    have HNX : Hid (∀ x y, LnOf t g f x → y ∈ nxR o b l x → LnOf t g f y) := Lib.hid fun x y h1 h2 => h1.next h2
    have HRK : Hid (∀ x wx, LnOf t g f x → Calls Try.prog 29 #[.string (str x)] wx fun e w' => e = .returned (.tuple #[.int .i64 (rkN x : Nat), .bool true]) ∧ wx = w') := Lib.hid fun x wx h => ranks_any x wx h hc
    have HRL : Hid (∀ x, LnOf t g f x → rkN x < manyK t g f) := Lib.hid fun x h => (h.rank hc).2.1
    have HMG : Hid (∀ P i0 m0 y, PtI o b l t g f P i0 m0 → i0 < manyK t g f → (nxR o b l (lnk t g f i0))[m0]? = some y → PtI o b l t g f (P.map (mgF (P.getD i0 0) (P.getD (rkN y) 0))) i0 (m0 + 1)) := Lib.hid fun P i0 m0 y h h1 h2 => h.merge hc h1 h2
    have HFN : Hid (∀ P i, PtI o b l t g f P (manyK t g f) 0 → i < manyK t g f → (P.getD i 0 = i ↔ lstB o l t g f i = true)) := Lib.hid fun P i h h1 => h.fin hc h1
    have HST := Lib.hid (PtI.start o b l t g f)
    have HLE : Hid (∀ P i0 m0, PtI o b l t g f P i0 m0 → P.length = manyK t g f) := Lib.hid fun P i0 m0 h => h.len
    have HAT := Lib.hid (fun (k : Nat) (h : k < manyK t g f) => lns_at t g f h)
    have HPS := Lib.hid (fun k => ptN_succ o l t g f k)
    have HPL := Lib.hid (fun k => ptN_le o l t g f k)
    have hC := Lib.hid hc
    clear hc
    unfold LnPost at HL
    generalize manyK t g f = N at HL hN1 HLN HAT HVV HRL HMG HFN HST HLE
    have b2 : i0.bytes * N ≤ 281474976710656 := by rw [hz2]; omega
    have b3 : N ≤ maxLen := by unfold maxLen; omega
    clear hi hz0 hz1 hz2
    go_enter Try.func11, Try.ntmps11
    go_wp2_with fail
    refine (ruThree_any _ _ _ _).mono ?_; rintro e w1 ⟨rfl, hb1⟩; rw [hC.out]
    have HX1 := Lib.hid ((RuBx.new w o b l 27).below hb1)
    have HB1 := Lib.hid (((Below.refl w.heap.size w).alloc (Nat.le_refl _) (ruO o b l)).trans (hb1.mono (by simp)))
    clear hb1
    go_wp2_with fail
    refine (HL.out _).mono ?_
    rintro e w2 ⟨v, rfl, ho, hb2⟩
    obtain ⟨A, cap, rfl⟩ := lnsFormP ho
    have HX2 := Lib.hid (HX1.out.below hb2)
    have HB2 := Lib.hid (HB1.out.trans (hb2.mono HB1.out.size))
    have HO2 := Lib.hid ho
    clear ho hb2 HX1 HB1 HL
    go_wp2_with (first | (at_make; refine wpList_make_full _ rfl _ _ 37 rfl w2.heap.size 3 i0 (.int .i64 0) 1 Try.underlying37 HI.out HZ0.out HZ1.out .i64 .i64 _ _ N rfl rfl rfl rfl b2 b3 (Nat.le_refl _) ?_; intro w3 ho3 hg3))
    have e0 : (madeCells (Value.int .i64 0).cells (N * 1)).toList = lbs (upTo N 0) := by
      rw [Nat.mul_one, made_one (.int .i64 0) rfl N]; simp [lbs, upTo]
    rw [e0] at ho3
    have HO3 : Hid (LbO w3 w2.heap.size N (upTo N 0)) := Lib.hid ho3
    have HB3 := Lib.hid ((Below.refl w2.heap.size w2).grown hg3 (Nat.le_refl _) (by simp))
    clear ho3 hg3 e0 b2 b3
    go_wp2_with fail
    go_loopw [40] (fun q wr => ∃ k : Nat, k ≤ N ∧ q = .int .i64 k ∧ Hid (LbO wr w2.heap.size N (upTo N k)) ∧ Hid (Below w2.heap.size w2 wr)) (fun q _ => N - (intOf q).toNat)
    case atStart => exact ⟨0, Nat.zero_le _, rfl, HO3, HB3⟩
    case round =>
      obtain ⟨k, hk, rfl, HO, HB⟩ := hrel
      obtain ⟨W, hW⟩ : ∃ W : World, W = wr := ⟨_, rfl⟩
      subst hW
      clear HO3 HB3
      by_cases hlt : k < N
      · have i1 : (0 : Int) ≤ (k : Int) := by omega
        have i2 : (k : Int) < (N : Int) := by omega
        obtain ⟨ck, fk⟩ := HO.out.cell (upTo_len N k hk) k hlt
        have HS := Lib.hid (HO.out.set k k)
        rw [upTo_set N k hlt] at HS
        go_wp2_with fail
        go_roundw
        case rel => exact ⟨k + 1, by omega, by go_num, HS, Lib.hid (HB.out.setCell (Nat.le_refl _) _)⟩
        case measure => simp [intOf]; omega
      · obtain rfl : k = N := by omega
        rw [upTo_all] at HO
        go_wp2_with fail
        go_loopw [50] (fun q wr => ∃ (j : Nat) (P : List Nat), j ≤ k ∧ q = .int .i64 j ∧ Hid (PtI o b l t g f P j 0) ∧ Hid (LbO wr w2.heap.size k P) ∧ Hid (Below w2.heap.size w2 wr)) (fun q _ => k - (intOf q).toNat)
        case atStart => exact ⟨0, _, Nat.zero_le _, rfl, HST, HO, HB⟩
        case round =>
          obtain ⟨i, P, hi, rfl, HP, HO, HB⟩ := hrel
          obtain ⟨V, hV⟩ : ∃ V : World, V = wr := ⟨_, rfl⟩
          subst hV
          have hPl := HLE.out _ _ _ HP.out
          by_cases hlt : i < k
          · have i1 : (0 : Int) ≤ (i : Int) := by omega
            have i2 : (i : Int) < (k : Int) := by omega
            obtain ⟨gs, hA, hgs0, hgs, hcl⟩ := lnsRowP (own_below HO2.out HB.out) hlt
            rw [HAT.out i hlt] at hcl
            subst hA
            obtain ⟨hof, hgl, hx8⟩ := HLN.out i hlt
            have HMV : Hid (∀ wx, Calls Try.prog 16 #[.string (str (lnk t g f i)), ruV o b l] wx (SpPost wx (ruTo (str (lnk t g f i)) o b l (str (lnk t g f i)).size))) := Lib.hid (fun wx => ruMoves_any (str (lnk t g f i)) o b l wx hgl)
            have HNXL : Hid ((nxR o b l (lnk t g f i)).length = (ruTo (str (lnk t g f i)) o b l (str (lnk t g f i)).size).length) := Lib.hid (nxR_len o b l _)
            have HYS : Hid (∀ j (h : j < (ruTo (str (lnk t g f i)) o b l (str (lnk t g f i)).size).length), ∃ a c : Nat, (ruTo (str (lnk t g f i)) o b l (str (lnk t g f i)).size)[j] = ((a : Int), (c : Int)) ∧ a < (str (lnk t g f i)).size ∧ c < (str (lnk t g f i)).size ∧ a ≠ c ∧ (nxR o b l (lnk t g f i))[j]? = some (putL (str (lnk t g f i)) a c)) := Lib.hid fun j h => by
              obtain ⟨a, c, e1, e2, h1, h2, h3⟩ := rrMv h
              refine ⟨a, c, Prod.ext e1 e2, h1, h2, h3, ?_⟩
              unfold nxR
              rw [List.getElem?_map, List.getElem?_eq_getElem h]
              simp only [Option.map_some]
              rw [show behind (str (lnk t g f i)) _ _ = putL (str (lnk t g f i)) a c by rw [e1, e2]; rfl]
            have hML : (ruTo (str (lnk t g f i)) o b l (str (lnk t g f i)).size).length ≤ 1000 := by
              have h1 := ruTo_le (str (lnk t g f i)) o b l (str (lnk t g f i)).size
              have : (str (lnk t g f i)).size * (str (lnk t g f i)).size ≤ 8 * 8 := Nat.mul_le_mul hx8 hx8
              omega
            have HROW := Lib.hid (fun (P : List Nat) (m0 : Nat) (h : PtI o b l t g f P i m0) => h.row (m0 := m0))
            have HMGI := Lib.hid (fun P m0 y h => HMG.out P i m0 y h hlt)
            have HLY := Lib.hid (fun y => HNX.out (lnk t g f i) y hof)
            generalize ruTo (str (lnk t g f i)) o b l (str (lnk t g f i)).size = M at HMV HNXL HYS hML
            generalize nxR o b l (lnk t g f i) = NY at HNXL HYS HROW HMGI HLY
            generalize lnk t g f i = x at hcl HMV HYS hx8
            obtain ⟨z8, q0, q1, q2⟩ := HX2.out.below HB.out
            clear hof hgl
            go_wp2_with fail
            refine (HMV.out _).mono ?_
            rintro e w4 ⟨v4, rfl, ho4, hb4⟩
            obtain ⟨A4, cap4, rfl, at4⟩ := at_of_own ho4
            have HNG : Hid (∀ a, A4 = some a → a.block ≠ w2.heap.size) := Lib.hid fun a e => by
              have h1 := (ho4.lt a.block (by rw [e]; rfl)).1
              obtain ⟨g', hg'⟩ : ∃ g', g' = w2.heap.size := ⟨_, rfl⟩
              rcases HO.out.2 with ⟨hv, _⟩ | ⟨gg, cap, cur, hv, _, hg, _⟩
              · cases hv
              · have h2 := (Array.getElem?_eq_some_iff.1 hg).1
                injection hv with hv _ _
                injection hv with hv
                injection hv with hv
                omega
            have HO4 := Lib.hid (own_below HO.out hb4)
            have HB4 := Lib.hid (HB.out.trans (hb4.mono HB.out.size))
            have HA4 := Lib.hid at4
            clear ho4 at4 hb4 q0 q1 q2 z8
            go_wp2_with fail
            go_loopw [59] (fun q wr => ∃ (j : Nat) (P : List Nat), j ≤ M.length ∧ q = .int .i64 j ∧ Hid (PtI o b l t g f P i j) ∧ Hid (LbO wr w2.heap.size k P) ∧ Hid (MvAt wr A4 M) ∧ Hid (Below w2.heap.size w2 wr)) (fun q _ => M.length - (intOf q).toNat)
            case atStart => exact ⟨0, P, Nat.zero_le _, rfl, HP, HO4, HA4, HB4⟩
            case round =>
              clear HO4 HA4 HB4 HP hPl HO HB hcl
              obtain ⟨j, P, hj, rfl, HP, HO, HA, HB⟩ := hrel
              obtain ⟨U, hU⟩ : ∃ U : World, U = wr := ⟨_, rfl⟩
              subst hU
              have hPl := HLE.out _ _ _ HP.out
              by_cases hltj : j < M.length
              · obtain ⟨gm, rfl, zg, p0, p1⟩ := HA.out j hltj
                obtain ⟨a, c, hac, ha, hc, hne, hy⟩ := HYS.out j hltj
                rw [hac] at p0 p1
                have hym : putL (str x) a c ∈ NY := List.mem_of_getElem? hy
                have hly := HLY.out _ hym
                have HRY := Lib.hid (fun wx => HRK.out _ wx hly)
                have hry := HRL.out _ hly
                have HPN := Lib.hid (HMGI.out P j _ HP.out hy)
                have HMK := Lib.hid (fun wx => liMake_any (str x) a c wx (by omega) ha hc hne)
                generalize putL (str x) a c = y at HRY hry HPN HMK
                generalize rkN y = r at HRY hry HPN
                obtain ⟨ci, _⟩ := HO.out.cell hPl i hlt
                obtain ⟨cr, _⟩ := HO.out.cell hPl r hry
                generalize P.getD i 0 = pa at ci HPN
                generalize P.getD r 0 = pb at cr HPN
                have j1 : (0 : Int) ≤ (j : Int) := by omega
                have j2 : (j : Int) < (M.length : Int) := by omega
                have r1 : (0 : Int) ≤ (r : Int) := by omega
                have r2 : (r : Int) < (k : Int) := by omega
                have HGB : Hid (w2.heap.size < U.heap.size) := Lib.hid (by
                  rcases HO.out.2 with ⟨hv, _⟩ | ⟨gg, cap, cur, hv, _, hg, _⟩
                  · cases hv
                  · have h2 := (Array.getElem?_eq_some_iff.1 hg).1
                    injection hv with hv _ _
                    injection hv with hv
                    injection hv with hv
                    omega)
                clear hac ha hc hne hy hym hly
                go_upto_region 16 with fail
                generalize hV1 : U.alloc (Obj.cells #[Value.int IntKind.i64 ↑a, Value.int IntKind.i64 ↑c] 44) = V1
                have hbv : Below U.heap.size U V1 := by rw [← hV1]; exact (Below.refl _ _).alloc (Nat.le_refl _) _
                have s0 : V1.cell? ⟨U.heap.size, 0, none⟩ = some (.int .i64 a) := by rw [← hV1, World.cell?_alloc_new]; rfl
                have s1 : V1.cell? ⟨U.heap.size, 1, none⟩ = some (.int .i64 c) := by rw [← hV1, World.cell?_alloc_new]; rfl
                clear hV1 p0 p1
                go_wp2_with fail
                refine (HMK.out _).mono ?_
                rintro e w6 ⟨rfl, hb6⟩
                have hb06 := hbv.trans (hb6.mono hbv.size)
                clear hb6 hbv s0 s1
                go_wp2_with fail
                refine (HRY.out _).mono ?_
                rintro e w7 ⟨rfl, rfl⟩
                have ci6 := (hb06.cell (p := ⟨w2.heap.size, i, none⟩) HGB.out).trans ci
                have cr6 := (hb06.cell (p := ⟨w2.heap.size, r, none⟩) HGB.out).trans cr
                have HO6 := Lib.hid (own_below HO.out hb06)
                have HA6 := Lib.hid (HA.out.below hb06)
                have HB6 := Lib.hid (HB.out.trans (hb06.mono HB.out.size))
                clear ci cr hb06 zg
                go_upto_region 17 with fail
                go_region_held3 (fun w' => w'.cell? ⟨w2.heap.size, i, none⟩ = some (.int .i64 (pa : Int)) ∧ w'.cell? ⟨w2.heap.size, r, none⟩ = some (.int .i64 (pb : Int))) (exact ⟨ci6, cr6⟩) (first | (go_at_call 30; refine (l1LeastP_any pa pb _).mono ?_; rintro e wa ⟨rfl, rfl⟩) | (go_at_call 31; refine (l1MostP_any pa pb _).mono ?_; rintro e wa ⟨rfl, rfl⟩))
                rename_i hHeld
                clear hHeld ci6 cr6
                have hbd : Below w6.heap.size w6 w6.drew := (Below.refl w6.heap.size w6).drew
                have HO8 := Lib.hid (own_below HO6.out hbd)
                have HA8 := Lib.hid (HA6.out.below hbd)
                have HB8 := Lib.hid (HB6.out.trans (hbd.mono HB6.out.size))
                have HFF : Hid (∀ p, mgF pa pb p = if p = max pa pb then min pa pb else p) := Lib.hid fun p => rfl
                clear hbd HO6 HA6 HB6
                generalize w6.drew = w8 at HO8 HA8 HB8
                generalize mgF pa pb = F at HPN HFF
                generalize max pa pb = hi at HFF
                generalize min pa pb = lo at HFF
                go_wp2_with fail
                go_loopw [90] (fun q wr => ∃ s : Nat, s ≤ k ∧ q = .int .i64 s ∧ Hid (LbO wr w2.heap.size k (midP F P s)) ∧ Hid (MvAt wr (some ⟨gm, 0, none⟩) M) ∧ Hid (Below w2.heap.size w2 wr)) (fun q _ => k - (intOf q).toNat)
                case atStart => exact ⟨0, Nat.zero_le _, rfl, by rw [midP_zero]; exact HO8, HA8, HB8⟩
                case round =>
                  clear HO8 HA8 HB8
                  obtain ⟨s, hs, rfl, HOs, HAs, HBs⟩ := hrel
                  by_cases hlts : s < k
                  · obtain ⟨cs, fs⟩ := HOs.out.cell (by rw [midP_len]; exact hPl) s hlts
                    rw [midP_at F P s (by omega)] at cs
                    have hset := midP_set F P s (by omega)
                    have hsame := midP_same F P s (by omega)
                    rw [HFF.out] at hset hsame
                    have s1 : (0 : Int) ≤ (s : Int) := by omega
                    have s2 : (s : Int) < (k : Int) := by omega
                    generalize P.getD s 0 = p at cs hset hsame
                    by_cases hp : p = hi
                    · subst hp
                      rw [if_pos rfl] at hset
                      have HS := Lib.hid (HOs.out.set s lo)
                      rw [hset] at HS
                      have heq : ((p : Int) == (p : Int)) = true := by simp
                      clear hset hsame
                      go_wp2_with fail
                      go_roundw
                      case rel => exact ⟨s + 1, by omega, by go_num, HS, Lib.hid (mvAt_setP HAs.out _ _ _ HNG.out), Lib.hid (HBs.out.setCell (Nat.le_refl _) _)⟩
                      case measure => simp [intOf]; omega
                    · rw [if_neg hp] at hsame
                      have hsm := hsame rfl
                      rw [hsm] at HOs
                      have heq : ((p : Int) == (hi : Int)) = false := by simp; omega
                      clear hset hsame hsm
                      go_wp2_with fail
                      go_roundw
                      case rel => exact ⟨s + 1, by omega, by go_num, HOs, HAs, HBs⟩
                      case measure => simp [intOf]; omega
                  · obtain rfl : s = k := by omega
                    have HOE : Hid (LbO wr w2.heap.size s (P.map F)) := Lib.hid (by have := HOs.out; rwa [show midP F P s = P.map F by rw [← midP_all F P, hPl]] at this)
                    go_wp2_with fail
                    go_roundw
                    case rel => exact ⟨j + 1, P.map F, by omega, by go_num, HPN, HOE, HAs, HBs⟩
                    case measure => simp [intOf]; omega
              · obtain rfl : j = M.length := by omega
                have HPR := Lib.hid (HROW.out P _ HP.out (by rw [HNXL.out]; exact Nat.le_refl _))
                go_wp2_with fail
                go_roundw
                case rel => exact ⟨i + 1, P, by omega, by go_num, HPR, HO, HB⟩
                case measure => simp [intOf]; omega
          · obtain rfl : i = k := by omega
            have HFI := Lib.hid (fun j hj => HFN.out P j HP.out hj)
            go_wp2_with fail
            go_loopw [23, 107] (fun n q wr => ∃ j : Nat, j ≤ i ∧ q = .int .i64 j ∧ n = .int .i64 (ptN o l t g f j) ∧ Hid (wr = V)) (fun _ q _ => i - (intOf q).toNat)
            case atStart => exact ⟨0, Nat.zero_le _, rfl, rfl, Lib.hid rfl⟩
            case round =>
              obtain ⟨j, hj, rfl, rfl, HW⟩ := hrel
              obtain rfl := HW.out
              by_cases hltj : j < i
              · obtain ⟨cj, _⟩ := HO.out.cell hPl j hltj
                have hif := HFI.out j hltj
                have hps := HPS.out j
                have hpl := HPL.out j
                generalize P.getD j 0 = p at cj hif
                generalize ptN o l t g f j = n at hps hpl
                have j1 : (0 : Int) ≤ (j : Int) := by omega
                have j2 : (j : Int) < (i : Int) := by omega
                have n1 : (0 : Int) ≤ (n : Int) := by omega
                have n2 : (n : Int) ≤ 1000 := by omega
                by_cases hp : p = j
                · have HE : Hid (ptN o l t g f (j + 1) = n + 1) := Lib.hid (by rw [hps, if_pos (hif.1 hp)])
                  subst hp
                  have heq : ((p : Int) == (p : Int)) = true := by simp
                  clear hif hps
                  go_wp2_with fail
                  go_roundw
                  case rel => exact ⟨p + 1, by omega, by go_num, by rw [HE.out]; go_num, by first | exact Lib.hid rfl | exact Lib.hid trivial⟩
                  case measure => simp [intOf]; omega
                · have HE : Hid (ptN o l t g f (j + 1) = n) := Lib.hid (by rw [hps, if_neg (fun h => hp (hif.2 h))]; rfl)
                  have heq : ((p : Int) == (j : Int)) = false := by simp; omega
                  clear hif hps
                  go_wp2_with fail
                  go_roundw
                  case rel => exact ⟨j + 1, by omega, by go_num, by rw [HE.out], by first | exact Lib.hid rfl | exact Lib.hid trivial⟩
                  case measure => simp [intOf]; omega
              · obtain rfl : j = i := by omega
                go_wp2_with fail
                go_ret2
                exact ⟨by rw [HVV.out]; rfl, HB2.out.trans (HB.out.mono HB2.out.size)⟩
set_option maxRecDepth 100000 in
set_option maxHeartbeats 4000000 in
theorem walk_FnExactPartsByRule (t : Int) (_ : (Lit.int .i64 t).wf = true) (g : Int) (_ : (Lit.int .i64 g).wf = true) (f : Int) (_ : (Lit.int .i64 f).wf = true) (o b l : Bool) (w : World) :
    Calls Try.prog 4 #[.int .i64 t, .int .i64 g, .int .i64 f, ruV o b l] w fun e w' => e = .returned (.bool true) ∧ Below w.heap.size w w' := by
  have HS := Lib.hid (fun wx => sPartsBy_any t g f o b l wx)
  have HM := Lib.hid (fun wx => partsBy_any t g f o b l wx)
  obtain ⟨x, y, hxy⟩ := ptV_open t g f o l
  rw [hxy] at HS HM
  clear hxy
  go_enter Try.func4, Try.ntmps4
  go_wp2_with fail
  refine (toRule_any o b l _).mono ?_
  rintro e w0 ⟨rfl, hb0⟩
  have HB0 := Lib.hid (((Below.refl w.heap.size w).alloc (Nat.le_refl _) (Obj.cells #[.bool o, .bool b, .bool l] 23)).trans (hb0.mono (by simp)))
  have HX0 := Lib.hid ((RuBx.new w o b l 23).below hb0)
  clear hb0
  go_wp2_with fail
  refine (HS.out _).mono ?_
  rintro e w1 ⟨rfl, hb1⟩
  have HX1 := Lib.hid (HX0.out.below hb1)
  have HB1 := Lib.hid (HB0.out.trans (hb1.mono HB0.out.size))
  clear hb1 HX0 HB0
  obtain ⟨_, x0, x1, x2⟩ := HX1.out
  go_wp2_with fail
  refine (toRule_any o b l _).mono ?_
  rintro e w2 ⟨rfl, hb2⟩
  clear x0 x1 x2
  have HB2 := Lib.hid (HB1.out.trans (hb2.mono HB1.out.size))
  clear hb2
  go_wp2_with fail
  refine (HM.out _).mono ?_
  rintro e w3 ⟨rfl, hb3⟩
  have HB3 := Lib.hid (HB2.out.trans (hb3.mono HB2.out.size))
  clear hb3
  go_wp2
  go_ret
  exact ⟨rfl, HB3.out⟩
end Go.Proofs.Ytdcbjbmnkajjcaa
