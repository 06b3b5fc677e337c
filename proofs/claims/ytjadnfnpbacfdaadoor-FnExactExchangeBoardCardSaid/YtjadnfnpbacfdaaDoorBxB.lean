/- The exchange of a board, told by the moves in a column and in a row (no walk). -/
import Derived.Test.YtjadnfnpbacfdaaDoorSwHa
import Derived.Test.YtjadnfnpbacfdaaDoorSwG
import Derived.Test.YtjadnfnpbacfdaaDoorBdG
import Derived.Test.YtjadnfnpbacfdaaDoorBdM
import Derived.Test.YtjadnfnpbacfdaaDoorBdYi
import Derived.Test.YtjadnfnpbacfdaaDoorSwR
import Derived.Deep.Cut
import Derived.Deep.LoopGhost
namespace Go.Proofs.YtjadnfnpbacfdaaDoor
open Go.RowKit

/-- A move of the middle column, or of a row. -/
def colm (wd wide : Nat) (d : Int × Int) : Int × Int := (d.1 * wd + wide, d.2 * wd + wide)
def rowm (wd : Nat) (gap : Int) (m : Int × Int) : Int × Int := (gap * wd + m.1, gap * wd + m.2)
section
variable (wd wide hg : Nat) (A D : List (Int × Int))
/-- Where the gap is behind k moves of the column. -/
def gapk : Nat → Int
  | 0 => hg
  | k + 1 => (D.getD k (0, 0)).1
/-- Where it was before. -/
def gaps (k : Nat) : List Int := (List.range k).map (gapk hg D)
/-- The moves in the row of the gap, if it is there for the first time. -/
def rowsk (k : Nat) : List (Int × Int) := if gapk hg D k ∈ gaps hg D k then [] else A.map (rowm wd (gapk hg D k))
/-- All moves behind k moves of the column; before the row's. -/
def xbY : Nat → List (Int × Int)
  | 0 => []
  | k + 1 => xbY k ++ rowsk wd hg A D k ++ [colm wd wide (D.getD k (0, 0))]
def xbX (k : Nat) : List (Int × Int) := xbY wd wide hg A D k ++ rowsk wd hg A D k
theorem xbY_next (k : Nat) : xbY wd wide hg A D (k + 1) = xbX wd wide hg A D k ++ [colm wd wide (D.getD k (0, 0))] := rfl
theorem xbX_zero : xbX wd wide hg A D 0 = A.map (rowm wd hg) := by simp [xbX, xbY, rowsk, gaps, gapk]
theorem gaps_next (k : Nat) : gaps hg D (k + 1) = gaps hg D k ++ [gapk hg D k] := by simp [gaps, List.range_succ]
theorem rowsk_len (k : Nat) : (rowsk wd hg A D k).length ≤ A.length := by
  unfold rowsk
  split <;> simp
theorem xbY_len : ∀ k, (xbY wd wide hg A D k).length ≤ k * (A.length + 1)
  | 0 => by simp [xbY]
  | k + 1 => by
    have h1 := xbY_len k
    have h2 := rowsk_len wd hg A D k
    have h3 : (k + 1) * (A.length + 1) = k * (A.length + 1) + (A.length + 1) := by rw [Nat.succ_mul]
    rw [xbY_next]
    unfold xbX
    rw [List.length_append, List.length_append, List.length_singleton]
    omega
theorem xbX_len (k : Nat) : (xbX wd wide hg A D k).length ≤ k * (A.length + 1) + A.length := by
  have h1 := xbY_len wd wide hg A D k
  have h2 := rowsk_len wd hg A D k
  unfold xbX
  rw [List.length_append]
  omega
end
/-- The moves of an exchange of n toads, one gap, n frogs, and where they lie. -/
def exA (n : Nat) : List (Int × Int) := movX false (n : Int) 1 (n : Int)
theorem half_few {n : Nat} (h : n ≤ 2) : few (n : Int) 1 (n : Int) = true := (few_iff _ _ _).2 (by omega)
theorem half_has {n : Nat} (h : n ≤ 2) : hasX (n : Int) 1 (n : Int) = true := by
  rw [has_ex (half_few h)]
  rfl
theorem exA_fx {n : Nat} (h : n ≤ 2) : fxL (n : Int) 1 (n : Int) = exA n := by
  unfold fxL exA
  rw [if_pos (half_has h)]
theorem exM_in (last : Bool) {N : Nat} : ∀ (k : Nat) (l : List UInt8), l.length = N → ∀ m ∈ exM last k l, ∃ a b : Nat, m = ((a : Int), (b : Int)) ∧ a < N ∧ b < N
  | 0, l, _, m, hm => by cases hm
  | k + 1, l, hl, m, hm => by
    unfold exM at hm
    cases hp : pickM last l with
    | none => rw [hp] at hm; cases hm
    | some p =>
      rw [hp] at hm
      obtain ⟨j, hj, e⟩ := List.mem_iff_getElem.1 (pick_mem hp).1
      obtain ⟨a, b, h1, h2, h3, h4, _⟩ := mvL_at l j hj
      rw [e] at h1 h2
      rw [str_size, hl] at h3 h4
      rcases List.mem_cons.1 hm with rfl | hm
      · exact ⟨a, b, Prod.ext h1 h2, h3, h4⟩
      · refine exM_in last k _ ?_ m hm
        rw [h1, h2]
        show (putL (str l) a b).length = N
        rw [putL_len, str_size, hl]
theorem exA_in {n : Nat} (m : Int × Int) (hm : m ∈ exA n) : ∃ a b : Nat, m = ((a : Int), (b : Int)) ∧ a < 2 * n + 1 ∧ b < 2 * n + 1 := by
  refine exM_in false (N := 2 * n + 1) _ _ ?_ m hm
  rw [firstL_len]
  omega
theorem exA_len {n : Nat} (h : n ≤ 2) : (exA n).length ≤ 8 := by
  have h1 := exM_len false (msL (firstL (n : Int).toNat (1 : Int).toNat (n : Int).toNat)).toNat (firstL (n : Int).toNat (1 : Int).toNat (n : Int).toNat)
  have h2 := ms_first (half_few h)
  unfold exA movX
  rw [h2] at h1 ⊢
  have h3 : exLen (n : Int) 1 (n : Int) = 1 * ((n : Int) + (n : Int)) + (n : Int) * (n : Int) := rfl
  have h4 : n = 0 ∨ n = 1 ∨ n = 2 := by omega
  have h5 : exLen (n : Int) 1 (n : Int) ≤ 8 := by rcases h4 with rfl | rfl | rfl <;> decide
  omega
end Go.Proofs.YtjadnfnpbacfdaaDoor
namespace Go.Proofs.YtjadnfnpbacfdaaDoor
open Go.RowKit Go.Maps

/-- Where the gap has been, as a map. -/
def SeenI (D : DataW Unit) (G : List Int) : Prop := IsMap D ∧ ∀ x : Int, D.atKey (.int .i64 x) (.lit (.bool false)) = .lit (.bool (decide (x ∈ G)))
theorem SeenI.nil : SeenI (.map []) [] := ⟨⟨[], rfl⟩, fun x => by
  rw [atKey_of_not_has (by simp [Maps.has])]
  simp⟩
theorem SeenI.put {D : DataW Unit} {G : List Int} {x : Int} (h : SeenI D G) (hm : IsMap (D.put (.int .i64 x) (.lit (.bool true)))) : SeenI (D.put (.int .i64 x) (.lit (.bool true))) (G ++ [x]) := by
  refine ⟨hm, fun y => ?_⟩
  by_cases e : y = x
  · subst e
    rw [atKey_put_same (k := .int .i64 y) h.1 (by trivial), decide_eq_true (by simp)]
  · rw [atKey_put_other (fun e2 => e (by injection e2)), h.2]
    simp [e]
theorem Tryd.keysI : Keyed Tryd.prog 3 := int_keyed Tryd.underlying3
theorem seen_look {W : World} {b n : Nat} {D : DataW Unit} {G : List Int} (h : W.ownsMap Tryd.prog 3 bRw b n D) (hs : SeenI D G) (x : Int) (hx : (Lit.int .i64 x).wf = true) : (Instr.lookup 98 (.map (some b)) (.int .i64 x) false).run Tryd.prog W = .ok (.bool (decide (x ∈ G))) W := by
  obtain ⟨v, ps, hrun, hv⟩ := h.lookup Tryd.keysI Tryd.underlying98 (zeroBw W) (zd := .lit (.bool false)) (zp := []) rfl (keyOf_int_mk Tryd.underlying3 hx)
  rw [hs.2 x] at hv
  rw [bRw_inv hv] at hrun
  exact hrun
theorem mv_ownX {w : World} {base : Nat} {v : Value} {l : List (Int × Int)} (h : w.ownsRow base 64 2 v l.length (flat l)) : ∃ A cap, v = .slice A l.length cap ∧ (A = none → l.length = 0 ∧ cap = 0) ∧ (∀ ad, A = some ad → ∀ j u, (flat l)[j]? = some u → w.cell? (ad.add j) = some u) ∧ MvAt w A l := by
  rcases h.2 with ⟨hv, h0⟩ | ⟨g, cap, cur, rfl, hg, hh, hn, hm, hr⟩
  · have h2 : l.length = 0 := by have h3 := flat_len l; have h4 := h.1; omega
    exact ⟨none, 0, by rw [hv, h2], fun _ => ⟨h2, rfl⟩, fun ad e => (by cases e), fun k hk => by omega⟩
  · have ho : w.ownsRow base 64 2 (.slice (some ⟨g, 0, none⟩) l.length cap) l.length (flat l) := ⟨h.1, .inr ⟨g, cap, cur, rfl, hg, hh, hn, hm, hr⟩⟩
    obtain ⟨A, cap2, e1, hat⟩ := at_of_own ho
    injection e1 with e1 _ e2
    subst e1
    exact ⟨_, cap, rfl, fun e => (by cases e), fun ad e j u hu => (by injection e with e; subst e; exact ho.cells (g := g) rfl j u hu), hat⟩
/-- The numbers of a row's cells. -/
def rowC (wd k : Nat) : List Int := (List.range wd).map fun j => ((k * wd + j : Nat) : Int)
theorem rowC_len (wd k : Nat) : (rowC wd k).length = wd := by simp [rowC]
theorem onC_row {wd k : Nat} {m : Int × Int} (h : ∃ a b : Nat, m = ((a : Int), (b : Int)) ∧ a < wd ∧ b < wd) : onC (rowC wd k) m = rowm wd (k : Int) m := by
  obtain ⟨a, b, rfl, ha, hb⟩ := h
  unfold onC rowm rowC
  simp [ha, hb]
theorem onC_rows {wd k : Nat} {A : List (Int × Int)} (h : ∀ m ∈ A, ∃ a b : Nat, m = ((a : Int), (b : Int)) ∧ a < wd ∧ b < wd) : A.map (onC (rowC wd k)) = A.map (rowm wd (k : Int)) := List.map_congr_left fun m hm => onC_row (h m hm)
theorem onC_col {wd hi x : Nat} {m : Int × Int} (hx : x < wd) (h : ∃ a b : Nat, m = ((a : Int), (b : Int)) ∧ a < hi ∧ b < hi) : onC (colCI (numL (hi * wd)) wd hi x) m = colm wd x m := by
  obtain ⟨a, b, rfl, ha, hb⟩ := h
  have key : ∀ y, y < hi → (colCI (numL (hi * wd)) wd hi x).getD y 0 = (y : Int) * wd + x := fun y hy => by
    have h1 : y * wd + x < hi * wd := by
      have : (y + 1) * wd ≤ hi * wd := Nat.mul_le_mul_right _ hy
      rw [Nat.succ_mul] at this
      omega
    unfold colCI numL
    simp [hy, h1]
  unfold onC colm
  show ((colCI (numL (hi * wd)) wd hi x).getD a 0, (colCI (numL (hi * wd)) wd hi x).getD b 0) = _
  rw [key a ha, key b hb]
/-- The moves of the exchange of a board. -/
def xbL (wide high : Nat) : List (Int × Int) := xbX (2 * wide + 1) wide high (exA wide) (exA high) (exA high).length
def XbPost (L : List (Int × Int)) (b : Bool) (w : World) (e : Ending) (w' : World) : Prop :=
  ∃ v, e = .returned (.tuple #[v, .bool b]) ∧ w'.ownsRow w.heap.size 64 2 v L.length (flat L) ∧ Below w.heap.size w w'
theorem own_neq_mapX {W : World} {b B n m k : Nat} {e : TypeId} {v : Value} {xs : List Value} {P : Program} {t : TypeId} {R : Value → Option (DataW Unit × List MemPlace)} {D : DataW Unit} (h : W.ownsRow b e m v n xs) (hB : W.ownsMap P t R B k D) : v.ownBlock ≠ some B := by
  obtain ⟨es, clock, hb, _⟩ := hB
  rcases h.2 with ⟨hv, _⟩ | ⟨g, cap, cur, rfl, _, hg, _⟩
  · subst hv; intro h; cases h
  · intro e2
    injection e2 with e2
    subst e2
    rw [hb] at hg
    cases hg
theorem SeenI.same {D : DataW Unit} {G : List Int} {x : Int} (h : SeenI D G) (hx : x ∈ G) : SeenI D (G ++ [x]) := by
  refine ⟨h.1, fun y => ?_⟩
  rw [h.2]
  congr 2
  by_cases e : y = x
  · subst e; simp [hx]
  · simp [e]
theorem flat_oneX (l : List (Int × Int)) : ∀ u ∈ flat l, u.oneCell' = true := by
  intro u hu
  unfold flat at hu
  obtain ⟨p, _, hp⟩ := List.mem_flatMap.1 hu
  simp at hp
  rcases hp with rfl | rfl <;> rfl
theorem wf64 {x : Int} (h0 : 0 ≤ x) (h1 : x ≤ 100) : (Lit.int .i64 x).wf = true := by
  simp [Lit.wf, IntKind.min, IntKind.max, IntKind.bits, IntKind.signed]
  omega
theorem mvAt_one {W : World} {gs : Nat} {a b : Int} (h0 : W.cell? ⟨gs, 0, none⟩ = some (.int .i64 a)) (h1 : W.cell? ⟨gs, 1, none⟩ = some (.int .i64 b)) (hg : gs < W.heap.size) : MvAt W (some ⟨gs, 0, none⟩) [(a, b)] := by
  intro k hk
  obtain rfl : k = 0 := by simp at hk; omega
  exact ⟨gs, rfl, hg, h0, h1⟩
theorem gapk_in {hg : Nat} {D : List (Int × Int)} {N : Nat} (h0 : hg < N) (h : ∀ m ∈ D, ∃ a b : Nat, m = ((a : Int), (b : Int)) ∧ a < N ∧ b < N) : ∀ k, k ≤ D.length → ∃ g : Nat, gapk hg D k = g ∧ g < N
  | 0, _ => ⟨hg, rfl, h0⟩
  | k + 1, hk => by
    have hk2 : k < D.length := hk
    obtain ⟨a, b, e, ha, _⟩ := h D[k] (List.getElem_mem hk2)
    refine ⟨a, ?_, ha⟩
    show (D.getD k (0, 0)).1 = a
    rw [List.getD_eq_getElem?_getD, List.getElem?_eq_getElem hk2]
    show D[k].1 = a
    rw [e]
theorem getD_D {D : List (Int × Int)} {k : Nat} (h : k < D.length) : D.getD k (0, 0) = D[k] := by
  rw [List.getD_eq_getElem?_getD, List.getElem?_eq_getElem h]
  rfl
set_option maxRecDepth 100000 in
set_option maxHeartbeats 16000000 in
theorem exBoard_yes (wide high : Nat) (w : World) (hw : wide ≤ 2) (hh : high ≤ 2) :
    Calls Tryd.prog 41 #[.int .i64 wide, .int .i64 high] w (XbPost (xbL wide high) true w) := by
  obtain ⟨i0, hi, hz0, hz1, hz2⟩ := info_parts Tryd.infoM
  have HI := Lib.hid hi
  have HZ0 := Lib.hid hz0
  have HZ1 := Lib.hid hz1
  have HZ2 := Lib.hid hz2
  clear hi hz0 hz1 hz2
  have HHV := Lib.hid (fun wx => areHalves_any (wide : Int) (high : Int) wx)
  rw [show halves (wide : Int) (high : Int) = true from (halves_iff _ _).2 (by omega)] at HHV
  have HFH := Lib.hid (fun wx => firstEx_any (high : Int) 1 (high : Int) wx)
  have HFW := Lib.hid (fun wx => firstEx_any (wide : Int) 1 (wide : Int) wx)
  unfold FxAns at HFH HFW
  rw [half_has hh, exA_fx hh] at HFH
  rw [half_has hw, exA_fx hw] at HFW
  have HIA := Lib.hid (exA_in (n := wide))
  have HID := Lib.hid (exA_in (n := high))
  have hAl := exA_len hw
  have hDl := exA_len hh
  have e1 : ((2 * wide + 1 : Nat) : Int) = 2 * (wide : Int) + 1 := by push_cast; rfl
  have e2 : ((2 * high + 1 : Nat) : Int) = 2 * (high : Int) + 1 := by push_cast; rfl
  have HCR := Lib.hid (fun wx => cellsInRows_any (2 * wide + 1) (2 * high + 1) wx (by omega) (by omega) (by omega) (by omega))
  unfold CiP at HCR
  rw [e1, e2] at HCR
  have HCO := Lib.hid (fun g g' c' W hg hg' hb hr => columns_anyI (2 * wide + 1) (2 * high + 1) g g' c' (numL ((2 * high + 1) * (2 * wide + 1))) W (by omega) (by omega) (by omega) (by omega) (numL_len _) hg hg' hb hr)
  unfold CoPI at HCO
  have ew1 : IntKind.i64.wrap (2 * (wide : Int)) = 2 * (wide : Int) := by rw [IntKind.wrap_i64]; omega
  have ew2 : IntKind.i64.wrap (2 * (wide : Int) + 1) = 2 * (wide : Int) + 1 := by rw [IntKind.wrap_i64]; omega
  have eh1 : IntKind.i64.wrap (2 * (high : Int)) = 2 * (high : Int) := by rw [IntKind.wrap_i64]; omega
  have eh2 : IntKind.i64.wrap (2 * (high : Int) + 1) = 2 * (high : Int) + 1 := by rw [IntKind.wrap_i64]; omega
  have hwd : wide < 2 * wide + 1 := by omega
  have hhd : high < 2 * high + 1 := by omega
  have HX0 := Lib.hid (xbX_zero (2 * wide + 1) wide high (exA wide) (exA high))
  have HXN := Lib.hid (fun k => xbY_next (2 * wide + 1) wide high (exA wide) (exA high) k)
  have HXX : Hid (∀ k, xbX (2 * wide + 1) wide high (exA wide) (exA high) k = xbY (2 * wide + 1) wide high (exA wide) (exA high) k ++ rowsk (2 * wide + 1) high (exA wide) (exA high) k) := Lib.hid fun k => rfl
  have HGN := Lib.hid (fun k => gaps_next high (exA high) k)
  have HGI := Lib.hid (gapk_in hhd (fun m hm => HID.out m hm))
  have HXL := Lib.hid (fun k => xbX_len (2 * wide + 1) wide high (exA wide) (exA high) k)
  have HYL := Lib.hid (fun k => xbY_len (2 * wide + 1) wide high (exA wide) (exA high) k)
  have HRK : Hid (∀ k, rowsk (2 * wide + 1) high (exA wide) (exA high) k = if gapk high (exA high) k ∈ gaps high (exA high) k then [] else (exA wide).map (rowm (2 * wide + 1) (gapk high (exA high) k))) := Lib.hid fun k => rfl
  have HGD : Hid (∀ k (h : k < (exA high).length), gapk high (exA high) (k + 1) = (exA high)[k].1) := Lib.hid fun k h => by
    show ((exA high).getD k (0, 0)).1 = _
    rw [getD_D h]
  have HG0 : Hid (gapk high (exA high) 0 = (high : Int)) := Lib.hid rfl
  have HGS0 : Hid (gaps high (exA high) 0 = []) := Lib.hid rfl
  unfold xbL
  generalize xbX (2 * wide + 1) wide high (exA wide) (exA high) = X at *
  generalize xbY (2 * wide + 1) wide high (exA wide) (exA high) = Y at *
  generalize rowsk (2 * wide + 1) high (exA wide) (exA high) = R at *
  generalize gapk high (exA high) = G at *
  generalize gaps high (exA high) = GS at *
  generalize exA wide = A at *
  generalize exA high = D at *
  have hmm := @run_makeMap Tryd.prog
  go_enter Tryd.func41, Tryd.ntmps41
  go_wp2_with fail
  refine (HHV.out _).mono ?_
  rintro e w1 ⟨rfl, rfl⟩
  go_wp2_with fail
  refine (HFH.out _).mono ?_
  rintro e w1 ⟨vD, rfl, hoD, hb1⟩
  obtain ⟨AD, cD, rfl, _, _, hatD⟩ := mv_ownX hoD
  have HD1 := Lib.hid hatD
  have HB1 := Lib.hid hb1
  clear hoD hatD hb1
  go_wp2_with fail
  refine (HFW.out _).mono ?_
  rintro e w2 ⟨vA, rfl, hoA, hb2⟩
  obtain ⟨Tryd', cA, rfl, _, _, hatA⟩ := mv_ownX hoA
  have HA2 := Lib.hid hatA
  have HD2 := Lib.hid (HD1.out.below hb2)
  have HB2 := Lib.hid (HB1.out.trans (hb2.mono HB1.out.size))
  clear hoA hatA hb2 HD1 HB1
  go_wp2_with fail
  refine (HCR.out _).mono ?_
  rintro e w3 ⟨g, g', c', rfl, hg0, hg1, hg2, hg3, hcc, hrows, hbs, hb3⟩
  have HROWS := Lib.hid hrows
  have HBS := Lib.hid hbs
  have HA3 := Lib.hid (HA2.out.below hb3)
  have HD3 := Lib.hid (HD2.out.below hb3)
  have HB3 := Lib.hid (HB2.out.trans (hb3.mono HB2.out.size))
  clear hrows hbs hb3 HA2 HD2 HB2 HCR
  go_wp2_with fail
  refine (HCO.out g g' c' _ hg1 hg3 HBS.out HROWS.out).mono ?_
  rintro e w4 ⟨gC, cC, rfl, hgC0, hcC, hcol, hb4⟩
  obtain ⟨gq, cq, hcq, hcq2, hcq3, hcq4, hbsq⟩ := hcol.done wide hwd
  have HBQ := Lib.hid hbsq
  have HROWS4 : Hid (∀ k, k < 2 * high + 1 → w4.cell? ⟨g', k, none⟩ = some (.slice (some ⟨g, k * (2 * wide + 1), none⟩) (2 * wide + 1) (2 * wide + 1))) := Lib.hid fun k hk => (hb4.cell (p := ⟨g', k, none⟩) hg3).trans (HROWS.out k hk)
  have HBS4 : Hid (BsAtI w4 g (numL ((2 * high + 1) * (2 * wide + 1)))) := Lib.hid (HBS.out.below hg1 hb4)
  have HA4 := Lib.hid (HA3.out.below hb4)
  have HD4 := Lib.hid (HD3.out.below hb4)
  have HB4 := Lib.hid (HB3.out.trans (hb4.mono HB3.out.size))
  have hg4 : g < w4.heap.size := Nat.lt_of_lt_of_le hg1 hb4.size
  have hg'4 : g' < w4.heap.size := Nat.lt_of_lt_of_le hg3 hb4.size
  clear hcol hb4 hbsq HROWS HBS HA3 HD3 HB3 HCO
  have hwfh : (Lit.int .i64 (high : Int)).wf = true := by
    simp [Lit.wf, IntKind.min, IntKind.max, IntKind.bits, IntKind.signed]
    omega
  have c1 : (0 : Int) ≤ (wide : Int) := by omega
  have c2 : (wide : Int) < ((2 * wide + 1 : Nat) : Int) := by omega
  have c3 : (0 : Int) ≤ (high : Int) := by omega
  have c4 : (high : Int) < ((2 * high + 1 : Nat) : Int) := by omega
  have HONR : Hid (∀ k, k < 2 * high + 1 → ∀ W, Below w4.heap.size w4 W → Calls Tryd.prog 77 #[.slice (some ⟨g, k * (2 * wide + 1), none⟩) (2 * wide + 1) (2 * wide + 1), .slice Tryd' A.length cA] W fun e w' => ∃ v, e = .returned v ∧ w'.ownsRow W.heap.size 64 2 v A.length (flat (A.map (rowm (2 * wide + 1) (k : Int)))) ∧ Below W.heap.size W w') := Lib.hid fun k hk W hW => by
    have h1 := onCells_any (rowC (2 * wide + 1) k) A g (k * (2 * wide + 1)) (2 * wide + 1) cA Tryd' W (fun j hj => by
      rw [rowC_len] at hj
      have h2 : k * (2 * wide + 1) + j < (2 * high + 1) * (2 * wide + 1) := by
        have : (k + 1) * (2 * wide + 1) ≤ (2 * high + 1) * (2 * wide + 1) := Nat.mul_le_mul_right _ hk
        rw [Nat.succ_mul] at this
        omega
      have h3 := HBS4.out (k * (2 * wide + 1) + j) (by rw [numL_len]; exact h2)
      rw [numL_at] at h3
      rw [(hW.cell (p := ⟨g, k * (2 * wide + 1) + j, none⟩) hg4), h3]
      simp [rowC]) (HA4.out.below hW) (fun q hq => by
        obtain ⟨a, b, e, ha, hb⟩ := HIA.out A[q] (List.getElem_mem hq)
        rw [rowC_len]
        exact ⟨a, b, e, ha, hb⟩) (by omega) (Nat.lt_of_lt_of_le hg4 hW.size)
    rw [rowC_len, onC_rows HIA.out] at h1
    exact h1
  have hr4 := HROWS4.out high hhd
  have HON0 := Lib.hid (HONR.out high hhd w4 (Below.refl _ _))
  go_wp2_with fail
  refine HON0.out.mono ?_
  rintro e w5 ⟨v5, rfl, ho5, hb5⟩
  have HO5 : Hid (w5.ownsRow w4.heap.size 64 2 v5 (X 0).length (flat (X 0))) := Lib.hid (by rw [HX0.out, List.length_map]; exact ho5)
  have HB5 := Lib.hid hb5
  have hz45 := hb5.size
  have hzw4 := HB4.out.size
  clear ho5 hb5 HFH HFW HHV HON0 hr4
  go_wp2_with (first
    | (refine wpList_insert_w _ rfl _ _ _ 98 rfl 3 4 Tryd.keysI Tryd.underlying98 bRw w5.heap.size 0 (.map []) rfl ?_ (by decide) _ _ (.int .i64 high) rfl rfl (keyOf_int_mk Tryd.underlying3 hwfh) _ [] rfl ?_; rotate_right; intro w6 hown6 hg6))
  · have HM6 : Hid (∃ n Dm, n ≤ 0 + 1 ∧ w6.ownsMap Tryd.prog 3 bRw w5.heap.size n Dm ∧ SeenI Dm (GS (0 + 1))) := Lib.hid ⟨_, _, Nat.le_refl _, hown6, by rw [HGN.out 0, HGS0.out, HG0.out]; exact SeenI.nil.put hown6.isMap⟩
    have HB6 : Hid (Below w4.heap.size w4 w6) := Lib.hid ((HB5.out.alloc hz45 _).grown hg6 (by simp; omega) (fun j hj => by injection hj with hj; omega))
    have HO6 : Hid (w6.ownsRow w4.heap.size 64 2 v5 (X 0).length (flat (X 0))) := Lib.hid ((HO5.out.alloc _).kept hg6 (.inr (fun e => by
      have h1 := HO5.out.lt _ e
      omega)))
    clear hown6 hg6 HO5 HB5
    go_loopw [12, 56] (fun v i wr => ∃ k : Nat, k ≤ D.length ∧ i = .int .i64 k ∧ Hid (wr.ownsRow w4.heap.size 64 2 v (X k).length (flat (X k))) ∧ Hid (∃ n Dm, n ≤ k + 1 ∧ wr.ownsMap Tryd.prog 3 bRw w5.heap.size n Dm ∧ SeenI Dm (GS (k + 1))) ∧ Hid (Below w4.heap.size w4 wr)) (fun _ i _ => D.length - (intOf i).toNat)
    case atStart => exact ⟨0, Nat.zero_le _, rfl, HO6, HM6, HB6⟩
    case round =>
      obtain ⟨k, hk, rfl, HO, HM, HB⟩ := hrel
      by_cases hlt : k < D.length
      · obtain ⟨gd, rfl, z1, p1, q1⟩ := (HD4.out.below HB.out) k hlt
        obtain ⟨a, b, e1', ha, hb⟩ := HID.out D[k] (List.getElem_mem hlt)
        have HGK0 := HGD.out k hlt
        have HYK0 := HXN.out k
        rw [getD_D hlt, e1'] at HYK0
        rw [e1'] at HGK0 p1 q1
        have HCOL := onC_col hwd (m := ((a : Int), (b : Int))) ⟨a, b, rfl, ha, hb⟩
        have HONC : Hid (∀ W gs, Below w4.heap.size w4 W → W.cell? ⟨gs, 0, none⟩ = some (.int .i64 a) → W.cell? ⟨gs, 1, none⟩ = some (.int .i64 b) → gs < W.heap.size → Calls Tryd.prog 77 #[.slice (some ⟨gq, 0, none⟩) (2 * high + 1) cq, .slice (some ⟨gs, 0, none⟩) 1 1] W fun e w' => ∃ v, e = .returned v ∧ w'.ownsRow W.heap.size 64 2 v 1 (flat [colm (2 * wide + 1) wide ((a : Int), (b : Int))]) ∧ Below W.heap.size W w') := Lib.hid fun W gs hW h0 h1 hgs => by
          have h2 := onCells_any (colCI (numL ((2 * high + 1) * (2 * wide + 1))) (2 * wide + 1) (2 * high + 1) wide) [((a : Int), (b : Int))] gq 0 cq 1 (some ⟨gs, 0, none⟩) W (fun j hj => by
            rw [Nat.zero_add]
            exact (hW.cell (p := ⟨gq, j, none⟩) hcq4).trans (HBQ.out j hj)) (mvAt_one h0 h1 hgs) (fun q hq => by
            obtain rfl : q = 0 := by simp at hq; omega
            exact ⟨a, b, rfl, by rw [colC_lenI]; exact ha, by rw [colC_lenI]; exact hb⟩) (by simp) (Nat.lt_of_lt_of_le hcq4 hW.size)
          rw [colC_lenI, List.map_cons, HCOL] at h2
          exact h2
        generalize colm (2 * wide + 1) wide ((a : Int), (b : Int)) = cm at HYK0 HONC
        have HGK := Lib.hid HGK0
        have HYK := Lib.hid HYK0
        clear HGK0 HYK0 HCOL e1'
        have hzr := HB.out.size
        have hr9 : ∀ W, Below w4.heap.size w4 W → W.cell? ⟨g', a, none⟩ = some (.slice (some ⟨g, a * (2 * wide + 1), none⟩) (2 * wide + 1) (2 * wide + 1)) := fun W hW => (hW.cell (p := ⟨g', a, none⟩) hg'4).trans (HROWS4.out a ha)
        have HR9 := Lib.hid hr9
        clear hr9
        have HONA := Lib.hid (HONR.out a ha)
        have i1 : (0 : Int) ≤ (a : Int) := by omega
        have i2 : (a : Int) < ((2 * high + 1 : Nat) : Int) := by omega
        have i5 : (0 : Int) ≤ (k : Int) := by omega
        have i6 : (k : Int) < (D.length : Int) := by omega
        have hwfa : keyOf Tryd.prog 3 (.int .i64 (a : Int)) = some (.int .i64 (a : Int)) := keyOf_int_mk Tryd.underlying3 (wf64 (by omega) (by omega))
        have hxk := HXL.out k
        have hxl : (X k).length ≤ 100 := by
          have h1 : k * (A.length + 1) ≤ 8 * 9 := Nat.mul_le_mul (by omega) (by omega)
          omega
        have hyl : (Y (k + 1)).length = (X k).length + 1 := by rw [HYK.out, List.length_append, List.length_singleton]
        obtain ⟨nM, Dm, hnM, hmap, hseen⟩ := HM.out
        have HMAP := Lib.hid hmap
        have HSE := Lib.hid hseen
        have HAT := Lib.hid (hseen.2 (a : Int))
        clear hmap hseen HM
        go_wp2_with fail
        obtain ⟨W2, hW2⟩ : ∃ W2, W2 = (wr.alloc (Obj.cells #[.int .i64 a, .int .i64 b] 64)).alloc (Obj.cells #[.int .i64 a, .int .i64 b] 64) := ⟨_, rfl⟩
        rw [← hW2]
        have z2 : W2.heap.size = wr.heap.size + 2 := by rw [hW2]; simp
        have d0 : W2.cell? ⟨wr.heap.size + 1, 0, none⟩ = some (.int .i64 a) := by
          rw [hW2, show wr.heap.size + 1 = (wr.alloc (Obj.cells #[.int .i64 a, .int .i64 b] 64)).heap.size from by simp, World.cell?_alloc_new]; rfl
        have d1 : W2.cell? ⟨wr.heap.size + 1, 1, none⟩ = some (.int .i64 b) := by
          rw [hW2, show wr.heap.size + 1 = (wr.alloc (Obj.cells #[.int .i64 a, .int .i64 b] 64)).heap.size from by simp, World.cell?_alloc_new]; rfl
        have d2 : W2.cell? ⟨wr.heap.size, 0, none⟩ = some (.int .i64 a) := by
          rw [hW2]
          refine (cell_of_blk (Below.heap_alloc _ _ _ (by simp))).trans ?_
          rw [World.cell?_alloc_new]; rfl
        have HB2 : Hid (Below w4.heap.size w4 W2) := Lib.hid (by rw [hW2]; exact (HB.out.alloc hzr _).alloc (by simp; omega) _)
        have HO2 : Hid (W2.ownsRow w4.heap.size 64 2 u12 (X k).length (flat (X k))) := Lib.hid (by rw [hW2]; exact (HO.out.alloc _).alloc _)
        have HMP2 : Hid (W2.ownsMap Tryd.prog 3 bRw w5.heap.size nM Dm) := Lib.hid (by rw [hW2]; exact (HMAP.out.alloc _).alloc _)
        have HLT2 : Hid (∀ j, u12.ownBlock = some j → j < wr.heap.size) := Lib.hid fun j hj => (HO.out.lt j hj).2
        clear hW2 HB HO HMAP p1 q1
        refine (HONC.out _ _ HB2.out d0 d1 (by omega)).mono ?_
        rintro e w7 ⟨v7, rfl, ho7, hb7⟩
        have HB7 := Lib.hid (HB2.out.trans (hb7.mono HB2.out.size))
        have hown7 := own_below HO2.out hb7
        have HMP7 := Lib.hid (HMP2.out.kept (grown_of_below hb7) (by intro e; cases e))
        have d7 := (hb7.cell (p := ⟨wr.heap.size, 0, none⟩) (show wr.heap.size < W2.heap.size by omega)).trans d2
        have hz7 : W2.heap.size ≤ w7.heap.size := hb7.size
        obtain ⟨A7, cap7, rfl, hnone7, hnews7, _⟩ := mv_ownX (l := [cm]) ho7
        have HNM7 := Lib.hid (own_neq_mapX hown7 HMP7.out)
        have hzw7 : w4.heap.size ≤ w7.heap.size := by omega
        clear ho7 hb7 HO2 HMP2 d0 d1 d2 HB2 HONC
        have HLO : Hid (∀ j, u12.ownBlock = some j → w4.heap.size ≤ j) := Lib.hid fun j hj => (hown7.lt j hj).1
        have H3 : (X k).length + 1 ≤ maxLen := by unfold maxLen; omega
        have H4 : ((X k).length + 1) * 16 ≤ 140737488355328 := by omega
        have hnM2 : nM < maxLen := by unfold maxLen; omega
        by_cases hin : (a : Int) ∈ GS (k + 1)
        · rw [decide_eq_true hin] at HAT
          have HRE : Hid (X (k + 1) = X k ++ [cm]) := Lib.hid (by
            rw [HXX.out (k + 1), HRK.out (k + 1), HGK.out, if_pos hin, HYK.out, List.append_nil])
          have HSE2 : Hid (SeenI Dm (GS (k + 1 + 1))) := Lib.hid (by
            rw [HGN.out (k + 1), HGK.out]
            exact HSE.out.same hin)
          go_wp2_with (first
            | (at_builtin; refine wpList_append_st w7 rfl _ _ 22 rfl w4.heap.size 64 i0 (.agg #[.int .i64 0, .int .i64 0]) 2 16 Tryd.underlying22 HI.out HZ0.out HZ1.out HZ2.out rfl (by decide) _ _ _ rfl hown7 A7 1 cap7 (flat [cm]) rfl hnone7 rfl hnews7 (flat_oneX [cm]) H3 H4 hzw7 ?_; intro v8 w8 hown8 hg8; have d8 : w8.cell? ⟨wr.heap.size, 0, none⟩ = some (.int .i64 a) := (cell_of_blk (hg8.block _ (Nat.lt_of_lt_of_le (by omega) hz7) (fun e => Nat.lt_irrefl _ (HLT2.out _ e.symm)))).trans d7; have HMP8 := Lib.hid (HMP7.out.kept hg8 (fun e => HNM7.out e.symm)); have HB8 : Hid (Below w4.heap.size w4 w8) := Lib.hid (HB7.out.grown hg8 HB7.out.size (fun j hj => HLO.out j hj)); have HO8 := Lib.hid hown8)
            | (at_lookup; refine wpList_look _ rfl _ _ 98 rfl 3 4 Tryd.keysI Tryd.underlying98 (zeroBw _) bRw w5.heap.size nM Dm rfl HMP8.out rfl _ (.int .i64 a) rfl hwfa ?_; intro v9 ps9 hv9; rw [HAT.out] at hv9; obtain rfl := bRw_inv hv9; clear hv9))
          go_roundw
          case rel =>
            refine ⟨k + 1, by omega, by go_num, Lib.hid ?_, Lib.hid ⟨nM, Dm, by omega, HMP8.out, HSE2.out⟩, HB8⟩
            rw [HRE.out, List.length_append, flat_app]
            exact HO8.out
          case measure => simp [intOf]; omega
        · rw [decide_eq_false hin] at HAT
          go_wp2_with (first
            | (at_builtin; refine wpList_append_st w7 rfl _ _ 22 rfl w4.heap.size 64 i0 (.agg #[.int .i64 0, .int .i64 0]) 2 16 Tryd.underlying22 HI.out HZ0.out HZ1.out HZ2.out rfl (by decide) _ _ _ rfl hown7 A7 1 cap7 (flat [cm]) rfl hnone7 rfl hnews7 (flat_oneX [cm]) H3 H4 hzw7 ?_; intro v8 w8 hown8 hg8; have d8 : w8.cell? ⟨wr.heap.size, 0, none⟩ = some (.int .i64 a) := (cell_of_blk (hg8.block _ (Nat.lt_of_lt_of_le (by omega) hz7) (fun e => Nat.lt_irrefl _ (HLT2.out _ e.symm)))).trans d7; have HMP8 := Lib.hid (HMP7.out.kept hg8 (fun e => HNM7.out e.symm)); have HB8 : Hid (Below w4.heap.size w4 w8) := Lib.hid (HB7.out.grown hg8 HB7.out.size (fun j hj => HLO.out j hj)); have HO8 := Lib.hid hown8)
            | (at_lookup; refine wpList_look _ rfl _ _ 98 rfl 3 4 Tryd.keysI Tryd.underlying98 (zeroBw _) bRw w5.heap.size nM Dm rfl HMP8.out rfl _ (.int .i64 a) rfl hwfa ?_; intro v9 ps9 hv9; rw [HAT.out] at hv9; obtain rfl := bRw_inv hv9; clear hv9)
            | (at_mapUpdate; refine wpList_mapUpdate_own _ rfl _ _ _ 98 rfl 3 4 Tryd.keysI Tryd.underlying98 bRw w5.heap.size nM Dm rfl HMP8.out hnM2 _ _ (.int .i64 a) rfl rfl hwfa _ [] rfl ?_; intro w9 hmap9 hg9; have HB9 : Hid (Below w4.heap.size w4 w9) := Lib.hid (HB8.out.grown hg9 HB8.out.size (fun j hj => by injection hj with hj; omega)); have hr9 := HR9.out w9 HB9.out))
          refine (HONA.out w9 HB9.out).mono ?_
          rintro e w10 ⟨v10, rfl, ho10, hb10⟩
          have HRE : Hid (X (k + 1) = X k ++ [cm] ++ A.map (rowm (2 * wide + 1) (a : Int))) := Lib.hid (by
            rw [HXX.out (k + 1), HRK.out (k + 1), HGK.out, if_neg hin, HYK.out])
          have HSE2 : Hid (SeenI (Dm.put (.int .i64 (a : Int)) (.lit (.bool true))) (GS (k + 1 + 1))) := Lib.hid (by
            rw [HGN.out (k + 1), HGK.out]
            exact HSE.out.put hmap9.isMap)
          have hL : (A.map (rowm (2 * wide + 1) (a : Int))).length = A.length := List.length_map ..
          rw [← hL] at ho10
          have HL8 : (A.map (rowm (2 * wide + 1) (a : Int))).length ≤ 8 := by omega
          generalize A.map (rowm (2 * wide + 1) (a : Int)) = L at ho10 hL HRE HL8
          obtain ⟨A10, cap10, rfl, hnone10, hnews10, _⟩ := mv_ownX ho10
          have hown9 := HO8.out.kept hg9 (.inr (own_neq_mapX HO8.out HMP8.out))
          have hown10 := own_below hown9 hb10
          have HB10 := Lib.hid (HB9.out.trans (hb10.mono HB9.out.size))
          have HMP10 := Lib.hid (hmap9.kept (grown_of_below hb10) (by intro e; cases e))
          have HLO10 : Hid (∀ j, v8.ownBlock = some j → w4.heap.size ≤ j) := Lib.hid fun j hj => (hown10.lt j hj).1
          have HNM10 := Lib.hid (own_neq_mapX hown10 HMP10.out)
          have hzw10 : w4.heap.size ≤ w10.heap.size := HB10.out.size
          have H30 : (X k).length + 1 + L.length ≤ maxLen := by unfold maxLen; omega
          have H40 : ((X k).length + 1 + L.length) * 16 ≤ 140737488355328 := by omega
          have HFL := Lib.hid (flat_len L)
          clear ho10 hb10 hown9 hmap9 hg9 HB9 HMP8 HB8
          clear hL
          go_wp2_with (first
            | (at_builtin; refine wpList_append_st w10 rfl _ _ 22 rfl w4.heap.size 64 i0 (.agg #[.int .i64 0, .int .i64 0]) 2 16 Tryd.underlying22 HI.out HZ0.out HZ1.out HZ2.out rfl (by decide) _ _ _ rfl hown10 A10 L.length cap10 (flat L) rfl hnone10 HFL.out hnews10 (flat_oneX L) H30 H40 hzw10 ?_; intro v11 w11 hown11 hg11))
          go_roundw
          case rel =>
            refine ⟨k + 1, by omega, by go_num, Lib.hid ?_, Lib.hid ⟨nM + 1, _, by omega, HMP10.out.kept hg11 (fun e => HNM10.out e.symm), HSE2.out⟩, Lib.hid (HB10.out.grown hg11 hzw10 (fun j hj => HLO10.out j hj))⟩
            rw [HRE.out, List.length_append, List.length_append, flat_app, flat_app]
            exact hown11
          case measure => simp [intOf]; omega
      · obtain rfl : k = D.length := by omega
        go_wp2
        go_ret2
        exact ⟨_, rfl, own_lowerW HO.out hzw4, HB4.out.trans (HB.out.mono hzw4)⟩
  · have := World.ownsMap_made (H := Unit) w5 Tryd.prog 3 bRw
    simpa using this
/-- What both sides answer. -/
def xbR (a b : Int) : List (Int × Int) := if halves a b = true then xbL a.toNat b.toNat else []
set_option maxRecDepth 100000 in
set_option maxHeartbeats 2000000 in
theorem exBoard_any (a b : Int) (w : World) : Calls Tryd.prog 41 #[.int .i64 a, .int .i64 b] w (XbPost (xbR a b) (halves a b) w) := by
  cases h : halves a b
  · have HH := Lib.hid (fun wx => areHalves_any a b wx)
    rw [h] at HH
    have e0 : xbR a b = [] := by unfold xbR; rw [h]; rfl
    rw [e0]
    clear h e0
    go_enter Tryd.func41, Tryd.ntmps41
    go_wp2_with fail
    refine (HH.out _).mono ?_
    rintro e w1 ⟨rfl, rfl⟩
    go_wp2
    go_ret2
    exact ⟨_, rfl, World.ownsRow_nil _ _ _ _, Below.refl _ _⟩
  · obtain ⟨m, n, rfl, rfl, hm, hn⟩ := halves_nat h
    have e0 : xbR (m : Int) (n : Int) = xbL m n := by unfold xbR; rw [if_pos h]; rfl
    rw [e0]
    exact exBoard_yes m n w hm hn
end Go.Proofs.YtjadnfnpbacfdaaDoor
