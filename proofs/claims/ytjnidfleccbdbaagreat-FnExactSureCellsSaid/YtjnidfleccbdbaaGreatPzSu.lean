/- Contracts: the cells that are sure, the program's. -/
import Derived.Test.YtjnidfleccbdbaaGreatPzR
namespace Go.Proofs.YtjnidfleccbdbaaGreat
open Go.RowKit

/-- The sign of a cell in all texts of a list, or ?. -/
def suP (x : List UInt8) (L : List (List UInt8)) (i : Nat) : UInt8 := if L.all (fun y => y.getD i 0 == x.getD i 0) then x.getD i 0 else 63
theorem suP_nil (x : List UInt8) (i : Nat) : suP x [] i = x.getD i 0 := rfl
theorem suP_next (x : List UInt8) (L : List (List UInt8)) (y : List UInt8) (i : Nat) : suP x (L ++ [y]) i = if y.getD i 0 = suP x L i then suP x L i else 63 := by
  unfold suP
  rw [List.all_append]
  cases ha : L.all (fun y => y.getD i 0 == x.getD i 0)
  · simp
  · by_cases e : y.getD i 0 = x.getD i 0
    · simp only [List.all_cons, List.all_nil, Bool.and_true, Bool.true_and, if_true, beq_iff_eq, e]
    · simp only [List.all_cons, List.all_nil, Bool.and_true, Bool.true_and, if_true, beq_iff_eq, if_neg e]
def sureC (N : Nat) (L : List (List UInt8)) : List UInt8 := (List.range N).map (suP (L.headD []) L)
def sureV (N : Nat) (L : List (List UInt8)) : Value := .tuple #[.string (str (if L.isEmpty then [] else sureC N L)), .bool (!L.isEmpty)]
/-- Lines, all as long. -/
def LnsN (N : Nat) (L : List (List UInt8)) : Prop := ∀ y ∈ L, y.length = N ∧ N ≤ 5 ∧ ∀ i, i < N → y.getD i 0 ≠ 63
theorem solOr_lns (n : Int) (l : List Cl) : LnsN n.toNat (solOr n l) := fun y hy => by
  cases hg : goodP n l
  · rw [solOr_bad hg] at hy; cases hy
  · rw [solOr_good hg] at hy
    obtain ⟨m, rfl, h15⟩ := goodP_nat hg
    have h1 := (mem_all m y).1 (List.mem_filter.1 hy).1
    refine ⟨h1.1, by simpa using h15.2, fun i hi => ?_⟩
    have h2 := List.all_eq_true.1 h1.2 (y.getD i 0) (by
      have : i < y.length := by have := h1.1; simp at hi; omega
      rw [List.getD_eq_getElem?_getD, List.getElem?_eq_getElem this]
      exact List.getElem_mem this)
    intro e
    rw [e] at h2
    exact absurd h2 (by decide)
theorem ite_next {a b : UInt8} {i j : Nat} (h : i ≠ j) : (if i < j + 1 then a else b) = if i < j then a else b := by
  by_cases e : i < j
  · rw [if_pos e, if_pos (by omega)]
  · rw [if_neg e, if_neg (by omega)]
/-- Bytes in a block. -/
def SuAt (w : World) (g N : Nat) (f : Nat → UInt8) : Prop := ∀ j, j < N → w.cell? ⟨g, j, none⟩ = some (.int .u8 (f j).toNat) ∧ w.frozen? ⟨g, j, none⟩ = false
theorem SuAt.set {w : World} {g N : Nat} {f f' : Nat → UInt8} (h : SuAt w g N f) (i : Nat) (hi : i < N) (v : UInt8) (hf : ∀ j, f' j = if j = i then v else f j) : SuAt (w.setCell ⟨g, i, none⟩ (.int .u8 v.toNat)) g N f' := fun j hj => by
  obtain ⟨c, fz⟩ := h j hj
  refine ⟨?_, by simpa using fz⟩
  rw [hf j]
  by_cases e : j = i
  · subst e
    rw [if_pos rfl]
    exact World.cell?_setCell_same _ _ _ c
  · rw [if_neg e, World.cell?_setCell_other _ _ _ _ (by intro e2; injection e2 with _ e2; omega)]
    exact c
theorem SuAt.congr {w : World} {g N : Nat} {f f' : Nat → UInt8} (h : SuAt w g N f) (hf : ∀ j, j < N → f' j = f j) : SuAt w g N f' := fun j hj => by
  rw [hf j hj]; exact h j hj

set_option maxRecDepth 100000 in
set_option maxHeartbeats 4000000 in
theorem SureCells_any (n : Int) (l : List Cl) (g o c : Nat) (w : World) (hin : ClIn w (some ⟨g, o, none⟩) l) (hl : l.length ≤ 2000000) (hc : l.length ≤ c) (hgo : g < w.heap.size) :
    Calls Tryz.prog 7 #[.agg #[.int .i64 n, .slice (some ⟨g, o, none⟩) l.length c]] w fun e w' => e = .returned (sureV n.toNat (solOr n l)) ∧ Below w.heap.size w w' := by
  obtain ⟨W0, hW0⟩ : ∃ W0, W0 = w.alloc (Obj.cells #[.int .i64 n, .slice (some ⟨g, o, none⟩) l.length c] 30) := ⟨_, rfl⟩
  have hB0 : Below w.heap.size w W0 := by rw [hW0]; exact (Below.refl _ _).alloc (Nat.le_refl _) _
  have hz : w.heap.size < W0.heap.size := by rw [hW0]; simp
  have HP := Lib.hid (Solutions_any n l g o c W0 (hin.below hB0) hl hc (by omega))
  have hlen := solOr_small n l
  have HL := Lib.hid (solOr_lns n l)
  generalize n.toNat = N at HL ⊢
  generalize solOr n l = L at HP hlen HL ⊢
  generalize goodP n l = b at HP
  obtain ⟨V, hV⟩ : ∃ V, V = sureV N L := ⟨_, rfl⟩
  rw [← hV]
  go_enter Tryz.func7, Tryz.ntmps7
  go_wp2_with fail
  rw [← hW0]
  clear hW0
  refine HP.out.mono ?_
  rintro e w2 ⟨v, rfl, ho, hb2⟩
  have HB2 := Lib.hid (hB0.trans (hb2.mono hB0.size))
  obtain ⟨A2, c2, rfl, _, _, hA2, _⟩ := st_own ho
  have HA2 := Lib.hid hA2
  clear ho hb2 hA2 HP
  cases L with
  | nil =>
    have HVV : Hid (V = .tuple #[.string (str []), .bool false]) := Lib.hid hV
    clear hV
    go_wp2_with fail
    go_ret2
    exact ⟨congrArg Ending.returned HVV.out.symm, HB2.out⟩
  | cons x L' =>
    have HVV : Hid (V = .tuple #[.string (str (sureC N (x :: L'))), .bool true]) := Lib.hid hV
    clear hV
    obtain ⟨g2, rfl, z2, d2⟩ := HA2.out 0 (by simp)
    have d3 : w2.cell? ⟨g2, 0, none⟩ = some (.string (str x)) := by simpa using d2
    have hp : (0 : Int) < ((x :: L').length : Int) := by simp
    have hp2 : ((x :: L').length : Int) ≠ 0 := by omega
    obtain ⟨hxN, hN5, _⟩ := HL.out x (by simp)
    have hhd : (x :: L').headD [] = x := rfl
    have HSC : Hid (sureC N (x :: L') = (List.range N).map (suP x (x :: L'))) := Lib.hid rfl
    rw [HSC.out] at HVV
    clear d2 hhd HSC
    generalize x :: L' = LL at *
    obtain ⟨cap, W2, hconv, hcs, hB3, hz3⟩ := to_bytes (str x) w2
    have hs0 : Hid (SuAt W2 w2.heap.size N (suP x [])) := Lib.hid fun j hj => by
      rw [suP_nil]
      have h := hcs j (by rw [str_size]; omega)
      have e : (str x)[j]'(by rw [str_size]; omega) = x.getD j 0 := by
        simp [List.getD_eq_getElem?_getD, str, ByteArray.getElem_eq_getElem_data, hxN, hj]
      rw [e] at h
      exact h
    have HB3 := Lib.hid hB3
    rw [str_size, hxN] at hconv
    clear hcs hB3
    go_wp2_with fail
    try rw [show ((LL.length : Int) == 0) = false by simpa using hp2]
    clear hp hp2
    have HAW := Lib.hid (HA2.out.below HB3.out)
    go_loopw [8, 9, 24] (fun _ _ i wr => ∃ k : Nat, k ≤ LL.length ∧ i = .int .i64 k ∧ Hid (SuAt wr w2.heap.size N (suP x (LL.take k))) ∧ Hid (Below w2.heap.size W2 wr)) (fun _ _ i _ => LL.length - (intOf i).toNat)
    case atStart => exact ⟨0, Nat.zero_le _, rfl, by rw [List.take_zero]; exact hs0, Lib.hid (Below.refl _ _)⟩
    case round =>
      obtain ⟨k, hk, rfl, HS, HB⟩ := hrel
      clear hs0
      by_cases hlt : k < LL.length
      · obtain ⟨g3, e3, z3, d4⟩ := HAW.out k hlt
        injection e3 with e3
        injection e3 with e3
        subst e3
        have d5 : wr.cell? ⟨g2, k, none⟩ = some (.string (str LL[k])) := (Below.blockB HB.out z2).trans d4
        obtain ⟨hyN, _, hy63⟩ := HL.out LL[k] (List.getElem_mem hlt)
        have HTK : Hid (LL.take (k + 1) = LL.take k ++ [LL[k]]) := Lib.hid (List.take_succ_eq_append_getElem hlt)
        generalize LL[k] = y at d5 hyN hy63 HTK
        generalize LL.take k = T at HS HTK
        have HY63 := Lib.hid hy63
        have i1 : (0 : Int) ≤ (k : Int) := by omega
        have i2 : (k : Int) < (LL.length : Int) := by omega
        have HNX : Hid (∀ i, i < N → suP x (T ++ [y]) i = if y.getD i 0 = suP x T i then suP x T i else 63) := Lib.hid fun i _ => suP_next x T y i
        clear d4 hy63
        go_wp2_with fail
        go_loopw [9, 30] (fun _ i wq => ∃ j : Nat, j ≤ N ∧ i = .int .i64 j ∧ Hid (SuAt wq w2.heap.size N (fun i => if i < j then suP x (T ++ [y]) i else suP x T i)) ∧ Hid (Below w2.heap.size W2 wq)) (fun _ i _ => N - (intOf i).toNat)
        case atStart => exact ⟨0, Nat.zero_le _, rfl, Lib.hid (HS.out.congr fun j _ => by simp), HB⟩
        case round =>
          obtain ⟨j, hj, rfl, HSj, HBj⟩ := hrel
          clear HS HB
          by_cases hjl : j < N
          · obtain ⟨cj, fj⟩ := HSj.out j hjl
            replace cj : wr.cell? ⟨w2.heap.size, j, none⟩ = some (.int .u8 (suP x T j).toNat) := by simpa using cj
            have hN1 := HNX.out j hjl
            have j1 : (0 : Int) ≤ (j : Int) := by omega
            have j2 : (j : Int) < (N : Int) := by omega
            have hjs : j < (str y).size := by rw [str_size]; omega
            have hyj : (str y)[j]'hjs = y.getD j 0 := by
              simp [List.getD_eq_getElem?_getD, str, ByteArray.getElem_eq_getElem_data, hyN, hjl]
            have HY := Lib.hid (HY63.out j hjl)
            generalize y.getD j 0 = yv at hyj hN1 HY
            generalize hsv : suP x T j = sv at cj hN1
            have HSV := Lib.hid hsv
            have HN1 := Lib.hid hN1
            have HYJ := Lib.hid hyj
            clear hsv hN1 hyj HNX HY63
            go_wp2_with fail
            go_region
            rw [HYJ.out]
            have HBN := Lib.hid (Below.drew HBj.out)
            by_cases he : yv = sv
            · rw [show ((yv.toNat : Int) != (sv.toNat : Int)) = false by rw [he]; simp]
              have HN2 : Hid (suP x (T ++ [y]) j = suP x T j) := Lib.hid (by rw [HN1.out, if_pos he, HSV.out])
              clear he
              go_wp2_with fail
              go_roundw
              case rel => exact ⟨j + 1, by omega, by go_num, Lib.hid (by
                have h : SuAt wr.drew w2.heap.size N (fun i => if i < j then suP x (T ++ [y]) i else suP x T i) := HSj.out
                refine h.congr fun i _ => ?_
                by_cases e : i = j
                · subst e; rw [if_pos (Nat.lt_succ_self i), if_neg (Nat.lt_irrefl i), HN2.out]
                · exact ite_next e), HBN⟩
              case measure => simp [intOf]; omega
            · rw [show ((yv.toNat : Int) != (sv.toNat : Int)) = true by
                have : yv.toNat ≠ sv.toNat := fun h => he (UInt8.toNat_inj.1 h)
                simp; omega]
              have HN2 : Hid (suP x (T ++ [y]) j = 63) := Lib.hid (by rw [HN1.out, if_neg he])
              clear he
              have cd : wr.drew.cell? ⟨w2.heap.size, j, none⟩ = some (.int .u8 sv.toNat) := cj
              have fd : wr.drew.frozen? ⟨w2.heap.size, j, none⟩ = false := fj
              go_wp2_with fail
              go_roundw
              case rel => exact ⟨j + 1, by omega, by go_num, Lib.hid (by
                have h : SuAt wr.drew w2.heap.size N (fun i => if i < j then suP x (T ++ [y]) i else suP x T i) := HSj.out
                refine h.set j hjl 63 fun i => ?_
                by_cases e : i = j
                · subst e; rw [if_pos (Nat.lt_succ_self i), if_pos rfl, HN2.out]
                · rw [if_neg e]; exact ite_next e), Lib.hid (HBN.out.setCell (Nat.le_refl _) _)⟩
              case measure => simp [intOf]; omega
          · obtain rfl : j = N := by omega
            go_wp2_with fail
            go_roundw
            case rel => exact ⟨k + 1, by omega, by go_num, Lib.hid (by rw [HTK.out]; exact HSj.out.congr fun i hi => by rw [if_pos hi]), HBj⟩
            case measure => simp [intOf]; omega
      · obtain rfl : k = LL.length := by omega
        rw [List.take_length] at HS
        have hback := run_convert_bytes_back (P := Tryz.prog) wr 41 9 5 ⟨w2.heap.size, 0, none⟩ cap ((List.range N).map (suP x LL)) Tryz.underlying41 Tryz.underlying5 Tryz.underlying9 (by
          intro j hj
          rw [List.length_map, List.length_range] at hj
          rw [addr_add]
          simpa using (HS.out j hj).1)
        rw [List.length_map, List.length_range] at hback
        generalize (List.range N).map (suP x LL) = R at hback HVV
        have HBe := Lib.hid (HB2.out.trans ((HB3.out.trans HB.out).mono HB2.out.size))
        go_wp2_with fail
        go_ret2
        exact ⟨congrArg Ending.returned HVV.out.symm, HBe.out⟩
end Go.Proofs.YtjnidfleccbdbaaGreat
