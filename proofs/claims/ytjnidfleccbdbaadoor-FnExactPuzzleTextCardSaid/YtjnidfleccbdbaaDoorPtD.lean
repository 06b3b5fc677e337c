/- Contracts: a puzzle's text, both functions; the law's walk. -/
import Derived.Test.YtjnidfleccbdbaaDoorPtC
namespace Go.Proofs.YtjnidfleccbdbaaDoor
open Go.RowKit

def ptV (n : Int) (l : List Cl) : Value := .tuple #[.string (str (if goodP n l then pzT n l else [])), .bool (goodP n l)]
theorem good_pt {n : Int} {l : List Cl} (h : goodP n l = true) : l.length ≤ 6 ∧ (1 ≤ n ∧ n ≤ 5) ∧ ∀ x ∈ l, SmallC x := by
  unfold goodP inR at h
  simp only [Bool.and_eq_true, decide_eq_true_eq] at h
  exact ⟨h.1.2, h.1.1, fun x hx => small_ck h.1.1 (List.all_eq_true.1 h.2 x hx)⟩
theorem cell_one_newT (w : World) (a : Value) (t : TypeId) : ∀ j u, [a][j]? = some u → (w.alloc (.cells #[a] t)).cell? ((⟨w.heap.size, 0, none⟩ : Addr).add j) = some u := by
  intro j u h
  rw [addr_add, World.cell?_alloc_new]
  simpa using h

set_option maxRecDepth 100000 in
set_option maxHeartbeats 2000000 in
theorem sPuzzleText_any (n : Int) (l : List Cl) (A : Option Addr) (c : Nat) (w : World) (hin : ClIn w A l) (hl : l.length ≤ 2000000) :
    Calls Tryd.prog 10 #[.agg #[.int .i64 n, .slice A l.length c]] w fun e w' => e = .returned (ptV n l) ∧ Below w.heap.size w w' := by
  obtain ⟨W0, hW0⟩ : ∃ W0, W0 = w.alloc (Obj.cells #[.int .i64 n, .slice A l.length c] 30) := ⟨_, rfl⟩
  have hB0 : Below w.heap.size w W0 := by rw [hW0]; exact (Below.refl _ _).alloc (Nat.le_refl _) _
  have c0 : W0.cell? ⟨w.heap.size, 0, none⟩ = some (.int .i64 n) := by rw [hW0, cell_new' _ _ _ _ _ rfl]; rfl
  have c1 : W0.cell? ⟨w.heap.size, 1, none⟩ = some (.slice A l.length c) := by rw [hW0, cell_new' _ _ _ _ _ rfl]; rfl
  have hz : w.heap.size < W0.heap.size := lt_of_cell0 c0
  have HG := Lib.hid (pzGood_any n l A c W0 (hin.below hB0) hl)
  obtain ⟨V, hV⟩ : ∃ V, V = ptV n l := ⟨_, rfl⟩
  rw [← hV]
  unfold ptV at hV
  cases hg : goodP n l
  · rw [hg] at HG hV
    have HV := Lib.hid hV
    clear hg hV hin
    go_enter Tryd.func10, Tryd.ntmps10
    go_wp2_with fail
    rw [← hW0]
    clear hW0
    refine HG.out.mono ?_
    rintro e w1 ⟨rfl, hb1⟩
    have HB := Lib.hid (hB0.trans (hb1.mono hB0.size))
    clear hb1
    go_wp2_with fail
    go_ret2
    exact ⟨congrArg Ending.returned HV.out.symm, HB.out⟩
  · obtain ⟨h6, h15, hsm⟩ := good_pt hg
    rw [hg] at HG hV
    have HV : Hid (V = .tuple #[.string (str (pzT n l)), .bool true]) := Lib.hid hV
    have HP := Lib.hid (fun wx (h : ClIn wx A l) => sPzText_any n l A c wx h h6 ⟨by omega, by omega⟩ hsm)
    have HI := Lib.hid (hin.below hB0)
    clear hg hV hin hsm
    go_enter Tryd.func10, Tryd.ntmps10
    go_wp2_with fail
    rw [← hW0]
    clear hW0
    refine HG.out.mono ?_
    rintro e w1 ⟨rfl, hb1⟩
    have d0 := ((bcell hb1).1 _ 0 hz).trans c0
    have d1 := ((bcell hb1).1 _ 1 hz).trans c1
    have HB := Lib.hid (hB0.trans (hb1.mono hB0.size))
    have HI1 := Lib.hid (HI.out.below hb1)
    clear hb1 c0 c1
    go_wp2_with fail
    refine (HP.out _ HI1.out).mono ?_
    rintro e w2 ⟨rfl, hb2⟩
    have HB2 := Lib.hid (HB.out.trans (hb2.mono HB.out.size))
    go_wp2_with fail
    go_ret2
    exact ⟨congrArg Ending.returned HV.out.symm, HB2.out⟩

set_option maxRecDepth 100000 in
set_option maxHeartbeats 4000000 in
theorem PuzzleText_any (n : Int) (l : List Cl) (g o c : Nat) (w : World) (hin : ClIn w (some ⟨g, o, none⟩) l) (hl : l.length ≤ 2000000) (hc : l.length ≤ c) :
    Calls Tryd.prog 12 #[.agg #[.int .i64 n, .slice (some ⟨g, o, none⟩) l.length c]] w fun e w' => e = .returned (ptV n l) ∧ Below w.heap.size w w' := by
  obtain ⟨W0, hW0⟩ : ∃ W0, W0 = w.alloc (Obj.cells #[.int .i64 n, .slice (some ⟨g, o, none⟩) l.length c] 30) := ⟨_, rfl⟩
  have hB0 : Below w.heap.size w W0 := by rw [hW0]; exact (Below.refl _ _).alloc (Nat.le_refl _) _
  have c0 : W0.cell? ⟨w.heap.size, 0, none⟩ = some (.int .i64 n) := by rw [hW0, cell_new' _ _ _ _ _ rfl]; rfl
  have hz : w.heap.size < W0.heap.size := lt_of_cell0 c0
  have HCL := Lib.hid (cluesOf_any n l g o c W0 (hin.below hB0) hl hc)
  obtain ⟨V, hV⟩ : ∃ V, V = ptV n l := ⟨_, rfl⟩
  rw [← hV]
  unfold ptV at hV
  cases hg : goodP n l
  · rw [hg] at hV
    rw [hg, show clOr false g o l.length = .tuple #[.slice none 0 0, .bool false] from rfl] at HCL
    have HV := Lib.hid hV
    clear hg hV hin
    go_enter Tryd.func12, Tryd.ntmps12
    go_wp2_with fail
    rw [← hW0]
    clear hW0
    refine HCL.out.mono ?_
    rintro e w1 ⟨rfl, hb1⟩
    have HB := Lib.hid (hB0.trans (hb1.mono hB0.size))
    clear hb1
    go_wp2_with fail
    go_ret2
    exact ⟨congrArg Ending.returned HV.out.symm, HB.out⟩
  · obtain ⟨h6, h15, hsm⟩ := good_pt hg
    rw [hg] at hV
    rw [hg, show clOr true g o l.length = .tuple #[.slice (some ⟨g, o, none⟩) l.length l.length, .bool true] from rfl] at HCL
    have HV : Hid (V = .tuple #[.string (str (numT n ++ [58] ++ Lib.join (l.map ctT) [44])), .bool true]) := Lib.hid hV
    have HI := Lib.hid (hin.below hB0)
    have HS := Lib.hid hsm
    have HT := Lib.hid (fun x y z wx (h : SmallC (x, y, z)) => textOfClue_any x y z wx h)
    have HN := Lib.hid (itoa_any n · ⟨by omega, by omega⟩)
    have hnl : (str (numT n)).size ≤ 2 := by rw [str_size]; exact numT_len (by omega)
    have hjl : (Lib.join (l.map ctT) [44]).length ≤ 54 := by
      have h1 := joinC_len (l.map ctT) 8 (fun r hr => by
        obtain ⟨c, hc, rfl⟩ := List.mem_map.1 hr
        exact ctT_len (hsm c hc))
      rw [List.length_map] at h1
      have : l.length * (8 + 1) ≤ 6 * 9 := Nat.mul_le_mul_right 9 h6
      omega
    have HJ := Lib.hid (fun A cap wx (h : StAt wx A (l.map ctT)) (hc : (l.map ctT).length ≤ cap) => joinS_any (l.map ctT) [44] A cap wx h hc (by rw [List.length_map]; omega) (by omega))
    have hJs : (str (Lib.join (l.map ctT) [44])).size ≤ 54 := by rw [str_size]; exact hjl
    have HLEN : Hid ((l.map ctT).length = l.length) := Lib.hid (List.length_map _)
    have HNX : Hid (∀ k (h : k < l.length), (l.take (k + 1)).map ctT = (l.take k).map ctT ++ [ctT l[k]]) := Lib.hid fun k h => by rw [List.take_succ_eq_append_getElem h, List.map_append]; rfl
    have HALL : Hid ((l.take l.length).map ctT = l.map ctT) := Lib.hid (by rw [List.take_length])
    obtain ⟨i0, hi, hz0, hz1, hz2⟩ := info_parts Tryd.infoS
    have II := Lib.hid hi
    have HZ0 := Lib.hid hz0
    have HZ1 := Lib.hid hz1
    have HZ2 := Lib.hid hz2
    have HAPP : Hid (str (numT n) ++ (⟨#[58]⟩ : ByteArray) ++ str (Lib.join (l.map ctT) [44]) = str (numT n ++ [58] ++ Lib.join (l.map ctT) [44])) := Lib.hid (by rw [str_58, str_app, str_app])
    generalize str (numT n) = sn at hnl HN HAPP
    have ha1 : (sn ++ (⟨#[58]⟩ : ByteArray)).size ≤ 3 := by rw [ByteArray.size_append]; show sn.size + 1 ≤ 3; omega
    clear hg hV hin hsm hi hz0 hz1 hz2 hjl
    go_enter Tryd.func12, Tryd.ntmps12
    go_wp2_with fail
    rw [← hW0]
    clear hW0
    refine HCL.out.mono ?_
    rintro e w1 ⟨rfl, hb1⟩
    have d0 := ((bcell hb1).1 _ 0 hz).trans c0
    have hz1' : w.heap.size < w1.heap.size := lt_of_cell0 d0
    have HB1 := Lib.hid (hB0.trans (hb1.mono hB0.size))
    have HI1 := Lib.hid (HI.out.below hb1)
    clear hb1 c0 hB0
    go_wp2_with fail
    go_loopw [6, 8, 18] (fun v _ i wr => ∃ k : Nat, k ≤ l.length ∧ i = .int .i64 k ∧ wr.ownsRow w1.heap.size 9 1 v ((l.take k).map ctT).length (txs ((l.take k).map ctT)) ∧ Below w1.heap.size w1 wr) (fun _ _ i _ => l.length - (intOf i).toNat)
    case atStart => exact ⟨0, Nat.zero_le _, rfl, World.ownsRow_nil _ _ _ _, Below.refl _ _⟩
    case round =>
      obtain ⟨k, hk, rfl, hown, hbr⟩ := hrel
      by_cases hlt : k < l.length
      · obtain ⟨g', o', e', z1, p1, q1, r1⟩ := (HI1.out.below hbr) k hlt
        injection e' with e'
        injection e' with e' e2
        subst e'; subst e2
        have hsk := HS.out _ (List.getElem_mem hlt)
        have i1 : (0 : Int) ≤ (k : Int) := by omega
        have i2 : (k : Int) < (l.length : Int) := by omega
        have HTk := Lib.hid (HT.out l[k].1 l[k].2.1 l[k].2.2 · hsk)
        rw [show ctT (l[k].1, l[k].2.1, l[k].2.2) = ctT l[k] from rfl] at HTk
        have HNk := Lib.hid (HNX.out k hlt)
        have hfl : ((l.take k).map ctT).length ≤ 6 := by rw [List.length_map, List.length_take]; omega
        have HO := Lib.hid hown
        have HBR := Lib.hid hbr
        have zr := hbr.size
        clear hown hbr hsk
        generalize (l.take k).map ctT = F at HO HNk hfl
        generalize ctT l[k] = T at HTk HNk
        generalize l[k].1 = x at p1 HTk
        generalize l[k].2.1 = y at q1 HTk
        generalize l[k].2.2 = z at r1 HTk
        go_wp2_with fail
        refine (HTk.out _).mono ?_
        rintro e wb ⟨rfl, hbb⟩
        have hbx : Below wr.heap.size wr wb := ((Below.refl wr.heap.size wr).alloc (Nat.le_refl _) _).trans (hbb.mono (by simp))
        have HBx := Lib.hid (HBR.out.trans (hbx.mono zr))
        have HOx := Lib.hid (own_below HO.out hbx)
        have zx : w1.heap.size ≤ wb.heap.size := HBx.out.size
        clear hbb hbx
        go_wp2_with (first | (at_builtin; refine wpList_append_own _ rfl _ _ 59 rfl w1.heap.size 9 i0 (.string ByteArray.empty) 1 16 Tryd.underlying59 II.out HZ0.out HZ1.out HZ2.out rfl (by decide) _ F.length (txs F) rfl (HOx.out.alloc _) ⟨wb.heap.size, 0, none⟩ 1 1 [.string (str T)] rfl rfl (cell_one_newT wb _ _) (fun u hu => by simp at hu; subst hu; rfl) (by unfold maxLen; omega) (by omega) (by simp; omega) ?_; intro v' w4 hown' hgrow _))
        go_roundw
        case rel =>
          have hrow := HOx.out.alloc (Obj.cells #[.string (str T)] 9)
          refine ⟨k + 1, by omega, by go_num, ?_, ?_⟩
          · rw [HNk.out, List.length_append, txs_app]
            exact hown'
          · exact (HBx.out.alloc zx _).grown hgrow (by simp; omega) (fun j hj => (hrow.lt j hj).1)
        case measure => simp [intOf]; omega
      · obtain rfl : k = l.length := by omega
        rw [HALL.out] at hown
        have e0 := (hbr.cell hz1').trans d0
        obtain ⟨A2, c2, rfl, hc2, _, hA2, _⟩ := st_own hown
        have HA2 := Lib.hid hA2
        have HBR := Lib.hid hbr
        have HC2 := Lib.hid hc2
        rw [HLEN.out] at HJ
        rw [HLEN.out]
        have hc3 : l.length ≤ c2 := by rw [← HLEN.out]; exact HC2.out
        clear hown hbr hA2 hc2 d0
        go_wp2_with fail
        refine (HN.out _).mono ?_
        rintro e w5 ⟨rfl, rfl⟩
        go_wp2_with fail
        refine (HJ.out A2 c2 _ HA2.out hc3).mono ?_
        rintro e w6 ⟨rfl, hb6⟩
        have HB6 := Lib.hid (HB1.out.trans ((HBR.out.trans (hb6.mono HBR.out.size)).mono HB1.out.size))
        go_wp2_with fail
        go_ret2
        exact ⟨congrArg Ending.returned (by rw [HV.out, ← HAPP.out]; rfl), HB6.out⟩
end Go.Proofs.YtjnidfleccbdbaaDoor
