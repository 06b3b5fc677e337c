/- Contract: the cells that are sure, the model's. -/
import Derived.Test.YtjnidfleccbdbaaGreatPzSu
namespace Go.Proofs.YtjnidfleccbdbaaGreat
open Go.RowKit

theorem str_one_eq (a b : UInt8) : (str [a] = str [b]) ↔ a = b := by
  constructor
  · intro h
    have := congrArg byt h
    rw [byt_str, byt_str] at this
    simpa using this
  · intro h; rw [h]
theorem suP_all (x : List UInt8) (L : List (List UInt8)) (i : Nat) (h : L.all (fun y => y.getD i 0 == x.getD i 0) = true) : suP x L i = x.getD i 0 := by unfold suP; rw [if_pos h]
theorem suP_some (x : List UInt8) (L : List (List UInt8)) (i : Nat) (h : L.all (fun y => y.getD i 0 == x.getD i 0) = false) : suP x L i = 63 := by unfold suP; rw [h]; rfl

set_option maxRecDepth 100000 in
set_option maxHeartbeats 2000000 in
theorem sSureCells_any (n : Int) (l : List Cl) (A : Option Addr) (c : Nat) (w : World) (hin : ClIn w A l) (hl : l.length ≤ 2000000) (hold : ∀ a, A = some a → a.block < w.heap.size) :
    Calls Tryz.prog 5 #[.agg #[.int .i64 n, .slice A l.length c]] w fun e w' => e = .returned (sureV n.toNat (solOr n l)) ∧ Below w.heap.size w w' := by
  obtain ⟨W0, hW0⟩ : ∃ W0, W0 = w.alloc (Obj.cells #[.int .i64 n, .slice A l.length c] 30) := ⟨_, rfl⟩
  have hB0 : Below w.heap.size w W0 := by rw [hW0]; exact (Below.refl _ _).alloc (Nat.le_refl _) _
  have p0 : W0.cell? ⟨w.heap.size, 0, none⟩ = some (.int .i64 n) := by rw [hW0, cell_new' _ _ _ _ _ rfl]; rfl
  have p1 : W0.cell? ⟨w.heap.size, 1, none⟩ = some (.slice A l.length c) := by rw [hW0, cell_new' _ _ _ _ _ rfl]; rfl
  have hz : w.heap.size < W0.heap.size := by rw [hW0]; simp
  have HG := Lib.hid (pzGood_any n l A c W0 (hin.below hB0) hl)
  cases hg : goodP n l
  · rw [hg] at HG
    rw [solOr_bad hg]
    clear hg
    go_enter Tryz.func5, Tryz.ntmps5
    go_wp2_with fail
    rw [← hW0]
    clear hW0
    refine HG.out.mono ?_
    rintro e w1 ⟨rfl, hb1⟩
    have HB := Lib.hid (hB0.trans (hb1.mono hB0.size))
    clear hb1
    go_wp2_with fail
    go_ret2
    exact ⟨rfl, HB.out⟩
  · rw [hg] at HG
    obtain ⟨m, rfl, h15⟩ := goodP_nat hg
    have HI := Lib.hid (hin.below hB0)
    have HP := Lib.hid (fun wx (h : ClIn wx A l) (ho : w.heap.size ≤ wx.heap.size) => pzAll_any m l A c wx h15 (goodP_ok hg) (Nat.le_trans (goodP_few hg) (by decide)) h (fun a ha => Nat.lt_of_lt_of_le (hold a ha) ho))
    rw [solOr_good hg, show (m : Int).toNat = m from rfl]
    have hlen := solL_small (cs := l) h15
    have HLQ : Hid (LnsN m (solL m l)) := Lib.hid (by have h := solOr_lns (m : Int) l; rw [solOr_good hg] at h; exact h)
    generalize solL m l = L at HP hlen HLQ ⊢
    clear hg
    obtain ⟨V, hV⟩ : ∃ V, V = sureV m L := ⟨_, rfl⟩
    rw [← hV]
    have HL := HLQ
    clear HLQ
    go_enter Tryz.func5, Tryz.ntmps5
    go_wp2_with fail
    rw [← hW0]
    clear hW0
    refine HG.out.mono ?_
    rintro e w1 ⟨rfl, hb1⟩
    have q0 := ((bcell hb1).1 _ _ hz).trans p0
    have q1 := ((bcell hb1).1 _ _ hz).trans p1
    have HB1 := Lib.hid (hB0.trans (hb1.mono hB0.size))
    have HBw := Lib.hid hb1.size
    have HI1 := Lib.hid (HI.out.below hb1)
    clear hb1
    go_wp2_with fail
    refine (HP.out _ HI1.out HB1.out.size).mono ?_
    rintro e w2 ⟨v, rfl, ho, hb2⟩
    have HBx := Lib.hid hb2
    have HBz := Lib.hid (Nat.lt_of_lt_of_le hz HBw.out)
    have HB2 := Lib.hid (HB1.out.trans (hb2.mono HB1.out.size))
    obtain ⟨A2, c2, rfl, _, _, hA2, _⟩ := st_own ho
    have HA2 := Lib.hid hA2
    clear ho hb2 hA2
    cases L with
    | nil =>
      have HVV : Hid (V = .tuple #[.string (str []), .bool false]) := Lib.hid hV
      clear hV
      go_wp2_with fail
      go_ret2
      exact ⟨congrArg Ending.returned HVV.out.symm, HB2.out⟩
    | cons x L' =>
      obtain ⟨g2, rfl, z2, d2⟩ := HA2.out 0 (by simp)
      have d3 : w2.cell? ⟨g2, 0, none⟩ = some (.string (str x)) := by simpa using d2
      have hp : (0 : Int) < ((x :: L').length : Int) := by simp
      have hp2 : ((x :: L').length : Int) ≠ 0 := by omega
      have HVV : Hid (V = .tuple #[.string (str (sureC m (x :: L'))), .bool true]) := Lib.hid hV
      obtain ⟨hxN, hN5, _⟩ := HL.out x (by simp)
      have HSC : Hid (sureC m (x :: L') = (List.range m).map (suP x (x :: L'))) := Lib.hid rfl
      rw [HSC.out] at HVV
      have p00 := ((bcell HB2.out).1)
      clear d2 hV HSC p00
      generalize x :: L' = LL at *
      have q2 : w2.cell? ⟨w.heap.size, 0, none⟩ = some (.int .i64 m) := by
        have := HBx.out
        exact ((bcell this).1 _ _ HBz.out).trans q0
      go_wp2_with fail
      try rw [show ((LL.length : Int) == 0) = false by simpa using hp2]
      go_loopw [5, 6, 7, 9] (fun out i _ _ wr => ∃ k : Nat, k ≤ m ∧ i = .int .i64 k ∧ out = .string (str ((List.range k).map (suP x LL))) ∧ wr = w2) (fun _ i _ _ _ => m - (intOf i).toNat)
      case atStart => exact ⟨0, Nat.zero_le _, rfl, rfl, rfl⟩
      case round =>
        obtain ⟨k, hk, rfl, rfl, rfl⟩ := hrel
        by_cases hlt : k < m
        · have i1 : (0 : Int) ≤ (k : Int) := by omega
          have i2 : (k : Int) < (m : Int) := by omega
          have i3 : (k : Int) + 1 ≤ (m : Int) := by omega
          have i4 : (0 : Int) ≤ (k : Int) + 1 := by omega
          have i5 : (k : Int) ≤ (k : Int) + 1 := by omega
          have i6 : IntKind.i64.wrap ((k : Int) + 1) = (k : Int) + 1 := by rw [IntKind.wrap_i64]; omega
          have hsx : (str x).size = m := by rw [str_size]; exact hxN
          obtain ⟨xv, hxv⟩ : ∃ xv, xv = x.getD k 0 := ⟨_, rfl⟩
          have HEX : Hid ((str x).extract k (k + 1) = str [xv]) := Lib.hid (by
            rw [ext_sign (str x) k (by omega), byt_str, hxv])
          have HXV := Lib.hid hxv
          have HA3 := HA2
          have HKN : Hid ((List.range (k + 1)).map (suP x LL) = (List.range k).map (suP x LL) ++ [suP x LL k]) := Lib.hid (by simp [List.range_succ])
          have hRl : (str ((List.range k).map (suP x LL))).size ≤ 5 := by rw [str_size]; simp; omega
          generalize (List.range k).map (suP x LL) = R at HKN hRl ⊢
          clear hxv
          go_wp2_with fail
          rw [HEX.out]
          go_loopw [7, 9, 36] (fun s _ i wq => ∃ j : Nat, j ≤ LL.length ∧ i = .int .i64 j ∧ s = .string (str [xv]) ∧ Hid ((LL.take j).all (fun y => y.getD k 0 == x.getD k 0) = true) ∧ wq = wr) (fun _ _ i _ => LL.length - (intOf i).toNat)
          case atStart => exact ⟨0, Nat.zero_le _, rfl, rfl, Lib.hid (by simp), rfl⟩
          case round =>
            obtain ⟨j, hj, rfl, rfl, HAL, rfl⟩ := hrel
            by_cases hjl : j < LL.length
            · obtain ⟨g3, e3, z3, d4⟩ := HA3.out j hjl
              injection e3 with e3
              injection e3 with e3
              subst e3
              obtain ⟨hyN, _, _⟩ := HL.out LL[j] (List.getElem_mem hjl)
              have HTK : Hid ((LL.take (j + 1)).all (fun y => y.getD k 0 == x.getD k 0) = ((LL.take j).all (fun y => y.getD k 0 == x.getD k 0) && (LL[j].getD k 0 == x.getD k 0))) := Lib.hid (by rw [List.take_succ_eq_append_getElem hjl, List.all_append]; simp)
              have HMY := Lib.hid (List.getElem_mem hjl)
              generalize LL[j] = y at d4 hyN HTK HMY
              have j1 : (0 : Int) ≤ (j : Int) := by omega
              have j2 : (j : Int) < (LL.length : Int) := by omega
              have hsy : (str y).size = m := by rw [str_size]; exact hyN
              obtain ⟨yv, hyv⟩ : ∃ yv, yv = y.getD k 0 := ⟨_, rfl⟩
              have hey : (str y).extract k (k + 1) = str [yv] := by
                rw [ext_sign (str y) k (by omega), byt_str, hyv]
              have HYV := Lib.hid hyv
              by_cases he : yv = xv
              · have hq : (((str y).extract k (k + 1)).toList == (str [xv]).toList) = true := by rw [hey, he]; simp
                have HAL2 : Hid ((LL.take (j + 1)).all (fun y => y.getD k 0 == x.getD k 0) = true) := Lib.hid (by rw [HTK.out, HAL.out, ← HYV.out, ← HXV.out, he]; simp)
                clear hey hyv he
                go_wp2_with fail
                exact ⟨⟨j + 1, by omega, by go_num, rfl, HAL2, trivial⟩, by simp [intOf]; omega⟩
              · have hq : (((str y).extract k (k + 1)).toList == (str [xv]).toList) = false := by
                  rw [hey]
                  rw [beq_eq_false_iff_ne]
                  rw [str_toList, str_toList]
                  simpa using he
                have HSU : Hid (suP x LL k = 63) := Lib.hid (suP_some x LL k (by
                  rw [List.all_eq_false]
                  exact ⟨y, HMY.out, by rw [← HYV.out, ← HXV.out]; simpa using he⟩))
                have HAP : Hid (str R ++ ⟨#[63]⟩ = str ((List.range (k + 1)).map (suP x LL))) := Lib.hid (by
                  show str R ++ str [63] = _
                  rw [HKN.out, HSU.out, str_app])
                clear hey hyv he
                go_wp2_with fail
                exact ⟨⟨k + 1, by omega, by go_num, by rw [HAP.out], trivial⟩, by simp [intOf]; omega⟩
            · obtain rfl : j = LL.length := by omega
              have HSU : Hid (suP x LL k = xv) := Lib.hid (by rw [HXV.out]; exact suP_all x LL k (by have := HAL.out; rwa [List.take_length] at this))
              have HAP : Hid (str R ++ str [xv] = str ((List.range (k + 1)).map (suP x LL))) := Lib.hid (by rw [HKN.out, HSU.out, str_app])
              have hsv : (str [xv]).size = 1 := by rw [str_size]; rfl
              go_wp2_with fail
              exact ⟨⟨k + 1, by omega, by go_num, by rw [HAP.out], trivial⟩, by simp [intOf]; omega⟩
        · obtain rfl : k = m := by omega
          go_wp2_with fail
          go_ret2
          exact ⟨congrArg Ending.returned HVV.out.symm, HB2.out⟩
end Go.Proofs.YtjnidfleccbdbaaGreat
