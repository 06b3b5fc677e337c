/- Contract: the model counts the plays to each line of the next layer. -/
import Derived.Test.YtoefeooldcbfiaaMvsA
import Derived.Test.YtoefeooldcbfiaaLayS
namespace Go.Proofs.Ytoefeooldcbfiaa
open Go.RowKit Go.Maps

/-- The plays to a line, through i lines of the layer before, and through j moves of the next. -/
def pcs (c : List UInt8 → Nat) (us : List (List UInt8)) (i j : Nat) (v : List UInt8) : Nat := part nxL c (us.take i) v + ((nxL (us.getD i [])).take j).count v * c (us.getD i [])
theorem pcs_start (c : List UInt8 → Nat) (us : List (List UInt8)) (v : List UInt8) : pcs c us 0 0 v = 0 := by simp [pcs, part]
theorem pcs_row (c : List UInt8 → Nat) (us : List (List UInt8)) (i : Nat) (h : i < us.length) (v : List UInt8) : pcs c us (i + 1) 0 v = pcs c us i (nxL (us.getD i [])).length v := by
  unfold pcs
  rw [List.take_length, List.take_succ_eq_append_getElem h, part_snoc, getD_in us i h]
  simp
theorem pcs_all (c : List UInt8 → Nat) (us : List (List UInt8)) (v : List UInt8) : pcs c us us.length 0 v = part nxL c us v := by simp [pcs]
theorem pcs_hit (c : List UInt8 → Nat) (us : List (List UInt8)) (i j : Nat) (h : j < (nxL (us.getD i [])).length) : pcs c us i (j + 1) (nxL (us.getD i []))[j] = pcs c us i j (nxL (us.getD i []))[j] + c (us.getD i []) := by
  unfold pcs
  rw [count_take_snoc _ j h, if_pos rfl, Nat.add_mul, Nat.one_mul, Nat.add_assoc]
theorem pcs_miss (c : List UInt8 → Nat) (us : List (List UInt8)) (i j : Nat) (h : j < (nxL (us.getD i [])).length) {v : List UInt8} (hv : v ≠ (nxL (us.getD i []))[j]) : pcs c us i (j + 1) v = pcs c us i j v := by
  unfold pcs
  rw [count_take_snoc _ j h, if_neg (fun e => hv e.symm), Nat.add_zero]
theorem its_set (xs : List Int) (p : Nat) (a : Int) : (its xs).set p (.int .i64 a) = its (xs.set p a) := by simp [its, List.map_set]
theorem its_at (xs : List Int) (p : Nat) (h : p < xs.length) : (its xs)[p]? = some (.int .i64 xs[p]) := by simp [its, h]
theorem made_ints (n : Nat) : (madeCells (Value.int .i64 0).cells (n * 1)).toList = its (List.replicate n 0) := by
  have hz : (Value.int .i64 0).cells = #[.int .i64 0] := rfl
  rw [hz]
  apply List.ext_getElem?
  intro i
  by_cases hi : i < n
  · simp [madeCells, its, hi, Nat.mod_one]
  · simp [madeCells, its, hi]
/-- How far the sweep has come at the lines of the next layer. -/
def CntAt (c : List UInt8 → Nat) (us N : List (List UInt8)) (i j p : Nat) (xs : List Int) : Prop :=
  xs.length = N.length ∧ ∀ q (h : q < N.length) (h2 : q < xs.length), xs[q] = wr (pcs c us i (if q < p then j + 1 else j) N[q])

theorem cnt_start (c : List UInt8 → Nat) (us N : List (List UInt8)) : CntAt c us N 0 0 0 (List.replicate N.length 0) :=
  ⟨by simp, fun q h h2 => by simp [pcs_start, wr_zero]⟩
theorem cnt_miss {c : List UInt8 → Nat} {us N : List (List UInt8)} {i j p : Nat} {xs : List Int} (h : CntAt c us N i j p xs) (hj : j < (nxL (us.getD i [])).length) (hp : p < N.length) (hne : N[p] ≠ (nxL (us.getD i []))[j]) : CntAt c us N i j (p + 1) xs := by
  refine ⟨h.1, fun q hq h2 => ?_⟩
  rw [h.2 q hq h2]
  by_cases e : q = p
  · subst e
    rw [if_neg (Nat.lt_irrefl _), if_pos (Nat.lt_succ_self _), pcs_miss c us i j hj hne]
  · by_cases h3 : q < p
    · rw [if_pos h3, if_pos (by omega)]
    · rw [if_neg h3, if_neg (by omega)]
theorem cnt_hit {c : List UInt8 → Nat} {us N : List (List UInt8)} {i j p : Nat} {xs : List Int} (h : CntAt c us N i j p xs) (hj : j < (nxL (us.getD i [])).length) (hp : p < N.length) (he : N[p] = (nxL (us.getD i []))[j]) {M : Int}
    (hM : ∀ h2 : p < xs.length, M = (xs[p] + wr (c (us.getD i [])) + 9223372036854775808) % 18446744073709551616 - 9223372036854775808) : CntAt c us N i j (p + 1) (xs.set p M) := by
  refine ⟨by simp [h.1], fun q hq h2 => ?_⟩
  have hpx : p < xs.length := by rw [h.1]; exact hp
  by_cases e : q = p
  · subst e
    rw [List.getElem_set_self, hM hpx, h.2 q hp hpx, if_neg (Nat.lt_irrefl _), if_pos (Nat.lt_succ_self _), wr_add]
    have := pcs_hit c us i j hj
    rw [← he] at this
    rw [this]
  · have h2' : q < xs.length := by rw [h.1]; exact hq
    rw [List.getElem_set_ne (fun e2 => e e2.symm), h.2 q hq h2']
    by_cases h3 : q < p
    · rw [if_pos h3, if_pos (by omega)]
    · rw [if_neg h3, if_neg (by omega)]
theorem cnt_end {c : List UInt8 → Nat} {us N : List (List UInt8)} {i j : Nat} {xs : List Int} (h : CntAt c us N i j N.length xs) : CntAt c us N i (j + 1) 0 xs :=
  ⟨h.1, fun q hq h2 => by rw [h.2 q hq h2, if_pos hq, if_neg (Nat.not_lt_zero _)]⟩
theorem cnt_row {c : List UInt8 → Nat} {us N : List (List UInt8)} {i : Nat} {xs : List Int} (hi : i < us.length) (h : CntAt c us N i (nxL (us.getD i [])).length 0 xs) : CntAt c us N (i + 1) 0 0 xs :=
  ⟨h.1, fun q hq h2 => by rw [h.2 q hq h2, if_neg (Nat.not_lt_zero _), if_neg (Nat.not_lt_zero _), pcs_row c us i hi]⟩
theorem cnt_all {c : List UInt8 → Nat} {us N : List (List UInt8)} {xs : List Int} (h : CntAt c us N us.length 0 0 xs) : xs = N.map fun v => wr (part nxL c us v) := by
  apply List.ext_getElem
  · simp [h.1]
  · intro q h1 h2
    have hq : q < N.length := by rw [← h.1]; exact h1
    rw [h.2 q hq h1, if_neg (Nat.not_lt_zero _), pcs_all, List.getElem_map]
theorem MvAt.farB {w w' : World} {A : Option Addr} {l : List (Int × Int)} {row : Option Nat} (h : MvAt w A l) (hf : FarB row w w') (hne : ∀ a, A = some a → some a.block ≠ row) : MvAt w' A l := by
  intro k hk
  obtain ⟨g, a, b, c, d⟩ := h k hk
  refine ⟨g, a, Nat.lt_of_lt_of_le b hf.1, ?_, ?_⟩
  · rw [← c]; exact World.cell?_of_block (a := ⟨g, k * 2, none⟩) (hf.2 g (hne _ a) b)
  · rw [← d]; exact World.cell?_of_block (a := ⟨g, k * 2 + 1, none⟩) (hf.2 g (hne _ a) b)
theorem farB_then {row : Option Nat} {a b c : World} (h : FarB row a b) (k : FarB row b c) : FarB row a c :=
  ⟨Nat.le_trans h.1 k.1, fun i hne hi => (k.2 i hne (Nat.lt_of_lt_of_le hi h.1)).trans (h.2 i hne hi)⟩
theorem farB_below {row : Option Nat} {a b : World} (h : Below a.heap.size a b) : FarB row a b := ⟨h.size, fun i _ hi => h.block i hi⟩
theorem mv_base {w : World} {base : Nat} {A : Option Addr} {n cap : Nat} {xs : List Value} (h : w.ownsRow base 46 2 (.slice A n cap) n xs) : ∀ a, A = some a → base ≤ a.block := by
  rintro a rfl
  exact (h.lt a.block rfl).1

set_option maxRecDepth 100000 in
set_option maxHeartbeats 4000000 in
theorem reCounts_any (c : List UInt8 → Nat) (n : Nat) (us N : List (List UInt8)) (A0 A1 A2 : Option Addr) (k0 k1 k2 : Nat) (w : World) (hg : ∀ u, u ∈ us → goodT n u) (hu : us.length ≤ 59049) (hN : N.length ≤ 59049)
    (h0 : StAt w A0 us) (h1 : ItAt w A1 (us.map fun u => wr (c u))) (h2 : StAt w A2 N) :
    Calls Try.prog 63 #[.slice A0 us.length k0, .slice A1 us.length k1, .slice A2 N.length k2] w fun e w' => ∃ v, e = .returned v ∧ w'.ownsRow w.heap.size 3 1 v N.length (its (N.map fun v => wr (part nxL c us v))) ∧ Below w.heap.size w w' := by
  obtain ⟨i0, hi, hz0, hz1, hz2⟩ := info_parts Try.infoI
  have HI := Lib.hid hi
  have HZ0 := Lib.hid hz0
  have HZ1 := Lib.hid hz1
  have HZ2 := Lib.hid hz2
  clear hi hz0 hz1 hz2
  have H0 := Lib.hid h0
  have H1 := Lib.hid h1
  have H2 := Lib.hid h2
  have HG := Lib.hid hg
  have b2 : i0.bytes * N.length ≤ 281474976710656 := by rw [HZ2.out]; omega
  have b3 : N.length ≤ maxLen := by unfold maxLen; omega
  clear h0 h1 h2 hg
  go_enter Try.func63, Try.ntmps63
  go_wp2_with (first | (at_make; refine wpList_make_full _ rfl _ _ 79 rfl w.heap.size 3 i0 (.int .i64 0) 1 Try.underlying79 HI.out HZ0.out HZ1.out .i64 .i64 _ _ N.length rfl rfl rfl rfl b2 b3 (Nat.le_refl _) ?_; intro w1 ho1 hg1))
  rw [made_ints] at ho1
  have hB1 := (Below.refl w.heap.size w).grown hg1 (Nat.le_refl _) (fun j hj => by cases hj)
  go_loopw [20] (fun t wr => ∃ (i : Nat) (xs : List Int), i ≤ us.length ∧ t = .int .i64 i ∧ wr.ownsRow w.heap.size 3 1 (.slice (some ⟨w.heap.size, 0, none⟩) N.length N.length) N.length (its xs) ∧ Hid (CntAt c us N i 0 0 xs) ∧ Below w.heap.size w wr) (fun t _ => us.length - (intOf t).toNat)
  case atStart => exact ⟨0, _, Nat.zero_le _, rfl, ho1, Lib.hid (cnt_start c us N), hB1⟩
  case round =>
    obtain ⟨i, xs, hi, rfl, hown, hC, hB⟩ := hrel
    obtain ⟨w0, hw0⟩ : ∃ w0 : World, w0 = wr := ⟨_, rfl⟩
    subst hw0
    by_cases hlt : i < us.length
    · obtain ⟨g0, rfl, z0, c0⟩ := (H0.out i hlt)
      have c0 := (hB.cell (p := ⟨g0, i, none⟩) z0).trans c0
      have hgu := HG.out _ (List.getElem_mem hlt)
      have HU := Lib.hid (getD_in us i hlt)
      have HMV := Lib.hid (nx_move hgu)
      have hlen1 : i < (us.map fun u => wr (c u)).length := by simpa using hlt
      obtain ⟨g1, rfl, z1, c1⟩ := (H1.out i hlen1)
      have HCV : Hid ((us.map fun u => wr (c u))[i] = wr (c us[i])) := Lib.hid (by simp)
      generalize (us.map fun u => wr (c u))[i] = cv at c1 HCV
      have hsz : (str us[i]).size ≤ 12 := ((goodL_iff _).1 hgu.1).2.1
      have hlm := mvsTo_le (canM (str us[i])) (str us[i]) (str us[i]).size
      have HML : Hid ((nxL us[i]).length = (mvsTo (canM (str us[i])) (str us[i]) (str us[i]).size).length) := Lib.hid (by simp [nxL])
      have hlm2 := fun wx => liMoves_all (str us[i]) wx hgu.1
      rw [kinds_can] at hlm2
      have HLM := Lib.hid hlm2
      have HC1 := Lib.hid c1
      clear hgu hlm2 c1
      generalize us[i] = u at c0 HU HMV hsz hlm HML HLM HCV
      generalize mvsTo (canM (str u)) (str u) (str u).size = M at HMV hlm HML HLM
      go_wp2_with fail
      refine (HLM.out _).mono ?_
      rintro e w3 ⟨v3, rfl, ho3, hb3⟩
      obtain ⟨A3, cap3, rfl, AT3⟩ := at_of_own ho3
      have hown3 := own_below hown hb3
      have hz3 := hb3.size
      have hz0 : w.heap.size < w0.heap.size := (hown.lt w.heap.size rfl).2
      have HNE : Hid (∀ a, A3 = some a → some a.block ≠ some w.heap.size) := Lib.hid fun a ha e => by have := mv_base ho3 a ha; injection e with e; omega
      have AT := Lib.hid AT3
      have HB3 := Lib.hid (hB.trans (hb3.mono hB.size))
      clear ho3 AT3 hb3 hown hB c0
      go_wp2
      go_loopw [28] (fun t wr => ∃ (j : Nat) (xs : List Int), j ≤ M.length ∧ t = .int .i64 j ∧ wr.ownsRow w.heap.size 3 1 (.slice (some ⟨w.heap.size, 0, none⟩) N.length N.length) N.length (its xs) ∧ Hid (CntAt c us N i j 0 xs) ∧ Below w.heap.size w wr ∧ FarB (some w.heap.size) w3 wr) (fun t _ => M.length - (intOf t).toNat)
      case atStart => exact ⟨0, _, Nat.zero_le _, rfl, hown3, hC, HB3.out, FarB.refl _ _⟩
      case round =>
        obtain ⟨j, xs, hj, rfl, hown, hC, hB, hF⟩ := hrel
        obtain ⟨w4, hw4⟩ : ∃ w4 : World, w4 = wr := ⟨_, rfl⟩
        subst hw4
        clear hown3
        by_cases hltj : j < M.length
        · obtain ⟨gm, rfl, zm, p1, q1⟩ := (AT.out.farB hF HNE.out) j hltj
          obtain ⟨a, b, e1, e2, ha, hb, hne, h2, e3⟩ := HMV.out j hltj
          rw [e1] at p1
          rw [e2] at q1
          have h4 : j < (nxL (us.getD i [])).length := by rw [HU.out]; exact h2
          have HY : Hid ((nxL (us.getD i []))[j] = putL (str u) a b) := Lib.hid (by simp only [HU.out]; exact e3)
          have HJ := Lib.hid h4
          clear e1 e2 e3
          go_wp2_with fail
          refine (liMake_any (str u) a b _ (by omega) ha hb hne).mono ?_
          rintro e w5 ⟨rfl, hb5⟩
          have hown5 := own_below (hown.alloc _) hb5
          have hB5 := (hB.alloc hB.size _).trans (hb5.mono (by have := hB.size; simp; omega))
          have hF5 : FarB (some w.heap.size) w3 w5 := farB_then hF (farB_then (farB_below ((Below.refl _ _).alloc (Nat.le_refl _) _)) (farB_below hb5))
          generalize hy : putL (str u) a b = y at HY
          clear hown hB hb5 p1 q1 hF hy
          go_wp2
          go_loopw [37] (fun t wr => ∃ (p : Nat) (xs : List Int), p ≤ N.length ∧ t = .int .i64 p ∧ wr.ownsRow w.heap.size 3 1 (.slice (some ⟨w.heap.size, 0, none⟩) N.length N.length) N.length (its xs) ∧ Hid (CntAt c us N i j p xs) ∧ Below w.heap.size w wr ∧ FarB (some w.heap.size) w3 wr) (fun t _ => N.length - (intOf t).toNat)
          case atStart => exact ⟨0, _, Nat.zero_le _, rfl, hown5, hC, hB5, hF5⟩
          case round =>
            obtain ⟨p, xs, hp, rfl, hown, hC, hB, hF⟩ := hrel
            obtain ⟨w6, hw6⟩ : ∃ w6 : World, w6 = wr := ⟨_, rfl⟩
            subst hw6
            clear hown5 hB5 hF5
            by_cases hltp : p < N.length
            · obtain ⟨g2, rfl, z2, c2⟩ := (H2.out p hltp)
              have c2 := (hB.cell (p := ⟨g2, p, none⟩) z2).trans c2
              have HS := Lib.hid (same_str N[p] y)
              have HMISS : Hid (N[p] ≠ y → CntAt c us N i j (p + 1) xs) := Lib.hid fun hne => cnt_miss hC.out HJ.out hltp (by rw [HY.out]; exact hne)
              have hxl : xs.length = N.length := hC.out.1
              have hpx : p < xs.length := by omega
              have HHIT : Hid (N[p] = y → ∀ K, K = (xs[p] + cv + 9223372036854775808) % 18446744073709551616 - 9223372036854775808 → CntAt c us N i j (p + 1) (xs.set p K)) := Lib.hid fun he K hK => cnt_hit hC.out HJ.out hltp (by rw [HY.out]; exact he) (fun h2 => by rw [hK, HCV.out, HU.out])
              have c1 := (hB.cell (p := ⟨g1, i, none⟩) z1).trans HC1.out
              have cr := (hown.cellAt p (by omega)).trans (its_at xs p hpx)
              have fr := hown.frozenAt p
              generalize xs[p] = av at cr HHIT
              generalize N[p] = x at c2 HS HMISS HHIT
              obtain ⟨K, hK⟩ : ∃ K, K = (av + cv + 9223372036854775808) % 18446744073709551616 - 9223372036854775808 := ⟨_, rfl⟩
              have HK := Lib.hid hK
              have hs2 := (hown.stored p (.int .i64 K)).1
              rw [its_set] at hs2
              have HS2 := Lib.hid hs2
              have hzz := hB.size
              by_cases he : x = y
              · have hb : ((str x).toList == (str y).toList) = true := by rw [HS.out]; simp [he]
                have HC2 := Lib.hid (HHIT.out he K hK)
                have hK1 := hK.symm
                have hK2 : IntKind.i64.wrap (av + cv) = K := by rw [IntKind.wrap_i64]; exact hK1
                clear HHIT HMISS hK hs2 hown
                go_wp2
                go_region
                go_wp2
                have hF7 := hF.set p (.int .i64 K)
                exact ⟨⟨p + 1, xs.set p K, by omega, by go_num, HS2.out.drew, HC2, (hB.setCell (Nat.le_refl _) _).drew, ⟨hF7.1, hF7.2⟩⟩, by simp [intOf]; omega⟩
              · have hb : ((str x).toList == (str y).toList) = false := by rw [HS.out]; simp [he]
                have HC2 := Lib.hid (HMISS.out he)
                have HOWN := Lib.hid hown
                clear HHIT HMISS hK hs2 hown
                go_wp2
                go_roundw
                case rel => exact ⟨p + 1, xs, by omega, by go_num, HOWN.out, HC2, hB, hF⟩
                case measure => simp [intOf]; omega
            · obtain rfl : p = N.length := by omega
              go_wp2
              go_roundw
              case rel => exact ⟨j + 1, xs, by omega, by go_num, hown, Lib.hid (cnt_end hC.out), hB, hF⟩
              case measure => simp [intOf]; omega
        · obtain rfl : j = M.length := by omega
          go_wp2
          go_roundw
          case rel => exact ⟨i + 1, xs, by omega, by go_num, hown, Lib.hid (cnt_row hlt (by rw [HU.out, HML.out]; exact hC.out)), hB⟩
          case measure => simp [intOf]; omega
    · obtain rfl : i = us.length := by omega
      go_wp2
      go_ret
      exact ⟨_, rfl, by rw [← cnt_all hC.out]; exact hown, hB⟩
end Go.Proofs.Ytoefeooldcbfiaa
