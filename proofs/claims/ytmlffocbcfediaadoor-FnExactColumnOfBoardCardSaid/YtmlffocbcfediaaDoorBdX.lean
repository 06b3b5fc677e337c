/- WayOnBoard: both sides' contracts. -/
import Derived.Test.YtmlffocbcfediaaDoorBdQ
import Derived.Test.YtmlffocbcfediaaDoorItr
import Derived.BigQuiet
namespace Go.Proofs.YtmlffocbcfediaaDoor
open Go.RowKit

def wtB (wd hi y x : Nat) (c : UInt8) : Nat := if c = 84 then (wd - 1 - x) + (hi - 1 - y) else if c = 70 then x + y else 0
def waP (wd hi y : Nat) (r : List UInt8) (k : Nat) : Nat := ((List.range k).map fun i => wtB wd hi y i (r.getD i 0)).sum
def waR (wd hi : Nat) (R : List (List UInt8)) (y : Nat) : Nat := ((List.range y).map fun j => waP wd hi j (R.getD j []) wd).sum
def waF (wd hi : Nat) (F : List UInt8) (k : Nat) : Nat := ((List.range k).map fun j => wtB wd hi (j / wd) (j % wd) (F.getD j 0)).sum
theorem sum_next (f : Nat → Nat) (k : Nat) : ((List.range (k + 1)).map f).sum = ((List.range k).map f).sum + f k := by
  rw [List.range_succ, List.map_append, List.sum_append]; simp
theorem waP_next (wd hi y : Nat) (r : List UInt8) (k : Nat) : waP wd hi y r (k + 1) = waP wd hi y r k + wtB wd hi y k (r.getD k 0) := sum_next _ _
theorem waR_next (wd hi : Nat) (R : List (List UInt8)) (y : Nat) : waR wd hi R (y + 1) = waR wd hi R y + waP wd hi y (R.getD y []) wd := sum_next _ _
theorem waF_next (wd hi : Nat) (F : List UInt8) (k : Nat) : waF wd hi F (k + 1) = waF wd hi F k + wtB wd hi (k / wd) (k % wd) (F.getD k 0) := sum_next _ _
theorem flat_get : ∀ (R : List (List UInt8)) (wd y x : Nat), (∀ r ∈ R, r.length = wd) → y < R.length → x < wd → R.flatten.getD (y * wd + x) 0 = (R.getD y []).getD x 0
  | [], _, _, _, _, h, _ => by simp at h
  | r :: R, wd, 0, x, h, _, hx => by
    have e := h r (by simp)
    simp only [List.flatten_cons, Nat.zero_mul, Nat.zero_add, List.getD_eq_getElem?_getD]
    rw [List.getElem?_append_left (by omega)]
    simp
  | r :: R, wd, y + 1, x, h, hy, hx => by
    have e := h r (by simp)
    have ih := flat_get R wd y x (fun q hq => h q (by simp [hq])) (by simpa using hy) hx
    simp only [List.flatten_cons, List.getD_eq_getElem?_getD] at ih ⊢
    rw [List.getElem?_append_right (by rw [e, Nat.add_mul]; omega)]
    rw [show (y + 1) * wd + x - r.length = y * wd + x by rw [e, Nat.add_mul]; omega]
    simpa using ih
theorem waF_rows (R : List (List UInt8)) (wd hi : Nat) (h : ∀ r ∈ R, r.length = wd) (y : Nat) (hy : y < R.length) : ∀ x, x ≤ wd → waF wd hi R.flatten (y * wd) = waR wd hi R y → waF wd hi R.flatten (y * wd + x) = waR wd hi R y + waP wd hi y (R.getD y []) x
  | 0, _, e => by rw [Nat.add_zero, e]; rfl
  | x + 1, hx, e => by
    have ih := waF_rows R wd hi h y hy x (by omega) e
    rw [← Nat.add_assoc, waF_next, ih, waP_next, flat_get R wd y x h hy (by omega)]
    have e1 : (y * wd + x) / wd = y := by
      rw [Nat.add_comm, Nat.add_mul_div_right _ _ (by omega), Nat.div_eq_of_lt (by omega)]; omega
    have e2 : (y * wd + x) % wd = x := by
      rw [Nat.add_comm, Nat.add_mul_mod_self_right, Nat.mod_eq_of_lt (by omega)]
    rw [e1, e2, Nat.add_assoc]
theorem waF_whole (R : List (List UInt8)) (wd hi : Nat) (h : ∀ r ∈ R, r.length = wd) : ∀ y, y ≤ R.length → waF wd hi R.flatten (y * wd) = waR wd hi R y
  | 0, _ => by rw [Nat.zero_mul]; rfl
  | y + 1, hy => by
    have ih := waF_whole R wd hi h y (by omega)
    have := waF_rows R wd hi h y (by omega) wd (Nat.le_refl _) ih
    rw [Nat.add_mul, Nat.one_mul, this, waR_next]
theorem wtB_le (wd hi y x : Nat) (c : UInt8) (h1 : wd ≤ 5) (h2 : hi ≤ 5) (hx : x < 5) (hy : y < 5) : wtB wd hi y x c ≤ 8 := by
  unfold wtB
  split
  · omega
  · split <;> omega
theorem waP_le (wd hi y : Nat) (r : List UInt8) (h1 : wd ≤ 5) (h2 : hi ≤ 5) (hy : y < 5) : ∀ k, k ≤ 5 → waP wd hi y r k ≤ 8 * k
  | 0, _ => by simp [waP]
  | k + 1, hk => by
    have := waP_le wd hi y r h1 h2 hy k (by omega)
    have := wtB_le wd hi y k (r.getD k 0) h1 h2 (by omega) hy
    rw [waP_next]; omega
theorem waR_le (wd hi : Nat) (R : List (List UInt8)) (h1 : wd ≤ 5) (h2 : hi ≤ 5) : ∀ y, y ≤ 5 → waR wd hi R y ≤ 40 * y
  | 0, _ => by simp [waR]
  | y + 1, hy => by
    have := waR_le wd hi R h1 h2 y (by omega)
    have := waP_le wd hi y (R.getD y []) h1 h2 (by omega) wd h1
    rw [waR_next]; omega
theorem waF_le (wd hi : Nat) (F : List UInt8) (h0 : 1 ≤ wd) (h1 : wd ≤ 5) (h2 : hi ≤ 5) : ∀ k, k ≤ hi * wd → waF wd hi F k ≤ 8 * k
  | 0, _ => by simp [waF]
  | k + 1, hk => by
    have := waF_le wd hi F h0 h1 h2 k (by omega)
    have hm : k % wd < wd := Nat.mod_lt _ (by omega)
    have hd : k / wd < hi := (Nat.div_lt_iff_lt_mul (by omega)).2 (by omega)
    have := wtB_le wd hi (k / wd) (k % wd) (F.getD k 0) h1 h2 (by omega) (by omega)
    rw [waF_next]; omega

set_option maxRecDepth 100000 in
set_option maxHeartbeats 2000000 in
theorem sWay_bd (s : ByteArray) (w : World) (hs : s.size ≤ maxLen) :
    Calls Tryd.prog 38 #[.string s] w fun e w' => e = .returned (intOr (goodB (byt s)) (waR ((spl (byt s)).headD []).length (spl (byt s)).length (spl (byt s)) (spl (byt s)).length)) ∧ Below w.heap.size w w' := by
  cases hc : goodB (byt s)
  · have HR := Lib.hid (fun wx => boRows_no s wx hs hc)
    rw [intOr_no _ _ rfl]
    clear hc
    go_enter Tryd.func38, Tryd.ntmps38
    go_wp2_with fail
    refine (HR.out _).mono ?_
    rintro e w1 ⟨rfl, hb1⟩
    go_wp2
    go_ret2
    exact ⟨rfl, hb1⟩
  · have HR := Lib.hid (fun wx => boRows_yes s wx hs hc)
    obtain ⟨h5, hrow⟩ := (boOk_iff _).1 hc
    obtain ⟨g1, g2, g3, g4, _⟩ := good_size hc
    rw [intOr_yes _ _ rfl]
    clear hc
    generalize spl (byt s) = R at HR h5 hrow g1 g2 g3 g4 ⊢
    have HRW := Lib.hid hrow
    clear hrow
    generalize (R.headD []).length = wd at HRW g1 g2 ⊢
    obtain ⟨hi, hhi⟩ : ∃ hi, hi = R.length := ⟨_, rfl⟩
    have HWR := Lib.hid (waR_next wd hi R)
    have HRL := Lib.hid (waR_le wd hi R g2 (by omega))
    have HPL := Lib.hid (fun y => waP_le wd hi y (R.getD y []) g2 (by omega))
    rw [← hhi] at g3 g4 ⊢
    have HHI := Lib.hid hhi
    go_enter Tryd.func38, Tryd.ntmps38
    go_wp2_with fail
    refine (HR.out _).mono ?_
    rintro e w1 ⟨A, cap, rfl, hle, AT0, hb1⟩
    have AT := Lib.hid AT0
    have HB1 := Lib.hid hb1
    clear AT0 hb1 h5
    rw [← hhi] at hle ⊢
    clear hhi
    go_wp2
    go_loopw [6, 19] (fun t i wr => ∃ y : Nat, y ≤ hi ∧ i = .int .i64 y ∧ t = .int .i64 (waR wd hi R y) ∧ Below w1.heap.size w1 wr) (fun _ i _ => hi - (intOf i).toNat)
    case atStart => exact ⟨0, Nat.zero_le _, rfl, rfl, Below.refl _ _⟩
    case round =>
      obtain ⟨y, hy, rfl, rfl, hB⟩ := hrel
      obtain ⟨wo, hwo⟩ : ∃ wo : World, wo = wr := ⟨_, rfl⟩
      subst hwo
      by_cases hlt : y < hi
      · have hltR : y < R.length := by rw [← HHI.out]; exact hlt
        obtain ⟨g, rfl, hg, hcell⟩ := (AT.out.below hB) y hltR
        obtain ⟨hgood, hr5, hrl⟩ := HRW.out _ (List.getElem_mem hltR)
        have hgd : R.getD y [] = R[y] := by rw [List.getD_eq_getElem?_getD, List.getElem?_eq_getElem hltR]; rfl
        have HN := Lib.hid (HWR.out y)
        have hR0 := HRL.out y (by omega)
        have HP := Lib.hid (HPL.out y (by omega))
        rw [hgd] at HN HP
        have HPN := Lib.hid (waP_next wd hi y R[y])
        have HZ : Hid ((str R[y]).size = wd) := Lib.hid (by rw [str_size]; exact hrl)
        have HASC := Lib.hid (fun k hk => good_asc hgood k hk)
        have HGT : Hid (∀ k (hk : k < (str R[y]).size), R[y].getD k 0 = (str R[y])[k]) := Lib.hid fun k hk => by
          have hk2 : k < R[y].length := by rw [str_size] at hk; exact hk
          rw [List.getD_eq_getElem?_getD, List.getElem?_eq_getElem hk2]
          rfl
        have HS0 : Hid (waP wd hi y R[y] 0 = 0) := Lib.hid rfl
        clear hgood hr5 hrl hgd
        generalize waP wd hi y R[y] = P at HN HP HPN HS0
        generalize R[y].getD = gt at HPN HGT
        generalize str R[y] = sr at hcell HZ HASC HGT
        generalize waR wd hi R y = t0 at HN hR0 ⊢
        obtain rfl : sr.size = wd := HZ.out
        have i1 : (0 : Int) ≤ (y : Int) := by omega
        have i2 : (y : Int) < (hi : Int) := by omega
        go_wp2
        go_loopw [6] (fun t wv => ∃ x : Nat, x ≤ sr.size ∧ wv.heap[wo.heap.size]? = some (.stringIter sr x) ∧ t = .int .i64 ((t0 + P x : Nat) : Int) ∧ Below w1.heap.size w1 wv) (fun _ wv => sr.size - wv.iterPos wo.heap.size)
        case atStart => exact ⟨0, Nat.zero_le _, World.iter_heap wo sr 0, by rw [HS0.out]; rfl, hB.alloc hB.size _⟩
        case round =>
          obtain ⟨x, hx, hit, rfl, hBv⟩ := hrel
          have hpos0 := iterPos_of hit
          by_cases hltx : x < sr.size
          · have hasc := HASC.out x hltx
            have hnx : ∀ ty, (Instr.next (.pointer (some ⟨wo.heap.size, 0, none⟩)) true ty).run Tryd.prog wr = _ := fun ty => Lib.run_next_ascii_at wr wo.heap.size sr x ty hit hltx hasc
            have hit2 := Lib.iterAt_heap wr wo.heap.size sr x (x + 1) hit
            have hB2 := Lib.below_iterAt hBv (k := wo.heap.size) hB.size sr (x + 1)
            obtain ⟨W1, hW1⟩ : ∃ W1, W1 = wr.iterAt wo.heap.size sr (x + 1) := ⟨_, rfl⟩
            rw [← hW1] at hnx hit2 hB2
            clear hW1 hit hBv
            have hPx := HP.out x (by omega)
            have HPX := Lib.hid (HPN.out x)
            rw [HGT.out x hltx] at HPX
            have hsum : t0 + P x ≤ 300 := by omega
            by_cases h84 : sr[x] = 84
            · have hv : ((sr[x].toNat : Int) == 84) = true := by rw [h84]; rfl
              have HW : Hid (wtB sr.size hi y x sr[x] = (sr.size - 1 - x) + (hi - 1 - y)) := Lib.hid (by unfold wtB; rw [if_pos h84])
              clear h84
              go_wp2
              go_roundw
              case rel =>
                refine ⟨x + 1, by omega, hit2, ?_, hB2⟩
                refine congrArg (fun n => Value.int .i64 n) ?_
                rw [HPX.out, HW.out]
                push_cast
                omega
              case measure => rw [iterPos_of hit2, hpos0]; omega
            · have hv : ((sr[x].toNat : Int) == 84) = false := bne_u8 (b := 84) h84
              by_cases h70 : sr[x] = 70
              · have hv2 : ((sr[x].toNat : Int) == 70) = true := by rw [h70]; rfl
                have HW : Hid (wtB sr.size hi y x sr[x] = x + y) := Lib.hid (by unfold wtB; rw [if_neg h84, if_pos h70])
                clear h84 h70
                go_wp2
                go_roundw
                case rel =>
                  refine ⟨x + 1, by omega, hit2, ?_, hB2⟩
                  refine congrArg (fun n => Value.int .i64 n) ?_
                  rw [HPX.out, HW.out]
                  push_cast
                  omega
                case measure => rw [iterPos_of hit2, hpos0]; omega
              · have hv2 : ((sr[x].toNat : Int) == 70) = false := bne_u8 (b := 70) h70
                have HW : Hid (wtB sr.size hi y x sr[x] = 0) := Lib.hid (by unfold wtB; rw [if_neg h84, if_neg h70])
                clear h84 h70
                go_wp2
                go_roundw
                case rel =>
                  refine ⟨x + 1, by omega, hit2, ?_, hB2⟩
                  refine congrArg (fun n => Value.int .i64 n) ?_
                  rw [HPX.out, HW.out]
                  push_cast
                  omega
                case measure => rw [iterPos_of hit2, hpos0]; omega
          · have hnx : ∀ ty, (Instr.next (.pointer (some ⟨wo.heap.size, 0, none⟩)) true ty).run Tryd.prog wr = _ := fun ty => Lib.run_next_end_at wr wo.heap.size sr x ty hit hltx
            obtain rfl : x = sr.size := by omega
            go_wp2
            go_roundw
            case rel => exact ⟨y + 1, by omega, by go_num, by rw [HN.out], hBv⟩
            case measure => simp [intOf]; omega
      · obtain rfl : y = hi := by omega
        go_wp2
        go_ret2
        exact ⟨rfl, HB1.out.trans (hB.mono HB1.out.size)⟩

theorem Below.drewN_of (w : World) (n : Nat) {b : Nat} : Below b w (w.drewN n) := by
  induction n with
  | zero => exact Below.refl _ _
  | succ n ih => exact ih.drew

set_option maxRecDepth 100000 in
set_option maxHeartbeats 2000000 in
theorem way_bd (s : ByteArray) (w : World) (hs : s.size ≤ 2000000) :
    Calls Tryd.prog 39 #[.string s] w fun e w' => e = .returned (intOr (goodB (byt s)) (waR ((spl (byt s)).headD []).length (spl (byt s)).length (spl (byt s)) (spl (byt s)).length)) ∧ Below w.heap.size w w' := by
  cases hc : goodB (byt s)
  · have HR := Lib.hid (fun wx => boardOf_no s wx hs hc)
    rw [intOr_no _ _ rfl]
    clear hc
    go_enter Tryd.func39, Tryd.ntmps39
    go_wp2_with fail
    refine (HR.out _).mono ?_
    rintro e w1 ⟨rfl, hb1⟩
    go_wp2
    go_ret2
    exact ⟨rfl, hb1.alloc hb1.size _⟩
  · have HR := Lib.hid (fun wx => boardOf_yes s wx hs hc)
    obtain ⟨g1, g2, g3, g4, g5⟩ := good_size hc
    obtain ⟨_, hrow⟩ := (boOk_iff _).1 hc
    have hf5 : (spl (byt s)).flatten.length ≤ 25 := by
      rw [g5]
      have := Nat.mul_le_mul g4 g2
      omega
    have hq : (spl (byt s)).flatten.length / ((spl (byt s)).headD []).length = (spl (byt s)).length := by rw [g5]; exact Nat.mul_div_cancel _ (by omega)
    have HH := Lib.hid (fun g cap wx => high_any ((spl (byt s)).headD []).length g cap (spl (byt s)).flatten.length wx g1 (by omega) (by omega))
    rw [hq] at HH
    have HEND : Hid (waF ((spl (byt s)).headD []).length (spl (byt s)).length (spl (byt s)).flatten (spl (byt s)).flatten.length = waR ((spl (byt s)).headD []).length (spl (byt s)).length (spl (byt s)) (spl (byt s)).length) := Lib.hid (by
      rw [g5]
      exact waF_whole _ _ _ (fun r hr => (hrow r hr).2.2) _ (Nat.le_refl _))
    rw [intOr_yes _ _ rfl, ← HEND.out]
    have HNX := Lib.hid (waF_next ((spl (byt s)).headD []).length (spl (byt s)).length (spl (byt s)).flatten)
    have HLE := Lib.hid (waF_le ((spl (byt s)).headD []).length (spl (byt s)).length (spl (byt s)).flatten g1 g2 g4)
    clear hq hc hrow HEND
    have HFL := Lib.hid g5
    clear g5
    generalize ((spl (byt s)).headD []).length = wd at HR HH g1 g2 HNX HLE HFL ⊢
    generalize (spl (byt s)).flatten = F at HR HH hf5 HNX HLE HFL ⊢
    generalize (spl (byt s)).length = hi at HH g3 g4 HNX HLE HFL ⊢
    have HGD : Hid (∀ k (h : k < F.length), F.getD k 0 = F[k]) := Lib.hid fun k h => by rw [List.getD_eq_getElem?_getD, List.getElem?_eq_getElem h]; rfl
    have HD1 : Hid (∀ k, k < F.length → k / wd < hi) := Lib.hid fun k h => (Nat.div_lt_iff_lt_mul (by omega)).2 (by rw [← HFL.out]; exact h)
    have HD2 : Hid (∀ k, k % wd < wd) := Lib.hid fun k => Nat.mod_lt _ (by omega)
    have HD3 : Hid (∀ k, k ≤ F.length → k ≤ hi * wd) := Lib.hid fun k h => by rw [← HFL.out]; exact h
    clear HFL
    generalize hP : waF wd hi F = P at HNX HLE ⊢
    have HP0 : Hid (P 0 = 0) := Lib.hid (by rw [← hP]; rfl)
    clear hP
    go_enter Tryd.func39, Tryd.ntmps39
    go_wp2_with fail
    refine (HR.out _).mono ?_
    rintro e w1 ⟨g, cap, rfl, h1, h2, h3, h4, hb1⟩
    have HBS := Lib.hid h4
    have HHg := Lib.hid (fun wx => HH.out g cap wx)
    clear h4 HH
    obtain ⟨fl, hfl⟩ : ∃ fl, fl = F.length := ⟨_, rfl⟩
    rw [← hfl] at HHg hf5 h3 ⊢
    have HLF := Lib.hid hfl
    clear hfl
    have hz0 : ((wd : Int) == 0) = false := by rw [beq_eq_false_iff_ne]; omega
    go_wp2
    obtain ⟨W2, hW2⟩ : ∃ W2, W2 = w1.alloc (Obj.cells #[.int .i64 wd, .slice (some ⟨g, 0, none⟩) fl cap] 51) := ⟨_, rfl⟩
    rw [← hW2]
    have c0 : W2.cell? ⟨w1.heap.size, 0, none⟩ = some (.int .i64 wd) := by rw [hW2, World.cell?_alloc_new]; rfl
    have c1 : W2.cell? ⟨w1.heap.size, 1, none⟩ = some (.slice (some ⟨g, 0, none⟩) fl cap) := by rw [hW2, World.cell?_alloc_new]; rfl
    have z2 : w1.heap.size < W2.heap.size := by rw [hW2]; simp
    have HB2 := Lib.hid (hb1.alloc hb1.size (Obj.cells #[.int .i64 wd, .slice (some ⟨g, 0, none⟩) fl cap] 51))
    rw [← hW2] at HB2
    have HBS2 : Hid (BsAt W2 g F) := Lib.hid (by rw [hW2]; exact HBS.out.below h2 ((Below.refl _ _).alloc (Nat.le_refl _) _))
    have hg2 : g < W2.heap.size := by omega
    clear hW2 HBS hb1
    go_wp2
    go_loopw [6, 21] (fun t i wr => ∃ k : Nat, k ≤ fl ∧ i = .int .i64 k ∧ t = .int .i64 (P k) ∧ Below W2.heap.size W2 wr) (fun _ i _ => fl - (intOf i).toNat)
    case atStart => exact ⟨0, Nat.zero_le _, rfl, by rw [HP0.out]; rfl, Below.refl _ _⟩
    case round =>
      obtain ⟨k, hk, rfl, rfl, hB⟩ := hrel
      by_cases hlt : k < fl
      · have hltF : k < F.length := by rw [← HLF.out]; exact hlt
        have d0 := (hB.cell (p := ⟨w1.heap.size, 0, none⟩) z2).trans c0
        have d1 := (hB.cell (p := ⟨w1.heap.size, 1, none⟩) z2).trans c1
        have hcell := (hB.cell (p := ⟨g, k, none⟩) hg2).trans (HBS2.out k hltF)
        have HN := Lib.hid (HNX.out k)
        rw [HGD.out k hltF] at HN
        have hPk := HLE.out k (HD3.out k (by rw [← HLF.out]; exact hk))
        have hy := HD1.out k hltF
        have hx := HD2.out k
        have q1 : (k : Int) / (wd : Int) = ((k / wd : Nat) : Int) := (Int.natCast_ediv k wd).symm
        have q2 : (k : Int) % (wd : Int) = ((k % wd : Nat) : Int) := (Int.natCast_emod k wd).symm
        have HB := Lib.hid hB
        have hzr := hB.size
        clear hB
        generalize F[k] = c at hcell HN
        generalize k / wd = y at HN hy q1
        generalize k % wd = x at HN hx q2
        generalize P k = pk at HN hPk
        by_cases h84 : c = 84
        · have hv : ((c.toNat : Int) == 84) = true := by rw [h84]; rfl
          have HW : Hid (wtB wd hi y x c = (wd - 1 - x) + (hi - 1 - y)) := Lib.hid (by unfold wtB; rw [if_pos h84])
          clear h84
          go_wp2
          go_quiet (fail)
          go_wp2
          rw [q2]
          have zq : w1.heap.size < (wr.drewN nq).heap.size := by simp; omega
          have e0 : (wr.drewN nq).cell? ⟨w1.heap.size, 0, none⟩ = some (.int .i64 wd) := by simpa using d0
          have e1 : (wr.drewN nq).cell? ⟨w1.heap.size, 1, none⟩ = some (.slice (some ⟨g, 0, none⟩) fl cap) := by simpa using d1
          have HBQ : Hid (Below W2.heap.size W2 (wr.drewN nq)) := Lib.hid (HB.out.trans (Below.drewN_of wr nq))
          generalize wr.drewN nq = wq at zq e0 e1 HBQ ⊢
          go_region_with (go_at_call 42; refine (HHg.out _).mono ?_; rintro e w3 ⟨rfl, hb3⟩; have d0' := (hb3.cell (p := ⟨w1.heap.size, 0, none⟩) zq).trans e0; have d1' := (hb3.cell (p := ⟨w1.heap.size, 1, none⟩) zq).trans e1)
          all_goals
            go_wp2
            go_roundw
            case rel =>
              refine ⟨k + 1, by omega, by go_num, ?_, ?_⟩
              · refine congrArg (fun n => Value.int .i64 n) ?_
                rw [HN.out, HW.out]
                push_cast
                omega
              · exact HBQ.out.drew.trans (hb3.mono HBQ.out.size)
            case measure => simp [intOf]; omega
        · have hv : ((c.toNat : Int) == 84) = false := bne_u8 (b := 84) h84
          by_cases h70 : c = 70
          · have hv2 : ((c.toNat : Int) == 70) = true := by rw [h70]; rfl
            have HW : Hid (wtB wd hi y x c = x + y) := Lib.hid (by unfold wtB; rw [if_neg h84, if_pos h70])
            clear h84 h70
            go_wp2
            go_quiet (fail)
            go_wp2
            go_roundw
            case rel =>
              refine ⟨k + 1, by omega, by go_num, ?_, ?_⟩
              · refine congrArg (fun n => Value.int .i64 n) ?_
                rw [HN.out, HW.out]
                push_cast
                omega
              · exact HB.out.trans (Below.drewN_of wr nq)
            case measure => simp [intOf]; omega
          · have hv2 : ((c.toNat : Int) == 70) = false := bne_u8 (b := 70) h70
            have HW : Hid (wtB wd hi y x c = 0) := Lib.hid (by unfold wtB; rw [if_neg h84, if_neg h70])
            clear h84 h70
            go_wp2
            go_quiet (fail)
            go_wp2
            go_roundw
            case rel =>
              refine ⟨k + 1, by omega, by go_num, ?_, ?_⟩
              · refine congrArg (fun n => Value.int .i64 n) ?_
                rw [HN.out, HW.out]
                push_cast
                omega
              · exact HB.out.trans (Below.drewN_of wr nq)
            case measure => simp [intOf]; omega
      · obtain rfl : k = fl := by omega
        have HB := Lib.hid hB
        clear hB
        go_wp2
        go_ret2
        refine ⟨?_, HB2.out.trans (HB.out.mono HB2.out.size)⟩
        rw [← HLF.out]
        rfl
set_option maxRecDepth 100000 in
set_option maxHeartbeats 2000000 in
theorem walk_FnExactWayOnBoard (s : ByteArray) (hs : s.size ≤ maxLen) (w : World) :
    Calls Tryd.prog 13 #[.string s] w fun e w' => e = .returned (.bool true) ∧ Below w.heap.size w w' := by
  by_cases hbig0 : (1048576 : Int) < (s.size : Int)
  · go_enter Tryd.func13, Tryd.ntmps13
    go_wp2
    go_ret
    exact ⟨rfl, Below.refl _ _⟩
  · skip
    have HS := Lib.hid (fun wx => sWay_bd s wx hs)
    have HM := Lib.hid (fun wx => way_bd s wx (by omega))
    obtain ⟨x, y, hxy⟩ : ∃ x y, intOr (goodB (byt s)) (waR ((spl (byt s)).headD []).length (spl (byt s)).length (spl (byt s)) (spl (byt s)).length) = .tuple #[.int .i64 x, .bool y] := by cases goodB (byt s) <;> exact ⟨_, _, rfl⟩
    rw [hxy] at HS HM
    clear hxy
    go_enter Tryd.func13, Tryd.ntmps13
    go_wp2_with fail
    refine (HS.out _).mono ?_
    rintro e w1 ⟨rfl, hb1⟩
    go_wp2_with fail
    refine (HM.out _).mono ?_
    rintro e w2 ⟨rfl, hb2⟩
    go_wp2
    go_ret
    exact ⟨rfl, hb1.trans (hb2.mono hb1.size)⟩
end Go.Proofs.YtmlffocbcfediaaDoor
