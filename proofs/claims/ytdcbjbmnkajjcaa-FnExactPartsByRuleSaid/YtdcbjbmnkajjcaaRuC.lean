/- Contracts: a move by a rule, the model's test. -/
import Derived.Test.YtdcbjbmnkajjcaaRuA
namespace Go.Proofs.Ytdcbjbmnkajjcaa
open Go.RowKit

theorem is_or2 (c d : UInt8) (n : Int) (hn : (d.toNat : Int) = n) : (c = d ∧ ((c.toNat : Int) == n) = true) ∨ (c ≠ d ∧ ((c.toNat : Int) == n) = false) := by
  by_cases h : c = d
  · exact .inl ⟨h, by rw [h, hn]; simp⟩
  · exact .inr ⟨h, by rw [← hn]; exact bne_u8 h⟩
/-- A rule, as a struct and as an array. -/
abbrev ruV (o b l : Bool) : Value := .agg #[.bool o, .bool b, .bool l]
abbrev ruO (o b l : Bool) : Obj := Obj.cells #[.bool o, .bool b, .bool l] 27
theorem oversR_next (s : ByteArray) (o : Bool) (f way : Int) (i : Nat) : oversR s o f way (i + 1) = (oversR s o f way i && overB s o f (f + ((i : Int) + 1) * way)) := by
  unfold oversR
  rw [List.range_succ, List.all_append]
  simp
theorem oversR_no (s : ByteArray) (o : Bool) (f way : Int) (i n : Nat) (hi : i < n) (h : overB s o f (f + ((i : Int) + 1) * way) = false) : oversR s o f way n = false := by
  rw [Bool.eq_false_iff]
  intro e
  have := List.all_eq_true.1 e i (List.mem_range.2 hi)
  rw [h] at this
  cases this
theorem overB_46 (s : ByteArray) (o : Bool) (f x : Int) (h : sgAt s x = 46) : overB s o f x = false := by unfold overB; rw [h]; rfl
theorem overB_no (s : ByteArray) (f x : Int) (h : sgAt s x = sgAt s f) : overB s false f x = false := by unfold overB; rw [h]; simp
theorem overB_o (s : ByteArray) (f x : Int) (h : sgAt s x ≠ 46) : overB s true f x = true := by unfold overB; simp [h]
theorem overB_ne (s : ByteArray) (o : Bool) (f x : Int) (h : sgAt s x ≠ 46) (h2 : sgAt s x ≠ sgAt s f) : overB s o f x = true := by unfold overB; simp [h, h2]

set_option maxRecDepth 100000 in
set_option maxHeartbeats 8000000 in
theorem ruCan_right (s : ByteArray) (o b l : Bool) (a c : Nat) (w : World) (hs : s.size ≤ 1000) (ha : a < s.size) (hc : c < s.size) (hac : a < c) (h1 : s[a] ≠ 46) (h2 : s[c] = 46) :
    Calls Try.prog 37 #[.string s, .agg #[.int .i64 a, .int .i64 c], ruV o b l] w fun e w' => e = .returned (.bool (ruC s o b l a c)) ∧ Below w.heap.size w w' := by
  have H1 : Hid (inR a 0 (s.size - 1) = true) := Lib.hid (by unfold inR; simp; omega)
  have H2 : Hid (inR c 0 (s.size - 1) = true) := Lib.hid (by unfold inR; simp; omega)
  have ga := Lib.hid (sgAt_in s a ha)
  have gc := Lib.hid (sgAt_in s c hc)
  have hv1 : ((s[a].toNat : Int) == 46) = false := bne_u8 (b := 46) h1
  have hv2 : ((s[c].toNat : Int) != 46) = false := by rw [h2]; rfl
  obtain ⟨n, hn⟩ : ∃ n : Nat, n = c - a - 1 := ⟨_, rfl⟩
  have HC : Hid (ruC s o b l a c = ((b || !bkR s a (1)) && (l || decide (n ≤ 1)) && oversR s o a (1) n)) := by
    have e : (c : Int) = a + ((n : Int) + 1) * 1 := by omega
    have h := ruC_at s o b l a (1) (.inl rfl) n (by rw [← e]; exact H2.out)
    have e1 : (!(s[a] == 46)) = true := by simpa using h1
    rw [← e, H1.out, ga.out, gc.out, h2, e1] at h
    refine Lib.hid ?_
    rw [h]
    simp
  have HBK : Hid (bkR s a (1) = !(s[a] == 84)) := Lib.hid (by unfold bkR; rw [ga.out]; simp)
  have HN := Lib.hid hn
  have HX := Lib.hid h1
  clear hn h1 h2
  rcases is_or2 s[a] 84 84 rfl with ⟨h84, hv84⟩ | ⟨h84, hv84⟩
  · have HBK : Hid (bkR s a (1) = false) := Lib.hid (by rw [HBK.out]; simp [h84])
    by_cases hlo : 2 < (c : Int) - (a : Int)
    · cases l
      · skip
        have HR : Hid (ruC s o b false a c = false) := Lib.hid (by rw [HC.out]; rw [show decide (n ≤ 1) = false from decide_eq_false (by have := HN.out; omega)]; simp)
        clear h84
        go_enter Try.func37, Try.ntmps37
        go_wp2_with fail
        refine (l1In_any _ _ _ _).mono ?_; rintro e w' ⟨rfl, rfl⟩; rw [H1.out]
        go_wp2_with fail
        refine (l1In_any _ _ _ _).mono ?_; rintro e w' ⟨rfl, rfl⟩; rw [H2.out]
        go_wp2
        go_ret
        exact ⟨congrArg (fun b => Ending.returned (.bool b)) HR.out.symm, ((Below.refl _ _).alloc (Nat.le_refl _) _).alloc (by simp) _⟩
      · skip
        have HY : Hid (ruC s o b true a c = oversR s o a (1) n) := Lib.hid (by rw [HC.out]; rw [HBK.out]; simp)
        clear h84
        go_enter Try.func37, Try.ntmps37
        go_wp2_with fail
        refine (l1In_any _ _ _ _).mono ?_; rintro e w' ⟨rfl, rfl⟩; rw [H1.out]
        go_wp2_with fail
        refine (l1In_any _ _ _ _).mono ?_; rintro e w' ⟨rfl, rfl⟩; rw [H2.out]
        go_wp2
        go_loop [9, 10] (fun k _ => ∃ i : Nat, i ≤ n ∧ k = .int .i64 ((i : Int) + 1) ∧ Hid (oversR s o a (1) i = true)) (fun k _ => (n + 1) - (intOf k).toNat)
        case atStart => exact ⟨0, Nat.zero_le _, rfl, Lib.hid rfl⟩
        case round =>
          obtain ⟨i, hi, rfl, hA⟩ := hrel
          by_cases hlt : i < n
          · have hnn := HN.out
            have hx : a + (i + 1) < s.size := by omega
            have gx : Hid (sgAt s ((a : Int) + ((i : Int) + 1) * 1) = s[a + (i + 1)]) := Lib.hid (by
              have := sgAt_in s (a + (i + 1)) hx
              rwa [show ((a + (i + 1) : Nat) : Int) = (a : Int) + ((i : Int) + 1) * 1 by omega] at this)
            have hp0 : 0 ≤ (a : Int) + ((i : Int) + 1) := by omega
            have hp1 : (a : Int) + ((i : Int) + 1) < (s.size : Int) := by omega
            have hp2 : ((a : Int) + ((i : Int) + 1)).toNat = a + (i + 1) := by omega
            have hlt2 : (i : Int) + 1 < (c : Int) - (a : Int) := by omega
            rcases is_or2 s[a + (i + 1)] 46 46 rfl with ⟨hq, hv⟩ | ⟨hq, hv⟩
            · have HR : Hid (ruC s o b true a c = false) := Lib.hid (by rw [HY.out]; exact oversR_no _ _ _ _ i n hlt (overB_46 _ _ _ _ (by rw [gx.out]; exact hq)))
              clear hq hnn
              go_wp2
              go_ret
              exact ⟨congrArg (fun b => Ending.returned (.bool b)) HR.out.symm, ((Below.refl _ _).alloc (Nat.le_refl _) _).alloc (by simp) _⟩
            · by_cases hsame : s[a + (i + 1)] = s[a]
              · have hv3 := beq_u8 hsame
                have HS := Lib.hid hsame
                have HQ := Lib.hid hq
                clear hsame hq hnn
                cases o
                · have HR : Hid (ruC s false b true a c = false) := Lib.hid (by rw [HY.out]; exact oversR_no _ _ _ _ i n hlt (overB_no _ _ _ (by rw [gx.out, ga.out]; exact HS.out)))
                  go_wp2
                  go_ret
                  exact ⟨congrArg (fun b => Ending.returned (.bool b)) HR.out.symm, ((Below.refl _ _).alloc (Nat.le_refl _) _).alloc (by simp) _⟩
                · go_wp2
                  go_round
                  case rel => exact ⟨i + 1, by omega, by go_num, Lib.hid (by rw [oversR_next, hA.out, overB_o _ _ _ (by rw [gx.out]; exact HQ.out)]; rfl)⟩
                  case measure => simp [intOf]; omega
              · have hv3 := bne_u8 hsame
                have HS := Lib.hid hsame
                have HQ := Lib.hid hq
                clear hsame hq hnn
                go_wp2
                go_round
                case rel => exact ⟨i + 1, by omega, by go_num, Lib.hid (by rw [oversR_next, hA.out, overB_ne _ _ _ _ (by rw [gx.out]; exact HQ.out) (by rw [gx.out, ga.out]; exact HS.out)]; rfl)⟩
                case measure => simp [intOf]; omega
          · obtain rfl : i = n := by omega
            have hnn := HN.out
            have hlt2 : ¬ ((i : Int) + 1 < (c : Int) - (a : Int)) := by omega
            have HR : Hid (ruC s o b true a c = true) := Lib.hid (by rw [HY.out]; exact hA.out)
            clear hnn
            go_wp2
            go_ret
            exact ⟨congrArg (fun b => Ending.returned (.bool b)) HR.out.symm, ((Below.refl _ _).alloc (Nat.le_refl _) _).alloc (by simp) _⟩
    · skip
      have HY : Hid (ruC s o b l a c = oversR s o a (1) n) := Lib.hid (by rw [HC.out]; rw [show decide (n ≤ 1) = true from decide_eq_true (by have := HN.out; omega), HBK.out]; simp)
      clear h84
      go_enter Try.func37, Try.ntmps37
      go_wp2_with fail
      refine (l1In_any _ _ _ _).mono ?_; rintro e w' ⟨rfl, rfl⟩; rw [H1.out]
      go_wp2_with fail
      refine (l1In_any _ _ _ _).mono ?_; rintro e w' ⟨rfl, rfl⟩; rw [H2.out]
      go_wp2
      go_loop [9, 10] (fun k _ => ∃ i : Nat, i ≤ n ∧ k = .int .i64 ((i : Int) + 1) ∧ Hid (oversR s o a (1) i = true)) (fun k _ => (n + 1) - (intOf k).toNat)
      case atStart => exact ⟨0, Nat.zero_le _, rfl, Lib.hid rfl⟩
      case round =>
        obtain ⟨i, hi, rfl, hA⟩ := hrel
        by_cases hlt : i < n
        · have hnn := HN.out
          have hx : a + (i + 1) < s.size := by omega
          have gx : Hid (sgAt s ((a : Int) + ((i : Int) + 1) * 1) = s[a + (i + 1)]) := Lib.hid (by
            have := sgAt_in s (a + (i + 1)) hx
            rwa [show ((a + (i + 1) : Nat) : Int) = (a : Int) + ((i : Int) + 1) * 1 by omega] at this)
          have hp0 : 0 ≤ (a : Int) + ((i : Int) + 1) := by omega
          have hp1 : (a : Int) + ((i : Int) + 1) < (s.size : Int) := by omega
          have hp2 : ((a : Int) + ((i : Int) + 1)).toNat = a + (i + 1) := by omega
          have hlt2 : (i : Int) + 1 < (c : Int) - (a : Int) := by omega
          rcases is_or2 s[a + (i + 1)] 46 46 rfl with ⟨hq, hv⟩ | ⟨hq, hv⟩
          · have HR : Hid (ruC s o b l a c = false) := Lib.hid (by rw [HY.out]; exact oversR_no _ _ _ _ i n hlt (overB_46 _ _ _ _ (by rw [gx.out]; exact hq)))
            clear hq hnn
            go_wp2
            go_ret
            exact ⟨congrArg (fun b => Ending.returned (.bool b)) HR.out.symm, ((Below.refl _ _).alloc (Nat.le_refl _) _).alloc (by simp) _⟩
          · by_cases hsame : s[a + (i + 1)] = s[a]
            · have hv3 := beq_u8 hsame
              have HS := Lib.hid hsame
              have HQ := Lib.hid hq
              clear hsame hq hnn
              cases o
              · have HR : Hid (ruC s false b l a c = false) := Lib.hid (by rw [HY.out]; exact oversR_no _ _ _ _ i n hlt (overB_no _ _ _ (by rw [gx.out, ga.out]; exact HS.out)))
                go_wp2
                go_ret
                exact ⟨congrArg (fun b => Ending.returned (.bool b)) HR.out.symm, ((Below.refl _ _).alloc (Nat.le_refl _) _).alloc (by simp) _⟩
              · go_wp2
                go_round
                case rel => exact ⟨i + 1, by omega, by go_num, Lib.hid (by rw [oversR_next, hA.out, overB_o _ _ _ (by rw [gx.out]; exact HQ.out)]; rfl)⟩
                case measure => simp [intOf]; omega
            · have hv3 := bne_u8 hsame
              have HS := Lib.hid hsame
              have HQ := Lib.hid hq
              clear hsame hq hnn
              go_wp2
              go_round
              case rel => exact ⟨i + 1, by omega, by go_num, Lib.hid (by rw [oversR_next, hA.out, overB_ne _ _ _ _ (by rw [gx.out]; exact HQ.out) (by rw [gx.out, ga.out]; exact HS.out)]; rfl)⟩
              case measure => simp [intOf]; omega
        · obtain rfl : i = n := by omega
          have hnn := HN.out
          have hlt2 : ¬ ((i : Int) + 1 < (c : Int) - (a : Int)) := by omega
          have HR : Hid (ruC s o b l a c = true) := Lib.hid (by rw [HY.out]; exact hA.out)
          clear hnn
          go_wp2
          go_ret
          exact ⟨congrArg (fun b => Ending.returned (.bool b)) HR.out.symm, ((Below.refl _ _).alloc (Nat.le_refl _) _).alloc (by simp) _⟩
  · have HBK : Hid (bkR s a (1) = true) := Lib.hid (by rw [HBK.out]; simp [h84])
    cases b
    · skip
      have HR : Hid (ruC s o false l a c = false) := Lib.hid (by rw [HC.out]; rw [HBK.out]; simp)
      clear h84
      go_enter Try.func37, Try.ntmps37
      go_wp2_with fail
      refine (l1In_any _ _ _ _).mono ?_; rintro e w' ⟨rfl, rfl⟩; rw [H1.out]
      go_wp2_with fail
      refine (l1In_any _ _ _ _).mono ?_; rintro e w' ⟨rfl, rfl⟩; rw [H2.out]
      go_wp2
      go_ret
      exact ⟨congrArg (fun b => Ending.returned (.bool b)) HR.out.symm, ((Below.refl _ _).alloc (Nat.le_refl _) _).alloc (by simp) _⟩
    · skip
      by_cases hlo : 2 < (c : Int) - (a : Int)
      · cases l
        · skip
          have HR : Hid (ruC s o true false a c = false) := Lib.hid (by rw [HC.out]; rw [show decide (n ≤ 1) = false from decide_eq_false (by have := HN.out; omega)]; simp)
          clear h84
          go_enter Try.func37, Try.ntmps37
          go_wp2_with fail
          refine (l1In_any _ _ _ _).mono ?_; rintro e w' ⟨rfl, rfl⟩; rw [H1.out]
          go_wp2_with fail
          refine (l1In_any _ _ _ _).mono ?_; rintro e w' ⟨rfl, rfl⟩; rw [H2.out]
          go_wp2
          go_ret
          exact ⟨congrArg (fun b => Ending.returned (.bool b)) HR.out.symm, ((Below.refl _ _).alloc (Nat.le_refl _) _).alloc (by simp) _⟩
        · skip
          have HY : Hid (ruC s o true true a c = oversR s o a (1) n) := Lib.hid (by rw [HC.out]; rw [HBK.out]; simp)
          clear h84
          go_enter Try.func37, Try.ntmps37
          go_wp2_with fail
          refine (l1In_any _ _ _ _).mono ?_; rintro e w' ⟨rfl, rfl⟩; rw [H1.out]
          go_wp2_with fail
          refine (l1In_any _ _ _ _).mono ?_; rintro e w' ⟨rfl, rfl⟩; rw [H2.out]
          go_wp2
          go_loop [9, 10] (fun k _ => ∃ i : Nat, i ≤ n ∧ k = .int .i64 ((i : Int) + 1) ∧ Hid (oversR s o a (1) i = true)) (fun k _ => (n + 1) - (intOf k).toNat)
          case atStart => exact ⟨0, Nat.zero_le _, rfl, Lib.hid rfl⟩
          case round =>
            obtain ⟨i, hi, rfl, hA⟩ := hrel
            by_cases hlt : i < n
            · have hnn := HN.out
              have hx : a + (i + 1) < s.size := by omega
              have gx : Hid (sgAt s ((a : Int) + ((i : Int) + 1) * 1) = s[a + (i + 1)]) := Lib.hid (by
                have := sgAt_in s (a + (i + 1)) hx
                rwa [show ((a + (i + 1) : Nat) : Int) = (a : Int) + ((i : Int) + 1) * 1 by omega] at this)
              have hp0 : 0 ≤ (a : Int) + ((i : Int) + 1) := by omega
              have hp1 : (a : Int) + ((i : Int) + 1) < (s.size : Int) := by omega
              have hp2 : ((a : Int) + ((i : Int) + 1)).toNat = a + (i + 1) := by omega
              have hlt2 : (i : Int) + 1 < (c : Int) - (a : Int) := by omega
              rcases is_or2 s[a + (i + 1)] 46 46 rfl with ⟨hq, hv⟩ | ⟨hq, hv⟩
              · have HR : Hid (ruC s o true true a c = false) := Lib.hid (by rw [HY.out]; exact oversR_no _ _ _ _ i n hlt (overB_46 _ _ _ _ (by rw [gx.out]; exact hq)))
                clear hq hnn
                go_wp2
                go_ret
                exact ⟨congrArg (fun b => Ending.returned (.bool b)) HR.out.symm, ((Below.refl _ _).alloc (Nat.le_refl _) _).alloc (by simp) _⟩
              · by_cases hsame : s[a + (i + 1)] = s[a]
                · have hv3 := beq_u8 hsame
                  have HS := Lib.hid hsame
                  have HQ := Lib.hid hq
                  clear hsame hq hnn
                  cases o
                  · have HR : Hid (ruC s false true true a c = false) := Lib.hid (by rw [HY.out]; exact oversR_no _ _ _ _ i n hlt (overB_no _ _ _ (by rw [gx.out, ga.out]; exact HS.out)))
                    go_wp2
                    go_ret
                    exact ⟨congrArg (fun b => Ending.returned (.bool b)) HR.out.symm, ((Below.refl _ _).alloc (Nat.le_refl _) _).alloc (by simp) _⟩
                  · go_wp2
                    go_round
                    case rel => exact ⟨i + 1, by omega, by go_num, Lib.hid (by rw [oversR_next, hA.out, overB_o _ _ _ (by rw [gx.out]; exact HQ.out)]; rfl)⟩
                    case measure => simp [intOf]; omega
                · have hv3 := bne_u8 hsame
                  have HS := Lib.hid hsame
                  have HQ := Lib.hid hq
                  clear hsame hq hnn
                  go_wp2
                  go_round
                  case rel => exact ⟨i + 1, by omega, by go_num, Lib.hid (by rw [oversR_next, hA.out, overB_ne _ _ _ _ (by rw [gx.out]; exact HQ.out) (by rw [gx.out, ga.out]; exact HS.out)]; rfl)⟩
                  case measure => simp [intOf]; omega
            · obtain rfl : i = n := by omega
              have hnn := HN.out
              have hlt2 : ¬ ((i : Int) + 1 < (c : Int) - (a : Int)) := by omega
              have HR : Hid (ruC s o true true a c = true) := Lib.hid (by rw [HY.out]; exact hA.out)
              clear hnn
              go_wp2
              go_ret
              exact ⟨congrArg (fun b => Ending.returned (.bool b)) HR.out.symm, ((Below.refl _ _).alloc (Nat.le_refl _) _).alloc (by simp) _⟩
      · skip
        have HY : Hid (ruC s o true l a c = oversR s o a (1) n) := Lib.hid (by rw [HC.out]; rw [show decide (n ≤ 1) = true from decide_eq_true (by have := HN.out; omega), HBK.out]; simp)
        clear h84
        go_enter Try.func37, Try.ntmps37
        go_wp2_with fail
        refine (l1In_any _ _ _ _).mono ?_; rintro e w' ⟨rfl, rfl⟩; rw [H1.out]
        go_wp2_with fail
        refine (l1In_any _ _ _ _).mono ?_; rintro e w' ⟨rfl, rfl⟩; rw [H2.out]
        go_wp2
        go_loop [9, 10] (fun k _ => ∃ i : Nat, i ≤ n ∧ k = .int .i64 ((i : Int) + 1) ∧ Hid (oversR s o a (1) i = true)) (fun k _ => (n + 1) - (intOf k).toNat)
        case atStart => exact ⟨0, Nat.zero_le _, rfl, Lib.hid rfl⟩
        case round =>
          obtain ⟨i, hi, rfl, hA⟩ := hrel
          by_cases hlt : i < n
          · have hnn := HN.out
            have hx : a + (i + 1) < s.size := by omega
            have gx : Hid (sgAt s ((a : Int) + ((i : Int) + 1) * 1) = s[a + (i + 1)]) := Lib.hid (by
              have := sgAt_in s (a + (i + 1)) hx
              rwa [show ((a + (i + 1) : Nat) : Int) = (a : Int) + ((i : Int) + 1) * 1 by omega] at this)
            have hp0 : 0 ≤ (a : Int) + ((i : Int) + 1) := by omega
            have hp1 : (a : Int) + ((i : Int) + 1) < (s.size : Int) := by omega
            have hp2 : ((a : Int) + ((i : Int) + 1)).toNat = a + (i + 1) := by omega
            have hlt2 : (i : Int) + 1 < (c : Int) - (a : Int) := by omega
            rcases is_or2 s[a + (i + 1)] 46 46 rfl with ⟨hq, hv⟩ | ⟨hq, hv⟩
            · have HR : Hid (ruC s o true l a c = false) := Lib.hid (by rw [HY.out]; exact oversR_no _ _ _ _ i n hlt (overB_46 _ _ _ _ (by rw [gx.out]; exact hq)))
              clear hq hnn
              go_wp2
              go_ret
              exact ⟨congrArg (fun b => Ending.returned (.bool b)) HR.out.symm, ((Below.refl _ _).alloc (Nat.le_refl _) _).alloc (by simp) _⟩
            · by_cases hsame : s[a + (i + 1)] = s[a]
              · have hv3 := beq_u8 hsame
                have HS := Lib.hid hsame
                have HQ := Lib.hid hq
                clear hsame hq hnn
                cases o
                · have HR : Hid (ruC s false true l a c = false) := Lib.hid (by rw [HY.out]; exact oversR_no _ _ _ _ i n hlt (overB_no _ _ _ (by rw [gx.out, ga.out]; exact HS.out)))
                  go_wp2
                  go_ret
                  exact ⟨congrArg (fun b => Ending.returned (.bool b)) HR.out.symm, ((Below.refl _ _).alloc (Nat.le_refl _) _).alloc (by simp) _⟩
                · go_wp2
                  go_round
                  case rel => exact ⟨i + 1, by omega, by go_num, Lib.hid (by rw [oversR_next, hA.out, overB_o _ _ _ (by rw [gx.out]; exact HQ.out)]; rfl)⟩
                  case measure => simp [intOf]; omega
              · have hv3 := bne_u8 hsame
                have HS := Lib.hid hsame
                have HQ := Lib.hid hq
                clear hsame hq hnn
                go_wp2
                go_round
                case rel => exact ⟨i + 1, by omega, by go_num, Lib.hid (by rw [oversR_next, hA.out, overB_ne _ _ _ _ (by rw [gx.out]; exact HQ.out) (by rw [gx.out, ga.out]; exact HS.out)]; rfl)⟩
                case measure => simp [intOf]; omega
          · obtain rfl : i = n := by omega
            have hnn := HN.out
            have hlt2 : ¬ ((i : Int) + 1 < (c : Int) - (a : Int)) := by omega
            have HR : Hid (ruC s o true l a c = true) := Lib.hid (by rw [HY.out]; exact hA.out)
            clear hnn
            go_wp2
            go_ret
            exact ⟨congrArg (fun b => Ending.returned (.bool b)) HR.out.symm, ((Below.refl _ _).alloc (Nat.le_refl _) _).alloc (by simp) _⟩

set_option maxRecDepth 100000 in
set_option maxHeartbeats 8000000 in
theorem ruCan_left (s : ByteArray) (o b l : Bool) (a c : Nat) (w : World) (hs : s.size ≤ 1000) (ha : a < s.size) (hc : c < s.size) (hac : c < a) (h1 : s[a] ≠ 46) (h2 : s[c] = 46) :
    Calls Try.prog 37 #[.string s, .agg #[.int .i64 a, .int .i64 c], ruV o b l] w fun e w' => e = .returned (.bool (ruC s o b l a c)) ∧ Below w.heap.size w w' := by
  have H1 : Hid (inR a 0 (s.size - 1) = true) := Lib.hid (by unfold inR; simp; omega)
  have H2 : Hid (inR c 0 (s.size - 1) = true) := Lib.hid (by unfold inR; simp; omega)
  have ga := Lib.hid (sgAt_in s a ha)
  have gc := Lib.hid (sgAt_in s c hc)
  have hv1 : ((s[a].toNat : Int) == 46) = false := bne_u8 (b := 46) h1
  have hv2 : ((s[c].toNat : Int) != 46) = false := by rw [h2]; rfl
  obtain ⟨n, hn⟩ : ∃ n : Nat, n = a - c - 1 := ⟨_, rfl⟩
  have HC : Hid (ruC s o b l a c = ((b || !bkR s a (-1)) && (l || decide (n ≤ 1)) && oversR s o a (-1) n)) := by
    have e : (c : Int) = a + ((n : Int) + 1) * -1 := by omega
    have h := ruC_at s o b l a (-1) (.inr rfl) n (by rw [← e]; exact H2.out)
    have e1 : (!(s[a] == 46)) = true := by simpa using h1
    rw [← e, H1.out, ga.out, gc.out, h2, e1] at h
    refine Lib.hid ?_
    rw [h]
    simp
  have HBK : Hid (bkR s a (-1) = (s[a] == 84)) := Lib.hid (by unfold bkR; rw [ga.out]; simp)
  have HN := Lib.hid hn
  have HX := Lib.hid h1
  clear hn h1 h2
  rcases is_or2 s[a] 84 84 rfl with ⟨h84, hv84⟩ | ⟨h84, hv84⟩
  · have HBK : Hid (bkR s a (-1) = true) := Lib.hid (by rw [HBK.out]; simp [h84])
    cases b
    · skip
      have HR : Hid (ruC s o false l a c = false) := Lib.hid (by rw [HC.out]; rw [HBK.out]; simp)
      clear h84
      go_enter Try.func37, Try.ntmps37
      go_wp2_with fail
      refine (l1In_any _ _ _ _).mono ?_; rintro e w' ⟨rfl, rfl⟩; rw [H1.out]
      go_wp2_with fail
      refine (l1In_any _ _ _ _).mono ?_; rintro e w' ⟨rfl, rfl⟩; rw [H2.out]
      go_wp2
      go_ret
      exact ⟨congrArg (fun b => Ending.returned (.bool b)) HR.out.symm, ((Below.refl _ _).alloc (Nat.le_refl _) _).alloc (by simp) _⟩
    · skip
      by_cases hlo : 2 < -((c : Int) - (a : Int))
      · cases l
        · skip
          have HR : Hid (ruC s o true false a c = false) := Lib.hid (by rw [HC.out]; rw [show decide (n ≤ 1) = false from decide_eq_false (by have := HN.out; omega)]; simp)
          clear h84
          go_enter Try.func37, Try.ntmps37
          go_wp2_with fail
          refine (l1In_any _ _ _ _).mono ?_; rintro e w' ⟨rfl, rfl⟩; rw [H1.out]
          go_wp2_with fail
          refine (l1In_any _ _ _ _).mono ?_; rintro e w' ⟨rfl, rfl⟩; rw [H2.out]
          go_wp2
          go_ret
          exact ⟨congrArg (fun b => Ending.returned (.bool b)) HR.out.symm, ((Below.refl _ _).alloc (Nat.le_refl _) _).alloc (by simp) _⟩
        · skip
          have HY : Hid (ruC s o true true a c = oversR s o a (-1) n) := Lib.hid (by rw [HC.out]; rw [HBK.out]; simp)
          clear h84
          go_enter Try.func37, Try.ntmps37
          go_wp2_with fail
          refine (l1In_any _ _ _ _).mono ?_; rintro e w' ⟨rfl, rfl⟩; rw [H1.out]
          go_wp2_with fail
          refine (l1In_any _ _ _ _).mono ?_; rintro e w' ⟨rfl, rfl⟩; rw [H2.out]
          go_wp2
          go_loop [9, 10] (fun k _ => ∃ i : Nat, i ≤ n ∧ k = .int .i64 ((i : Int) + 1) ∧ Hid (oversR s o a (-1) i = true)) (fun k _ => (n + 1) - (intOf k).toNat)
          case atStart => exact ⟨0, Nat.zero_le _, rfl, Lib.hid rfl⟩
          case round =>
            obtain ⟨i, hi, rfl, hA⟩ := hrel
            by_cases hlt : i < n
            · have hnn := HN.out
              have hx : a - (i + 1) < s.size := by omega
              have gx : Hid (sgAt s ((a : Int) + ((i : Int) + 1) * -1) = s[a - (i + 1)]) := Lib.hid (by
                have := sgAt_in s (a - (i + 1)) hx
                rwa [show ((a - (i + 1) : Nat) : Int) = (a : Int) + ((i : Int) + 1) * -1 by omega] at this)
              have hp0 : 0 ≤ (a : Int) + -((i : Int) + 1) := by omega
              have hp1 : (a : Int) + -((i : Int) + 1) < (s.size : Int) := by omega
              have hp2 : ((a : Int) + -((i : Int) + 1)).toNat = a - (i + 1) := by omega
              have hlt2 : (i : Int) + 1 < -((c : Int) - (a : Int)) := by omega
              rcases is_or2 s[a - (i + 1)] 46 46 rfl with ⟨hq, hv⟩ | ⟨hq, hv⟩
              · have HR : Hid (ruC s o true true a c = false) := Lib.hid (by rw [HY.out]; exact oversR_no _ _ _ _ i n hlt (overB_46 _ _ _ _ (by rw [gx.out]; exact hq)))
                clear hq hnn
                go_wp2
                go_ret
                exact ⟨congrArg (fun b => Ending.returned (.bool b)) HR.out.symm, ((Below.refl _ _).alloc (Nat.le_refl _) _).alloc (by simp) _⟩
              · by_cases hsame : s[a - (i + 1)] = s[a]
                · have hv3 := beq_u8 hsame
                  have HS := Lib.hid hsame
                  have HQ := Lib.hid hq
                  clear hsame hq hnn
                  cases o
                  · have HR : Hid (ruC s false true true a c = false) := Lib.hid (by rw [HY.out]; exact oversR_no _ _ _ _ i n hlt (overB_no _ _ _ (by rw [gx.out, ga.out]; exact HS.out)))
                    go_wp2
                    go_ret
                    exact ⟨congrArg (fun b => Ending.returned (.bool b)) HR.out.symm, ((Below.refl _ _).alloc (Nat.le_refl _) _).alloc (by simp) _⟩
                  · go_wp2
                    go_round
                    case rel => exact ⟨i + 1, by omega, by go_num, Lib.hid (by rw [oversR_next, hA.out, overB_o _ _ _ (by rw [gx.out]; exact HQ.out)]; rfl)⟩
                    case measure => simp [intOf]; omega
                · have hv3 := bne_u8 hsame
                  have HS := Lib.hid hsame
                  have HQ := Lib.hid hq
                  clear hsame hq hnn
                  go_wp2
                  go_round
                  case rel => exact ⟨i + 1, by omega, by go_num, Lib.hid (by rw [oversR_next, hA.out, overB_ne _ _ _ _ (by rw [gx.out]; exact HQ.out) (by rw [gx.out, ga.out]; exact HS.out)]; rfl)⟩
                  case measure => simp [intOf]; omega
            · obtain rfl : i = n := by omega
              have hnn := HN.out
              have hlt2 : ¬ ((i : Int) + 1 < -((c : Int) - (a : Int))) := by omega
              have HR : Hid (ruC s o true true a c = true) := Lib.hid (by rw [HY.out]; exact hA.out)
              clear hnn
              go_wp2
              go_ret
              exact ⟨congrArg (fun b => Ending.returned (.bool b)) HR.out.symm, ((Below.refl _ _).alloc (Nat.le_refl _) _).alloc (by simp) _⟩
      · skip
        have HY : Hid (ruC s o true l a c = oversR s o a (-1) n) := Lib.hid (by rw [HC.out]; rw [show decide (n ≤ 1) = true from decide_eq_true (by have := HN.out; omega), HBK.out]; simp)
        clear h84
        go_enter Try.func37, Try.ntmps37
        go_wp2_with fail
        refine (l1In_any _ _ _ _).mono ?_; rintro e w' ⟨rfl, rfl⟩; rw [H1.out]
        go_wp2_with fail
        refine (l1In_any _ _ _ _).mono ?_; rintro e w' ⟨rfl, rfl⟩; rw [H2.out]
        go_wp2
        go_loop [9, 10] (fun k _ => ∃ i : Nat, i ≤ n ∧ k = .int .i64 ((i : Int) + 1) ∧ Hid (oversR s o a (-1) i = true)) (fun k _ => (n + 1) - (intOf k).toNat)
        case atStart => exact ⟨0, Nat.zero_le _, rfl, Lib.hid rfl⟩
        case round =>
          obtain ⟨i, hi, rfl, hA⟩ := hrel
          by_cases hlt : i < n
          · have hnn := HN.out
            have hx : a - (i + 1) < s.size := by omega
            have gx : Hid (sgAt s ((a : Int) + ((i : Int) + 1) * -1) = s[a - (i + 1)]) := Lib.hid (by
              have := sgAt_in s (a - (i + 1)) hx
              rwa [show ((a - (i + 1) : Nat) : Int) = (a : Int) + ((i : Int) + 1) * -1 by omega] at this)
            have hp0 : 0 ≤ (a : Int) + -((i : Int) + 1) := by omega
            have hp1 : (a : Int) + -((i : Int) + 1) < (s.size : Int) := by omega
            have hp2 : ((a : Int) + -((i : Int) + 1)).toNat = a - (i + 1) := by omega
            have hlt2 : (i : Int) + 1 < -((c : Int) - (a : Int)) := by omega
            rcases is_or2 s[a - (i + 1)] 46 46 rfl with ⟨hq, hv⟩ | ⟨hq, hv⟩
            · have HR : Hid (ruC s o true l a c = false) := Lib.hid (by rw [HY.out]; exact oversR_no _ _ _ _ i n hlt (overB_46 _ _ _ _ (by rw [gx.out]; exact hq)))
              clear hq hnn
              go_wp2
              go_ret
              exact ⟨congrArg (fun b => Ending.returned (.bool b)) HR.out.symm, ((Below.refl _ _).alloc (Nat.le_refl _) _).alloc (by simp) _⟩
            · by_cases hsame : s[a - (i + 1)] = s[a]
              · have hv3 := beq_u8 hsame
                have HS := Lib.hid hsame
                have HQ := Lib.hid hq
                clear hsame hq hnn
                cases o
                · have HR : Hid (ruC s false true l a c = false) := Lib.hid (by rw [HY.out]; exact oversR_no _ _ _ _ i n hlt (overB_no _ _ _ (by rw [gx.out, ga.out]; exact HS.out)))
                  go_wp2
                  go_ret
                  exact ⟨congrArg (fun b => Ending.returned (.bool b)) HR.out.symm, ((Below.refl _ _).alloc (Nat.le_refl _) _).alloc (by simp) _⟩
                · go_wp2
                  go_round
                  case rel => exact ⟨i + 1, by omega, by go_num, Lib.hid (by rw [oversR_next, hA.out, overB_o _ _ _ (by rw [gx.out]; exact HQ.out)]; rfl)⟩
                  case measure => simp [intOf]; omega
              · have hv3 := bne_u8 hsame
                have HS := Lib.hid hsame
                have HQ := Lib.hid hq
                clear hsame hq hnn
                go_wp2
                go_round
                case rel => exact ⟨i + 1, by omega, by go_num, Lib.hid (by rw [oversR_next, hA.out, overB_ne _ _ _ _ (by rw [gx.out]; exact HQ.out) (by rw [gx.out, ga.out]; exact HS.out)]; rfl)⟩
                case measure => simp [intOf]; omega
          · obtain rfl : i = n := by omega
            have hnn := HN.out
            have hlt2 : ¬ ((i : Int) + 1 < -((c : Int) - (a : Int))) := by omega
            have HR : Hid (ruC s o true l a c = true) := Lib.hid (by rw [HY.out]; exact hA.out)
            clear hnn
            go_wp2
            go_ret
            exact ⟨congrArg (fun b => Ending.returned (.bool b)) HR.out.symm, ((Below.refl _ _).alloc (Nat.le_refl _) _).alloc (by simp) _⟩
  · have HBK : Hid (bkR s a (-1) = false) := Lib.hid (by rw [HBK.out]; simp [h84])
    by_cases hlo : 2 < -((c : Int) - (a : Int))
    · cases l
      · skip
        have HR : Hid (ruC s o b false a c = false) := Lib.hid (by rw [HC.out]; rw [show decide (n ≤ 1) = false from decide_eq_false (by have := HN.out; omega)]; simp)
        clear h84
        go_enter Try.func37, Try.ntmps37
        go_wp2_with fail
        refine (l1In_any _ _ _ _).mono ?_; rintro e w' ⟨rfl, rfl⟩; rw [H1.out]
        go_wp2_with fail
        refine (l1In_any _ _ _ _).mono ?_; rintro e w' ⟨rfl, rfl⟩; rw [H2.out]
        go_wp2
        go_ret
        exact ⟨congrArg (fun b => Ending.returned (.bool b)) HR.out.symm, ((Below.refl _ _).alloc (Nat.le_refl _) _).alloc (by simp) _⟩
      · skip
        have HY : Hid (ruC s o b true a c = oversR s o a (-1) n) := Lib.hid (by rw [HC.out]; rw [HBK.out]; simp)
        clear h84
        go_enter Try.func37, Try.ntmps37
        go_wp2_with fail
        refine (l1In_any _ _ _ _).mono ?_; rintro e w' ⟨rfl, rfl⟩; rw [H1.out]
        go_wp2_with fail
        refine (l1In_any _ _ _ _).mono ?_; rintro e w' ⟨rfl, rfl⟩; rw [H2.out]
        go_wp2
        go_loop [9, 10] (fun k _ => ∃ i : Nat, i ≤ n ∧ k = .int .i64 ((i : Int) + 1) ∧ Hid (oversR s o a (-1) i = true)) (fun k _ => (n + 1) - (intOf k).toNat)
        case atStart => exact ⟨0, Nat.zero_le _, rfl, Lib.hid rfl⟩
        case round =>
          obtain ⟨i, hi, rfl, hA⟩ := hrel
          by_cases hlt : i < n
          · have hnn := HN.out
            have hx : a - (i + 1) < s.size := by omega
            have gx : Hid (sgAt s ((a : Int) + ((i : Int) + 1) * -1) = s[a - (i + 1)]) := Lib.hid (by
              have := sgAt_in s (a - (i + 1)) hx
              rwa [show ((a - (i + 1) : Nat) : Int) = (a : Int) + ((i : Int) + 1) * -1 by omega] at this)
            have hp0 : 0 ≤ (a : Int) + -((i : Int) + 1) := by omega
            have hp1 : (a : Int) + -((i : Int) + 1) < (s.size : Int) := by omega
            have hp2 : ((a : Int) + -((i : Int) + 1)).toNat = a - (i + 1) := by omega
            have hlt2 : (i : Int) + 1 < -((c : Int) - (a : Int)) := by omega
            rcases is_or2 s[a - (i + 1)] 46 46 rfl with ⟨hq, hv⟩ | ⟨hq, hv⟩
            · have HR : Hid (ruC s o b true a c = false) := Lib.hid (by rw [HY.out]; exact oversR_no _ _ _ _ i n hlt (overB_46 _ _ _ _ (by rw [gx.out]; exact hq)))
              clear hq hnn
              go_wp2
              go_ret
              exact ⟨congrArg (fun b => Ending.returned (.bool b)) HR.out.symm, ((Below.refl _ _).alloc (Nat.le_refl _) _).alloc (by simp) _⟩
            · by_cases hsame : s[a - (i + 1)] = s[a]
              · have hv3 := beq_u8 hsame
                have HS := Lib.hid hsame
                have HQ := Lib.hid hq
                clear hsame hq hnn
                cases o
                · have HR : Hid (ruC s false b true a c = false) := Lib.hid (by rw [HY.out]; exact oversR_no _ _ _ _ i n hlt (overB_no _ _ _ (by rw [gx.out, ga.out]; exact HS.out)))
                  go_wp2
                  go_ret
                  exact ⟨congrArg (fun b => Ending.returned (.bool b)) HR.out.symm, ((Below.refl _ _).alloc (Nat.le_refl _) _).alloc (by simp) _⟩
                · go_wp2
                  go_round
                  case rel => exact ⟨i + 1, by omega, by go_num, Lib.hid (by rw [oversR_next, hA.out, overB_o _ _ _ (by rw [gx.out]; exact HQ.out)]; rfl)⟩
                  case measure => simp [intOf]; omega
              · have hv3 := bne_u8 hsame
                have HS := Lib.hid hsame
                have HQ := Lib.hid hq
                clear hsame hq hnn
                go_wp2
                go_round
                case rel => exact ⟨i + 1, by omega, by go_num, Lib.hid (by rw [oversR_next, hA.out, overB_ne _ _ _ _ (by rw [gx.out]; exact HQ.out) (by rw [gx.out, ga.out]; exact HS.out)]; rfl)⟩
                case measure => simp [intOf]; omega
          · obtain rfl : i = n := by omega
            have hnn := HN.out
            have hlt2 : ¬ ((i : Int) + 1 < -((c : Int) - (a : Int))) := by omega
            have HR : Hid (ruC s o b true a c = true) := Lib.hid (by rw [HY.out]; exact hA.out)
            clear hnn
            go_wp2
            go_ret
            exact ⟨congrArg (fun b => Ending.returned (.bool b)) HR.out.symm, ((Below.refl _ _).alloc (Nat.le_refl _) _).alloc (by simp) _⟩
    · skip
      have HY : Hid (ruC s o b l a c = oversR s o a (-1) n) := Lib.hid (by rw [HC.out]; rw [show decide (n ≤ 1) = true from decide_eq_true (by have := HN.out; omega), HBK.out]; simp)
      clear h84
      go_enter Try.func37, Try.ntmps37
      go_wp2_with fail
      refine (l1In_any _ _ _ _).mono ?_; rintro e w' ⟨rfl, rfl⟩; rw [H1.out]
      go_wp2_with fail
      refine (l1In_any _ _ _ _).mono ?_; rintro e w' ⟨rfl, rfl⟩; rw [H2.out]
      go_wp2
      go_loop [9, 10] (fun k _ => ∃ i : Nat, i ≤ n ∧ k = .int .i64 ((i : Int) + 1) ∧ Hid (oversR s o a (-1) i = true)) (fun k _ => (n + 1) - (intOf k).toNat)
      case atStart => exact ⟨0, Nat.zero_le _, rfl, Lib.hid rfl⟩
      case round =>
        obtain ⟨i, hi, rfl, hA⟩ := hrel
        by_cases hlt : i < n
        · have hnn := HN.out
          have hx : a - (i + 1) < s.size := by omega
          have gx : Hid (sgAt s ((a : Int) + ((i : Int) + 1) * -1) = s[a - (i + 1)]) := Lib.hid (by
            have := sgAt_in s (a - (i + 1)) hx
            rwa [show ((a - (i + 1) : Nat) : Int) = (a : Int) + ((i : Int) + 1) * -1 by omega] at this)
          have hp0 : 0 ≤ (a : Int) + -((i : Int) + 1) := by omega
          have hp1 : (a : Int) + -((i : Int) + 1) < (s.size : Int) := by omega
          have hp2 : ((a : Int) + -((i : Int) + 1)).toNat = a - (i + 1) := by omega
          have hlt2 : (i : Int) + 1 < -((c : Int) - (a : Int)) := by omega
          rcases is_or2 s[a - (i + 1)] 46 46 rfl with ⟨hq, hv⟩ | ⟨hq, hv⟩
          · have HR : Hid (ruC s o b l a c = false) := Lib.hid (by rw [HY.out]; exact oversR_no _ _ _ _ i n hlt (overB_46 _ _ _ _ (by rw [gx.out]; exact hq)))
            clear hq hnn
            go_wp2
            go_ret
            exact ⟨congrArg (fun b => Ending.returned (.bool b)) HR.out.symm, ((Below.refl _ _).alloc (Nat.le_refl _) _).alloc (by simp) _⟩
          · by_cases hsame : s[a - (i + 1)] = s[a]
            · have hv3 := beq_u8 hsame
              have HS := Lib.hid hsame
              have HQ := Lib.hid hq
              clear hsame hq hnn
              cases o
              · have HR : Hid (ruC s false b l a c = false) := Lib.hid (by rw [HY.out]; exact oversR_no _ _ _ _ i n hlt (overB_no _ _ _ (by rw [gx.out, ga.out]; exact HS.out)))
                go_wp2
                go_ret
                exact ⟨congrArg (fun b => Ending.returned (.bool b)) HR.out.symm, ((Below.refl _ _).alloc (Nat.le_refl _) _).alloc (by simp) _⟩
              · go_wp2
                go_round
                case rel => exact ⟨i + 1, by omega, by go_num, Lib.hid (by rw [oversR_next, hA.out, overB_o _ _ _ (by rw [gx.out]; exact HQ.out)]; rfl)⟩
                case measure => simp [intOf]; omega
            · have hv3 := bne_u8 hsame
              have HS := Lib.hid hsame
              have HQ := Lib.hid hq
              clear hsame hq hnn
              go_wp2
              go_round
              case rel => exact ⟨i + 1, by omega, by go_num, Lib.hid (by rw [oversR_next, hA.out, overB_ne _ _ _ _ (by rw [gx.out]; exact HQ.out) (by rw [gx.out, ga.out]; exact HS.out)]; rfl)⟩
              case measure => simp [intOf]; omega
        · obtain rfl : i = n := by omega
          have hnn := HN.out
          have hlt2 : ¬ ((i : Int) + 1 < -((c : Int) - (a : Int))) := by omega
          have HR : Hid (ruC s o b l a c = true) := Lib.hid (by rw [HY.out]; exact hA.out)
          clear hnn
          go_wp2
          go_ret
          exact ⟨congrArg (fun b => Ending.returned (.bool b)) HR.out.symm, ((Below.refl _ _).alloc (Nat.le_refl _) _).alloc (by simp) _⟩

end Go.Proofs.Ytdcbjbmnkajjcaa
