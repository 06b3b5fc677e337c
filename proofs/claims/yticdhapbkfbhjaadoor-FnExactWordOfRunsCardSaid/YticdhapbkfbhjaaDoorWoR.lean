/- Words out of runs: contracts of both sides. -/
import Derived.Test.YticdhapbkfbhjaaDoorWoC
import Derived.Test.YticdhapbkfbhjaaDoorIntS
namespace Go.Proofs.YticdhapbkfbhjaaDoor
open Go.RowKit

/-- The sign of a run. -/
def sgn (b : Bool) : UInt8 := if b then 84 else 70
/-- Whose turn it is behind so many runs. -/
def fl (b : Bool) : Nat → Bool
  | 0 => b
  | k + 1 => !(fl b k)
def runsW : List Int → Bool → List UInt8
  | [], _ => []
  | n :: r, b => List.replicate n.toNat (sgn b) ++ runsW r (!b)
def okR (zs : List Int) : Bool := zs.all (fun n => decide (1 ≤ n)) && decide (zs.sum ≤ 40)
theorem fl_not (b : Bool) : ∀ k, fl (!b) k = fl b (k + 1)
  | 0 => rfl
  | k + 1 => by
    have h := fl_not b k
    show (!(fl (!b) k)) = (!(fl b (k + 1)))
    rw [h]
theorem runsW_snoc (n : Int) : ∀ (l : List Int) (b : Bool), runsW (l ++ [n]) b = runsW l b ++ List.replicate n.toNat (sgn (fl b l.length))
  | [], b => by simp [runsW, fl]
  | m :: l, b => by
    show List.replicate m.toNat (sgn b) ++ runsW (l ++ [n]) (!b) = (List.replicate m.toNat (sgn b) ++ runsW l (!b)) ++ _
    rw [runsW_snoc n l (!b), fl_not, List.append_assoc]
    rfl
theorem all_pos {zs : List Int} (h : zs.all (fun n => decide (1 ≤ n)) = true) : (zs.length : Int) ≤ zs.sum ∧ ∀ z ∈ zs, z ≤ zs.sum := by
  induction zs with
  | nil => exact ⟨by simp, fun z hz => by cases hz⟩
  | cons a l ih =>
    rw [List.all_cons, Bool.and_eq_true, decide_eq_true_iff] at h
    obtain ⟨h1, h2⟩ := ih h.2
    rw [List.sum_cons, List.length_cons]
    refine ⟨by push_cast; omega, fun z hz => ?_⟩
    rcases List.mem_cons.1 hz with rfl | hz
    · omega
    · have := h2 z hz; omega
theorem runsW_len (zs : List Int) : ∀ b, zs.all (fun n => decide (1 ≤ n)) = true → ((runsW zs b).length : Int) = zs.sum := by
  induction zs with
  | nil => intro b _; rfl
  | cons a l ih =>
    intro b h
    rw [List.all_cons, Bool.and_eq_true, decide_eq_true_iff] at h
    show ((List.replicate a.toNat (sgn b) ++ runsW l (!b)).length : Int) = _
    rw [List.length_append, List.length_replicate, List.sum_cons]
    have := ih (!b) h.2
    push_cast
    omega
theorem sum_take_le {zs : List Int} (h : zs.all (fun n => decide (1 ≤ n)) = true) (k : Nat) : (zs.take k).sum ≤ zs.sum := by
  have e := List.take_append_drop k zs
  have h2 : (zs.drop k).all (fun n => decide (1 ≤ n)) = true := by
    rw [← e, List.all_append, Bool.and_eq_true] at h
    exact h.2
  have h3 := (all_pos h2).1
  have h4 : zs.sum = (zs.take k).sum + (zs.drop k).sum := by rw [← List.sum_append, e]
  omega
theorem okR_iff (zs : List Int) : okR zs = true ↔ zs.all (fun n => decide (1 ≤ n)) = true ∧ zs.sum ≤ 40 := by
  unfold okR
  rw [Bool.and_eq_true, decide_eq_true_iff]
theorem okR_false {zs : List Int} (h : ¬ (zs.all (fun n => decide (1 ≤ n)) = true ∧ zs.sum ≤ 40)) : okR zs = false := by
  rw [Bool.eq_false_iff]
  exact fun e => h ((okR_iff zs).1 e)

set_option maxRecDepth 100000 in
set_option maxHeartbeats 2000000 in
theorem sWordOfRuns_any (zs : List Int) (b : Bool) (A : Option Addr) (c : Nat) (w : World) (hn : zs.length ≤ 2000000) (hat : InAt w A zs) :
    Calls Tryd.prog 5 #[.slice A zs.length c, .bool b] w fun e w' => e = .returned (strOr (okR zs) (runsW zs b)) ∧ w = w' := by
  have HN := Lib.hid hat
  clear hat
  by_cases hl : zs.length ≤ 40
  · have hlt40 : ¬ (40 : Int) < (zs.length : Int) := by omega
    have HAL := Lib.hid (fun wx (h : InAt wx A zs) => l1AllN_any A c zs 1 40 wx (by omega) h)
    cases hin : zs.all (inR · 1 40)
    · have hR : Hid (strOr (okR zs) (runsW zs b) = .tuple #[.string (str []), .bool false]) := Lib.hid (strOr_no _ _ (okR_false (by
        rintro ⟨h1, h2⟩
        have h3 := (all_pos h1).2
        rw [List.all_eq_true] at h1
        rw [← Bool.not_eq_true, List.all_eq_true] at hin
        exact hin fun z hz => by
          have a1 := h1 z hz
          rw [decide_eq_true_iff] at a1
          have a2 := h3 z hz
          simp [inR]
          omega)))
      have hI := Lib.hid hin
      clear hin
      go_enter Tryd.func5, Tryd.ntmps5
      go_wp2_with (go_at_call 11; refine (HAL.out _ HN.out).mono ?_; rintro e w' ⟨rfl, rfl⟩; rw [hI.out])
      go_ret2
      exact ⟨congrArg Ending.returned hR.out.symm, rfl⟩
    · have hI := Lib.hid hin
      have hpos : zs.all (fun n => decide (1 ≤ n)) = true := by
        rw [List.all_eq_true] at hin ⊢
        intro z hz
        have := hin z hz
        simp [inR] at this
        simp; omega
      have HP := Lib.hid hpos
      have HB : Hid (∀ k (h : k < zs.length), 1 ≤ zs[k] ∧ zs[k] ≤ 40) := Lib.hid fun k h => by
        rw [List.all_eq_true] at hin
        have := hin zs[k] (List.getElem_mem _)
        simpa [inR] using this
      clear hin hpos
      go_enter Tryd.func5, Tryd.ntmps5
      go_wp2_with (go_at_call 11; refine (HAL.out _ HN.out).mono ?_; rintro e w' ⟨rfl, rfl⟩; rw [hI.out])
      go_loop [1, 6, 8, 9, 20] (fun t o _ _ i => ∃ k : Nat, k ≤ zs.length ∧ i = .int .i64 k ∧ t = .bool (fl b k) ∧ o = .string (str (runsW (zs.take k) b)) ∧ Hid ((zs.take k).sum ≤ 40)) (fun _ _ _ _ i => zs.length - (intOf i).toNat)
      case atStart => exact ⟨0, Nat.zero_le _, rfl, rfl, rfl, Lib.hid (by simp)⟩
      case round =>
        obtain ⟨k, hk, rfl, rfl, rfl, hS⟩ := hrel
        by_cases hlt : k < zs.length
        · obtain ⟨g, o, rfl, hg, c0⟩ := HN.out k hlt
          obtain ⟨z1, z40⟩ := HB.out k hlt
          have hpk : (zs.take k).all (fun n => decide (1 ≤ n)) = true := by
            have h := HP.out
            rw [← List.take_append_drop k zs, List.all_append, Bool.and_eq_true] at h
            exact h.1
          have hpk1 : (zs.take (k + 1)).all (fun n => decide (1 ≤ n)) = true := by
            have h := HP.out
            rw [← List.take_append_drop (k + 1) zs, List.all_append, Bool.and_eq_true] at h
            exact h.1
          have hT : Hid (runsW (zs.take (k + 1)) b = runsW (zs.take k) b ++ List.replicate zs[k].toNat (sgn (fl b k))) := Lib.hid (by
            rw [List.take_succ_eq_append_getElem hlt, runsW_snoc, List.length_take, Nat.min_eq_left (by omega)])
          have hq : ((runsW (zs.take (k + 1)) b).length : Int) = (zs.take (k + 1)).sum := runsW_len _ b hpk1
          have hsz0 : (str (runsW (zs.take k) b)).size ≤ 40 := by
            have := runsW_len (zs.take k) b hpk
            have := hS.out
            rw [str_size]; omega
          have hcut : Hid (40 < (zs.take (k + 1)).sum → okR zs = false) := Lib.hid fun h => okR_false (by
            rintro ⟨h1, h2⟩
            have := sum_take_le h1 (k + 1)
            omega)
          obtain ⟨S, hSS⟩ : ∃ S, S = (zs.take (k + 1)).sum := ⟨_, rfl⟩
          obtain ⟨R, hRR⟩ : ∃ R, R = runsW (zs.take (k + 1)) b := ⟨_, rfl⟩
          rw [← hSS] at hq hcut
          rw [← hRR] at hT hq
          have hSe := Lib.hid hSS.symm
          have hRe := Lib.hid hRR
          clear hSS hRR
          generalize hz : zs[k] = z at c0 z1 z40 hT
          clear hz hpk hpk1
          have hsz1 : ∀ c, (str (List.replicate z.toNat c)).size ≤ 40 := fun c => by rw [str_size, List.length_replicate]; omega
          have hsum : ∀ c, c = sgn (fl b k) → ((str (runsW (zs.take k) b)).size : Int) + ((str (List.replicate z.toNat c)).size : Int) = S := fun c hc => by
            rw [hT.out, List.length_append] at hq
            rw [str_size, str_size, hc, ← hq, List.length_replicate]
            push_cast
            rfl
          have i1 : (0 : Int) ≤ (k : Int) := by omega
          have i2 : (k : Int) < (zs.length : Int) := by omega
          cases hfl : fl b k
          · have hF := Lib.hid hfl
            have hs2 := hsz1 70
            have hs3 := hsum 70 (by rw [hfl]; rfl)
            have HT2 : Hid (str (runsW (zs.take k) b) ++ str (List.replicate z.toNat 70) = str R) := Lib.hid (by rw [hT.out, hfl, str_app]; rfl)
            clear hfl hsz1 hsum hT
            by_cases hbig : (40 : Int) < S
            · have hR : Hid (strOr (okR zs) (runsW zs b) = .tuple #[.string (str []), .bool false]) := Lib.hid (strOr_no _ _ (hcut.out hbig))
              have hb2 : (40 : Int) < ((str (runsW (zs.take k) b)).size : Int) + ((str (List.replicate z.toNat 70)).size : Int) := by omega
              clear hs3 hq hbig
              go_wp2_with (go_at_call 12; refine (liTimes_any 70 _ _ (by omega)).mono ?_; rintro e w' ⟨rfl, rfl⟩)
              go_ret2
              exact ⟨congrArg Ending.returned hR.out.symm, rfl⟩
            · have hb2 : ((str (runsW (zs.take k) b)).size : Int) + ((str (List.replicate z.toNat 70)).size : Int) ≤ 40 := by omega
              have HQ : Hid ((zs.take (k + 1)).sum ≤ 40) := Lib.hid (by rw [hSe.out]; omega)
              clear hs3 hq hbig
              go_wp2_with (go_at_call 12; refine (liTimes_any 70 _ _ (by omega)).mono ?_; rintro e w' ⟨rfl, rfl⟩)
              go_round
              case rel => exact ⟨k + 1, by omega, by go_num, by show _ = Value.bool (!(fl b k)); rw [hF.out]; rfl, by rw [HT2.out, hRe.out], HQ⟩
              case measure => simp [intOf]; omega
          · have hF := Lib.hid hfl
            have hs2 := hsz1 84
            have hs3 := hsum 84 (by rw [hfl]; rfl)
            have HT2 : Hid (str (runsW (zs.take k) b) ++ str (List.replicate z.toNat 84) = str R) := Lib.hid (by rw [hT.out, hfl, str_app]; rfl)
            clear hfl hsz1 hsum hT
            by_cases hbig : (40 : Int) < S
            · have hR : Hid (strOr (okR zs) (runsW zs b) = .tuple #[.string (str []), .bool false]) := Lib.hid (strOr_no _ _ (hcut.out hbig))
              have hb2 : (40 : Int) < ((str (runsW (zs.take k) b)).size : Int) + ((str (List.replicate z.toNat 84)).size : Int) := by omega
              clear hs3 hq hbig
              go_wp2_with (go_at_call 12; refine (liTimes_any 84 _ _ (by omega)).mono ?_; rintro e w' ⟨rfl, rfl⟩)
              go_ret2
              exact ⟨congrArg Ending.returned hR.out.symm, rfl⟩
            · have hb2 : ((str (runsW (zs.take k) b)).size : Int) + ((str (List.replicate z.toNat 84)).size : Int) ≤ 40 := by omega
              have HQ : Hid ((zs.take (k + 1)).sum ≤ 40) := Lib.hid (by rw [hSe.out]; omega)
              clear hs3 hq hbig
              go_wp2_with (go_at_call 12; refine (liTimes_any 84 _ _ (by omega)).mono ?_; rintro e w' ⟨rfl, rfl⟩)
              go_round
              case rel => exact ⟨k + 1, by omega, by go_num, by show _ = Value.bool (!(fl b k)); rw [hF.out]; rfl, by rw [HT2.out, hRe.out], HQ⟩
              case measure => simp [intOf]; omega
        · obtain rfl : k = zs.length := by omega
          have hR : Hid (strOr (okR zs) (runsW zs b) = .tuple #[.string (str (runsW zs b)), .bool true]) := Lib.hid (strOr_yes _ _ ((okR_iff zs).2 ⟨HP.out, by have := hS.out; rwa [List.take_length] at this⟩))
          rw [List.take_length]
          go_wp2
          go_ret2
          exact ⟨congrArg Ending.returned hR.out.symm, rfl⟩
  · have hlt40 : (40 : Int) < (zs.length : Int) := by omega
    have hR : Hid (strOr (okR zs) (runsW zs b) = .tuple #[.string (str []), .bool false]) := Lib.hid (strOr_no _ _ (okR_false (by
      rintro ⟨h1, h2⟩
      have := (all_pos h1).1
      omega)))
    go_enter Tryd.func5, Tryd.ntmps5
    go_wp2
    go_ret2
    exact ⟨congrArg Ending.returned hR.out.symm, rfl⟩

set_option maxRecDepth 100000 in
set_option maxHeartbeats 2000000 in
theorem wordOfRuns_any (zs : List Int) (b : Bool) (A : Option Addr) (c : Nat) (w : World) (hn : zs.length ≤ 2000000) (hat : InAt w A zs) (hwf : ∀ z ∈ zs, (Lit.int .i64 z).wf = true) :
    Calls Tryd.prog 7 #[.slice A zs.length c, .bool b] w fun e w' => e = .returned (strOr (okR zs) (runsW zs b)) ∧ Below w.heap.size w w' := by
  have HN := Lib.hid hat
  have HWF := Lib.hid hwf
  clear hat hwf
  cases b
  · go_enter Tryd.func7, Tryd.ntmps7
    go_wp2
    go_loopw [6, 7, 9, 13] (fun g o _ i wr => ∃ k : Nat, k ≤ zs.length ∧ i = .int .i64 k ∧ g = .string ⟨#[sgn (fl false k)]⟩ ∧ o = .string (str (runsW (zs.take k) false)) ∧ Hid ((zs.take k).all (fun n => decide (1 ≤ n)) = true) ∧ Hid ((zs.take k).sum ≤ 40) ∧ Below w.heap.size w wr) (fun _ _ _ i _ => zs.length - (intOf i).toNat)
    case atStart => exact ⟨0, Nat.zero_le _, rfl, rfl, rfl, Lib.hid rfl, Lib.hid (by simp), Below.refl _ _⟩
    case round =>
      obtain ⟨k, hk, rfl, rfl, rfl, hP, hS, hB⟩ := hrel
      by_cases hlt : k < zs.length
      · obtain ⟨g, o, rfl, hg, c0⟩ := (HN.out.below hB) k hlt
        have hzw := HWF.out zs[k] (List.getElem_mem _)
        have hz64 : zs[k] ≤ 9223372036854775807 := by
          unfold Lit.wf at hzw
          rw [Bool.and_eq_true, decide_eq_true_iff, decide_eq_true_iff] at hzw
          exact hzw.2
        have hl0 := runsW_len (zs.take k) false hP.out
        have hsz0 : ((str (runsW (zs.take k) false)).size : Int) = (zs.take k).sum := by rw [str_size]; exact hl0
        have hs40 : (str (runsW (zs.take k) false)).size ≤ 40 := by have := hS.out; omega
        have hT : Hid (runsW (zs.take (k + 1)) false = runsW (zs.take k) false ++ List.replicate zs[k].toNat (sgn (fl false k))) := Lib.hid (by
          rw [List.take_succ_eq_append_getElem hlt, runsW_snoc, List.length_take, Nat.min_eq_left (by omega)])
        have hsum1 : Hid ((zs.take (k + 1)).sum = (zs.take k).sum + zs[k]) := Lib.hid (by rw [List.take_succ_eq_append_getElem hlt, List.sum_append]; simp)
        have hall1 : Hid ((zs.take (k + 1)).all (fun n => decide (1 ≤ n)) = decide (1 ≤ zs[k])) := Lib.hid (by rw [List.take_succ_eq_append_getElem hlt, List.all_append, hP.out]; simp)
        have hcut : Hid (¬ (1 ≤ zs[k] ∧ zs[k] ≤ 40 - ((str (runsW (zs.take k) false)).size : Int)) → okR zs = false) := Lib.hid fun h => okR_false (by
          rintro ⟨h1, h2⟩
          have a1 := sum_take_le h1 (k + 1)
          have a2 : 1 ≤ zs[k] := by
            rw [List.all_eq_true] at h1
            simpa using h1 zs[k] (List.getElem_mem _)
          have a3 := hsum1.out
          omega)
        have hSz := Lib.hid hsz0
        clear hl0 hsz0 hzw
        generalize zs[k] = z at c0 hz64 hT hsum1 hall1 hcut
        have i1 : (0 : Int) ≤ (k : Int) := by omega
        have i2 : (k : Int) < (zs.length : Int) := by omega
        have HBw := Lib.hid hB
        clear hB
        by_cases h1 : z < 1
        · have hR : Hid (strOr (okR zs) (runsW zs false) = .tuple #[.string (str []), .bool false]) := Lib.hid (strOr_no _ _ (hcut.out (by omega)))
          go_wp2
          go_ret2
          exact ⟨congrArg Ending.returned hR.out.symm, HBw.out⟩
        · by_cases h2 : 40 - ((str (runsW (zs.take k) false)).size : Int) < z
          · have hR : Hid (strOr (okR zs) (runsW zs false) = .tuple #[.string (str []), .bool false]) := Lib.hid (strOr_no _ _ (hcut.out (by omega)))
            go_wp2
            go_ret2
            exact ⟨congrArg Ending.returned hR.out.symm, HBw.out⟩
          · have hz40 : z ≤ 40 := by omega
            have hs2 : (str (List.replicate z.toNat (sgn (fl false k)))).size ≤ 40 := by rw [str_size, List.length_replicate]; omega
            have hw1 : Hid (wordB ⟨#[sgn (fl false k)]⟩ = true) := Lib.hid (by cases fl false k <;> decide)
            have hw2 : Hid (otherW (byt ⟨#[sgn (fl false k)]⟩) = [sgn (!(fl false k))]) := Lib.hid (by cases fl false k <;> rfl)
            have hsg : (⟨#[sgn (fl false k)]⟩ : ByteArray).size ≤ maxLen := by show 1 ≤ maxLen; decide
            have hQ1 : Hid ((zs.take (k + 1)).all (fun n => decide (1 ≤ n)) = true) := Lib.hid (by rw [hall1.out]; simp; omega)
            have hQ2 : Hid ((zs.take (k + 1)).sum ≤ 40) := Lib.hid (by rw [hsum1.out]; have := hSz.out; omega)
            have HT2 : Hid (str (runsW (zs.take k) false) ++ str (List.replicate z.toNat (sgn (fl false k))) = str (runsW (zs.take (k + 1)) false)) := Lib.hid (by rw [hT.out, str_app])
            clear hT hsum1 hall1 hcut
            go_wp2_with fail
            refine (repeat_any (sgn (fl false k)) z _ (by omega) (by omega)).mono ?_
            rintro e w1 ⟨rfl, hb1⟩
            have HB1 := Lib.hid (HBw.out.trans (hb1.mono HBw.out.size))
            clear hb1
            go_wp2_with fail
            refine (otherWord_any ⟨#[sgn (fl false k)]⟩ _ hsg).mono ?_
            rintro e w2 ⟨rfl, hb2⟩
            rw [strOr_yes _ _ hw1.out, hw2.out]
            have HB2 := Lib.hid (HB1.out.trans (hb2.mono HB1.out.size))
            clear hb2
            go_wp2
            go_roundw
            case rel => exact ⟨k + 1, by omega, by go_num, rfl, by rw [HT2.out], hQ1, hQ2, HB2.out⟩
            case measure => simp [intOf]; omega
      · obtain rfl : k = zs.length := by omega
        have hR : Hid (strOr (okR zs) (runsW zs false) = .tuple #[.string (str (runsW zs false)), .bool true]) := Lib.hid (strOr_yes _ _ ((okR_iff zs).2 ⟨by have := hP.out; rwa [List.take_length] at this, by have := hS.out; rwa [List.take_length] at this⟩))
        rw [List.take_length]
        go_wp2
        go_ret2
        exact ⟨congrArg Ending.returned hR.out.symm, hB⟩
  · go_enter Tryd.func7, Tryd.ntmps7
    go_wp2
    go_loopw [6, 7, 9, 13] (fun g o _ i wr => ∃ k : Nat, k ≤ zs.length ∧ i = .int .i64 k ∧ g = .string ⟨#[sgn (fl true k)]⟩ ∧ o = .string (str (runsW (zs.take k) true)) ∧ Hid ((zs.take k).all (fun n => decide (1 ≤ n)) = true) ∧ Hid ((zs.take k).sum ≤ 40) ∧ Below w.heap.size w wr) (fun _ _ _ i _ => zs.length - (intOf i).toNat)
    case atStart => exact ⟨0, Nat.zero_le _, rfl, rfl, rfl, Lib.hid rfl, Lib.hid (by simp), Below.refl _ _⟩
    case round =>
      obtain ⟨k, hk, rfl, rfl, rfl, hP, hS, hB⟩ := hrel
      by_cases hlt : k < zs.length
      · obtain ⟨g, o, rfl, hg, c0⟩ := (HN.out.below hB) k hlt
        have hzw := HWF.out zs[k] (List.getElem_mem _)
        have hz64 : zs[k] ≤ 9223372036854775807 := by
          unfold Lit.wf at hzw
          rw [Bool.and_eq_true, decide_eq_true_iff, decide_eq_true_iff] at hzw
          exact hzw.2
        have hl0 := runsW_len (zs.take k) true hP.out
        have hsz0 : ((str (runsW (zs.take k) true)).size : Int) = (zs.take k).sum := by rw [str_size]; exact hl0
        have hs40 : (str (runsW (zs.take k) true)).size ≤ 40 := by have := hS.out; omega
        have hT : Hid (runsW (zs.take (k + 1)) true = runsW (zs.take k) true ++ List.replicate zs[k].toNat (sgn (fl true k))) := Lib.hid (by
          rw [List.take_succ_eq_append_getElem hlt, runsW_snoc, List.length_take, Nat.min_eq_left (by omega)])
        have hsum1 : Hid ((zs.take (k + 1)).sum = (zs.take k).sum + zs[k]) := Lib.hid (by rw [List.take_succ_eq_append_getElem hlt, List.sum_append]; simp)
        have hall1 : Hid ((zs.take (k + 1)).all (fun n => decide (1 ≤ n)) = decide (1 ≤ zs[k])) := Lib.hid (by rw [List.take_succ_eq_append_getElem hlt, List.all_append, hP.out]; simp)
        have hcut : Hid (¬ (1 ≤ zs[k] ∧ zs[k] ≤ 40 - ((str (runsW (zs.take k) true)).size : Int)) → okR zs = false) := Lib.hid fun h => okR_false (by
          rintro ⟨h1, h2⟩
          have a1 := sum_take_le h1 (k + 1)
          have a2 : 1 ≤ zs[k] := by
            rw [List.all_eq_true] at h1
            simpa using h1 zs[k] (List.getElem_mem _)
          have a3 := hsum1.out
          omega)
        have hSz := Lib.hid hsz0
        clear hl0 hsz0 hzw
        generalize zs[k] = z at c0 hz64 hT hsum1 hall1 hcut
        have i1 : (0 : Int) ≤ (k : Int) := by omega
        have i2 : (k : Int) < (zs.length : Int) := by omega
        have HBw := Lib.hid hB
        clear hB
        by_cases h1 : z < 1
        · have hR : Hid (strOr (okR zs) (runsW zs true) = .tuple #[.string (str []), .bool false]) := Lib.hid (strOr_no _ _ (hcut.out (by omega)))
          go_wp2
          go_ret2
          exact ⟨congrArg Ending.returned hR.out.symm, HBw.out⟩
        · by_cases h2 : 40 - ((str (runsW (zs.take k) true)).size : Int) < z
          · have hR : Hid (strOr (okR zs) (runsW zs true) = .tuple #[.string (str []), .bool false]) := Lib.hid (strOr_no _ _ (hcut.out (by omega)))
            go_wp2
            go_ret2
            exact ⟨congrArg Ending.returned hR.out.symm, HBw.out⟩
          · have hz40 : z ≤ 40 := by omega
            have hs2 : (str (List.replicate z.toNat (sgn (fl true k)))).size ≤ 40 := by rw [str_size, List.length_replicate]; omega
            have hw1 : Hid (wordB ⟨#[sgn (fl true k)]⟩ = true) := Lib.hid (by cases fl true k <;> decide)
            have hw2 : Hid (otherW (byt ⟨#[sgn (fl true k)]⟩) = [sgn (!(fl true k))]) := Lib.hid (by cases fl true k <;> rfl)
            have hsg : (⟨#[sgn (fl true k)]⟩ : ByteArray).size ≤ maxLen := by show 1 ≤ maxLen; decide
            have hQ1 : Hid ((zs.take (k + 1)).all (fun n => decide (1 ≤ n)) = true) := Lib.hid (by rw [hall1.out]; simp; omega)
            have hQ2 : Hid ((zs.take (k + 1)).sum ≤ 40) := Lib.hid (by rw [hsum1.out]; have := hSz.out; omega)
            have HT2 : Hid (str (runsW (zs.take k) true) ++ str (List.replicate z.toNat (sgn (fl true k))) = str (runsW (zs.take (k + 1)) true)) := Lib.hid (by rw [hT.out, str_app])
            clear hT hsum1 hall1 hcut
            go_wp2_with fail
            refine (repeat_any (sgn (fl true k)) z _ (by omega) (by omega)).mono ?_
            rintro e w1 ⟨rfl, hb1⟩
            have HB1 := Lib.hid (HBw.out.trans (hb1.mono HBw.out.size))
            clear hb1
            go_wp2_with fail
            refine (otherWord_any ⟨#[sgn (fl true k)]⟩ _ hsg).mono ?_
            rintro e w2 ⟨rfl, hb2⟩
            rw [strOr_yes _ _ hw1.out, hw2.out]
            have HB2 := Lib.hid (HB1.out.trans (hb2.mono HB1.out.size))
            clear hb2
            go_wp2
            go_roundw
            case rel => exact ⟨k + 1, by omega, by go_num, rfl, by rw [HT2.out], hQ1, hQ2, HB2.out⟩
            case measure => simp [intOf]; omega
      · obtain rfl : k = zs.length := by omega
        have hR : Hid (strOr (okR zs) (runsW zs true) = .tuple #[.string (str (runsW zs true)), .bool true]) := Lib.hid (strOr_yes _ _ ((okR_iff zs).2 ⟨by have := hP.out; rwa [List.take_length] at this, by have := hS.out; rwa [List.take_length] at this⟩))
        rw [List.take_length]
        go_wp2
        go_ret2
        exact ⟨congrArg Ending.returned hR.out.symm, hB⟩
end Go.Proofs.YticdhapbkfbhjaaDoor
