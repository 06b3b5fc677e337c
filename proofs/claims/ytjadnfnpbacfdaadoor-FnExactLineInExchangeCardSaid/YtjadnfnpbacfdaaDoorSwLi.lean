/- LineInExchange: contracts of both sides and the law's walk. -/
import Derived.Test.YtjadnfnpbacfdaaDoorSwG
import Derived.Test.YtjadnfnpbacfdaaDoorSwapB
namespace Go.Proofs.YtjadnfnpbacfdaaDoor
open Go.RowKit

theorem exM_take (last : Bool) : ∀ (k K : Nat) (l : List UInt8), k ≤ K → (exM last K l).take k = exM last k l
  | 0, K, l, _ => by simp [exM]
  | k + 1, 0, l, h => by omega
  | k + 1, K + 1, l, h => by
    unfold exM
    cases hp : pickM last l with
    | none => rfl
    | some m => exact congrArg (m :: ·) (exM_take last k K _ (by omega))
/-- Playing the moves that were picked. -/
theorem playS_ex (last : Bool) : ∀ (k : Nat) (l : List UInt8), playS (str l) (exM last k l) = (str (exN last k l), (exM last k l).length)
  | 0, l => rfl
  | k + 1, l => by
    cases hp : pickM last l with
    | none =>
      have e1 : exM last (k + 1) l = [] := by unfold exM; rw [hp]
      have e2 : exN last (k + 1) l = l := by unfold exN; rw [hp]
      rw [e1, e2]
      rfl
    | some m =>
      have e1 : exM last (k + 1) l = m :: exM last k (behind (str l) m.1 m.2) := by show (match pickM last l with | some m => _ | none => _) = _; rw [hp]
      have e2 : exN last (k + 1) l = exN last k (behind (str l) m.1 m.2) := by show (match pickM last l with | some m => _ | none => _) = _; rw [hp]
      obtain ⟨j, hj, hm⟩ := List.mem_iff_getElem.1 (pick_mem hp).1
      obtain ⟨a, b, h1, h2, _, _, _, hc⟩ := mvL_at l j hj
      rw [hm] at h1 h2
      rw [e1, e2, playS, if_pos (by rw [h1, h2]; exact hc), playS_ex last k]
      rfl
theorem take_in {w : World} {A : Option Addr} {l : List (Int × Int)} (h : MvAt w A l) (k : Nat) : MvIn w A (l.take k) := by
  intro j hj
  rw [List.length_take] at hj
  obtain ⟨g, a, b, c, d⟩ := h j (by omega)
  rw [List.getElem_take]
  exact ⟨g, 0, a, b, by rw [Nat.zero_add]; exact c, by rw [Nat.zero_add]; exact d⟩
theorem way_few {t g f : Int} (h : few t g f = true) : (msL (firstL t.toNat g.toNat f.toNat)).toNat ≤ 100 := by
  have hf := (few_iff t g f).1 h
  have key : ∀ a b : Fin 9, a.val + b.val ≤ 8 → a.val * b.val ≤ 16 := by decide
  have h1 : wayL (firstL t.toNat g.toNat f.toNat) ≤ 32 := by
    rw [firstL_way]
    have a1 := key ⟨t.toNat, by omega⟩ ⟨g.toNat + f.toNat, by omega⟩ (by show t.toNat + (g.toNat + f.toNat) ≤ 8; omega)
    have a2 := key ⟨f.toNat, by omega⟩ ⟨t.toNat + g.toNat, by omega⟩ (by show f.toNat + (t.toNat + g.toNat) ≤ 8; omega)
    have a1' : t.toNat * (g.toNat + f.toNat) ≤ 16 := a1
    have a2' : f.toNat * (t.toNat + g.toNat) ≤ 16 := a2
    omega
  have h3 : msL (firstL t.toNat g.toNat f.toNat) = wayL (firstL t.toNat g.toNat f.toNat) - ((pairSt (firstL t.toNat g.toNat f.toNat)).1 : Int) := rfl
  omega
theorem has_few {t g f : Int} (h : hasX t g f = true) : few t g f = true := by
  unfold hasX at h
  rw [Bool.and_eq_true] at h
  exact h.1
theorem fxL_of {t g f : Int} (h : hasX t g f = true) : fxL t g f = movX false t g f := by
  unfold fxL
  rw [if_pos h]
theorem fxL_100 (t g f : Int) : (fxL t g f).length ≤ 100 := by
  unfold fxL
  split
  · rename_i h
    have h1 := way_few (has_few h)
    have h2 := exM_len false (msL (firstL t.toNat g.toNat f.toNat)).toNat (firstL t.toNat g.toNat f.toNat)
    unfold movX
    omega
  · simp
/-- The line behind the first k moves. -/
def liA (t g f k : Int) : List UInt8 := exN false k.toNat (firstL t.toNat g.toNat f.toNat)
def liB (t g f k : Int) : Bool := hasX t g f && inR k 0 (fxL t g f).length
def liV (t g f k : Int) : Value := strOr (liB t g f k) (liA t g f k)
theorem liV_no {t g f k : Int} (h : liB t g f k = false) : liV t g f k = .tuple #[.string (str []), .bool false] := strOr_no _ _ h
theorem liV_yes {t g f k : Int} (h : liB t g f k = true) : liV t g f k = .tuple #[.string (str (liA t g f k)), .bool true] := strOr_yes _ _ h
theorem li_play {t g f : Int} {k : Nat} (h : hasX t g f = true) (hk : k ≤ (fxL t g f).length) : playS (fst3 t g f) ((fxL t g f).take k) = (str (liA t g f k), k) := by
  rw [fxL_of h] at hk ⊢
  unfold movX at hk ⊢
  have h2 := exM_len false (msL (firstL t.toNat g.toNat f.toNat)).toNat (firstL t.toNat g.toNat f.toNat)
  have h4 := exM_take false k (msL (firstL t.toNat g.toNat f.toNat)).toNat (firstL t.toNat g.toNat f.toNat) (by omega)
  have h5 := congrArg List.length h4
  rw [List.length_take] at h5
  rw [h4]
  unfold fst3
  rw [playS_ex]
  unfold liA
  rw [show (k : Int).toNat = k by omega, ← h5]
  rw [show min k (exM false (msL (firstL t.toNat g.toNat f.toNat)).toNat (firstL t.toNat g.toNat f.toNat)).length = k by omega]
set_option maxRecDepth 100000 in
set_option maxHeartbeats 4000000 in
theorem lineIn_any (t g f k : Int) (w : World) :
    Calls Tryd.prog 29 #[.int .i64 t, .int .i64 g, .int .i64 f, .int .i64 k] w fun e w' => e = .returned (liV t g f k) ∧ Below w.heap.size w w' := by
  have HP := Lib.hid (fun wx => firstEx_any t g f wx)
  unfold FxAns at HP
  have hl := fxL_100 t g f
  cases h : hasX t g f
  · have HV := Lib.hid (liV_no (t := t) (g := g) (f := f) (k := k) (by unfold liB; rw [h]; rfl))
    rw [h] at HP
    rw [HV.out]
    clear h HV
    generalize fxL t g f = L at *
    go_enter Tryd.func29, Tryd.ntmps29
    go_wp2_with fail
    refine (HP.out _).mono ?_
    rintro e w1 ⟨v, rfl, ho, hb⟩
    obtain ⟨A0, cap0, rfl, _⟩ := at_of_own ho
    have HB := Lib.hid hb
    clear hb ho
    go_wp2_with fail
    go_ret2
    exact ⟨rfl, HB.out⟩
  · by_cases hk0 : k < 0
    · have HV := Lib.hid (liV_no (t := t) (g := g) (f := f) (k := k) (by unfold liB inR; rw [h]; simp; omega))
      rw [h] at HP
      rw [HV.out]
      clear h HV
      generalize fxL t g f = L at *
      go_enter Tryd.func29, Tryd.ntmps29
      go_wp2_with fail
      refine (HP.out _).mono ?_
      rintro e w1 ⟨v, rfl, ho, hb⟩
      obtain ⟨A0, cap0, rfl, _⟩ := at_of_own ho
      have HB := Lib.hid hb
      clear hb ho
      go_wp2_with fail
      go_ret2
      exact ⟨rfl, HB.out⟩
    · by_cases hkl : ((fxL t g f).length : Int) < k
      · have HV := Lib.hid (liV_no (t := t) (g := g) (f := f) (k := k) (by unfold liB inR; rw [h]; simp; omega))
        rw [h] at HP
        rw [HV.out]
        clear h HV
        generalize fxL t g f = L at *
        go_enter Tryd.func29, Tryd.ntmps29
        go_wp2_with fail
        refine (HP.out _).mono ?_
        rintro e w1 ⟨v, rfl, ho, hb⟩
        obtain ⟨A0, cap0, rfl, _⟩ := at_of_own ho
        have HB := Lib.hid hb
        clear hb ho
        go_wp2_with fail
        go_ret2
        exact ⟨rfl, HB.out⟩
      · obtain ⟨n, rfl⟩ : ∃ n : Nat, k = (n : Int) := ⟨k.toNat, by omega⟩
        have HV := Lib.hid (liV_yes (t := t) (g := g) (f := f) (k := n) (by unfold liB inR; rw [h]; simp; omega))
        have hn : n ≤ (fxL t g f).length := by omega
        have hp := li_play h hn
        have hfew := has_few h
        have HPV : Hid (plVal (fst3 t g f) ((fxL t g f).take n) = .tuple #[.string (str (liA t g f n)), .bool true]) := Lib.hid (by
          rw [plVal_yes (fst3_good hfew) (by rw [List.length_take]; omega) (by unfold allB; rw [hp, List.length_take]; simp; omega), hp])
        have hF0 := Lib.hid (strOr_yes (three t g f) (firstL t.toNat g.toNat f.toNat) (few_three hfew))
        have HF := Lib.hid (fun wx => firstLine_any t g f wx)
        rw [hF0.out] at HF
        clear hF0
        have hz := fst3_size hfew
        have HPL := Lib.hid (fun A c wx (hat : MvIn wx A ((fxL t g f).take n)) => playMovesN_any (fst3 t g f) ((fxL t g f).take n) A c wx (by unfold maxLen; omega) (by rw [List.length_take]; omega) hat)
        rw [HPV.out, List.length_take, show min n (fxL t g f).length = n by omega, show fst3 t g f = str (firstL t.toNat g.toNat f.toNat) from rfl] at HPL
        rw [h] at HP
        rw [HV.out]
        clear h HV hp hfew hz HPV
        generalize fxL t g f = L at *
        generalize liA t g f n = y at *
        generalize firstL t.toNat g.toNat f.toNat = l at *
        go_enter Tryd.func29, Tryd.ntmps29
        go_wp2_with fail
        refine (HP.out _).mono ?_
        rintro e w1 ⟨v, rfl, ho, hb⟩
        obtain ⟨A0, cap0, rfl, _⟩ := at_of_own ho
        have hcap : L.length ≤ cap0 := by
          rcases ho.2 with h2 | ⟨gg, cap, cur, e, hb, hg, r⟩
          · obtain ⟨e1, e2⟩ := h2
            injection e1 with _ e3 _
            omega
          · cases e
            omega
        have AT := Lib.hid (at_ownF ho)
        have HB := Lib.hid hb
        clear hb ho
        go_wp2_with fail
        refine (HF.out _).mono ?_
        rintro e w2 ⟨rfl, hb2⟩
        have AT2 := Lib.hid (AT.out.below hb2)
        have HB2 := Lib.hid (HB.out.trans (hb2.mono HB.out.size))
        clear hb2 AT HB
        go_wp2_with fail
        refine (HPL.out _ _ _ (take_in AT2.out n)).mono ?_
        rintro e w3 ⟨rfl, hb3⟩
        have HB3 := Lib.hid (HB2.out.trans (hb3.mono HB2.out.size))
        clear hb3 AT2 HB2
        go_wp2_with fail
        go_ret2
        exact ⟨rfl, HB3.out⟩
set_option maxRecDepth 100000 in
set_option maxHeartbeats 4000000 in
theorem sLineIn_any (t g f k : Int) (w : World) :
    Calls Tryd.prog 28 #[.int .i64 t, .int .i64 g, .int .i64 f, .int .i64 k] w fun e w' => e = .returned (liV t g f k) ∧ Below w.heap.size w w' := by
  have HP := Lib.hid (fun wx => sFirstEx_any t g f wx)
  unfold FxAns at HP
  have hl := fxL_100 t g f
  cases h : hasX t g f
  · have HV := Lib.hid (liV_no (t := t) (g := g) (f := f) (k := k) (by unfold liB; rw [h]; rfl))
    rw [h] at HP
    rw [HV.out]
    clear h HV
    generalize fxL t g f = L at *
    go_enter Tryd.func28, Tryd.ntmps28
    go_wp2_with fail
    refine (HP.out _).mono ?_
    rintro e w1 ⟨v, rfl, ho, hb⟩
    obtain ⟨A0, cap0, rfl, _⟩ := at_of_own ho
    have HB := Lib.hid hb
    clear hb ho
    go_wp2_with fail
    go_ret2
    exact ⟨rfl, HB.out⟩
  · cases hk : inR k 0 (fxL t g f).length
    · have HV := Lib.hid (liV_no (t := t) (g := g) (f := f) (k := k) (by unfold liB; rw [h, hk]; rfl))
      have HK := Lib.hid hk
      rw [h] at HP
      rw [HV.out]
      clear h HV hk
      generalize fxL t g f = L at *
      go_enter Tryd.func28, Tryd.ntmps28
      go_wp2_with fail
      refine (HP.out _).mono ?_
      rintro e w1 ⟨v, rfl, ho, hb⟩
      obtain ⟨A0, cap0, rfl, _⟩ := at_of_own ho
      have HB := Lib.hid hb
      clear hb ho
      go_wp2_with fail
      refine (l1In_any _ _ _ _).mono ?_
      rintro e w2 ⟨rfl, rfl⟩
      rw [HK.out]
      go_wp2_with fail
      go_ret2
      exact ⟨rfl, HB.out⟩
    · have HV := Lib.hid (liV_yes (t := t) (g := g) (f := f) (k := k) (by unfold liB; rw [h, hk]; rfl))
      have HK := Lib.hid hk
      have hk2 : 0 ≤ k ∧ k ≤ (fxL t g f).length := by unfold inR at hk; simp at hk; omega
      obtain ⟨n, rfl⟩ : ∃ n : Nat, k = (n : Int) := ⟨k.toNat, by omega⟩
      have hn : n ≤ (fxL t g f).length := by omega
      have hp := li_play h hn
      have hfew := has_few h
      have hf := (few_iff t g f).1 hfew
      have hz := fst3_size hfew
      have HPL := Lib.hid (fun A c wx (hat : MvIn wx A ((fxL t g f).take n)) => liPlay_any (fst3 t g f) ((fxL t g f).take n) A c wx hat (by rw [List.length_take]; omega) (by omega))
      unfold PlPost at HPL
      rw [hp, List.length_take, show min n (fxL t g f).length = n by omega, show fst3 t g f = str (firstL t.toNat g.toNat f.toNat) from rfl] at HPL
      have HF := Lib.hid (fun wx => liFirst_any t g f wx (by omega) (by omega) (by omega))
      rw [h] at HP
      rw [HV.out]
      clear h HV hp hfew hz hf hk hk2
      generalize fxL t g f = L at *
      generalize liA t g f n = y at *
      generalize firstL t.toNat g.toNat f.toNat = l at *
      go_enter Tryd.func28, Tryd.ntmps28
      go_wp2_with fail
      refine (HP.out _).mono ?_
      rintro e w1 ⟨v, rfl, ho, hb⟩
      obtain ⟨A0, cap0, rfl, _⟩ := at_of_own ho
      have hcap : L.length ≤ cap0 := by
        rcases ho.2 with h2 | ⟨gg, cap, cur, e, hb, hg, r⟩
        · obtain ⟨e1, e2⟩ := h2
          injection e1 with _ e3 _
          omega
        · cases e
          omega
      have AT := Lib.hid (at_ownF ho)
      have HB := Lib.hid hb
      clear hb ho
      go_wp2_with fail
      refine (l1In_any _ _ _ _).mono ?_
      rintro e w2 ⟨rfl, rfl⟩
      rw [HK.out]
      go_wp2_with fail
      have i1 : (0 : Int) ≤ (n : Int) := by omega
      have i2 : (n : Int) ≤ (L.length : Int) := by omega
      have i3 : (n : Int) ≤ (cap0 : Int) := by omega
      go_region_held3 (fun _ => True) (exact trivial) (first | (go_at_call 51; refine (HF.out _).mono ?_; rintro e wa ⟨rfl, rfl⟩) | (go_at_call 55; refine (HPL.out _ _ _ (take_in (AT.out.below (by repeat first | with_reducible exact Below.refl _ _ | with_reducible refine Below.drew ?_)) n)).mono ?_; rintro e wb ⟨rfl, hb2⟩; have hB : Below w1.heap.size w1 wb := Below.trans (by repeat first | with_reducible exact Below.refl _ _ | with_reducible refine Below.drew ?_) (hb2.mono (Below.size (B := w1.heap.size) (w := w1) (by repeat first | with_reducible exact Below.refl _ _ | with_reducible refine Below.drew ?_))); clear hb2))
      all_goals go_wp2_with fail
      all_goals go_ret2
      all_goals exact ⟨rfl, HB.out.trans (hB.mono HB.out.size)⟩
set_option maxHeartbeats 4000000 in
theorem walk_FnExactLineInExchange (t : Int) (_ : (Lit.int .i64 t).wf = true) (g : Int) (_ : (Lit.int .i64 g).wf = true) (f : Int) (_ : (Lit.int .i64 f).wf = true) (k : Int) (_ : (Lit.int .i64 k).wf = true) (w : World) :
    Calls Tryd.prog 7 #[.int .i64 t, .int .i64 g, .int .i64 f, .int .i64 k] w fun e w' => e = .returned (.bool true) ∧ Below w.heap.size w w' := by
  obtain ⟨n, b, hv⟩ : ∃ (n : ByteArray) (b : Bool), liV t g f k = .tuple #[.string n, .bool b] := by
    unfold liV strOr
    split
    · exact ⟨_, _, rfl⟩
    · exact ⟨_, _, rfl⟩
  have HS := Lib.hid (fun wx => sLineIn_any t g f k wx)
  have HI := Lib.hid (fun wx => lineIn_any t g f k wx)
  rw [hv] at HS HI
  clear hv
  go_enter Tryd.func7, Tryd.ntmps7
  go_wp2_with fail
  refine (HS.out _).mono ?_
  rintro e w1 ⟨rfl, hb1⟩
  go_wp2_with fail
  refine (HI.out _).mono ?_
  rintro e w2 ⟨rfl, hb2⟩
  have HB := Lib.hid (hb1.trans (hb2.mono hb1.size))
  clear hb1 hb2
  go_wp2_with fail
  go_ret
  exact ⟨rfl, HB.out⟩
end Go.Proofs.YtjadnfnpbacfdaaDoor
