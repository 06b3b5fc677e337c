/- ComesAround: the model's side, and the law's walk. -/
import Derived.Test.YtdcbjbmnkajjcaaDoorCiJ
import Derived.Test.YtdcbjbmnkajjcaaDoorCiW
namespace Go.Proofs.YtdcbjbmnkajjcaaDoor
open Go.RowKit

theorem rch_back {NX : List (List Nat)} {b : Nat} : ∀ (d i : Nat), rchN NX b d i → ∃ q', q'.length = d ∧ runN NX i q' = some b := by
  intro d
  induction d with
  | zero => intro i e; exact ⟨[], rfl, by show some i = some b; rw [e]⟩
  | succ d ih =>
    rintro i ⟨k, hk, hr⟩
    obtain ⟨q', h1, h2⟩ := ih k hr
    obtain ⟨j, hj, e⟩ := List.getElem_of_mem hk
    refine ⟨j :: q', by rw [List.length_cons, h1], ?_⟩
    rw [runN_cons, List.getElem?_eq_getElem hj, e]
    exact h2
/-- What the least number tells, among the first moves. -/
def LstI (NX : List (List Nat)) (I : List Nat) (j : Nat) (x : Int) : Prop :=
  (x = -1 ∧ ∀ i k d, i < j → I[i]? = some k → ¬ dstN NX 0 d k) ∨
    ∃ d : Nat, x = (d : Int) + 1 ∧ (∃ i k, i < j ∧ I[i]? = some k ∧ dstN NX 0 d k) ∧ ∀ i k d', i < j → I[i]? = some k → dstN NX 0 d' k → d ≤ d'
theorem lst_start (NX : List (List Nat)) (I : List Nat) : LstI NX I 0 (-1) := .inl ⟨rfl, fun i k d h => by omega⟩
theorem lst_skip {NX : List (List Nat)} {I : List Nat} {j k : Nat} {x : Int} (h : LstI NX I j x) (hk : I[j]? = some k) (hn : ∀ d, ¬ dstN NX 0 d k) : LstI NX I (j + 1) x := by
  rcases h with ⟨h1, h2⟩ | ⟨d, h1, ⟨i, k2, a1, a2, a3⟩, h3⟩
  · refine .inl ⟨h1, fun i k2 d hi hk2 => ?_⟩
    by_cases e : i = j
    · subst e
      rw [hk] at hk2
      injection hk2 with hk2
      rw [← hk2]; exact hn d
    · exact h2 i k2 d (by omega) hk2
  · refine .inr ⟨d, h1, ⟨i, k2, by omega, a2, a3⟩, fun i k2 d' hi hk2 hd => ?_⟩
    by_cases e : i = j
    · subst e
      rw [hk] at hk2
      injection hk2 with hk2
      exact absurd (by rw [hk2]; exact hd) (hn d')
    · exact h3 i k2 d' (by omega) hk2 hd
theorem lst_first {NX : List (List Nat)} {I : List Nat} {j k d : Nat} (h : LstI NX I j (-1)) (hk : I[j]? = some k) (hd : dstN NX 0 d k) : LstI NX I (j + 1) ((d : Int) + 1) := by
  rcases h with ⟨_, h2⟩ | ⟨e, h1, _⟩
  · refine .inr ⟨d, rfl, ⟨j, k, by omega, hk, hd⟩, fun i k2 d' hi hk2 hd2 => ?_⟩
    by_cases e : i = j
    · subst e
      rw [hk] at hk2
      injection hk2 with hk2
      rw [← hk2] at hd2
      exact Nat.le_of_eq (dst_one hd hd2)
    · exact absurd hd2 (h2 i k2 d' (by omega) hk2)
  · omega
theorem lst_less {NX : List (List Nat)} {I : List Nat} {j k d e : Nat} (h : LstI NX I j ((e : Int) + 1)) (hk : I[j]? = some k) (hd : dstN NX 0 d k) (hl : d < e) : LstI NX I (j + 1) ((d : Int) + 1) := by
  rcases h with ⟨h1, _⟩ | ⟨e2, h1, h2, h3⟩
  · omega
  · obtain rfl : e2 = e := by omega
    refine .inr ⟨d, rfl, ⟨j, k, by omega, hk, hd⟩, fun i k2 d' hi hk2 hd2 => ?_⟩
    by_cases e3 : i = j
    · subst e3
      rw [hk] at hk2
      injection hk2 with hk2
      rw [← hk2] at hd2
      exact Nat.le_of_eq (dst_one hd hd2)
    · have := h3 i k2 d' (by omega) hk2 hd2
      omega
theorem lst_more {NX : List (List Nat)} {I : List Nat} {j k d e : Nat} (h : LstI NX I j ((e : Int) + 1)) (hk : I[j]? = some k) (hd : dstN NX 0 d k) (hl : ¬ d < e) : LstI NX I (j + 1) ((e : Int) + 1) := by
  rcases h with ⟨h1, _⟩ | ⟨e2, h1, ⟨i, k2, a1, a2, a3⟩, h3⟩
  · omega
  · obtain rfl : e2 = e := by omega
    refine .inr ⟨e2, rfl, ⟨i, k2, by omega, a2, a3⟩, fun i k2 d' hi hk2 hd2 => ?_⟩
    by_cases e3 : i = j
    · subst e3
      rw [hk] at hk2
      injection hk2 with hk2
      rw [← hk2] at hd2
      have := dst_one hd hd2
      omega
    · exact h3 i k2 d' (by omega) hk2 hd2
/-- The answer of the model's ComesAround. -/
def ArP (s : ByteArray) (e : Ending) : Prop :=
  ((∀ q, q ≠ [] → runP nxC s q ≠ some s) ∧ e = .returned (.tuple #[.int .i64 0, .bool false])) ∨
    ∃ n : Nat, (∃ q', q' ≠ [] ∧ runP nxC s q' = some s ∧ q'.length = n) ∧ (∀ q', q' ≠ [] → runP nxC s q' = some s → n ≤ q'.length) ∧ e = .returned (.tuple #[.int .i64 (n : Int), .bool true])
theorem lst_none {s : ByteArray} {R : List ByteArray} {NX : List (List Nat)} (hO : GrOk s R NX) (h : LstI NX (NX.getD 0 []) (NX.getD 0 []).length (-1)) : ∀ q, q ≠ [] → runP nxC s q ≠ some s := by
  intro q hq hr
  have h1 := (hO.runTo hO.first hO.first).1 hr
  match q, hq with
  | i :: q', _ =>
    rw [runN_cons] at h1
    cases hi : (NX.getD 0 [])[i]? with
    | none => rw [hi] at h1; cases h1
    | some k =>
      rw [hi] at h1
      obtain ⟨d, _, hd⟩ := dst_of _ (runN_rch q' k h1)
      rcases h with ⟨_, h2⟩ | ⟨e, h2, _⟩
      · exact h2 i k d (List.getElem?_eq_some_iff.1 hi).1 hi hd
      · omega
theorem lst_some {s : ByteArray} {R : List ByteArray} {NX : List (List Nat)} (hO : GrOk s R NX) {d : Nat} (h : LstI NX (NX.getD 0 []) (NX.getD 0 []).length ((d : Int) + 1)) :
    (∃ q', q' ≠ [] ∧ runP nxC s q' = some s ∧ q'.length = d + 1) ∧ ∀ q', q' ≠ [] → runP nxC s q' = some s → d + 1 ≤ q'.length := by
  rcases h with ⟨h1, _⟩ | ⟨e, h1, ⟨i, k, _, hi, hd⟩, h3⟩
  · omega
  · obtain rfl : e = d := by omega
    refine ⟨?_, fun q hq hr => ?_⟩
    · obtain ⟨q', a1, a2⟩ := rch_back e k hd.1
      refine ⟨i :: q', by simp, (hO.runTo hO.first hO.first).2 ?_, by rw [List.length_cons, a1]⟩
      rw [runN_cons, hi]
      exact a2
    · have h1 := (hO.runTo hO.first hO.first).1 hr
      match q, hq with
      | i :: q', _ =>
        rw [runN_cons] at h1
        cases hi : (NX.getD 0 [])[i]? with
        | none => rw [hi] at h1; cases h1
        | some k =>
          rw [hi] at h1
          obtain ⟨d', hd1, hd'⟩ := dst_of _ (runN_rch q' k h1)
          have := h3 i k d' (List.getElem?_eq_some_iff.1 hi).1 hi hd'
          rw [List.length_cons]
          omega
set_option maxRecDepth 100000 in
set_option maxHeartbeats 4000000 in
theorem sAround_of (s : ByteArray) (w : World) (hs : ringB s = true) (H : ∀ wx, Calls Tryd.prog 26 #[.string s] wx (RePost s wx)) :
    Calls Tryd.prog 22 #[.string s] w fun e w' => ArP s e ∧ Below w.heap.size w w' := by
  have HGS : Hid (∀ wx, Calls Tryd.prog 24 #[.string s] wx fun e w' => e = .returned (.bool true) ∧ wx = w') := Lib.hid fun wx => by
    have := ciGood_any s wx (by have := (ring_sz hs).2; unfold maxLen; omega)
    rwa [hs] at this
  have HRE := Lib.hid H
  have HS := Lib.hid hs
  unfold RePost at HRE
  clear H hs
  go_enter Tryd.func22, Tryd.ntmps22
  go_wp2_with fail
  refine (HGS.out _).mono ?_
  rintro e w' ⟨rfl, rfl⟩
  go_wp2_with fail
  refine (HRE.out _).mono ?_
  rintro e w1 ⟨B, R, NX, rfl, hM, hO, hn, hb1⟩
  have hR0 : 0 < R.length := (List.getElem?_eq_some_iff.1 hO.first).1
  have HTO : Hid (Calls Tryd.prog 37 #[.pointer (some ⟨B, 0, none⟩), .int .i64 0] w1 (ToPost NX 0 w1)) := Lib.hid (to_any B R NX 0 w1 hM hO.len hO.inR (by rw [hO.len]; exact hR0) (by rw [hO.len]; exact hn) (hO.rows HS.out))
  unfold ToPost at HTO
  have HM := Lib.hid hM
  have HO := Lib.hid hO
  have HB1 := Lib.hid hb1
  have hnl : NX.length ≤ 100000 := by rw [hO.len]; exact hn
  have hn0 : 0 < NX.length := by rw [hO.len]; exact hR0
  have hrw := hO.rows HS.out 0
  clear hM hO hb1 hR0 hn
  go_wp2_with fail
  refine HTO.out.mono ?_
  rintro e w2 ⟨x, F, rfl, hw, hF, hf, hb2⟩
  obtain ⟨A, cap, rfl⟩ := own_form hw
  obtain ⟨gf, rfl⟩ : ∃ g, A = some ⟨g, 0, none⟩ := by
    rcases hw.2 with ⟨_, h2⟩ | ⟨g, cap', _, h1, _⟩
    · omega
    · injection h1 with h1 _ _
      exact ⟨g, h1⟩
  have HFC : Hid (∀ a : Nat, a < NX.length → w2.cell? ⟨gf, a, none⟩ = some (.int .i64 (F.getD a 0))) := Lib.hid fun a ha => (hw.cellAt a (by omega)).trans (itZ_at F a (by omega))
  have HFF : Hid (∀ a : Nat, a < NX.length → farF NX 0 (F.getD a 0) a) := Lib.hid fun a ha => by
    rw [List.getD_eq_getElem?_getD, List.getElem?_eq_getElem (by omega)]
    exact hf a (by omega)
  obtain ⟨hltB, _, ⟨An, capn, cn1, hnext⟩⟩ := HM.out.below hb2
  obtain ⟨gn, vn, rfl, zn, cvn, hit⟩ := hnext 0 hn0
  obtain ⟨A3, cap3, rfl, hels⟩ := hit
  have e3 : NX[0] = NX.getD 0 [] := by rw [List.getD_eq_getElem?_getD, List.getElem?_eq_getElem hn0]; rfl
  have HELS : Hid (∀ j', (h : j' < (NX.getD 0 []).length) → ∃ g, A3 = some ⟨g, 0, none⟩ ∧ g < w2.heap.size ∧ w2.cell? ⟨g, j', none⟩ = some (.int .i64 ((NX.getD 0 [])[j'] : Nat))) := Lib.hid (by rw [← e3]; exact hels)
  rw [e3] at cvn
  have HIN := Lib.hid (fun j' k' (h : (NX.getD 0 [])[j']? = some k') => HO.out.inR 0 k' (List.mem_of_getElem? h))
  have HLS := Lib.hid (lst_start NX (NX.getD 0 []))
  have HN0 := Lib.hid (lst_none HO.out)
  have HN1 := Lib.hid (fun d => lst_some HO.out (d := d))
  have HBE := Lib.hid (HB1.out.trans (hb2.mono HB1.out.size))
  have i0 : (0 : Int) < (NX.length : Int) := by omega
  clear hels hnext e3 hb2 hw hF hf hltB HM
  generalize NX.getD 0 [] = I at hrw cvn HELS HIN HLS HN0 HN1
  go_wp2_with fail
  go_loop [6, 23] (fun t6 t => ∃ (j : Nat) (x : Int), j ≤ I.length ∧ t = .int .i64 j ∧ t6 = .int .i64 x ∧ -1 ≤ x ∧ x ≤ 100001 ∧ Hid (LstI NX I j x)) (fun _ t => I.length - (intOf t).toNat)
  case atStart => exact ⟨0, -1, Nat.zero_le _, rfl, rfl, by omega, by omega, HLS⟩
  case round =>
    obtain ⟨j, x, hj, rfl, rfl, x1, x2, HL⟩ := hrel
    by_cases hlt : j < I.length
    · obtain ⟨g3, rfl, z3, c3⟩ := HELS.out j hlt
      have hkk : I[j]? = some I[j] := List.getElem?_eq_getElem hlt
      have hkn := HIN.out j _ hkk
      have hck := HFC.out I[j] hkn
      have hff := HFF.out I[j] hkn
      have k1 : (0 : Int) ≤ (j : Int) := by omega
      have k2 : (j : Int) < (I.length : Int) := by omega
      have HKK := Lib.hid hkk
      have HDL : Hid (∀ d, dstN NX 0 d I[j] → d < NX.length) := Lib.hid fun d hd => dst_lt HO.out.inR hkn hd
      generalize I[j] = k at c3 hkn hck hff HKK HDL
      generalize F.getD k 0 = z at hck hff
      have k3 : (0 : Int) ≤ (k : Int) := by omega
      have k4 : (k : Int) < (NX.length : Int) := by omega
      clear hkk hkn
      rcases hff with ⟨rfl, hno⟩ | ⟨d, rfl, hd⟩
      · have HN := Lib.hid (lst_skip HL.out HKK.out (fun d hd => hno d hd.1))
        clear hno
        go_wp2_with fail
        go_round
        case rel => exact ⟨j + 1, x, by omega, by go_num, rfl, x1, x2, HN⟩
        case measure => simp [intOf]; omega
      · have d0 : (0 : Int) ≤ (d : Int) := by omega
        have d1 : (d : Int) ≤ 100000 := by have := HDL.out d hd; omega
        by_cases hx : x = -1
        · subst hx
          have HN := Lib.hid (lst_first HL.out HKK.out hd)
          clear hd
          go_wp2_with fail
          go_round
          case rel => exact ⟨j + 1, (d : Int) + 1, by omega, by go_num, rfl, by omega, by omega, HN⟩
          case measure => simp [intOf]; omega
        · obtain ⟨e, he⟩ : ∃ e : Nat, x = (e : Int) + 1 := by
            rcases HL.out with ⟨h, _⟩ | ⟨e, h, _⟩
            · exact absurd h hx
            · exact ⟨e, h⟩
          have HL2 : Hid (LstI NX I j ((e : Int) + 1)) := Lib.hid (by rw [← he]; exact HL.out)
          have e0 : (0 : Int) ≤ x := by omega
          by_cases hde : d < e
          · have HN := Lib.hid (lst_less HL2.out HKK.out hd hde)
            have h1 : (d : Int) + 1 < x := by omega
            clear hd hx he hde
            go_wp2_with fail
            go_round
            case rel => exact ⟨j + 1, (d : Int) + 1, by omega, by go_num, rfl, by omega, by omega, HN⟩
            case measure => simp [intOf]; omega
          · have HN := Lib.hid (lst_more HL2.out HKK.out hd hde)
            rw [← he] at HN
            have h1 : ¬ (d : Int) + 1 < x := by omega
            clear hd hx he hde
            go_wp2_with fail
            go_round
            case rel => exact ⟨j + 1, x, by omega, by go_num, rfl, by omega, by omega, HN⟩
            case measure => simp [intOf]; omega
    · obtain rfl : j = I.length := by omega
      by_cases hx : x = -1
      · subst hx
        have HN := Lib.hid (HN0.out HL.out)
        go_wp2_with fail
        go_ret2
        exact ⟨.inl ⟨HN.out, rfl⟩, HBE.out⟩
      · obtain ⟨e, he⟩ : ∃ e : Nat, x = (e : Int) + 1 := by
          rcases HL.out with ⟨h, _⟩ | ⟨e, h, _⟩
          · exact absurd h hx
          · exact ⟨e, h⟩
        have e0 : (0 : Int) ≤ x := by omega
        have HN := Lib.hid (HN1.out e (by rw [← he]; exact HL.out))
        have HX : Hid (x = ((e + 1 : Nat) : Int)) := Lib.hid (by omega)
        clear hx he
        go_wp2_with fail
        go_ret2
        exact ⟨.inr ⟨e + 1, HN.out.1, HN.out.2, by rw [← HX.out]; rfl⟩, HBE.out⟩
set_option maxRecDepth 100000 in
set_option maxHeartbeats 1000000 in
theorem sAround_no (s : ByteArray) (w : World) (hs : s.size ≤ maxLen) (h : ringB s = false) :
    Calls Tryd.prog 22 #[.string s] w fun e w' => e = .returned (.tuple #[.int .i64 0, .bool false]) ∧ w = w' := by
  have HGS := Lib.hid (fun wx => ciGood_any s wx hs)
  rw [h] at HGS
  clear h
  go_enter Tryd.func22, Tryd.ntmps22
  go_wp2_with fail
  refine (HGS.out _).mono ?_
  rintro e w' ⟨rfl, rfl⟩
  go_wp2
  go_ret2
  exact ⟨rfl, rfl⟩
set_option maxRecDepth 100000 in
set_option maxHeartbeats 2000000 in
theorem around_two (s : ByteArray) (x : Int) (y : Bool) (hb1 : ¬ (1048576 : Int) < (s.size : Int)) (w : World)
    (hM : ∀ wx, Calls Tryd.prog 23 #[.string s] wx fun e w' => e = .returned (.tuple #[.int .i64 x, .bool y]) ∧ Below wx.heap.size wx w')
    (hS : Calls Tryd.prog 22 #[.string s] w fun e w' => e = .returned (.tuple #[.int .i64 x, .bool y]) ∧ Below w.heap.size w w') :
    Calls Tryd.prog 7 #[.string s] w fun e w' => e = .returned (.bool true) ∧ Below w.heap.size w w' := by
  have HS := Lib.hid hS
  have HM := Lib.hid hM
  clear hS hM
  go_enter Tryd.func7, Tryd.ntmps7
  go_wp2_with fail
  refine HS.out.mono ?_
  rintro e w1 ⟨rfl, hb1⟩
  go_wp2_with fail
  refine (HM.out _).mono ?_
  rintro e w2 ⟨rfl, hb2⟩
  go_wp2
  go_ret
  exact ⟨rfl, hb1.trans (hb2.mono hb1.size)⟩
set_option maxRecDepth 100000 in
set_option maxHeartbeats 2000000 in
theorem around_ring (s : ByteArray) (hb1 : ¬ (1048576 : Int) < (s.size : Int)) (hs : ringB s = true) (w : World) :
    Calls Tryd.prog 7 #[.string s] w fun e w' => e = .returned (.bool true) ∧ Below w.heap.size w w' := by
  have HS := Lib.hid (fun wx => sAround_of s wx hs (fun wy => ciReach_any s wy hs))
  have HM := Lib.hid (fun wx => aroundI_any s wx hs)
  clear hs
  go_enter Tryd.func7, Tryd.ntmps7
  go_wp2_with fail
  refine (HS.out _).mono ?_
  rintro e w1 ⟨ha, hb1⟩
  rcases ha with ⟨hno, rfl⟩ | ⟨n, hex, hmin, rfl⟩
  · have HN : Hid (∀ o, RoundIs s s o → lenP o = .tuple #[.int .i64 0, .bool false]) := Lib.hid fun o ho => by
      cases o with
      | none => rfl
      | some q => exact absurd ho.1.2 (hno q ho.1.1)
    clear hno
    go_wp2_with fail
    refine (HM.out _).mono ?_
    rintro e w2 ⟨o, ho, rfl, hb2⟩
    rw [HN.out o ho]
    go_wp2
    go_ret
    exact ⟨rfl, hb1.trans (hb2.mono hb1.size)⟩
  · have HN : Hid (∀ o, RoundIs s s o → lenP o = .tuple #[.int .i64 (n : Int), .bool true]) := Lib.hid fun o ho => by
      cases o with
      | none =>
        obtain ⟨q', h1, h2, _⟩ := hex
        exact absurd h2 (ho q' h1)
      | some q =>
        have := round_len ho hex hmin
        show Value.tuple #[.int .i64 (q.length : Nat), .bool true] = _
        rw [this]
    clear hex hmin
    go_wp2_with fail
    refine (HM.out _).mono ?_
    rintro e w2 ⟨o, ho, rfl, hb2⟩
    rw [HN.out o ho]
    go_wp2
    go_ret
    exact ⟨rfl, hb1.trans (hb2.mono hb1.size)⟩
theorem walk_FnExactComesAround (s : ByteArray) (hs : s.size ≤ maxLen) (w : World) :
    Calls Tryd.prog 7 #[.string s] w fun e w' => e = .returned (.bool true) ∧ Below w.heap.size w w' := by
  by_cases hb1 : (1048576 : Int) < (s.size : Int)
  · go_enter Tryd.func7, Tryd.ntmps7
    go_wp2
    go_ret
    exact ⟨rfl, Below.refl _ _⟩
  · cases h : ringB s
    · exact around_two s 0 false hb1 w (fun wx => (aroundI_no s wx hs h).mono fun e w' hp => ⟨hp.1, hp.2 ▸ Below.refl _ _⟩) ((sAround_no s w hs h).mono fun e w' hp => ⟨hp.1, hp.2 ▸ Below.refl _ _⟩)
    · exact around_ring s hb1 h w
end Go.Proofs.YtdcbjbmnkajjcaaDoor
