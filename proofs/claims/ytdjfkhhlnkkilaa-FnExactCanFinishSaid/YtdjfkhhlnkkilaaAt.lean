/- How many plays lead to a line: both sides, and the law's walk. -/
import Derived.Test.YtdjfkhhlnkkilaaCnt
import Derived.Test.YtdjfkhhlnkkilaaStops
import Derived.Laws.Rows
namespace Go.Proofs.Ytdjfkhhlnkkilaa
open Go.RowKit Go.Maps

theorem Try.zeroA (w : World) : (zeroValue 53).run Try.prog w = .ok (.agg #[.int .i64 0, .int .i64 0]) w := by kernel_rfl
theorem results_at (tmps : Array Value) (w : World) (g : Nat) (x y : Value) (hp : tmps.getD 4 undef = .pointer (some ⟨g, 0, none⟩)) (c0 : w.cell? ⟨g, 0, none⟩ = some x) (c1 : w.cell? ⟨g, 1, none⟩ = some y) :
    (results Try.f57 tmps).run Try.prog w = .ok (.tuple #[.agg #[x, y], tmps.getD 5 undef]) w := by
  have hr : Try.f57.results = #[.cell 4 53, .tmp 5] := rfl
  unfold results
  rw [hr]
  simp at hp
  simp [hp, asAddr, c0, c1, go_sem]
/-- What is known of the arrival at a line. -/
def AtV (wl vt : List UInt8) (d : Nat) (a b : Int) : Prop :=
  (∀ k, k < d → vt ∈ lay nxL wl k → a = k ∧ b = wr (pc nxL wl k vt)) ∧ ((∀ k, k < d → vt ∉ lay nxL wl k) → a = 0 ∧ b = 0)

set_option maxRecDepth 100000 in
set_option maxHeartbeats 1000000 in
theorem arrivalAt_noV (s : ByteArray) (t : ByteArray) (w : World) (ht : t.size ≤ maxLen) (hr : reachB t = false) :
    Calls Try.prog 57 #[.string s, .string t] w fun e w' => e = .returned (.tuple #[.agg #[.int .i64 0, .int .i64 0], .bool false]) ∧ Below w.heap.size w w' := by
  have hR := Lib.hid hr
  have hz := fun w => Try.zeroA w
  clear hr
  go_enter Try.func57, Try.ntmps57
  go_wp2_with (go_at_call 62; refine (isReach_any _ _ ht).mono ?_; rintro e w' ⟨rfl, rfl⟩; rw [hR.out])
  (try simp only [Exit.inBlock, Exit.then]); refine bodyPost_ret (results_at _ _ w.heap.size (.int .i64 0) (.int .i64 0) rfl ?_ ?_) rfl ?_
  · rw [World.cell?_alloc_new]; rfl
  · rw [World.cell?_alloc_new]; rfl
  · exact ⟨rfl, (Below.refl _ _).alloc (Nat.le_refl _) _⟩

set_option maxRecDepth 100000 in
set_option maxHeartbeats 1000000 in
theorem arrivalAt_noW (wl : List UInt8) (vt : List UInt8) (w : World) (hs : (str wl).size ≤ maxLen) (hr : reachB (str wl) = false) (hv : reachB (str vt) = true) :
    Calls Try.prog 57 #[.string (str wl), .string (str vt)] w fun e w' => e = .returned (.tuple #[.agg #[.int .i64 0, .int .i64 0], .bool false]) ∧ Below w.heap.size w w' := by
  have hR := Lib.hid hr
  have hV := Lib.hid hv
  have hvl : vt.length ≤ maxLen := by have := (reach_good hv).2; unfold maxLen; omega
  have ht : (str vt).size ≤ maxLen := by rw [str_size]; exact hvl
  have hlk := fun wx => Maps.look_nil (P := Try.prog) (w := wx) false Try.keysS Try.underlying46 (Try.zeroA wx) (keyStr hvl)
  clear hr hv
  go_enter Try.func57, Try.ntmps57
  go_wp2_with (first
    | (go_at_call 62; refine (isReach_any _ _ ht).mono ?_; rintro e w' ⟨rfl, rfl⟩; rw [hV.out])
    | (go_at_call 53; refine (arrivals_no wl _ hs hR.out).mono ?_; rintro e w' ⟨rfl, rfl⟩))
  (try simp only [Exit.inBlock, Exit.then]); refine bodyPost_ret (results_at _ _ w.heap.size (.int .i64 0) (.int .i64 0) rfl ?_ ?_) rfl ?_
  · rw [World.cell?_alloc_new]; rfl
  · rw [World.cell?_alloc_new]; rfl
  · exact ⟨rfl, (Below.refl _ _).alloc (Nat.le_refl _) _⟩

set_option maxRecDepth 100000 in
set_option maxHeartbeats 1000000 in
theorem arrivalAt_yes (d : Nat) (wl : List UInt8) (vt : List UInt8) (w : World) (hr : reachB (str wl) = true) (hd : IsDep nxL wl d) (hd2 : d ≤ 60000) (hv : reachB (str vt) = true) :
    Calls Try.prog 57 #[.string (str wl), .string (str vt)] w fun e w' => ∃ a b, e = .returned (.tuple #[.agg #[.int .i64 a, .int .i64 b], .bool true]) ∧ AtV wl vt d a b ∧ Below w.heap.size w w' := by
  have hR := Lib.hid hr
  have hV := Lib.hid hv
  have HD := Lib.hid hd
  have hvl : vt.length ≤ maxLen := by have := (reach_good hv).2; unfold maxLen; omega
  have ht : (str vt).size ≤ maxLen := by rw [str_size]; exact hvl
  clear hr hv hd
  go_enter Try.func57, Try.ntmps57
  go_wp2_with (go_at_call 62; refine (isReach_any _ _ ht).mono ?_; rintro e w' ⟨rfl, rfl⟩; rw [hV.out])
  refine (arrivals_yes d wl _ hR.out HD.out hd2).mono ?_
  rintro e w1 ⟨ba, rfl, hba, ⟨D, hown, hA⟩, hb1⟩
  obtain ⟨v, ps, hrun, hRv⟩ := hown.lookup Try.keysS Try.underlying46 (Try.zeroA w1) (arrR_mk 0 0) (keyStr hvl)
  obtain ⟨a, b, rfl, hab⟩ := arrR_inv hRv
  injection hab with hab _
  have hAT : AtV wl vt d a b := by
    refine ⟨fun k hk hvk => ?_, fun hno => ?_⟩
    · have := (hA.1 k vt hk hvk).2 (arrD 0 0)
      rw [hab] at this
      exact arrD_inj this
    · have hn : Maps.has D (.string vt) = false := by
        cases hb : Maps.has D (.string vt)
        · rfl
        · rcases hA.2.2 vt hb with ⟨j, hj, hvj⟩ | h
          · exact absurd hvj (hno j hj)
          · simp at h
      rw [atKey_of_not_has hn] at hab
      have := arrD_inj hab
      exact ⟨this.1.symm, this.2.symm⟩
  have HAT := Lib.hid hAT
  have HB := Lib.hid (((Below.refl w.heap.size w).alloc (Nat.le_refl _) (Obj.cells #[.int .i64 0, .int .i64 0] 53)).trans (hb1.mono (by simp)))
  obtain ⟨b0, b1⟩ := bcell hb1
  have e0 : w1.cell? ⟨w.heap.size, 0, none⟩ = some (.int .i64 0) := by rw [b0 _ _ (by simp), World.cell?_alloc_new]; rfl
  have e1 : w1.cell? ⟨w.heap.size, 1, none⟩ = some (.int .i64 0) := by rw [b0 _ _ (by simp), World.cell?_alloc_new]; rfl
  have f0 : w1.frozen? ⟨w.heap.size, 0, none⟩ = false := by rw [b1 _ _ (by simp)]; simp
  have f1 : w1.frozen? ⟨w.heap.size, 1, none⟩ = false := by rw [b1 _ _ (by simp)]; simp
  clear hown hA hRv hab hAT hb1 b0 b1
  go_wp2
  (try simp only [Exit.inBlock, Exit.then]); refine bodyPost_ret (results_at _ _ w.heap.size (.int .i64 a) (.int .i64 b) rfl ?_ ?_) rfl ?_
  · rw [World.cell?_setCell_other _ _ _ _ (by intro e; injection e with _ e; omega)]
    exact World.cell?_setCell_same _ _ _ e0
  · exact World.cell?_setCell_same _ _ _ (by rw [World.cell?_setCell_other _ _ _ _ (by intro e; injection e with _ e; omega)]; exact e1)
  · exact ⟨a, b, rfl, HAT.out, (HB.out.setCell (Nat.le_refl _) _).setCell (Nat.le_refl _) _⟩

set_option maxRecDepth 100000 in
set_option maxHeartbeats 1000000 in
theorem countPlays_no (wl vt : List UInt8) (w : World) (hs : (str wl).size ≤ maxLen) (ht : (str vt).size ≤ maxLen) (hr : (reachB (str wl) && reachB (str vt)) = false) :
    Calls Try.prog 29 #[.string (str wl), .string (str vt)] w fun e w' => e = .returned (.tuple #[.int .i64 0, .bool false]) ∧ Below w.heap.size w w' := by
  have hat : ∀ wx, Calls Try.prog 57 #[.string (str wl), .string (str vt)] wx fun e w' => e = .returned (.tuple #[.agg #[.int .i64 0, .int .i64 0], .bool false]) ∧ Below wx.heap.size wx w' := fun wx => by
    cases hv : reachB (str vt)
    · exact arrivalAt_noV _ _ wx ht hv
    · rw [hv, Bool.and_true] at hr
      exact arrivalAt_noW wl vt wx hs hr hv
  have HAT := Lib.hid hat
  clear hat hr
  go_enter Try.func29, Try.ntmps29
  go_wp2_with fail
  refine (HAT.out _).mono ?_
  rintro e w1 ⟨rfl, hb1⟩
  go_wp2
  go_ret2
  exact ⟨rfl, hb1.alloc hb1.size _⟩
set_option maxRecDepth 100000 in
set_option maxHeartbeats 1000000 in
theorem countPlays_yes (d : Nat) (wl vt : List UInt8) (w : World) (hr : reachB (str wl) = true) (hd : IsDep nxL wl d) (hd2 : d ≤ 60000) (hv : reachB (str vt) = true) :
    Calls Try.prog 29 #[.string (str wl), .string (str vt)] w fun e w' => ∃ a b, e = .returned (.tuple #[.int .i64 b, .bool true]) ∧ AtV wl vt d a b ∧ Below w.heap.size w w' := by
  have HAT := Lib.hid (fun wx => arrivalAt_yes d wl vt wx hr hd hd2 hv)
  clear hr hd hv
  go_enter Try.func29, Try.ntmps29
  go_wp2_with fail
  refine (HAT.out _).mono ?_
  rintro e w1 ⟨a, b, rfl, hA, hb1⟩
  have HA := Lib.hid hA
  clear hA
  go_wp2
  go_ret2
  exact ⟨a, b, rfl, HA.out, hb1.alloc hb1.size _⟩

/-- The counts of a layer. -/
def cts (wl : List UInt8) (k : Nat) : List Int := (lay nxL wl k).map fun v => wr (pc nxL wl k v)
theorem cts_len (wl : List UInt8) (k : Nat) : (cts wl k).length = (lay nxL wl k).length := by simp [cts]
theorem cts_zero (wl : List UInt8) : cts wl 0 = [1] := by simp [cts, lay, pc, wr_small 1 (by decide)]

set_option maxHeartbeats 1000000 in
theorem sCountPlays_no (wl vt : List UInt8) (w : World) (hs : (str wl).size ≤ maxLen) (ht : (str vt).size ≤ maxLen) (hr : (reachB (str wl) && reachB (str vt)) = false) :
    Calls Try.prog 28 #[.string (str wl), .string (str vt)] w fun e w' => e = .returned (.tuple #[.int .i64 0, .bool false]) ∧ Below w.heap.size w w' := by
  cases hw : reachB (str wl)
  · have hW := Lib.hid hw
    clear hw hr
    go_enter Try.func28, Try.ntmps28
    go_wp2_with (go_at_call 51; refine (reFew_any _ _ hs).mono ?_; rintro e w' ⟨rfl, rfl⟩; rw [hW.out])
    go_ret2
    exact ⟨rfl, Below.refl _ _⟩
  · rw [hw, Bool.true_and] at hr
    have hW := Lib.hid hw
    have hV := Lib.hid hr
    clear hw hr
    go_enter Try.func28, Try.ntmps28
    go_wp2_with fail
    refine (reFew_any _ _ hs).mono ?_
    rintro e w1 ⟨rfl, rfl⟩
    rw [hW.out]
    go_wp2_with fail
    refine (reFew_any _ _ ht).mono ?_
    rintro e w1 ⟨rfl, rfl⟩
    rw [hV.out]
    go_wp2
    go_ret2
    exact ⟨rfl, Below.refl _ _⟩

set_option maxRecDepth 100000 in
set_option maxHeartbeats 4000000 in
theorem sCountPlays_yes (d : Nat) (wl vt : List UInt8) (w : World) (hs : (str wl).size ≤ maxLen) (ht : (str vt).size ≤ maxLen) (hr : reachB (str wl) = true) (hd : IsDep nxL wl d) (hd2 : d ≤ 60000) (hv : reachB (str vt) = true) :
    Calls Try.prog 28 #[.string (str wl), .string (str vt)] w fun e w' => ∃ b : Int, e = .returned (.tuple #[.int .i64 b, .bool true]) ∧ ((∃ k, k < d ∧ vt ∈ lay nxL wl k ∧ b = wr (pc nxL wl k vt)) ∨ ((∀ k, k < d → vt ∉ lay nxL wl k) ∧ b = 0)) ∧ Below w.heap.size w w' := by
  have HG := Lib.hid (reach_good hr)
  have HD := Lib.hid hd
  have hW := Lib.hid hr
  have hV := Lib.hid hv
  clear hr hd hv
  go_enter Try.func28, Try.ntmps28
  go_wp2_with fail
  refine (reFew_any _ _ hs).mono ?_
  rintro e w1 ⟨rfl, rfl⟩
  rw [hW.out]
  go_wp2_with fail
  refine (reFew_any _ _ ht).mono ?_
  rintro e w1 ⟨rfl, rfl⟩
  rw [hV.out]
  go_wp2_with fail
  refine (reLayers_any _ d wl _ HG.out HD.out hd2).mono ?_
  rintro e w1 ⟨v1, rfl, ⟨g, c, vs, rfl, hgl, hn, hvl, hat, hcell⟩, hb1⟩
  have HAT := Lib.hid hat
  have HCE := Lib.hid hcell
  have HB1 := Lib.hid hb1
  clear hat hcell hb1
  go_wp2
  go_loopw [7, 25] (fun v t wr => ∃ (k : Nat) (A7 : Option Addr) (c7 : Nat), k ≤ d ∧ t = .int .i64 k ∧ v = .slice A7 (lay nxL wl (k - 1)).length c7 ∧ ItAt wr A7 (cts wl (k - 1)) ∧ Hid (∀ j, j < k → vt ∉ lay nxL wl j) ∧ Below w1.heap.size w1 wr) (fun _ t _ => d - (intOf t).toNat)
  case atStart =>
    refine ⟨0, _, _, Nat.zero_le _, rfl, rfl, ?_, Lib.hid fun j hj => by omega, (Below.refl _ _).alloc (Nat.le_refl _) _⟩
    rw [show 0 - 1 = 0 from rfl, cts_zero]
    intro q hq
    obtain rfl : q = 0 := by simpa using hq
    exact ⟨_, rfl, by simp, by rw [World.cell?_alloc_new]; rfl⟩
  case round =>
    obtain ⟨k, A7, c7, hk, rfl, rfl, hit, HN, hB⟩ := hrel
    obtain ⟨w0, hw0⟩ : ∃ w0 : World, w0 = wr := ⟨_, rfl⟩
    subst hw0
    by_cases hlt : k < d
    · have hck := (hB.cell (p := ⟨g, k, none⟩) hgl).trans (HCE.out k (by omega))
      have hst := (HAT.out k (by omega)).below hB
      obtain ⟨g2, c2, e2, hc2, hc2m, hg2, hs2⟩ := ok_form hst (HD.out.2.2 k hlt)
      rw [e2] at hck
      have hlenL : (lay nxL wl k).length ≤ 59049 := few_good (rising_nodup (lay_rising k)) fun v hv => (lay_good (steps_line _) HG.out k v hv).1
      have HS2 := Lib.hid hs2
      clear hst hs2 e2
      by_cases hk0 : k = 0
      · subst hk0
        obtain ⟨L, hL⟩ : ∃ L, lay nxL wl 0 = L := ⟨_, rfl⟩
        have HL := Lib.hid hL
        rw [show (0 : Nat) - 1 = 0 from rfl] at hit ⊢
        have HIT := Lib.hid hit
        have HBX := Lib.hid (HB1.out.trans (hB.mono HB1.out.size))
        have HBY := Lib.hid hB
        rw [hL] at hck HS2 hlenL hc2 ⊢
        have HSX := HS2
        clear hL hit hB
        go_wp2
        go_loop [42] (fun t => ∃ i : Nat, i ≤ L.length ∧ t = .int .i64 i ∧ Hid (∀ v, v ∈ L.take i → v ≠ vt)) (fun t => L.length - (intOf t).toNat)
        case atStart => exact ⟨0, Nat.zero_le _, rfl, Lib.hid fun v hv => by simp at hv⟩
        case round =>
          obtain ⟨i, hi, rfl, HT⟩ := hrel
          by_cases hlti : i < L.length
          · have hcs := HSX.out i hlti
            have hci : i < (cts wl 0).length := by rw [cts_len, HL.out]; exact hlti
            obtain ⟨g7, rfl, z7, c8⟩ := HIT.out i hci
            have HV8 : Hid ((cts wl 0)[i] = wr (pc nxL wl 0 L[i])) := Lib.hid (by simp [cts, HL.out])
            have HS := Lib.hid (same_str L[i] vt)
            have HTK := Lib.hid (List.take_succ_eq_append_getElem hlti)
            have HIN := Lib.hid (List.getElem_mem hlti)
            generalize (cts wl 0)[i] = bv at c8 HV8
            generalize L[i] = x at hcs HV8 HS HTK HIN
            by_cases he : x = vt
            · have hb : ((str x).toList == (str vt).toList) = true := by rw [HS.out]; simp [he]
              go_wp2
              go_ret2
              exact ⟨bv, rfl, .inl ⟨0, hlt, by rw [HL.out, ← he]; exact HIN.out, by rw [HV8.out, he]⟩, HBX.out⟩
            · have hb : ((str x).toList == (str vt).toList) = false := by rw [HS.out]; simp [he]
              go_wp2
              go_round
              case rel => exact ⟨i + 1, by omega, by go_num, Lib.hid fun v hv => by
                rw [HTK.out, List.mem_append] at hv
                rcases hv with hv | hv
                · exact HT.out v hv
                · obtain rfl : v = x := by simpa using hv
                  exact he⟩
              case measure => simp [intOf]; omega
          · obtain rfl : i = L.length := by omega
            go_wp2
            go_roundw
            case rel =>
              refine ⟨0 + 1, _, _, by omega, by go_num, by rw [show 0 + 1 - 1 = 0 by omega, HL.out], by rw [show 0 + 1 - 1 = 0 by omega]; exact HIT.out, Lib.hid fun j hj hv => ?_, HBY.out⟩
              by_cases e : j = 0
              · subst e
                rw [HL.out] at hv
                exact HT.out vt (by rw [List.take_length]; exact hv) rfl
              · exact HN.out j (by omega) hv
            case measure => simp [intOf]; omega
      · obtain ⟨m, rfl⟩ : ∃ m, k = m + 1 := ⟨k - 1, by omega⟩
        rw [show m + 1 - 1 = m by omega] at hit ⊢
        have hck2 := (hB.cell (p := ⟨g, m, none⟩) hgl).trans (HCE.out m (by omega))
        have hst2 := (HAT.out m (by omega)).below hB
        obtain ⟨g3, c3, e3, hc3, hc3m, hg3, hs3⟩ := ok_form hst2 (HD.out.2.2 m (by omega))
        rw [e3] at hck2
        have hlenM : (lay nxL wl m).length ≤ 59049 := few_good (rising_nodup (lay_rising m)) fun v hv => (lay_good (steps_line _) HG.out m v hv).1
        have HRC := Lib.hid (fun (A0 A1 A2 : Option Addr) (k0 k1 k2 : Nat) (wx : World) h0 h1 h2 => reCounts_any (pc nxL wl m) wl.length (lay nxL wl m) (lay nxL wl (m + 1)) A0 A1 A2 k0 k1 k2 wx (fun u hu => (lay_good (steps_line _) HG.out m u hu).1) hlenM hlenL h0 h1 h2)
        have HS3 : Hid (StAt w0 (some ⟨g3, 0, none⟩) (lay nxL wl m)) := Lib.hid fun q hq => ⟨g3, rfl, hg3, hs3 q hq⟩
        have HS4 : Hid (StAt w0 (some ⟨g2, 0, none⟩) (lay nxL wl (m + 1))) := Lib.hid fun q hq => ⟨g2, rfl, hg2, HS2.out q hq⟩
        have HIT0 := Lib.hid hit
        obtain ⟨L, hL⟩ : ∃ L, lay nxL wl (m + 1) = L := ⟨_, rfl⟩
        have HL := Lib.hid hL
        rw [hL] at hck HS2 hlenL hc2 HS4 HRC
        obtain ⟨P, hP⟩ : ∃ P, lay nxL wl m = P := ⟨_, rfl⟩
        have HP := Lib.hid hP
        rw [hP] at hck2 hc3 hlenM HS3 HRC ⊢
        clear hL hP hit hst2 hs3 e3
        have hm1 : IntKind.i64.wrap (((m + 1 : Nat) : Int) - 1) = (m : Int) := by rw [IntKind.wrap_i64]; omega
        go_wp2_with fail
        refine (HRC.out (some ⟨g3, 0, none⟩) A7 (some ⟨g2, 0, none⟩) c3 c7 c2 _ HS3.out (by have := HIT0.out; unfold cts at this; rw [HP.out] at this; exact this) HS4.out).mono ?_
        rintro e w3 ⟨v3, rfl, hrow, hb3⟩
        have hcl : L.length = (cts wl (m + 1)).length := by rw [cts_len, HL.out]
        have hceq : (L.map fun v => wr (part nxL (pc nxL wl m) P v)) = cts wl (m + 1) := by unfold cts; rw [HL.out, ← HP.out]; rfl
        rw [hceq] at hrow
        obtain ⟨A8, c8', e8, hit8⟩ := it_own (by rw [← hcl]; exact hrow)
        rw [← hcl] at e8
        subst e8
        have HIT := Lib.hid hit8
        have HBX := Lib.hid (HB1.out.trans ((hB.trans (hb3.mono hB.size)).mono HB1.out.size))
        have HBY := Lib.hid (hB.trans (hb3.mono hB.size))
        have HSX : Hid (∀ q (h : q < L.length), w3.cell? ⟨g2, q, none⟩ = some (.string (str L[q]))) := Lib.hid fun q h => (hb3.cell (p := ⟨g2, q, none⟩) hg2).trans (HS2.out q h)
        clear hrow hb3 hB hceq hit8 hcl
        go_wp2
        go_loop [42] (fun t => ∃ i : Nat, i ≤ L.length ∧ t = .int .i64 i ∧ Hid (∀ v, v ∈ L.take i → v ≠ vt)) (fun t => L.length - (intOf t).toNat)
        case atStart => exact ⟨0, Nat.zero_le _, rfl, Lib.hid fun v hv => by simp at hv⟩
        case round =>
          obtain ⟨i, hi, rfl, HT⟩ := hrel
          by_cases hlti : i < L.length
          · have hcs := HSX.out i hlti
            have hci : i < (cts wl (m + 1)).length := by rw [cts_len, HL.out]; exact hlti
            obtain ⟨g7, rfl, z7, c8⟩ := HIT.out i hci
            have HV8 : Hid ((cts wl (m + 1))[i] = wr (pc nxL wl (m + 1) L[i])) := Lib.hid (by simp [cts, HL.out])
            have HS := Lib.hid (same_str L[i] vt)
            have HTK := Lib.hid (List.take_succ_eq_append_getElem hlti)
            have HIN := Lib.hid (List.getElem_mem hlti)
            generalize (cts wl (m + 1))[i] = bv at c8 HV8
            generalize L[i] = x at hcs HV8 HS HTK HIN
            by_cases he : x = vt
            · have hb : ((str x).toList == (str vt).toList) = true := by rw [HS.out]; simp [he]
              go_wp2
              go_ret2
              exact ⟨bv, rfl, .inl ⟨(m + 1), hlt, by rw [HL.out, ← he]; exact HIN.out, by rw [HV8.out, he]⟩, HBX.out⟩
            · have hb : ((str x).toList == (str vt).toList) = false := by rw [HS.out]; simp [he]
              go_wp2
              go_round
              case rel => exact ⟨i + 1, by omega, by go_num, Lib.hid fun v hv => by
                rw [HTK.out, List.mem_append] at hv
                rcases hv with hv | hv
                · exact HT.out v hv
                · obtain rfl : v = x := by simpa using hv
                  exact he⟩
              case measure => simp [intOf]; omega
          · obtain rfl : i = L.length := by omega
            go_wp2
            go_roundw
            case rel =>
              refine ⟨(m + 1) + 1, _, _, by omega, by go_num, by rw [show (m + 1) + 1 - 1 = (m + 1) by omega, HL.out], by rw [show (m + 1) + 1 - 1 = (m + 1) by omega]; exact HIT.out, Lib.hid fun j hj hv => ?_, HBY.out⟩
              by_cases e : j = (m + 1)
              · subst e
                rw [HL.out] at hv
                exact HT.out vt (by rw [List.take_length]; exact hv) rfl
              · exact HN.out j (by omega) hv
            case measure => simp [intOf]; omega
    · obtain rfl : k = d := by omega
      go_wp2
      go_ret2
      exact ⟨0, rfl, .inr ⟨HN.out, rfl⟩, HB1.out.trans (hB.mono HB1.out.size)⟩

set_option maxHeartbeats 1000000 in
theorem walk_FnExactCountPlays (s : ByteArray) (hs : s.size ≤ maxLen) (t : ByteArray) (ht : t.size ≤ maxLen) (w : World) :
    Calls Try.prog 7 #[.string s, .string t] w fun e w' => e = .returned (.bool true) ∧ Below w.heap.size w w' := by
  obtain ⟨wl, hwl⟩ : ∃ wl, s = str wl := ⟨byt s, (str_byt s).symm⟩
  subst hwl
  obtain ⟨vt, hvt⟩ : ∃ vt, t = str vt := ⟨byt t, (str_byt t).symm⟩
  subst hvt
  by_cases hbig : (1048576 : Int) < ((str wl).size : Int)
  · go_enter Try.func7, Try.ntmps7
    go_wp2
    go_ret
    exact ⟨rfl, Below.refl _ _⟩
  · by_cases hbig2 : (1048576 : Int) < ((str vt).size : Int)
    · go_enter Try.func7, Try.ntmps7
      go_wp2
      go_ret
      exact ⟨rfl, Below.refl _ _⟩
    · cases hr : (reachB (str wl) && reachB (str vt))
      · have hR := Lib.hid hr
        clear hr
        go_enter Try.func7, Try.ntmps7
        go_wp2_with fail
        refine (sCountPlays_no _ _ _ hs ht hR.out).mono ?_
        rintro e w1 ⟨rfl, hb1⟩
        go_wp2_with fail
        refine (countPlays_no _ _ _ hs ht hR.out).mono ?_
        rintro e w2 ⟨rfl, hb2⟩
        go_wp2
        go_ret
        exact ⟨rfl, hb1.trans (hb2.mono hb1.size)⟩
      · rw [Bool.and_eq_true] at hr
        have hR := Lib.hid hr.1
        have hV := Lib.hid hr.2
        obtain ⟨d, hd, hd2⟩ := dep_of hr.1
        have HD := Lib.hid hd
        clear hr hd
        go_enter Try.func7, Try.ntmps7
        go_wp2_with fail
        refine (sCountPlays_yes d _ _ _ hs ht hR.out HD.out hd2 hV.out).mono ?_
        rintro e w1 ⟨b, rfl, hb, hb1⟩
        have HBB := Lib.hid hb
        clear hb
        go_wp2_with fail
        refine (countPlays_yes d _ _ _ hR.out HD.out hd2 hV.out).mono ?_
        rintro e w2 ⟨a, b2, rfl, hA, hb2⟩
        have he : b2 = b := by
          rcases HBB.out with ⟨k, hk, hv, e⟩ | ⟨hno, e⟩
          · rw [(hA.1 k hk hv).2, e]
          · rw [(hA.2 hno).2, e]
        subst he
        clear hA
        go_wp2
        go_ret
        exact ⟨rfl, hb1.trans (hb2.mono hb1.size)⟩
end Go.Proofs.Ytdjfkhhlnkkilaa
