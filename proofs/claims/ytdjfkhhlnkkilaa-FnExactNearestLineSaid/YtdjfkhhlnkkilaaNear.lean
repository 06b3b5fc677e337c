/- The nearest line: both sides, and the law's walk. -/
import Derived.Test.YtdjfkhhlnkkilaaReF
import Derived.Deep.RegionWith
namespace Go.Proofs.Ytdjfkhhlnkkilaa
open Go.RowKit Go.Maps

/-- The one with the least way to go, the first of several. -/
def IsNear (L : List (List UInt8)) (m : List UInt8) : Prop := m ∈ L ∧ ∀ x, x ∈ L → wayL m < wayL x ∨ (wayL m = wayL x ∧ (m = x ∨ m < x))
theorem near_one {L : List (List UInt8)} {a b : List UInt8} (h1 : IsNear L a) (h2 : IsNear L b) : a = b := by
  rcases h1.2 b h2.1 with h | ⟨_, h | h⟩
  · rcases h2.2 a h1.1 with h' | ⟨h', _⟩ <;> omega
  · exact h
  · rcases h2.2 a h1.1 with h' | ⟨_, h' | h'⟩
    · omega
    · exact h'.symm
    · exact absurd (List.lt_trans h h') (List.lt_irrefl a)
theorem way_in {n : Nat} {x : List UInt8} (hg : goodT n x) : 0 ≤ wayL x ∧ wayL x ≤ 50000 := ⟨(steps_line n).pos x hg, wayL_le hg⟩

set_option maxHeartbeats 1000000 in
theorem compareWays_any (n : Nat) (x y : List UInt8) (w : World) (hx : goodT n x) (hy : goodT n y) :
    Calls Try.prog 78 #[.string (str x), .string (str y)] w fun e w' => e = .returned (.int .i64 (wayL x - wayL y)) ∧ w = w' := by
  have hsx : (str x).size ≤ maxLen := by have := hx.2; rw [str_size]; unfold maxLen; omega
  have hsy : (str y).size ≤ maxLen := by have := hy.2; rw [str_size]; unfold maxLen; omega
  obtain ⟨x1, x2⟩ := way_in hx
  obtain ⟨y1, y2⟩ := way_in hy
  have hX := fun wx => way_any (str x) wx hsx
  have hY := fun wx => way_any (str y) wx hsy
  rw [hx.1, byt_str, show intOr true (wayL x) = .tuple #[.int .i64 (wayL x), .bool true] from rfl] at hX
  rw [hy.1, byt_str, show intOr true (wayL y) = .tuple #[.int .i64 (wayL y), .bool true] from rfl] at hY
  have HX := Lib.hid hX
  have HY := Lib.hid hY
  clear hX hY hx hy
  generalize wayL x = a at *
  generalize wayL y = b at *
  go_enter Try.func78, Try.ntmps78
  go_wp2_with fail
  refine (HX.out _).mono ?_
  rintro e w1 ⟨rfl, rfl⟩
  go_wp2_with fail
  refine (HY.out _).mono ?_
  rintro e w1 ⟨rfl, rfl⟩
  go_wp2
  go_ret
  exact ⟨rfl, rfl⟩

set_option maxRecDepth 100000 in
set_option maxHeartbeats 2000000 in
theorem minFunc_any (n : Nat) (L : List (List UInt8)) (A : Option Addr) (c : Nat) (w : World) (hr : Rising L) (hg : ∀ v, v ∈ L → goodT n v) (hne : L ≠ []) (hl : L.length ≤ 60000) (hat : StAt w A L) :
    Calls Try.prog 77 #[.slice A L.length c, .func (.func 78) #[] #[]] w fun e w' => ∃ m, e = .returned (.string (str m)) ∧ IsNear L m ∧ w = w' := by
  have hpos : 0 < L.length := List.length_pos_iff.2 hne
  obtain ⟨g, rfl, hgl, c0⟩ := hat 0 hpos
  have HAT := Lib.hid hat
  have HR := Lib.hid hr
  have HG := Lib.hid hg
  have H1 : Hid (L.take 1 = [L[0]]) := Lib.hid (by match L, hpos with | a :: l, _ => simp)
  obtain ⟨x0, hx0⟩ : ∃ x, L[0] = x := ⟨_, rfl⟩
  rw [hx0] at c0 H1
  clear hat hr hg hne hx0
  go_enter Try.func77, Try.ntmps77
  go_wp2
  go_loop [5, 6] (fun m t => ∃ (k : Nat) (y : List UInt8), 1 ≤ k ∧ k ≤ L.length ∧ t = .int .i64 k ∧ m = .string (str y) ∧ Hid (IsNear (L.take k) y)) (fun _ t => L.length - (intOf t).toNat)
  case atStart => exact ⟨1, x0, Nat.le_refl _, hpos, rfl, rfl, Lib.hid ⟨by rw [H1.out]; simp, fun x hx => by rw [H1.out] at hx; simp at hx; subst hx; exact .inr ⟨rfl, .inl rfl⟩⟩⟩
  case round =>
    obtain ⟨k, y, h1, hk, rfl, rfl, HN⟩ := hrel
    by_cases hlt : k < L.length
    · obtain ⟨g', e, _, ck⟩ := HAT.out k hlt
      obtain rfl : g = g' := by injection e with e; injection e
      have HT : Hid (L.take (k + 1) = L.take k ++ [L[k]]) := Lib.hid (List.take_succ_eq_append_getElem hlt)
      have HLT : Hid (∀ x, x ∈ L.take k → x < L[k]) := Lib.hid fun x hx => by
        obtain ⟨j, hj, rfl⟩ := List.getElem_of_mem hx
        rw [List.getElem_take]
        rw [List.length_take] at hj
        exact rising_lt HR.out hlt (by omega)
      have hgz := HG.out _ (List.getElem_mem hlt)
      have hgy := HG.out y (List.mem_of_mem_take HN.out.1)
      have HC := Lib.hid (fun wx => compareWays_any n L[k] y wx hgz hgy)
      obtain ⟨z1, z2⟩ := way_in hgz
      obtain ⟨y1, y2⟩ := way_in hgy
      have HWZ : Hid (∃ a, a = wayL L[k]) := Lib.hid ⟨_, rfl⟩
      clear hgz hgy
      generalize L[k] = z at ck HT HLT HC z1 z2 HWZ
      obtain ⟨a, ha⟩ := HWZ.out
      obtain ⟨b, hb⟩ : ∃ b, b = wayL y := ⟨_, rfl⟩
      rw [← ha] at HC z1 z2
      rw [← hb] at HC y1 y2
      have HA := Lib.hid ha
      have HB := Lib.hid hb
      clear ha hb
      go_wp2_with fail
      refine (HC.out _).mono ?_
      rintro e w1 ⟨rfl, rfl⟩
      by_cases hab : a - b < 0
      · go_wp2
        go_round
        case rel => exact ⟨k + 1, z, by omega, by omega, by go_num, rfl, Lib.hid ⟨by rw [HT.out]; simp, fun x hx => by
          rw [HT.out, List.mem_append] at hx
          have h1 := HA.out
          have h2 := HB.out
          rcases hx with hx | hx
          · rcases HN.out.2 x hx with h | ⟨h, _⟩ <;> exact .inl (by omega)
          · obtain rfl : x = z := by simpa using hx
            exact .inr ⟨rfl, .inl rfl⟩⟩⟩
        case measure => simp [intOf]; omega
      · go_wp2
        go_round
        case rel => exact ⟨k + 1, y, by omega, by omega, by go_num, rfl, Lib.hid ⟨by rw [HT.out]; exact List.mem_append.2 (.inl HN.out.1), fun x hx => by
          rw [HT.out, List.mem_append] at hx
          have h1 := HA.out
          have h2 := HB.out
          rcases hx with hx | hx
          · exact HN.out.2 x hx
          · obtain rfl : x = z := by simpa using hx
            rcases Int.lt_or_eq_of_le (show wayL y ≤ wayL x by omega) with h | h
            · exact .inl h
            · exact .inr ⟨h, .inr (HLT.out y HN.out.1)⟩⟩⟩
        case measure => simp [intOf]; omega
    · obtain rfl : k = L.length := by omega
      go_wp2
      go_ret
      exact ⟨y, rfl, by have := HN.out; rwa [List.take_length] at this, rfl⟩

set_option maxHeartbeats 1000000 in
theorem near_no (wl : List UInt8) (w : World) (hs : (str wl).size ≤ maxLen) (hr : reachB (str wl) = false) :
    Calls Try.prog 46 #[.string (str wl)] w fun e w' => e = .returned (.tuple #[.string (str []), .bool false]) ∧ Below w.heap.size w w' := by
  have hR := Lib.hid hr
  clear hr
  go_enter Try.func46, Try.ntmps46
  go_wp2_with (go_at_call 53; refine (arrivals_no wl _ hs hR.out).mono ?_; rintro e w' ⟨rfl, rfl⟩)
  go_ret2
  exact ⟨rfl, Below.refl _ _⟩
theorem all_ne {wl : List UInt8} {d : Nat} (hd : IsDep nxL wl d) : wl ∈ allL nxL wl d := (mem_allL d wl).2 ⟨0, hd.1, by simp [lay]⟩
theorem all_good {n : Nat} {wl : List UInt8} (hg : goodT n wl) (d : Nat) : ∀ v, v ∈ allL nxL wl d → goodT n v := fun v hv => by
  obtain ⟨k, _, hk⟩ := (mem_allL d v).1 hv
  exact (lay_good (steps_line n) hg k v hk).1
set_option maxHeartbeats 1000000 in
theorem near_yes (d : Nat) (wl : List UInt8) (w : World) (hr : reachB (str wl) = true) (hd : IsDep nxL wl d) (hd2 : d ≤ 60000) :
    Calls Try.prog 46 #[.string (str wl)] w fun e w' => ∃ m, e = .returned (.tuple #[.string (str m), .bool true]) ∧ IsNear (allL nxL wl d) m ∧ Below w.heap.size w w' := by
  have hR := Lib.hid hr
  have HD := Lib.hid hd
  have hlen := all_few (reach_good hr) d
  have HGL := Lib.hid (all_good (reach_good hr) d)
  clear hr hd
  go_enter Try.func46, Try.ntmps46
  go_wp2_with fail
  refine (arrivals_yes d wl _ hR.out HD.out hd2).mono ?_
  rintro e w1 ⟨ba, rfl, hba, ⟨D, hown, hA⟩, hb1⟩
  have HO := Lib.hid (inOrder_any ba D (allL nxL wl d) w1 hown (allL_rising d) (all_has hA))
  have HB1 := Lib.hid hb1
  clear hown hA hb1
  go_wp2_with fail
  refine HO.out.mono ?_
  rintro e w2 ⟨v2, rfl, ho2, hb2⟩
  obtain ⟨A2, c2, rfl, _, _, hat2, _⟩ := st_own ho2
  have HAT := Lib.hid hat2
  have HB2 := Lib.hid (HB1.out.trans (hb2.mono HB1.out.size))
  clear ho2 hb2 hat2
  go_wp2_with fail
  refine (minFunc_any _ (allL nxL wl d) A2 c2 _ (allL_rising d) HGL.out (List.ne_nil_of_mem (all_ne HD.out)) (by omega) HAT.out).mono ?_
  rintro e w3 ⟨m, rfl, hm, rfl⟩
  have HM := Lib.hid hm
  clear hm
  go_wp2
  go_ret2
  exact ⟨m, rfl, HM.out, HB2.out⟩
set_option maxHeartbeats 1000000 in
theorem sNear_no (s : ByteArray) (w : World) (hs : s.size ≤ maxLen) (hr : reachB s = false) :
    Calls Try.prog 45 #[.string s] w fun e w' => e = .returned (.tuple #[.string (str []), .bool false]) ∧ Below w.heap.size w w' := by
  have hR := Lib.hid hr
  clear hr
  go_enter Try.func45, Try.ntmps45
  go_wp2_with (go_at_call 51; refine (reFew_any _ _ hs).mono ?_; rintro e w' ⟨rfl, rfl⟩; rw [hR.out])
  go_ret2
  exact ⟨rfl, Below.refl _ _⟩

set_option maxRecDepth 100000 in
set_option maxHeartbeats 2000000 in
theorem sNear_yes (d : Nat) (wl : List UInt8) (w : World) (hs : (str wl).size ≤ maxLen) (hr : reachB (str wl) = true) (hd : IsDep nxL wl d) (hd2 : d ≤ 60000) :
    Calls Try.prog 45 #[.string (str wl)] w fun e w' => ∃ m, e = .returned (.tuple #[.string (str m), .bool true]) ∧ IsNear (allL nxL wl d) m ∧ Below w.heap.size w w' := by
  have HG := Lib.hid (reach_good hr)
  have HD := Lib.hid hd
  have hR := Lib.hid hr
  have hlen := all_few (reach_good hr) d
  have HGL := Lib.hid (all_good (reach_good hr) d)
  have HNE := Lib.hid (all_ne hd)
  have HRA := Lib.hid (fun wx => reAll_any _ d wl wx HG.out HD.out hd2)
  clear hr hd
  generalize allL nxL wl d = L at hlen HGL HNE HRA
  go_enter Try.func45, Try.ntmps45
  go_wp2_with (go_at_call 51; refine (reFew_any _ _ hs).mono ?_; rintro e w' ⟨rfl, rfl⟩; rw [hR.out])
  refine (HRA.out _).mono ?_
  rintro e w1 ⟨v1, rfl, hok, hb1⟩
  obtain ⟨A, c, rfl, hat⟩ := hok.at
  have HAT := Lib.hid hat
  have HB1 := Lib.hid hb1
  clear hat hb1 hok
  go_wp2
  go_loop [4, 14] (fun m t => ∃ (i : Nat) (y : List UInt8), i ≤ L.length ∧ t = .int .i64 i ∧ m = .string (str y) ∧ Hid (y ∈ L ∧ ∀ x, x ∈ L.take i → wayL y < wayL x ∨ (wayL y = wayL x ∧ (y = x ∨ y < x)))) (fun _ t => L.length - (intOf t).toNat)
  case atStart => exact ⟨0, wl, Nat.zero_le _, rfl, rfl, Lib.hid ⟨HNE.out, fun x hx => by simp at hx⟩⟩
  case round =>
    obtain ⟨i, y, hi, rfl, rfl, HN⟩ := hrel
    by_cases hlt : i < L.length
    · obtain ⟨g, rfl, z, c0⟩ := HAT.out i hlt
      have HT : Hid (L.take (i + 1) = L.take i ++ [L[i]]) := Lib.hid (List.take_succ_eq_append_getElem hlt)
      have hgz := HGL.out _ (List.getElem_mem hlt)
      have hgy := HGL.out y HN.out.1
      have HIN := Lib.hid (List.getElem_mem hlt)
      have hX := fun wx => liWay_any (str L[i]) wx (by have := hgz.2; rw [str_size]; omega)
      have hY := fun wx => liWay_any (str y) wx (by have := hgy.2; rw [str_size]; omega)
      rw [byt_str] at hX hY
      have HX := Lib.hid hX
      have HY := Lib.hid hY
      have HLS := Lib.hid (less_str L[i] y)
      clear hgz hgy hX hY
      generalize L[i] = x at c0 HT HIN HX HLS
      obtain ⟨a, ha⟩ : ∃ a, a = wayL x := ⟨_, rfl⟩
      obtain ⟨b, hb⟩ : ∃ b, b = wayL y := ⟨_, rfl⟩
      rw [← ha] at HX
      rw [← hb] at HY
      have HA := Lib.hid ha
      have HB := Lib.hid hb
      clear ha hb
      have better : Hid ((a < b ∨ (a = b ∧ x < y)) → x ∈ L ∧ ∀ v, v ∈ L.take (i + 1) → wayL x < wayL v ∨ (wayL x = wayL v ∧ (x = v ∨ x < v))) := Lib.hid fun h => ⟨HIN.out, fun v hv => by
        rw [HT.out, List.mem_append] at hv
        have h1 := HA.out
        have h2 := HB.out
        rcases hv with hv | hv
        · rcases HN.out.2 v hv with h3 | ⟨h3, h4⟩
          · exact .inl (by rcases h with h | ⟨h, _⟩ <;> omega)
          · rcases h with h | ⟨h, h5⟩
            · exact .inl (by omega)
            · refine .inr ⟨by omega, .inr ?_⟩
              rcases h4 with h4 | h4
              · rw [← h4]; exact h5
              · exact List.lt_trans h5 h4
        · obtain rfl : v = x := by simpa using hv
          exact .inr ⟨rfl, .inl rfl⟩⟩
      have worse : Hid (¬ (a < b ∨ (a = b ∧ x < y)) → y ∈ L ∧ ∀ v, v ∈ L.take (i + 1) → wayL y < wayL v ∨ (wayL y = wayL v ∧ (y = v ∨ y < v))) := Lib.hid fun h => ⟨HN.out.1, fun v hv => by
        rw [HT.out, List.mem_append] at hv
        have h1 := HA.out
        have h2 := HB.out
        rcases hv with hv | hv
        · exact HN.out.2 v hv
        · obtain rfl : v = x := by simpa using hv
          by_cases e : a = b
          · refine .inr ⟨by omega, ?_⟩
            by_cases e2 : y = v
            · exact .inl e2
            · exact .inr (lt_tri v y (fun h5 => h (.inr ⟨e, h5⟩)) (fun e3 => e2 e3.symm))
          · exact .inl (by
              have : ¬ a < b := fun h5 => h (.inl h5)
              omega)⟩
      by_cases h1 : a < b
      · have HN2 := Lib.hid (better.out (.inl h1))
        clear better worse
        go_wp2_with (first
          | (go_at_call_of 76 (Value.string (str x)); refine (HX.out _).mono ?_; rintro e w2 ⟨rfl, rfl⟩)
          | (go_at_call_of 76 (Value.string (str y)); refine (HY.out _).mono ?_; rintro e w2 ⟨rfl, rfl⟩))
        go_round
        case rel => exact ⟨i + 1, x, by omega, by go_num, rfl, HN2⟩
        case measure => simp [intOf]; omega
      · by_cases h2 : a = b
        · by_cases h3 : x < y
          · have hbl : Op.bytesLess (str x).toList (str y).toList = true := by rw [HLS.out]; simp [h3]
            have HN2 := Lib.hid (better.out (.inr ⟨h2, h3⟩))
            have heq : (a == b) = true := by simp [h2]
            clear better worse
            subst h2
            go_wp2_with (first
              | (go_at_call_of 76 (Value.string (str x)); refine (HX.out _).mono ?_; rintro e w2 ⟨rfl, rfl⟩)
              | (go_at_call_of 76 (Value.string (str y)); refine (HY.out _).mono ?_; rintro e w2 ⟨rfl, rfl⟩))
            go_round
            case rel => exact ⟨i + 1, x, by omega, by go_num, rfl, HN2⟩
            case measure => simp [intOf]; omega
          · have hbl : Op.bytesLess (str x).toList (str y).toList = false := by rw [HLS.out]; simp [h3]
            have HN2 := Lib.hid (worse.out (by rintro (h | ⟨_, h⟩); exact h1 h; exact h3 h))
            clear better worse
            subst h2
            go_wp2_with (first
              | (go_at_call_of 76 (Value.string (str x)); refine (HX.out _).mono ?_; rintro e w2 ⟨rfl, rfl⟩)
              | (go_at_call_of 76 (Value.string (str y)); refine (HY.out _).mono ?_; rintro e w2 ⟨rfl, rfl⟩))
            go_round
            case rel => exact ⟨i + 1, y, by omega, by go_num, rfl, HN2⟩
            case measure => simp [intOf]; omega
        · have HN2 := Lib.hid (worse.out (by rintro (h | ⟨h, _⟩); exact h1 h; exact h2 h))
          have heq : (a == b) = false := by simp [h2]
          clear better worse
          go_wp2_with (first
            | (go_at_call_of 76 (Value.string (str x)); refine (HX.out _).mono ?_; rintro e w2 ⟨rfl, rfl⟩)
            | (go_at_call_of 76 (Value.string (str y)); refine (HY.out _).mono ?_; rintro e w2 ⟨rfl, rfl⟩))
          go_round
          case rel => exact ⟨i + 1, y, by omega, by go_num, rfl, HN2⟩
          case measure => simp [intOf]; omega
    · obtain rfl : i = L.length := by omega
      go_wp2
      go_ret2
      exact ⟨y, rfl, by have := HN.out; rwa [List.take_length] at this, HB1.out⟩

set_option maxHeartbeats 1000000 in
theorem walk_FnExactNearestLine (s : ByteArray) (hs : s.size ≤ maxLen) (w : World) :
    Calls Try.prog 14 #[.string s] w fun e w' => e = .returned (.bool true) ∧ Below w.heap.size w w' := by
  obtain ⟨wl, hwl⟩ : ∃ wl, s = str wl := ⟨byt s, (str_byt s).symm⟩
  subst hwl
  by_cases hbig : (1048576 : Int) < ((str wl).size : Int)
  · go_enter Try.func14, Try.ntmps14
    go_wp2
    go_ret
    exact ⟨rfl, Below.refl _ _⟩
  · cases hr : reachB (str wl)
    · have hR := Lib.hid hr
      have he : ((str []).toList == (str []).toList) = true := by simp
      clear hr
      go_enter Try.func14, Try.ntmps14
      go_wp2_with fail
      refine (sNear_no _ _ hs hR.out).mono ?_
      rintro e w1 ⟨rfl, hb1⟩
      go_wp2_with fail
      refine (near_no _ _ hs hR.out).mono ?_
      rintro e w2 ⟨rfl, hb2⟩
      go_wp2
      go_ret
      exact ⟨rfl, hb1.trans (hb2.mono hb1.size)⟩
    · have hR := Lib.hid hr
      obtain ⟨d, hd, hd2⟩ := dep_of hr
      have HD := Lib.hid hd
      clear hr hd
      go_enter Try.func14, Try.ntmps14
      go_wp2_with fail
      refine (sNear_yes d _ _ hs hR.out HD.out hd2).mono ?_
      rintro e w1 ⟨m, rfl, hm, hb1⟩
      have HM := Lib.hid hm
      clear hm
      go_wp2_with fail
      refine (near_yes d _ _ hR.out HD.out hd2).mono ?_
      rintro e w2 ⟨m2, rfl, hm2, hb2⟩
      obtain rfl := near_one hm2 HM.out
      clear hm2
      go_wp2
      go_ret
      exact ⟨rfl, hb1.trans (hb2.mono hb1.size)⟩
end Go.Proofs.Ytdjfkhhlnkkilaa
