/- What is reached by a rule: counted, and the steps to one line; both sides. -/
import Derived.Test.YtcndlfoodbmgbaaRuK
import Derived.Test.YtcndlfoodbmgbaaRuL
namespace Go.Proofs.Ytcndlfoodbmgbaa
open Go.RowKit Go.Maps

theorem bfsAt_ne (nx : List UInt8 → List (List UInt8)) (wl : List UInt8) (k : Nat) : bfsAt nx wl k ≠ [] := by
  induction k with
  | zero => simp [bfsAt]
  | succ k ih =>
    obtain ⟨M, e⟩ := bfsAt_pre (nx := nx) (wl := wl) k
    rw [e]
    simp [ih]
theorem bfsL_ne (nx : List UInt8 → List (List UInt8)) (wl : List UInt8) : bfsL nx wl ≠ [] := bfsAt_ne nx wl 60000
/-- With how many steps a line is found. -/
def stF (L : Fnd) (v : List UInt8) : Option Nat := (L.find? fun p => p.1 == v).map (·.2)
theorem stF_some {L : Fnd} {v : List UInt8} {d : Nat} (hn : (keysF L).Nodup) (h : (v, d) ∈ L) : stF L v = some d := by
  induction L with
  | nil => simp at h
  | cons p L ih =>
    obtain ⟨h1, h2⟩ := List.nodup_cons.1 (show (p.1 :: keysF L).Nodup from hn)
    unfold stF
    rw [List.find?_cons]
    rcases List.mem_cons.1 h with h | h
    · rw [← h]; simp
    · have hne : (p.1 == v) = false := by
        rw [beq_eq_false_iff_ne]
        intro e
        exact h1 (by rw [e]; exact List.mem_map_of_mem (f := fun p => p.1) h)
      rw [hne]
      exact ih h2 h
theorem stF_none {L : Fnd} {v : List UInt8} (h : v ∉ keysF L) : stF L v = none := by
  unfold stF
  have : L.find? (fun p => p.1 == v) = none := by
    rw [List.find?_eq_none]
    intro p hp e
    exact h (by rw [← eq_of_beq e]; exact List.mem_map_of_mem (f := fun p => p.1) hp)
  rw [this]
  rfl
theorem stF_cases (L : Fnd) (hn : (keysF L).Nodup) (v : List UInt8) : (∃ d, (v, d) ∈ L ∧ v ∈ keysF L ∧ stF L v = some d) ∨ (v ∉ keysF L ∧ stF L v = none) := by
  by_cases h : v ∈ keysF L
  · obtain ⟨p, hp, rfl⟩ := List.mem_map.1 h
    exact .inl ⟨p.2, hp, h, stF_some hn hp⟩
  · exact .inr ⟨h, stF_none h⟩
theorem fndV_size {W : World} {b n : Nat} {D : DataW Unit} {L : Fnd} (h : W.ownsMap Try.prog 9 intR b n D) (hf : FndV D L) (hn : (keysF L).Nodup) : Maps.size D = L.length := by
  obtain ⟨h1, h2, h3⟩ := keys_nodup h Try.keysS Try.underlying9
  rw [← h3, ← keysF_len]
  refine List.Perm.length_eq ((List.perm_ext_iff_of_nodup h1 hn).2 fun v => (h2 v).trans ⟨hf.2 v, fun hv => ?_⟩)
  obtain ⟨p, hp, rfl⟩ := List.mem_map.1 hv
  exact (hf.1 p hp).1

set_option maxHeartbeats 1000000 in
theorem sCountRb_no (s : ByteArray) (o b l : Bool) (w : World) (hs : s.size ≤ maxLen) (hr : rchB s = false) :
    Calls Try.prog 33 #[.string s, ruV o b l] w fun e w' => e = .returned (.tuple #[.int .i64 0, .bool false]) ∧ Below w.heap.size w w' := by
  have hR := Lib.hid hr
  clear hr
  go_enter Try.func33, Try.ntmps33
  go_wp2_with (go_at_call 56; refine (sRch_any _ _ hs).mono ?_; rintro e w' ⟨rfl, rfl⟩; rw [hR.out])
  go_ret2
  exact ⟨rfl, (Below.refl _ _).alloc (Nat.le_refl _) _⟩
set_option maxHeartbeats 1000000 in
theorem sCountRb_yes (wl : List UInt8) (o b l : Bool) (w : World) (hr : rchB (str wl) = true) :
    Calls Try.prog 33 #[.string (str wl), ruV o b l] w fun e w' => e = .returned (.tuple #[.int .i64 ((bfsL (nxR o b l) wl).length : Int), .bool true]) ∧ Below w.heap.size w w' := by
  have hg := rch_T hr
  have hs : (str wl).size ≤ maxLen := by have := hg.2; rw [str_size]; unfold maxLen; omega
  have HG := Lib.hid hg
  have hR := Lib.hid hr
  have hne := bfsL_ne (nxR o b l) wl
  have hpos : 0 < (bfsL (nxR o b l) wl).length := List.length_pos_iff.2 hne
  have HP := Lib.hid hpos
  clear hr hg hne hpos
  go_enter Try.func33, Try.ntmps33
  go_wp2_with (go_at_call 56; refine (sRch_any _ _ hs).mono ?_; rintro e w' ⟨rfl, rfl⟩; rw [hR.out])
  refine (ruReach_any _ o b l wl _ HG.out).mono ?_
  rintro e w1 ⟨va, vb, rfl, hla, hlb, hb1⟩
  obtain ⟨ga, ca, rfl, _, _⟩ := hla.form HP.out
  have HB := Lib.hid (((Below.refl w.heap.size w).alloc (Nat.le_refl _) (ruO o b l)).trans (hb1.mono (by simp)))
  have hfld : ∀ w, (Instr.field rrT (.agg #[.slice (some ⟨ga, 0, none⟩) (bfsL (nxR o b l) wl).length ca, vb]) 0).run Try.prog w = .ok (.slice (some ⟨ga, 0, none⟩) (bfsL (nxR o b l) wl).length ca) w := fun _ => by kernel_rfl
  clear hla hlb hb1
  go_wp2
  go_ret2
  exact ⟨rfl, HB.out⟩
set_option maxHeartbeats 1000000 in
theorem countRb_no (s : ByteArray) (o b l : Bool) (w : World) (hs : s.size ≤ maxLen) (hr : rchB s = false) :
    Calls Try.prog 34 #[.string s, ruV o b l] w fun e w' => e = .returned (.tuple #[.int .i64 0, .bool false]) ∧ Below w.heap.size w w' := by
  have hR := Lib.hid hr
  clear hr
  go_enter Try.func34, Try.ntmps34
  go_wp2_with (go_at_call 58; refine (isRch_any _ _ hs).mono ?_; rintro e w' ⟨rfl, rfl⟩; rw [hR.out])
  go_ret2
  exact ⟨rfl, (Below.refl _ _).alloc (Nat.le_refl _) _⟩
set_option maxHeartbeats 1000000 in
theorem countRb_yes (wl : List UInt8) (o b l : Bool) (w : World) (hr : rchB (str wl) = true) :
    Calls Try.prog 34 #[.string (str wl), ruV o b l] w fun e w' => e = .returned (.tuple #[.int .i64 ((bfsL (nxR o b l) wl).length : Int), .bool true]) ∧ Below w.heap.size w w' := by
  have hg := rch_T hr
  have hs : (str wl).size ≤ maxLen := by have := hg.2; rw [str_size]; unfold maxLen; omega
  have HG := Lib.hid hg
  have hR := Lib.hid hr
  have HND := Lib.hid (found_L o b l hg).nodup
  clear hr hg
  go_enter Try.func34, Try.ntmps34
  go_wp2_with fail
  refine (isRch_any _ _ hs).mono ?_
  rintro e w' ⟨rfl, rfl⟩
  rw [hR.out]
  go_wp2_with fail
  refine (partsOf_any o b l _).mono ?_
  rintro e w1 ⟨rfl, hb1⟩
  have HB1 := Lib.hid (((Below.refl w.heap.size w).alloc (Nat.le_refl _) (ruO o b l)).trans (hb1.mono (by simp)))
  clear hb1
  go_wp2_with fail
  refine (depthsFrom_any _ o b l wl _ HG.out).mono ?_
  rintro e w2 ⟨bm, D, rfl, hbm, hown, hf, hb2⟩
  have hlen := fun ty => hown.len Try.underlying84 ty
  rw [fndV_size hown hf HND.out] at hlen
  have HB2 := Lib.hid (HB1.out.trans (hb2.mono HB1.out.size))
  clear hown hf hb2
  go_wp2
  go_ret2
  exact ⟨rfl, HB2.out⟩
/-- The answer of a count. -/
def crV (s : ByteArray) (o b l : Bool) : Value := if rchB s then .tuple #[.int .i64 ((bfsL (nxR o b l) (byt s)).length : Int), .bool true] else .tuple #[.int .i64 0, .bool false]
theorem sCountRb_any (s : ByteArray) (o b l : Bool) (w : World) (hs : s.size ≤ maxLen) :
    Calls Try.prog 33 #[.string s, ruV o b l] w fun e w' => e = .returned (crV s o b l) ∧ Below w.heap.size w w' := by
  unfold crV
  cases hr : rchB s
  · exact sCountRb_no s o b l w hs hr
  · rw [← str_byt s] at hr
    have := sCountRb_yes (byt s) o b l w hr
    rwa [str_byt] at this
theorem countRb_any (s : ByteArray) (o b l : Bool) (w : World) (hs : s.size ≤ maxLen) :
    Calls Try.prog 34 #[.string s, ruV o b l] w fun e w' => e = .returned (crV s o b l) ∧ Below w.heap.size w w' := by
  unfold crV
  cases hr : rchB s
  · exact countRb_no s o b l w hs hr
  · rw [← str_byt s] at hr
    have := countRb_yes (byt s) o b l w hr
    rwa [str_byt] at this
theorem crV_open (s : ByteArray) (o b l : Bool) : ∃ x y, crV s o b l = .tuple #[.int .i64 x, .bool y] := by
  unfold crV
  split
  · exact ⟨_, _, rfl⟩
  · exact ⟨_, _, rfl⟩

/-- What is told of the steps. -/
def dbV : Option Nat → Value
  | some d => .tuple #[.int .i64 (d : Int), .bool true]
  | none => .tuple #[.int .i64 0, .bool false]
def stI : Option Nat → Int
  | some d => d
  | none => -1
set_option maxHeartbeats 2000000 in
theorem depthBetween_any (n : Nat) (o b l : Bool) (wl vl : List UInt8) (w : World) (hg : goodT n wl) (hv : vl.length ≤ 1000) :
    Calls Try.prog 68 #[.string (str wl), .string (str vl), ruV o b l] w fun e w' => e = .returned (dbV (stF (bfsL (nxR o b l) wl) vl)) ∧ Below w.heap.size w w' := by
  have HG := Lib.hid hg
  have HND := Lib.hid (found_L o b l hg).nodup
  have hkv := keyS (x := vl) (by unfold maxLen; omega)
  have HC := Lib.hid (stF_cases (bfsL (nxR o b l) wl) (found_L o b l hg).nodup vl)
  clear hg
  generalize hLe : bfsL (nxR o b l) wl = L at HC HND
  have HLE := Lib.hid hLe
  clear hLe
  go_enter Try.func68, Try.ntmps68
  go_wp2_with fail
  refine (partsOf_any o b l _).mono ?_
  rintro e w1 ⟨rfl, hb1⟩
  have HB1 := Lib.hid (((Below.refl w.heap.size w).alloc (Nat.le_refl _) (ruO o b l)).trans (hb1.mono (by simp)))
  clear hb1
  go_wp2_with fail
  refine (depthsFrom_any _ o b l wl _ HG.out).mono ?_
  rintro e w2 ⟨bm, D, rfl, hbm, hown, hf, hb2⟩
  rw [HLE.out] at hf
  have hhas := fndV_has hf vl
  have HB2 := Lib.hid (HB1.out.trans (hb2.mono HB1.out.size))
  clear hb2
  rcases HC.out with ⟨d, hd, hk, hs⟩ | ⟨hk, hs⟩
  · rw [decide_eq_true hk] at hhas
    have hat := (hf.1 _ hd).2 (.lit (.int .i64 0))
    have HS := Lib.hid hs
    clear hf hs hk
    go_wp2_with (first
      | (at_lookup; refine wpList_lookup_own_ok_int _ rfl _ _ 84 rfl 9 3 .i64 Try.keysS Try.underlying84 Try.underlying3 (zeroIn _) bm 59049 D rfl hown _ (.string vl) rfl hkv ?_; intro cc hcc _; rw [hhas]; obtain rfl : cc = (d : Int) := atKey_one hat hcc))
    go_ret2
    exact ⟨by rw [HS.out]; rfl, HB2.out⟩
  · rw [decide_eq_false hk] at hhas
    have hat : D.atKey (.string vl) (.lit (.int .i64 0)) = .lit (.int .i64 0) := atKey_of_not_has hhas _
    have HS := Lib.hid hs
    clear hf hs hk
    go_wp2_with (first
      | (at_lookup; refine wpList_lookup_own_ok_int _ rfl _ _ 84 rfl 9 3 .i64 Try.keysS Try.underlying84 Try.underlying3 (zeroIn _) bm 59049 D rfl hown _ (.string vl) rfl hkv ?_; intro cc hcc _; rw [hhas]; obtain rfl : cc = (0 : Int) := atKey_one hat hcc))
    go_ret2
    exact ⟨by rw [HS.out]; rfl, HB2.out⟩

set_option maxRecDepth 100000 in
set_option maxHeartbeats 4000000 in
theorem ruSteps_any (n : Nat) (o b l : Bool) (wl vl : List UInt8) (w : World) (hg : goodT n wl) :
    Calls Try.prog 67 #[.string (str wl), .string (str vl), ruV o b l] w fun e w' => e = .returned (.int .i64 (stI (stF (bfsL (nxR o b l) wl) vl))) ∧ Below w.heap.size w w' := by
  have HG := Lib.hid hg
  have HND := Lib.hid (found_L o b l hg).nodup
  have hlen : (bfsL (nxR o b l) wl).length ≤ 59049 := found_few (found_L o b l hg)
  have hne := bfsL_ne (nxR o b l) wl
  have HPOST := Lib.hid (fun wx => ruReach_any n o b l wl wx hg)
  unfold RrPost at HPOST
  clear hg
  generalize bfsL (nxR o b l) wl = L at HND hlen hne HPOST
  have HP : Hid (0 < L.length) := Lib.hid (List.length_pos_iff.2 hne)
  clear hne
  go_enter Try.func67, Try.ntmps67
  go_wp2_with fail
  refine (HPOST.out _).mono ?_
  rintro e w1 ⟨va, vb, rfl, hla, hlb, hb1⟩
  obtain ⟨ga, ca, rfl, ga1, ga2⟩ := hla.form HP.out
  obtain ⟨gb, cb, rfl, gb1, gb2⟩ := hlb.form HP.out
  have HLA := Lib.hid hla
  have HLB := Lib.hid hlb
  have HB := Lib.hid (((Below.refl w.heap.size w).alloc (Nat.le_refl _) (ruO o b l)).trans (hb1.mono (by simp)))
  clear hla hlb hb1
  go_wp2
  go_loop [16] (fun t => ∃ i : Nat, i ≤ L.length ∧ t = .int .i64 i ∧ Hid (∀ j (h : j < L.length), j < i → L[j].1 ≠ vl)) (fun t => L.length - (intOf t).toNat)
  case atStart => exact ⟨0, Nat.zero_le _, rfl, Lib.hid fun j _ h => absurd h (by omega)⟩
  case round =>
    obtain ⟨i, hi, rfl, hno⟩ := hrel
    by_cases hlt : i < L.length
    · have hat : L[i]? = some L[i] := List.getElem?_eq_getElem hlt
      have hca := (cell_below w1 (Obj.cells #[.slice (some ⟨ga, 0, none⟩) L.length ca, .slice (some ⟨gb, 0, none⟩) L.length cb] rrT) ga i ga2).trans (rrCell HLA.out hat)
      have hcb := (cell_below w1 (Obj.cells #[.slice (some ⟨ga, 0, none⟩) L.length ca, .slice (some ⟨gb, 0, none⟩) L.length cb] rrT) gb i gb2).trans (rrCellI HLB.out hat)
      have HM : Hid (L[i] ∈ L) := Lib.hid (List.getElem_mem hlt)
      have HNX : Hid (L[i].1 ≠ vl → ∀ j (h : j < L.length), j < i + 1 → L[j].1 ≠ vl) := Lib.hid fun h0 j h hj => by
        by_cases e : j = i
        · subst e; exact h0
        · exact hno.out j h (by omega)
      have hsame := same_str L[i].1 vl
      have i1 : (i : Int) < (L.length : Int) := by omega
      clear hat
      obtain ⟨⟨x, d⟩, hp⟩ : ∃ p, p = L[i] := ⟨_, rfl⟩
      rw [← hp] at hca hcb HM HNX hsame
      clear hp
      by_cases e : x = vl
      · subst e
        rw [show decide (((x, d) : List UInt8 × Nat).1 = x) = true by simp] at hsame
        have HR : Hid (stF L x = some d) := Lib.hid (stF_some HND.out HM.out)
        go_wp2
        go_ret
        exact ⟨by rw [HR.out]; rfl, HB.out.alloc HB.out.size _⟩
      · rw [show decide (((x, d) : List UInt8 × Nat).1 = vl) = false by simpa using e] at hsame
        have HN2 := Lib.hid (HNX.out e)
        clear e
        go_wp2
        go_round
        case rel => exact ⟨i + 1, by omega, by go_num, HN2⟩
        case measure => simp [intOf]; omega
    · obtain rfl : i = L.length := by omega
      have HR : Hid (stF L vl = none) := Lib.hid (stF_none fun h => by
        obtain ⟨p, hp, e⟩ := List.mem_map.1 h
        obtain ⟨j, hj, rfl⟩ := List.getElem_of_mem hp
        exact hno.out j hj hj e)
      go_wp2
      go_ret
      exact ⟨by rw [HR.out]; rfl, HB.out.alloc HB.out.size _⟩
end Go.Proofs.Ytcndlfoodbmgbaa
