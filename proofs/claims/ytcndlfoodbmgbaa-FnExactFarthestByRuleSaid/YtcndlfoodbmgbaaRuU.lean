/- The farthest line by a rule: both sides, and the law's walk. -/
import Derived.Test.YtcndlfoodbmgbaaRuM
import Derived.Test.YtcndlfoodbmgbaaSrt
import Derived.Deep.RegionWith
import Derived.Deep.QuietTactic
namespace Go.Proofs.Ytcndlfoodbmgbaa
open Go.RowKit Go.Maps

def dpI (L : Fnd) (x : List UInt8) : Int := (((stF L x).getD 0 : Nat) : Int)
theorem dpI_mem {L : Fnd} (hn : (keysF L).Nodup) {x : List UInt8} {d : Nat} (h : (x, d) ∈ L) : dpI L x = (d : Int) := by
  unfold dpI
  rw [stF_some hn h]
  rfl
theorem key_dp {L : Fnd} {x : List UInt8} (h : x ∈ keysF L) : ∃ d : Nat, (x, d) ∈ L := by
  obtain ⟨p, hp, rfl⟩ := List.mem_map.1 h
  exact ⟨p.2, hp⟩
/-- The one with the most steps, the first of several. -/
def IsFar (dp : List UInt8 → Int) (L : List (List UInt8)) (m : List UInt8) : Prop := m ∈ L ∧ ∀ x, x ∈ L → dp x < dp m ∨ (dp x = dp m ∧ (m = x ∨ m < x))
theorem far_one {dp : List UInt8 → Int} {L : List (List UInt8)} {a b : List UInt8} (h1 : IsFar dp L a) (h2 : IsFar dp L b) : a = b := by
  rcases h1.2 b h2.1 with h | ⟨_, h | h⟩
  · rcases h2.2 a h1.1 with h' | ⟨h', _⟩ <;> omega
  · exact h
  · rcases h2.2 a h1.1 with h' | ⟨_, h' | h'⟩
    · omega
    · exact h'.symm
    · exact absurd (List.lt_trans h h') (List.lt_irrefl a)
theorem far_mem {dp : List UInt8 → Int} {L M : List (List UInt8)} {m : List UInt8} (h : ∀ x, x ∈ L ↔ x ∈ M) (hf : IsFar dp L m) : IsFar dp M m :=
  ⟨(h m).1 hf.1, fun x hx => hf.2 x ((h x).2 hx)⟩
def sortR (l : List (List UInt8)) : List (List UInt8) := l.mergeSort (fun x y => decide (x ≤ y))
theorem sortR_mem (l : List (List UInt8)) (v : List UInt8) : v ∈ sortR l ↔ v ∈ l := (List.mergeSort_perm l (fun x y => decide (x ≤ y))).mem_iff
theorem sortR_rising {l : List (List UInt8)} (hn : l.Nodup) : Rising (sortR l) := by
  have tr : ∀ a b c : List UInt8, decide (a ≤ b) = true → decide (b ≤ c) = true → decide (a ≤ c) = true := fun a b c h1 h2 => by simp only [decide_eq_true_eq] at *; exact List.le_trans h1 h2
  have tot : ∀ a b : List UInt8, (decide (a ≤ b) || decide (b ≤ a)) = true := fun a b => by simp only [Bool.or_eq_true, decide_eq_true_eq]; exact List.le_total a b
  have hs := List.pairwise_mergeSort tr tot l
  have hp := List.mergeSort_perm l (fun x y => decide (x ≤ y))
  have hn2 : (l.mergeSort (fun x y => decide (x ≤ y))).Nodup := hp.nodup_iff.2 hn
  unfold sortR
  refine (hs.and hn2).imp fun {a b} h => ?_
  have h1 : a ≤ b := by simpa using h.1
  by_cases hlt : a < b
  · exact hlt
  · exact absurd (List.le_antisymm h1 (List.not_lt.1 hlt)) h.2
theorem sortR_perm {ss l : List (List UInt8)} (hn : ss.Nodup) (hl : l.Nodup) (hm : ∀ v, v ∈ ss ↔ v ∈ l) : sortR ss = sortR l :=
  rising_ext (sortR_rising hn) (sortR_rising hl) fun v => ((sortR_mem ss v).trans (hm v)).trans (sortR_mem l v).symm

set_option maxRecDepth 100000 in
set_option maxHeartbeats 1000000 in
theorem farCmp_any (L : Fnd) (bm B : Nat) (D : DataW Unit) (w : World) (x y : List UInt8) (dx dy : Nat) (hown : w.ownsMap Try.prog 9 intR bm 59049 D) (hf : FndV D L) (hc : w.cell? ⟨B, 0, none⟩ = some (.map (some bm)))
    (hx : (x, dx) ∈ L) (hy : (y, dy) ∈ L) (hxl : x.length ≤ 1000) (hyl : y.length ≤ 1000) (h1 : dx ≤ 60000) (h2 : dy ≤ 60000) :
    Calls Try.prog 86 #[.string (str x), .string (str y), .pointer (some ⟨B, 0, none⟩)] w fun e w' => e = .returned (.int .i64 ((dx : Int) - dy)) ∧ w = w' := by
  have hkx := keyS (x := x) (by unfold maxLen; omega)
  have hky := keyS (x := y) (by unfold maxLen; omega)
  have hatx := (hf.1 _ hx).2 (.lit (.int .i64 0))
  have haty := (hf.1 _ hy).2 (.lit (.int .i64 0))
  have i1 : (0 : Int) ≤ (dx : Int) := by omega
  have i2 : (dx : Int) ≤ 60000 := by omega
  have i3 : (0 : Int) ≤ (dy : Int) := by omega
  have i4 : (dy : Int) ≤ 60000 := by omega
  clear hf hx hy
  go_enter Try.func86, Try.ntmps86
  go_wp2_with (first
    | (at_lookup; refine wpList_lookup_own_int _ rfl _ _ 84 rfl 9 3 .i64 Try.keysS Try.underlying84 Try.underlying3 (zeroIn _) bm 59049 D rfl hown _ (.string x) rfl hkx ?_; intro cx hcx _; obtain rfl : cx = (dx : Int) := atKey_one hatx hcx)
    | (at_lookup; refine wpList_lookup_own_int _ rfl _ _ 84 rfl 9 3 .i64 Try.keysS Try.underlying84 Try.underlying3 (zeroIn _) bm 59049 D rfl hown _ (.string y) rfl hky ?_; intro cy hcy _; obtain rfl : cy = (dy : Int) := atKey_one haty hcy))
  go_ret
  exact ⟨rfl, rfl⟩
abbrev farV (B : Nat) : Value := .func (.func 86) #[] #[.pointer (some ⟨B, 0, none⟩)]

set_option maxRecDepth 100000 in
set_option maxHeartbeats 2000000 in
theorem maxFunc_any (dp : List UInt8 → Int) (L : List (List UInt8)) (A : Option Addr) (c B : Nat) (w : World) (hr : Rising L) (hne : L ≠ []) (hl : L.length ≤ 60000) (hat : StAt w A L)
    (hc : ∀ x y, x ∈ L → y ∈ L → Calls Try.prog 86 #[.string (str x), .string (str y), .pointer (some ⟨B, 0, none⟩)] w fun e w' => e = .returned (.int .i64 (dp x - dp y)) ∧ w = w') :
    Calls Try.prog 85 #[.slice A L.length c, farV B] w fun e w' => ∃ m, e = .returned (.string (str m)) ∧ IsFar dp L m ∧ w = w' := by
  have hpos : 0 < L.length := List.length_pos_iff.2 hne
  obtain ⟨g, rfl, hgl, c0⟩ := hat 0 hpos
  have HAT := Lib.hid hat
  have HR := Lib.hid hr
  have HCC := Lib.hid hc
  have H1 : Hid (L.take 1 = [L[0]]) := Lib.hid (by match L, hpos with | a :: l, _ => simp)
  obtain ⟨x0, hx0⟩ : ∃ x, L[0] = x := ⟨_, rfl⟩
  rw [hx0] at c0 H1
  clear hat hr hne hx0 hc
  go_enter Try.func85, Try.ntmps85
  go_wp2
  go_loop [5, 6] (fun m t => ∃ (k : Nat) (y : List UInt8), 1 ≤ k ∧ k ≤ L.length ∧ t = .int .i64 k ∧ m = .string (str y) ∧ Hid (IsFar dp (L.take k) y)) (fun _ t => L.length - (intOf t).toNat)
  case atStart => exact ⟨1, x0, Nat.le_refl _, hpos, rfl, rfl, Lib.hid ⟨by rw [H1.out]; simp, fun x hx => by rw [H1.out] at hx; simp at hx; subst hx; exact .inr ⟨rfl, .inl rfl⟩⟩⟩
  case round =>
    obtain ⟨k, y, h1, hk, rfl, rfl, HN⟩ := hrel
    by_cases hlt : k < L.length
    · obtain ⟨g', e, _, ck⟩ := HAT.out k hlt
      obtain rfl : g = g' := by injection e with e; injection e
      have HT : Hid (L.take (k + 1) = L.take k ++ [L[k]]) := Lib.hid (List.take_succ_eq_append_getElem hlt)
      have HLT : Hid (∀ x, x ∈ L.take k → x < L[k]) := Lib.hid fun x hx => by
        obtain ⟨j, hj, rfl⟩ := List.getElem_of_mem hx
        rw [List.getElem_take]
        rw [List.length_take] at hj
        exact rising_lt HR.out hlt (by omega)
      have HC := Lib.hid (HCC.out L[k] y (List.getElem_mem hlt) (List.mem_of_mem_take HN.out.1))
      generalize L[k] = z at ck HT HLT HC
      obtain ⟨a, ha⟩ : ∃ a, a = dp z := ⟨_, rfl⟩
      obtain ⟨b, hb⟩ : ∃ b, b = dp y := ⟨_, rfl⟩
      rw [← ha, ← hb] at HC
      have HA := Lib.hid ha
      have HB := Lib.hid hb
      clear ha hb
      go_wp2_with fail
      refine HC.out.mono ?_
      rintro e w1 ⟨rfl, rfl⟩
      by_cases hab : 0 < a - b
      · go_wp2
        go_round
        case rel => exact ⟨k + 1, z, by omega, by omega, by go_num, rfl, Lib.hid ⟨by rw [HT.out]; simp, fun x hx => by
          rw [HT.out, List.mem_append] at hx
          have h1 := HA.out
          have h2 := HB.out
          rcases hx with hx | hx
          · rcases HN.out.2 x hx with h | ⟨h, _⟩ <;> exact .inl (by omega)
          · obtain rfl : x = z := by simpa using hx
            exact .inr ⟨rfl, .inl rfl⟩⟩⟩
        case measure => simp [intOf]; omega
      · go_wp2
        go_round
        case rel => exact ⟨k + 1, y, by omega, by omega, by go_num, rfl, Lib.hid ⟨by rw [HT.out]; exact List.mem_append.2 (.inl HN.out.1), fun x hx => by
          rw [HT.out, List.mem_append] at hx
          have h1 := HA.out
          have h2 := HB.out
          rcases hx with hx | hx
          · exact HN.out.2 x hx
          · obtain rfl : x = z := by simpa using hx
            rcases Int.lt_or_eq_of_le (show dp x ≤ dp y by omega) with h | h
            · exact .inl h
            · exact .inr ⟨h, .inr (HLT.out y HN.out.1)⟩⟩⟩
        case measure => simp [intOf]; omega
    · obtain rfl : k = L.length := by omega
      go_wp2
      go_ret
      exact ⟨y, rfl, by have := HN.out; rwa [List.take_length] at this, rfl⟩

/-- The answer of FarthestByRule. -/
def FbP (o b l : Bool) (wl : List UInt8) (w : World) (e : Ending) (w' : World) : Prop :=
  ∃ m, e = .returned (.tuple #[.string (str m), .int .i64 (dpI (bfsL (nxR o b l) wl) m), .bool true]) ∧ IsFar (dpI (bfsL (nxR o b l) wl)) (keysF (bfsL (nxR o b l) wl)) m ∧ Below w.heap.size w w'
def fbNo : Value := .tuple #[.string (str []), .int .i64 0, .bool false]
set_option maxHeartbeats 1000000 in
theorem sFar_no (s : ByteArray) (o b l : Bool) (w : World) (hs : s.size ≤ maxLen) (hr : rchB s = false) :
    Calls Try.prog 39 #[.string s, ruV o b l] w fun e w' => e = .returned fbNo ∧ Below w.heap.size w w' := by
  have hC := Lib.hid hr
  clear hr
  go_enter Try.func39, Try.ntmps39
  go_wp2_with fail
  refine (sRch_any _ _ hs).mono ?_; rintro e w' ⟨rfl, rfl⟩; rw [hC.out]
  go_wp2
  refine bodyPost_ret (v := fbNo) (by simp [results, Try.results39, go_sem]; rfl) rfl ⟨rfl, ?_⟩
  exact (Below.refl _ _).alloc (Nat.le_refl _) _
set_option maxHeartbeats 1000000 in
theorem far_no (s : ByteArray) (o b l : Bool) (w : World) (hs : s.size ≤ maxLen) (hr : rchB s = false) :
    Calls Try.prog 40 #[.string s, ruV o b l] w fun e w' => e = .returned fbNo ∧ Below w.heap.size w w' := by
  have hC := Lib.hid hr
  clear hr
  go_enter Try.func40, Try.ntmps40
  go_wp2_with fail
  refine (isRch_any _ _ hs).mono ?_; rintro e w' ⟨rfl, rfl⟩; rw [hC.out]
  go_wp2
  refine bodyPost_ret (v := fbNo) (by simp [results, Try.results40, go_sem]; rfl) rfl ⟨rfl, ?_⟩
  exact (Below.refl _ _).alloc (Nat.le_refl _) _

set_option maxRecDepth 100000 in
set_option maxHeartbeats 4000000 in
theorem far_yes (o b l : Bool) (wl : List UInt8) (w : World) (hr : rchB (str wl) = true) :
    Calls Try.prog 40 #[.string (str wl), ruV o b l] w (FbP o b l wl w) := by
  have hg := rch_T hr
  have HF := Lib.hid (found_L o b l hg)
  have hlen : (bfsL (nxR o b l) wl).length ≤ 59049 := found_few HF.out
  have hs : (str wl).size ≤ maxLen := by have := hg.2; rw [str_size]; unfold maxLen; omega
  have hne := bfsL_ne (nxR o b l) wl
  have HDF := Lib.hid (fun wx => depthsFrom_any _ o b l wl wx hg)
  have hC := Lib.hid hr
  unfold DfPost at HDF
  unfold FbP
  clear hr hg
  generalize bfsL (nxR o b l) wl = L at HF hlen hne HDF
  go_enter Try.func40, Try.ntmps40
  go_wp2_with fail
  refine (isRch_any _ _ hs).mono ?_; rintro e w' ⟨rfl, rfl⟩; rw [hC.out]
  go_wp2_with fail
  refine (partsOf_any o b l _).mono ?_
  rintro e w1 ⟨rfl, hb1⟩
  have HB1 := Lib.hid (((Below.refl w.heap.size w).alloc (Nat.le_refl _) (ruO o b l)).trans (hb1.mono (by simp)))
  clear hb1
  go_wp2_with fail
  refine (HDF.out _).mono ?_
  rintro e w2 ⟨bm, D, rfl, hbm, hown2, hf, hb2⟩
  have HB3 : Hid (Below w.heap.size w (w2.alloc (.cells #[.map (some bm)] 84))) := Lib.hid ((HB1.out.trans (hb2.mono HB1.out.size)).alloc (by have := HB1.out.size; have := hb2.size; omega) _)
  obtain ⟨W3, hW3⟩ : ∃ W3, W3 = w2.alloc (.cells #[.map (some bm)] 84) := ⟨_, rfl⟩
  rw [← hW3] at HB3
  have hown3 : W3.ownsMap Try.prog 9 intR bm 59049 D := by rw [hW3]; exact hown2.alloc _
  have hB0 : w2.heap.size < W3.heap.size := by rw [hW3]; simp
  have hc3 : W3.cell? ⟨w2.heap.size, 0, none⟩ = some (.map (some bm)) := by rw [hW3, World.cell?_alloc_new]; rfl
  obtain ⟨h1, h2, h3⟩ := keys_nodup hown3 Try.keysS Try.underlying9
  have hsz := hown3.size_le
  have HK := Lib.hid (fun wx => (callsIn_wide (n := 5)).1 (Try.maps_Keys_84 (some bm) wx))
  have HS := Lib.hid ((callsIn_wide (n := 5)).1 (Try.slices_Sorted_keys_83_84 bm 59049 D intR W3 hown3 (by unfold maxLen; omega) (by omega)))
  have HP : Hid (∀ ss : List (List UInt8), ss.Perm (strKeys D) → ss.mergeSort (fun x y => decide (x ≤ y)) = sortR (keysF L) ∧ ss.length = (sortR (keysF L)).length) := Lib.hid fun ss hp => by
    have e : sortR ss = sortR (keysF L) := sortR_perm (hp.nodup_iff.2 h1) HF.out.nodup (fun v => (hp.mem_iff.trans (h2 v)).trans (by rw [fndV_has hf v, decide_eq_true_iff]))
    exact ⟨e, by rw [← e]; unfold sortR; rw [List.length_mergeSort]⟩
  have HO3 := Lib.hid hown3
  have HFV := Lib.hid hf
  have HC3 := Lib.hid hc3
  have HSR := Lib.hid (sortR_rising HF.out.nodup)
  have HSM := Lib.hid (sortR_mem (keysF L))
  have hsl : (sortR (keysF L)).length = L.length := by unfold sortR; rw [List.length_mergeSort, keysF_len]
  generalize sortR (keysF L) = S at HP HSR HSM hsl
  have hsne : S ≠ [] := by
    intro e
    have h0 := List.length_pos_iff.2 hne
    rw [e] at hsl
    simp at hsl
    omega
  have hsl60 : S.length ≤ 60000 := by omega
  clear h1 h2 h3 hf hown2 hown3 hb2 hne hbm hc3 hsl
  go_wp2_with fail
  rw [← hW3]
  clear hW3
  refine (HK.out _).mono ?_
  rintro e w4 ⟨rfl, rfl⟩
  go_wp2_with fail
  refine HS.out.mono ?_
  rintro e w5 ⟨v, ss, rfl, hp, hrow, _, hb5⟩
  obtain ⟨e1, e2⟩ := HP.out ss hp
  rw [e1, e2] at hrow
  obtain ⟨A5, c5, rfl, _, _, hat5, _⟩ := st_own hrow
  have hb35 : Below W3.heap.size W3 w5 := ((Below.refl W3.heap.size W3).alloc (Nat.le_refl _) _).trans (hb5.mono (by simp))
  have HO5 := Lib.hid (HO3.out.kept (grown_of_below hb35) (by simp))
  have hc5 : w5.cell? ⟨w2.heap.size, 0, none⟩ = some (.map (some bm)) := (hb35.cell (p := ⟨w2.heap.size, 0, none⟩) hB0).trans HC3.out
  have HB5 := Lib.hid (HB3.out.trans (hb35.mono HB3.out.size))
  have HAT5 := Lib.hid hat5
  have HC5 := Lib.hid hc5
  have HCM : Hid (∀ x y, x ∈ S → y ∈ S → Calls Try.prog 86 #[.string (str x), .string (str y), .pointer (some ⟨w2.heap.size, 0, none⟩)] w5 fun e w' => e = .returned (.int .i64 (dpI L x - dpI L y)) ∧ w5 = w') := Lib.hid fun x y hx hy => by
    obtain ⟨dx, hdx⟩ := key_dp ((HSM.out x).1 hx)
    obtain ⟨dy, hdy⟩ := key_dp ((HSM.out y).1 hy)
    rw [dpI_mem HF.out.nodup hdx, dpI_mem HF.out.nodup hdy]
    have gx := (HF.out.good x ((HSM.out x).1 hx)).2
    have gy := (HF.out.good y ((HSM.out y).1 hy)).2
    exact farCmp_any L bm _ D w5 x y dx dy HO5.out HFV.out HC5.out hdx hdy (by omega) (by omega) (HF.out.deep _ hdx) (HF.out.deep _ hdy)
  clear hp hrow hb5 e1 e2 hat5 hb35 HS HK HP hc5 hsz HC3 HO3 HB3 hB0
  go_wp2_with fail
  refine (maxFunc_any (dpI L) S A5 c5 _ _ HSR.out hsne hsl60 HAT5.out HCM.out).mono ?_
  rintro e w6 ⟨m, rfl, hm, rfl⟩
  have hmk := (HSM.out m).1 hm.1
  obtain ⟨dm, hdm⟩ := key_dp hmk
  have gm := (HF.out.good m hmk).2
  have hkm := keyS (x := m) (by unfold maxLen; omega)
  have hatm := (HFV.out.1 _ hdm).2 (.lit (.int .i64 0))
  have hown5 := HO5.out
  have hcell := HC5.out
  have HE : Hid (dpI L m = (dm : Int)) := Lib.hid (dpI_mem HF.out.nodup hdm)
  have HM := Lib.hid (far_mem HSM.out hm)
  have hown5d : w5.drew.ownsMap Try.prog 9 intR bm 59049 D := hown5
  obtain ⟨cm, hrun, hat, _⟩ := hown5d.lookup_int (t := 84) (e := 3) (q := .i64) Try.keysS Try.underlying84 Try.underlying3 (zeroIn _) hkm
  obtain rfl : cm = (dm : Int) := atKey_one hatm hat
  have hcelld : w5.drew.cell? ⟨w2.heap.size, 0, none⟩ = some (.map (some bm)) := hcell
  clear hm hmk hdm gm hown5 hown5d hat hatm hkm hcell
  go_wp2
  go_region
  go_wp2
  refine bodyPost_ret (v := .tuple #[.string (str m), .int .i64 (dm : Int), .bool true]) (by simp [results, Try.results40, go_sem]) rfl ?_
  exact ⟨m, by rw [HE.out], HM.out, HB5.out.trans ((Below.refl w5.heap.size w5).drew.mono HB5.out.size)⟩

-- model's side
theorem root_at (nx : List UInt8 → List (List UInt8)) (wl : List UInt8) (k : Nat) : (wl, 0) ∈ bfsAt nx wl k := by
  induction k with
  | zero => simp [bfsAt]
  | succ k ih =>
    obtain ⟨M, e⟩ := bfsAt_pre (nx := nx) (wl := wl) k
    rw [e]
    exact List.mem_append.2 (.inl ih)
theorem root_L (nx : List UInt8 → List (List UInt8)) (wl : List UInt8) : (wl, 0) ∈ bfsL nx wl := root_at nx wl 60000
/-- The one with the most steps among some pairs. -/
def FarP (L : Fnd) (y : List UInt8) (dy : Nat) : Prop := ∀ p, p ∈ L → p.2 < dy ∨ (p.2 = dy ∧ (y = p.1 ∨ y < p.1))
theorem far_end {L : Fnd} (hn : (keysF L).Nodup) {y : List UInt8} {dy : Nat} (hy : (y, dy) ∈ L) (h : FarP L y dy) : IsFar (dpI L) (keysF L) y := by
  refine ⟨List.mem_map_of_mem (f := Prod.fst) hy, fun x hx => ?_⟩
  obtain ⟨d, hd⟩ := key_dp hx
  rw [dpI_mem hn hd, dpI_mem hn hy]
  rcases h _ hd with h | ⟨h1, h2⟩
  · exact .inl (by have : d < dy := h; omega)
  · exact .inr ⟨by have : d = dy := h1; omega, h2⟩
theorem far_better {L : Fnd} {x y : List UInt8} {dx dy : Nat} (h : FarP L y dy) (hb : dy < dx ∨ (dx = dy ∧ x < y)) : FarP (L ++ [(x, dx)]) x dx := by
  intro p hp
  rcases List.mem_append.1 hp with hp | hp
  · rcases h p hp with h3 | ⟨h3, h4⟩
    · exact .inl (by rcases hb with h | ⟨h, _⟩ <;> omega)
    · rcases hb with h | ⟨h, h5⟩
      · exact .inl (by omega)
      · refine .inr ⟨by omega, .inr ?_⟩
        rcases h4 with h4 | h4
        · rw [← h4]; exact h5
        · exact List.lt_trans h5 h4
  · obtain rfl : p = (x, dx) := by simpa using hp
    exact .inr ⟨rfl, .inl rfl⟩
theorem far_worse {L : Fnd} {x y : List UInt8} {dx dy : Nat} (h : FarP L y dy) (hb : ¬ (dy < dx ∨ (dx = dy ∧ x < y))) : FarP (L ++ [(x, dx)]) y dy := by
  intro p hp
  rcases List.mem_append.1 hp with hp | hp
  · exact h p hp
  · obtain rfl : p = (x, dx) := by simpa using hp
    by_cases e : dx = dy
    · refine .inr ⟨e, ?_⟩
      by_cases e2 : y = x
      · exact .inl e2
      · exact .inr (lt_tri x y (fun h5 => hb (.inr ⟨e, h5⟩)) (fun e3 => e2 e3.symm))
    · exact .inl (by
        have : ¬ dy < dx := fun h5 => hb (.inl h5)
        show dx < dy
        omega)
set_option maxRecDepth 100000 in
set_option maxHeartbeats 4000000 in
theorem sFar_yes (o b l : Bool) (wl : List UInt8) (w : World) (hr : rchB (str wl) = true) :
    Calls Try.prog 39 #[.string (str wl), ruV o b l] w (FbP o b l wl w) := by
  have hg := rch_T hr
  have HF := Lib.hid (found_L o b l hg)
  have hlen : (bfsL (nxR o b l) wl).length ≤ 59049 := found_few HF.out
  have hs : (str wl).size ≤ maxLen := by have := hg.2; rw [str_size]; unfold maxLen; omega
  have hne := bfsL_ne (nxR o b l) wl
  have HRT := Lib.hid (root_L (nxR o b l) wl)
  have HPOST := Lib.hid (fun wx => ruReach_any _ o b l wl wx hg)
  have hC := Lib.hid hr
  unfold RrPost at HPOST
  unfold FbP
  clear hr hg
  generalize bfsL (nxR o b l) wl = L at HF hlen hne HPOST HRT
  have HP : Hid (0 < L.length) := Lib.hid (List.length_pos_iff.2 hne)
  clear hne
  go_enter Try.func39, Try.ntmps39
  go_wp2_with fail
  refine (sRch_any _ _ hs).mono ?_; rintro e w' ⟨rfl, rfl⟩; rw [hC.out]
  go_wp2_with fail
  refine (HPOST.out _).mono ?_
  rintro e w1 ⟨va, vb, rfl, hla, hlb, hb1⟩
  obtain ⟨ga, ca, rfl, ga1, ga2⟩ := hla.form HP.out
  obtain ⟨gb, cb, rfl, gb1, gb2⟩ := hlb.form HP.out
  have HLA := Lib.hid hla
  have HLB := Lib.hid hlb
  have HB := Lib.hid (((Below.refl w.heap.size w).alloc (Nat.le_refl _) (ruO o b l)).trans (hb1.mono (by simp)))
  clear hla hlb hb1
  go_wp2
  go_loop [8, 9, 22] (fun m t i => ∃ (k : Nat) (y : List UInt8) (dy : Nat), k ≤ L.length ∧ i = .int .i64 k ∧ m = .string (str y) ∧ t = .int .i64 dy ∧ dy ≤ 60000 ∧ Hid ((y, dy) ∈ L ∧ FarP (L.take k) y dy)) (fun _ _ i => L.length - (intOf i).toNat)
  case atStart => exact ⟨0, wl, 0, Nat.zero_le _, rfl, rfl, rfl, by omega, Lib.hid ⟨HRT.out, fun p hp => by simp at hp⟩⟩
  case round =>
    obtain ⟨k, y, dy, hk, rfl, rfl, rfl, hdy, HN⟩ := hrel
    by_cases hlt : k < L.length
    · have hat : L[k]? = some L[k] := List.getElem?_eq_getElem hlt
      have hca := (cell_below w1 (Obj.cells #[.slice (some ⟨ga, 0, none⟩) L.length ca, .slice (some ⟨gb, 0, none⟩) L.length cb] rrT) ga k ga2).trans (rrCell HLA.out hat)
      have hcb := (cell_below w1 (Obj.cells #[.slice (some ⟨ga, 0, none⟩) L.length ca, .slice (some ⟨gb, 0, none⟩) L.length cb] rrT) gb k gb2).trans (rrCellI HLB.out hat)
      have HM : Hid (L[k] ∈ L) := Lib.hid (List.getElem_mem hlt)
      have HT : Hid (L.take (k + 1) = L.take k ++ [L[k]]) := Lib.hid (List.take_succ_eq_append_getElem hlt)
      have HLS := Lib.hid (less_str L[k].1 y)
      have i1 : (0 : Int) ≤ (k : Int) := by omega
      have i2 : (k : Int) < (L.length : Int) := by omega
      clear hat
      obtain ⟨⟨x, d⟩, hp⟩ : ∃ p, p = L[k] := ⟨_, rfl⟩
      rw [← hp] at hca hcb HM HT HLS
      have hd6 : d ≤ 60000 := HF.out.deep _ HM.out
      clear hp
      by_cases h1 : dy < d
      · have HN2 : Hid ((x, d) ∈ L ∧ FarP (L.take (k + 1)) x d) := Lib.hid ⟨HM.out, by rw [HT.out]; exact far_better HN.out.2 (.inl h1)⟩
        have h1' : (dy : Int) < (d : Int) := by omega
        clear h1
        go_wp2
        go_round
        case rel => exact ⟨k + 1, x, d, by omega, by go_num, rfl, rfl, hd6, HN2⟩
        case measure => simp [intOf]; omega
      · have h1' : ¬ (dy : Int) < (d : Int) := by omega
        by_cases h2 : d = dy
        · by_cases h3 : x < y
          · have hbl : Op.bytesLess (str x).toList (str y).toList = true := by rw [HLS.out]; simp [h3]
            have HN2 : Hid ((x, d) ∈ L ∧ FarP (L.take (k + 1)) x d) := Lib.hid ⟨HM.out, by rw [HT.out]; exact far_better HN.out.2 (.inr ⟨h2, h3⟩)⟩
            subst h2
            have heq : ((d : Int) == (d : Int)) = true := by simp
            clear h1
            go_wp2
            go_round
            case rel => exact ⟨k + 1, x, d, by omega, by go_num, rfl, rfl, hd6, HN2⟩
            case measure => simp [intOf]; omega
          · have hbl : Op.bytesLess (str x).toList (str y).toList = false := by rw [HLS.out]; simp [h3]
            have HN2 : Hid ((y, dy) ∈ L ∧ FarP (L.take (k + 1)) y dy) := Lib.hid ⟨HN.out.1, by rw [HT.out]; exact far_worse HN.out.2 (by rintro (h | ⟨_, h⟩); exact h1 h; exact h3 h)⟩
            subst h2
            have heq : ((d : Int) == (d : Int)) = true := by simp
            clear h1
            go_wp2
            go_round
            case rel => exact ⟨k + 1, y, d, by omega, by go_num, rfl, rfl, hd6, HN2⟩
            case measure => simp [intOf]; omega
        · have HN2 : Hid ((y, dy) ∈ L ∧ FarP (L.take (k + 1)) y dy) := Lib.hid ⟨HN.out.1, by rw [HT.out]; exact far_worse HN.out.2 (by rintro (h | ⟨h, _⟩); exact h1 h; exact h2 h)⟩
          have heq : ((d : Int) == (dy : Int)) = false := by simp; omega
          have hne2 : ¬ (d : Int) = (dy : Int) := by omega
          clear h1 h2
          go_wp2
          go_round
          case rel => exact ⟨k + 1, y, dy, by omega, by go_num, rfl, rfl, hdy, HN2⟩
          case measure => simp [intOf]; omega
    · obtain rfl : k = L.length := by omega
      have hfar := HN.out.2
      rw [List.take_length] at hfar
      have HE : Hid (dpI L y = (dy : Int)) := Lib.hid (dpI_mem HF.out.nodup HN.out.1)
      have HM := Lib.hid (far_end HF.out.nodup HN.out.1 hfar)
      clear hfar
      go_wp2
      refine bodyPost_ret (v := .tuple #[.string (str y), .int .i64 (dy : Int), .bool true]) (by simp [results, Try.results39, go_sem]) rfl ?_
      exact ⟨y, by rw [HE.out], HM.out, HB.out.alloc HB.out.size _⟩
set_option maxRecDepth 100000 in
set_option maxHeartbeats 4000000 in
theorem walkFar_no (s : ByteArray) (hs : s.size ≤ maxLen) (o b l : Bool) (hR : rchB s = false) (w : World) :
    Calls Try.prog 11 #[.string s, ruV o b l] w fun e w' => e = .returned (.bool true) ∧ Below w.heap.size w w' := by
  by_cases hbig0 : (1048576 : Int) < (s.size : Int)
  · go_enter Try.func11, Try.ntmps11
    go_wp2
    go_ret
    exact ⟨rfl, (Below.refl _ _).alloc (Nat.le_refl _) _⟩
  · skip
    have HS := Lib.hid (fun wx => sFar_no s o b l wx hs hR)
    have HM := Lib.hid (fun wx => far_no s o b l wx hs hR)
    have hfb : fbNo = .tuple #[.string (str []), .int .i64 0, .bool false] := rfl
    rw [hfb] at HS HM
    clear hfb hR
    go_enter Try.func11, Try.ntmps11
    go_wp2_with fail
    refine (toRule_any o b l _).mono ?_
    rintro e w0 ⟨rfl, hb0⟩
    have HB0 := Lib.hid (((Below.refl w.heap.size w).alloc (Nat.le_refl _) (Obj.cells #[.bool o, .bool b, .bool l] 23)).trans (hb0.mono (by simp)))
    have HX0 := Lib.hid ((RuBx.new w o b l 23).below hb0)
    clear hb0
    go_wp2_with fail
    refine (HS.out _).mono ?_
    rintro e w1 ⟨rfl, hb1⟩
    have HX1 := Lib.hid (HX0.out.below hb1)
    have HB1 := Lib.hid (HB0.out.trans (hb1.mono HB0.out.size))
    clear hb1 HX0 HB0
    obtain ⟨_, x0, x1, x2⟩ := HX1.out
    go_wp2_with fail
    refine (toRule_any o b l _).mono ?_
    rintro e w2 ⟨rfl, hb2⟩
    clear x0 x1 x2
    have HB2 := Lib.hid (HB1.out.trans (hb2.mono HB1.out.size))
    clear hb2
    go_wp2_with fail
    refine (HM.out _).mono ?_
    rintro e w3 ⟨rfl, hb3⟩
    have HB3 := Lib.hid (HB2.out.trans (hb3.mono HB2.out.size))
    clear hb3
    go_wp2
    go_ret
    exact ⟨rfl, HB3.out⟩
set_option maxRecDepth 100000 in
set_option maxHeartbeats 4000000 in
theorem walkFar_yes (wl : List UInt8) (o b l : Bool) (hR : rchB (str wl) = true) (w : World) :
    Calls Try.prog 11 #[.string (str wl), ruV o b l] w fun e w' => e = .returned (.bool true) ∧ Below w.heap.size w w' := by
  by_cases hbig0 : (1048576 : Int) < ((str wl).size : Int)
  · go_enter Try.func11, Try.ntmps11
    go_wp2
    go_ret
    exact ⟨rfl, (Below.refl _ _).alloc (Nat.le_refl _) _⟩
  · skip
    have HS := Lib.hid (fun wx => sFar_yes o b l wl wx hR)
    have HM := Lib.hid (fun wx => far_yes o b l wl wx hR)
    unfold FbP at HS HM
    clear hR
    go_enter Try.func11, Try.ntmps11
    go_wp2_with fail
    refine (toRule_any o b l _).mono ?_
    rintro e w0 ⟨rfl, hb0⟩
    have HB0 := Lib.hid (((Below.refl w.heap.size w).alloc (Nat.le_refl _) (Obj.cells #[.bool o, .bool b, .bool l] 23)).trans (hb0.mono (by simp)))
    have HX0 := Lib.hid ((RuBx.new w o b l 23).below hb0)
    clear hb0
    go_wp2_with fail
    refine (HS.out _).mono ?_
    rintro e w1 ⟨m, rfl, hm, hb1⟩
    have HFM := Lib.hid hm
    clear hm
    have HX1 := Lib.hid (HX0.out.below hb1)
    have HB1 := Lib.hid (HB0.out.trans (hb1.mono HB0.out.size))
    clear hb1 HX0 HB0
    obtain ⟨_, x0, x1, x2⟩ := HX1.out
    go_wp2_with fail
    refine (toRule_any o b l _).mono ?_
    rintro e w2 ⟨rfl, hb2⟩
    clear x0 x1 x2
    have HB2 := Lib.hid (HB1.out.trans (hb2.mono HB1.out.size))
    clear hb2
    go_wp2_with fail
    refine (HM.out _).mono ?_
    rintro e w3 ⟨m2, rfl, hm2, hb3⟩
    obtain rfl := far_one HFM.out hm2
    clear hm2
    have HB3 := Lib.hid (HB2.out.trans (hb3.mono HB2.out.size))
    clear hb3
    go_wp2
    go_ret
    exact ⟨rfl, HB3.out⟩
theorem walk_FnExactFarthestByRule (s : ByteArray) (hs : s.size ≤ maxLen) (o b l : Bool) (w : World) :
    Calls Try.prog 11 #[.string s, ruV o b l] w fun e w' => e = .returned (.bool true) ∧ Below w.heap.size w w' := by
  cases hR : rchB s
  · exact walkFar_no s hs o b l hR w
  · rw [← str_byt s] at hR ⊢
    exact walkFar_yes (byt s) o b l hR w
end Go.Proofs.Ytcndlfoodbmgbaa
