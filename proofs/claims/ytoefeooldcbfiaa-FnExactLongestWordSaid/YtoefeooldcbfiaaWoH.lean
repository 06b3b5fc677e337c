/- LongestWord: both sides, and the law's walk. -/
import Derived.Test.YtoefeooldcbfiaaWoZ
import Derived.Test.YtoefeooldcbfiaaLong
import Derived.Test.YtoefeooldcbfiaaAft
namespace Go.Proofs.Ytoefeooldcbfiaa
open Go.RowKit Go.Maps

/-- The first of all words of so many signs that lead to one of some lines. -/
def LeastW (x : List UInt8) (D : Nat) (E : List (List UInt8)) (u : List UInt8) : Prop := u ∈ wl sgW (endB E) D x ∧ ∀ u' ∈ wl sgW (endB E) D x, ¬ u' < u
theorem LeastW.one {x u u' : List UInt8} {D : Nat} {E : List (List UInt8)} (h : LeastW x D E u) (h' : LeastW x D E u') : u = u' := by
  by_cases e : u = u'
  · exact e
  · exact absurd (lt_tri u' u (h.2 u' h'.1) (fun e2 => e e2.symm)) (h'.2 u h.1)
theorem head_least (x : List UInt8) (D : Nat) (E : List (List UInt8)) (hne : wl sgW (endB E) D x ≠ []) : LeastW x D E (hdW (endB E) D x) := by
  unfold LeastW hdW
  have hr := wl_rising (sg := sgW) (endB E) D x
  generalize wl sgW (endB E) D x = L at hne hr
  cases L with
  | nil => exact absurd rfl hne
  | cons a l =>
    refine ⟨List.mem_cons_self .., fun u' hu => ?_⟩
    show ¬ u' < a
    rcases List.mem_cons.1 hu with rfl | hu
    · exact List.lt_irrefl _
    · exact List.lt_asymm ((List.pairwise_cons.1 hr).1 u' hu)
theorem mem_two (x u : List UInt8) (D : Nat) (E : List (List UInt8)) (v : List UInt8) : u ∈ wl sgW (endB (E ++ [v])) D x ↔ u ∈ wl sgW (endB E) D x ∨ u ∈ wl sgW (endB [v]) D x := by
  rw [mem_wl sgW_tf, mem_wl sgW_tf, mem_wl sgW_tf]
  unfold endB
  constructor
  · rintro ⟨hl, y, hy, hp⟩
    rw [decide_eq_true_iff, List.mem_append] at hp
    rcases hp with hp | hp
    · exact .inl ⟨hl, y, hy, decide_eq_true hp⟩
    · exact .inr ⟨hl, y, hy, decide_eq_true hp⟩
  · rintro (⟨hl, y, hy, hp⟩ | ⟨hl, y, hy, hp⟩)
    · rw [decide_eq_true_iff] at hp
      exact ⟨hl, y, hy, decide_eq_true (List.mem_append.2 (.inl hp))⟩
    · rw [decide_eq_true_iff] at hp
      exact ⟨hl, y, hy, decide_eq_true (List.mem_append.2 (.inr hp))⟩
theorem LeastW.less {x u s v : List UInt8} {D : Nat} {E : List (List UInt8)} (h : LeastW x D E u) (hs : LeastW x D [v] s) (hlt : s < u) : LeastW x D (E ++ [v]) s := by
  refine ⟨(mem_two ..).2 (.inr hs.1), fun q hq => ?_⟩
  rcases (mem_two ..).1 hq with hq | hq
  · exact fun hlt2 => h.2 q hq (List.lt_trans hlt2 hlt)
  · exact hs.2 q hq
theorem LeastW.same {x u s v : List UInt8} {D : Nat} {E : List (List UInt8)} (h : LeastW x D E u) (hs : LeastW x D [v] s) (hlt : ¬ s < u) : LeastW x D (E ++ [v]) u := by
  refine ⟨(mem_two ..).2 (.inl h.1), fun q hq => ?_⟩
  rcases (mem_two ..).1 hq with hq | hq
  · exact h.2 q hq
  · intro hlt2
    by_cases e : q = s
    · exact hlt (e ▸ hlt2)
    · exact hlt (List.lt_trans (lt_tri q s (hs.2 q hq) e) hlt2)
theorem one_least {n : Nat} {x v : List UInt8} (_ : goodT n x) (h1 : oneL x) {D : Nat} (hv : v ∈ lay nxL x D) : LeastW x D [v] (hdW (isV v) D x) := by
  have h := head_least x D [v] (by rw [isV_end]; exact wl_some h1 hv)
  rwa [isV_end] at h

set_option maxRecDepth 100000 in
set_option maxHeartbeats 4000000 in
theorem sLongW_yes (D : Nat) (xl : List UInt8) (w : World) (h1 : oneB (str xl) = true) (hd : IsDep nxL xl (D + 1)) (hd2 : D + 1 ≤ 60000) :
    Calls Try.prog 22 #[.string (str xl)] w fun e w' => ∃ x, e = .returned (.tuple #[.string (str x), .bool true]) ∧ LeastW xl D (lay nxL xl D) x ∧ Below w.heap.size w w' := by
  obtain ⟨r1, g1, o1⟩ := one_parts h1
  have hs : (str xl).size ≤ maxLen := by have := g1.2; rw [str_size]; unfold maxLen; omega
  have hO := Lib.hid h1
  have HG := Lib.hid g1
  have H1 := Lib.hid o1
  have HD := Lib.hid hd
  clear r1 g1 o1 h1 hd
  go_enter Try.func22, Try.ntmps22
  go_wp2_with fail
  refine (woOne_any _ _ hs).mono ?_; rintro e w' ⟨rfl, rfl⟩; rw [hO.out]
  go_wp2_with fail
  refine (reLayers_any _ (D + 1) xl _ HG.out HD.out hd2).mono ?_
  rintro e w1 ⟨v1, rfl, ⟨g, c, vs, rfl, hgl, hn, hvl, hat, hcell⟩, hb1⟩
  have hck := hcell D (by omega)
  have hst := hat D (by omega)
  obtain ⟨g2, c2, e2, hc2, hc2m, hg2, hs2⟩ := ok_form hst (HD.out.2.2 D (by omega))
  rw [e2] at hck
  have HS2 := Lib.hid hs2
  have HB1 := Lib.hid hb1
  have HIN := Lib.hid (fun v (hv : v ∈ lay nxL xl D) => one_least HG.out H1.out hv)
  have HFI := Lib.hid (fun v (hv : v ∈ lay nxL xl D) wx => woFirst_any _ xl v D wx HG.out H1.out hv)
  have hlenL : (lay nxL xl D).length ≤ 59049 := few_good (rising_nodup (lay_rising D)) fun v hv => (lay_good (steps_line _) HG.out D v hv).1
  have hpos : 0 < (lay nxL xl D).length := List.length_pos_iff.2 (HD.out.2.2 D (by omega))
  obtain ⟨L, hL⟩ : ∃ L, lay nxL xl D = L := ⟨_, rfl⟩
  rw [hL] at hck HS2 HIN HFI hlenL hpos hc2
  have HL := Lib.hid hL
  have i1 : (0 : Int) ≤ (D : Int) := by omega
  have i2 : (D : Int) < (D : Int) + 1 := by omega
  have i3 : (D : Int) + 1 - 1 = D := by omega
  clear hcell hat hst hs2 hb1 hL e2
  go_wp2
  go_loopw [5, 21] (fun b t wr => ∃ (k : Nat) (u : List UInt8), k ≤ L.length ∧ t = .int .i64 k ∧ b = .string (str u) ∧ Hid (0 < k → LeastW xl D (L.take k) u) ∧ Below w1.heap.size w1 wr) (fun _ t _ => L.length - (intOf t).toNat)
  case atStart => exact ⟨0, [], Nat.zero_le _, rfl, rfl, Lib.hid (fun h => absurd h (Nat.lt_irrefl _)), Below.refl _ _⟩
  case round =>
    obtain ⟨k, u, hk, rfl, rfl, HU, hB⟩ := hrel
    by_cases hlt : k < L.length
    · have hcs := (hB.cell (p := ⟨g2, k, none⟩) hg2).trans (HS2.out k hlt)
      have HTK : Hid (L.take (k + 1) = L.take k ++ [L[k]]) := Lib.hid (List.take_succ_eq_append_getElem hlt)
      have HLV := Lib.hid (HIN.out L[k] (List.getElem_mem hlt))
      have HF := Lib.hid (HFI.out L[k] (List.getElem_mem hlt))
      generalize L[k] = v at hcs HTK HLV HF
      have j1 : (0 : Int) ≤ (k : Int) := by omega
      have j2 : (k : Int) < (L.length : Int) := by omega
      go_wp2_with fail
      refine (HF.out _).mono ?_
      rintro e w3 ⟨rfl, hb3⟩
      have HB3 := Lib.hid (hB.trans (hb3.mono hB.size))
      clear hb3 hB
      generalize hdW (isV v) D xl = s at HLV
      rcases Nat.eq_zero_or_pos k with rfl | hp
      · have hz : (((0 : Nat) : Int) == 0) = true := rfl
        have HN : Hid (0 < 0 + 1 → LeastW xl D (L.take (0 + 1)) s) := Lib.hid fun _ => by rw [HTK.out]; exact HLV.out
        go_wp2
        first
          | exact ⟨⟨0 + 1, s, by omega, by go_num, rfl, HN, HB3.out⟩, by simp [intOf]; omega⟩
          | (go_roundw
             case rel => exact ⟨0 + 1, s, by omega, by go_num, rfl, HN, HB3.out⟩
             case measure => simp [intOf]; omega)
      · have hz : ((k : Int) == 0) = false := by simp; omega
        have hU := Lib.hid (HU.out hp)
        by_cases hq : s < u
        · have hq2 : Op.bytesLess (str s).toList (str u).toList = true := by rw [less_str]; exact decide_eq_true hq
          have HN : Hid (0 < k + 1 → LeastW xl D (L.take (k + 1)) s) := Lib.hid fun _ => by rw [HTK.out]; exact hU.out.less HLV.out hq
          clear hq
          go_wp2
          first
            | exact ⟨⟨k + 1, s, by omega, by go_num, rfl, HN, HB3.out⟩, by simp [intOf]; omega⟩
            | (go_roundw
               case rel => exact ⟨k + 1, s, by omega, by go_num, rfl, HN, HB3.out⟩
               case measure => simp [intOf]; omega)
        · have hq2 : Op.bytesLess (str s).toList (str u).toList = false := by rw [less_str]; exact decide_eq_false hq
          have HN : Hid (0 < k + 1 → LeastW xl D (L.take (k + 1)) u) := Lib.hid fun _ => by rw [HTK.out]; exact hU.out.same HLV.out hq
          clear hq
          go_wp2
          first
            | exact ⟨⟨k + 1, u, by omega, by go_num, rfl, HN, HB3.out⟩, by simp [intOf]; omega⟩
            | (go_roundw
               case rel => exact ⟨k + 1, u, by omega, by go_num, rfl, HN, HB3.out⟩
               case measure => simp [intOf]; omega)
    · obtain rfl : k = L.length := by omega
      have hU := HU.out hpos
      rw [List.take_length, ← HL.out] at hU
      have HF := Lib.hid hU
      clear hU
      go_wp2
      go_ret2
      exact ⟨u, rfl, HF.out, HB1.out.trans (hB.mono HB1.out.size)⟩

set_option maxRecDepth 100000 in
set_option maxHeartbeats 2000000 in
theorem longW_yes (D : Nat) (xl : List UInt8) (w : World) (h1 : oneB (str xl) = true) (hd : IsDep nxL xl (D + 1)) (hd2 : D + 1 ≤ 60000) :
    Calls Try.prog 23 #[.string (str xl)] w fun e w' => ∃ x, e = .returned (.tuple #[.string (str x), .bool true]) ∧ LeastW xl D (lay nxL xl D) x ∧ Below w.heap.size w w' := by
  obtain ⟨r1, g1, o1⟩ := one_parts h1
  have hs : (str xl).size ≤ maxLen := by have := g1.2; rw [str_size]; unfold maxLen; omega
  obtain ⟨v0, hv0⟩ := List.exists_mem_of_ne_nil _ (hd.2.2 D (by omega))
  have h29 := lay_few g1 o1 hv0
  have hne : wl sgW (endB (lay nxL xl D)) D xl ≠ [] := by
    obtain ⟨u, hu, hr⟩ := (lay_run o1 D v0).1 hv0
    intro e
    have : u ∈ wl sgW (endB (lay nxL xl D)) D xl := (mem_wl sgW_tf _ _ _ _).2 ⟨hu, v0, hr, decide_eq_true hv0⟩
    rw [e] at this
    cases this
  have HLE := Lib.hid (head_least xl D (lay nxL xl D) hne)
  have HW : Hid ((itB sgW (leadB (lay nxL xl D)) xl D).map (·.1) = wl sgW (endB (lay nxL xl D)) D xl) := Lib.hid (it_ends g1 _ D (fun e he => he) (fun h => by subst h; simp [lay]))
  have HNE := Lib.hid hne
  have hlenL : (lay nxL xl D).length ≤ 59049 := few_good (rising_nodup (lay_rising D)) fun v hv => (lay_good (steps_line _) g1 D v hv).1
  have HEG : Hid (∀ e ∈ lay nxL xl D, goodT xl.length e) := Lib.hid fun v hv => (lay_good (steps_line _) g1 D v hv).1
  have HAF : Hid (aftL xl (D + 1) (D : Int) = lay nxL xl D) := Lib.hid (by
    have e : (D : Int).toNat = D := by omega
    unfold aftL
    rw [e, if_pos (Nat.lt_succ_self D)])
  have hO := Lib.hid h1
  have HR := Lib.hid r1
  have HG := Lib.hid g1
  have HD := Lib.hid hd
  clear r1 g1 o1 h1 hd hv0 hne
  go_enter Try.func23, Try.ntmps23
  go_wp2_with fail
  refine (hasOneGap_any _ _ hs).mono ?_; rintro e w' ⟨rfl, rfl⟩; rw [hO.out]
  go_wp2_with fail
  refine (longest_yes (D + 1) xl _ HR.out HD.out hd2).mono ?_
  rintro e w1 ⟨rfl, hb1⟩
  have HB1 := Lib.hid hb1
  clear hb1
  go_wp2_with fail
  refine (after_yes (D + 1) xl (D : Int) _ HR.out HD.out hd2 (by omega) (by omega)).mono ?_
  rintro e w2 ⟨v2, rfl, ho2, hb2⟩
  rw [HAF.out] at ho2
  obtain ⟨A2, cap2, rfl, _, _, at2, _⟩ := st_own ho2
  have AT2 := Lib.hid at2
  have HB2 := Lib.hid (HB1.out.trans (hb2.mono HB1.out.size))
  clear ho2 hb2 at2
  go_wp2_with fail
  refine (wordsTo_any xl.length (lay nxL xl D) A2 cap2 xl D _ AT2.out HEG.out (by omega) HG.out (by omega)).mono ?_
  rintro e w3 ⟨v3, rfl, ho3, hb3⟩
  rw [HW.out] at ho3
  have HHD : Hid (hdW (endB (lay nxL xl D)) D xl = (wl sgW (endB (lay nxL xl D)) D xl).headD []) := Lib.hid rfl
  generalize wl sgW (endB (lay nxL xl D)) D xl = L at ho3 HNE HHD
  obtain ⟨x0, L', rfl⟩ : ∃ x0 L', L = x0 :: L' := by
    cases L with
    | nil => exact absurd rfl HNE.out
    | cons x0 L' => exact ⟨x0, L', rfl⟩
  obtain ⟨A3, cap3, rfl, _, _, at3, _⟩ := st_own ho3
  obtain ⟨g, rfl, hg, hc0⟩ := at3 0 (by simp)
  have hc0 : w3.cell? ⟨g, 0, none⟩ = some (.string (str x0)) := hc0
  have hlen1 : (0 : Int) < ((x0 :: L').length : Int) := by rw [List.length_cons]; omega
  have HB3 := Lib.hid (HB2.out.trans (hb3.mono HB2.out.size))
  clear ho3 at3 hb3
  generalize (x0 :: L').length = lenM at hlen1
  go_wp2
  go_ret2
  exact ⟨x0, rfl, by have h := HLE.out; rw [HHD.out] at h; exact h, HB3.out⟩

set_option maxHeartbeats 1000000 in
theorem sLongW_no (s : ByteArray) (w : World) (hs : s.size ≤ maxLen) (h : oneB s = false) : Calls Try.prog 22 #[.string s] w fun e w' => e = .returned (.tuple #[.string (str []), .bool false]) ∧ w = w' := by
  have H2 := Lib.hid h
  clear h
  go_enter Try.func22, Try.ntmps22
  go_wp2_with fail
  refine (woOne_any _ _ hs).mono ?_; rintro e w' ⟨rfl, rfl⟩; rw [H2.out]
  go_wp2
  go_ret2
  exact ⟨rfl, rfl⟩
set_option maxHeartbeats 1000000 in
theorem longW_no (s : ByteArray) (w : World) (hs : s.size ≤ maxLen) (h : oneB s = false) : Calls Try.prog 23 #[.string s] w fun e w' => e = .returned (.tuple #[.string (str []), .bool false]) ∧ w = w' := by
  have H2 := Lib.hid h
  clear h
  go_enter Try.func23, Try.ntmps23
  go_wp2_with fail
  refine (hasOneGap_any _ _ hs).mono ?_; rintro e w' ⟨rfl, rfl⟩; rw [H2.out]
  go_wp2
  go_ret2
  exact ⟨rfl, rfl⟩

set_option maxHeartbeats 1000000 in
theorem walk_FnExactLongestWord (s : ByteArray) (hs : s.size ≤ maxLen) (w : World) :
    Calls Try.prog 6 #[.string s] w fun e w' => e = .returned (.bool true) ∧ Below w.heap.size w w' := by
  obtain ⟨xl, hxl⟩ : ∃ xl, s = str xl := ⟨byt s, (str_byt s).symm⟩
  subst hxl
  by_cases hbig : (1048576 : Int) < ((str xl).size : Int)
  · go_enter Try.func6, Try.ntmps6
    go_wp2
    go_ret
    exact ⟨rfl, Below.refl _ _⟩
  · cases h1 : oneB (str xl)
    · have H1 := Lib.hid h1
      clear h1
      go_enter Try.func6, Try.ntmps6
      go_wp2_with fail
      refine (sLongW_no _ _ hs H1.out).mono ?_
      rintro e w1 ⟨rfl, rfl⟩
      go_wp2_with fail
      refine (longW_no _ _ hs H1.out).mono ?_
      rintro e w2 ⟨rfl, rfl⟩
      go_wp2
      go_ret
      exact ⟨rfl, Below.refl _ _⟩
    · obtain ⟨d, hd, hd2⟩ := dep_of (one_parts h1).1
      obtain ⟨D, rfl⟩ : ∃ D, d = D + 1 := ⟨d - 1, by have := hd.1; omega⟩
      have H1 := Lib.hid h1
      have HD := Lib.hid hd
      clear h1 hd
      go_enter Try.func6, Try.ntmps6
      go_wp2_with fail
      refine (sLongW_yes D xl _ H1.out HD.out hd2).mono ?_
      rintro e w1 ⟨x, rfl, hl1, hb1⟩
      have HL1 := Lib.hid hl1
      clear hl1
      go_wp2_with fail
      refine (longW_yes D xl _ H1.out HD.out hd2).mono ?_
      rintro e w2 ⟨x', rfl, hl2, hb2⟩
      obtain rfl := HL1.out.one hl2
      clear hl2
      go_wp2
      go_ret
      exact ⟨rfl, hb1.trans (hb2.mono hb1.size)⟩
end Go.Proofs.Ytoefeooldcbfiaa
