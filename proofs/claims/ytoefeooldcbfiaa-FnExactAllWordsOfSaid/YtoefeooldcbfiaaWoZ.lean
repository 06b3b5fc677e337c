/- WordBetween: both sides, and the law's walk. -/
import Derived.Test.YtoefeooldcbfiaaWoX
import Derived.Test.YtoefeooldcbfiaaWoY
import Derived.Test.YtoefeooldcbfiaaWoM
import Derived.Test.YtoefeooldcbfiaaWoN
import Derived.Test.YtoefeooldcbfiaaRchW
namespace Go.Proofs.Ytoefeooldcbfiaa
open Go.RowKit Go.Maps

theorem run_lay : ∀ (u x y : List UInt8), runW sgW x u = some y → y ∈ lay nxL x u.length
  | [], x, y, h => by
    injection h with h
    subst h
    simp [lay]
  | c :: u, x, y, h => by
    have h : ((sgW c x).bind fun z => runW sgW z u) = some y := h
    cases hz : sgW c x with
    | none => rw [hz] at h; cases h
    | some z =>
      rw [hz] at h
      exact lay_back (sgW_nx hz) (run_lay u z y h)
theorem lay_then {x y : List UInt8} {k : Nat} (hy : y ∈ lay nxL x k) : ∀ {m : Nat} {e : List UInt8}, e ∈ lay nxL y m → e ∈ lay nxL x (k + m)
  | 0, e, h => by
    have : e = y := by simpa [lay] using h
    subst this
    exact hy
  | m + 1, e, h => by
    obtain ⟨u, hu, he⟩ := (mem_lay_next m e).1 h
    exact (mem_lay_next (k + m) e).2 ⟨u, lay_then hy (m := m) (e := u) hu, he⟩
/-- All words of so many signs that end well. -/
def wlS (P : List UInt8 → Bool) (k : Nat) (x : List UInt8) : List (List UInt8) := wl sgW P k x
def endB (ends : List (List UInt8)) (y : List UInt8) : Bool := decide (y ∈ ends)
theorem it_ends {n : Nat} {x : List UInt8} (hx : goodT n x) (ends : List (List UInt8)) (k : Nat) (he : ∀ e ∈ ends, e ∈ lay nxL x k) (h0 : k = 0 → x ∈ ends) : (itB sgW (leadB ends) x k).map (·.1) = wl sgW (endB ends) k x := by
  refine it_words (endB ends) (leadB ends) (fun y hy m => ?_) x k (fun b hb => ?_)
  · refine wl_none _ sgW_tf _ (fun u z hz => ?_) m
    unfold endB
    rw [decide_eq_false]
    intro hm
    have : leadB ends y = true := (leadB_iff ends y).2 ⟨z, hm, u.length, run_lay u y z hz⟩
    rw [hy] at this
    cases this
  · obtain ⟨h1, h2, h3⟩ := it_run (leadB ends) x k b hb
    have hl := run_lay _ _ _ h1
    rw [h2] at hl
    unfold endB
    rw [decide_eq_true_iff]
    rcases Nat.eq_zero_or_pos k with e | e
    · subst e
      have : b.2 = x := by simpa [lay] using hl
      rw [this]
      exact h0 rfl
    · obtain ⟨q, hq, m, hm⟩ := (leadB_iff ends b.2).1 (h3 e)
      have h4 := lay_then (e := q) hl hm
      have h5 := lay_apart (steps_line n) hx h4 (he q hq)
      have : m = 0 := by omega
      subst this
      have : q = b.2 := by simpa [lay] using hm
      rw [← this]
      exact hq
theorem isV_end (v : List UInt8) : endB [v] = isV v := by
  funext y
  unfold endB isV
  simp
theorem one_parts {s : List UInt8} (h : oneB (str s) = true) : reachB (str s) = true ∧ goodT s.length s ∧ oneL s := by
  unfold oneB at h
  rw [Bool.and_eq_true, decide_eq_true_iff, byt_str] at h
  exact ⟨h.1, reach_good h.1, h.2⟩

set_option maxHeartbeats 1000000 in
theorem between_no (wl vl : List UInt8) (w : World) (hs : (str wl).size ≤ maxLen) (ht : (str vl).size ≤ maxLen) (hc : (oneB (str wl) && oneB (str vl)) = false) :
    Calls Try.prog 29 #[.string (str wl), .string (str vl)] w fun e w' => e = .returned (.tuple #[.string (str []), .bool false]) ∧ Below w.heap.size w w' := by
  cases h1 : oneB (str wl)
  · have H1 := Lib.hid h1
    clear h1 hc
    go_enter Try.func29, Try.ntmps29
    go_wp2_with (go_at_call 44; refine (hasOneGap_any _ _ hs).mono ?_; rintro e w' ⟨rfl, rfl⟩; rw [H1.out])
    go_ret2
    exact ⟨rfl, Below.refl _ _⟩
  · rw [h1, Bool.true_and] at hc
    have H1 := Lib.hid h1
    have H2 := Lib.hid hc
    clear h1 hc
    go_enter Try.func29, Try.ntmps29
    go_wp2_with fail
    refine (hasOneGap_any _ _ hs).mono ?_; rintro e w' ⟨rfl, rfl⟩; rw [H1.out]
    go_wp2_with fail
    refine (hasOneGap_any _ _ ht).mono ?_; rintro e w' ⟨rfl, rfl⟩; rw [H2.out]
    go_wp2
    go_ret2
    exact ⟨rfl, Below.refl _ _⟩
set_option maxHeartbeats 1000000 in
theorem sBetween_no (wl vl : List UInt8) (w : World) (hs : (str wl).size ≤ maxLen) (ht : (str vl).size ≤ maxLen) (hc : (oneB (str wl) && oneB (str vl)) = false) :
    Calls Try.prog 28 #[.string (str wl), .string (str vl)] w fun e w' => e = .returned (.tuple #[.string (str []), .bool false]) ∧ Below w.heap.size w w' := by
  cases h1 : oneB (str wl)
  · have H1 := Lib.hid h1
    clear h1 hc
    go_enter Try.func28, Try.ntmps28
    go_wp2_with (go_at_call 37; refine (woOne_any _ _ hs).mono ?_; rintro e w' ⟨rfl, rfl⟩; rw [H1.out])
    go_ret2
    exact ⟨rfl, Below.refl _ _⟩
  · rw [h1, Bool.true_and] at hc
    have H1 := Lib.hid h1
    have H2 := Lib.hid hc
    clear h1 hc
    go_enter Try.func28, Try.ntmps28
    go_wp2_with fail
    refine (woOne_any _ _ hs).mono ?_; rintro e w' ⟨rfl, rfl⟩; rw [H1.out]
    go_wp2_with fail
    refine (woOne_any _ _ ht).mono ?_; rintro e w' ⟨rfl, rfl⟩; rw [H2.out]
    go_wp2
    go_ret2
    exact ⟨rfl, Below.refl _ _⟩

/-- The answer between two lines with one gap. -/
def BwV (wl vl x : List UInt8) (y : Bool) : Prop := (∃ k, vl ∈ lay nxL wl k ∧ x = hdW (isV vl) k wl ∧ y = true) ∨ ((∀ k, vl ∉ lay nxL wl k) ∧ x = [] ∧ y = false)
theorem BwV.one {wl vl x x' : List UInt8} {y y' : Bool} (hg : goodT wl.length wl) (h : BwV wl vl x y) (h' : BwV wl vl x' y') : x = x' ∧ y = y' := by
  rcases h with ⟨k, hk, rfl, rfl⟩ | ⟨hn, rfl, rfl⟩
  · rcases h' with ⟨k', hk', rfl, rfl⟩ | ⟨hn', _⟩
    · rw [lay_apart (steps_line _) hg hk hk']; exact ⟨rfl, rfl⟩
    · exact absurd hk (hn' k)
  · rcases h' with ⟨k', hk', _⟩ | ⟨_, rfl, rfl⟩
    · exact absurd hk' (hn k')
    · exact ⟨rfl, rfl⟩
theorem none_all {wl vl : List UInt8} {d : Nat} (hd : IsDep nxL wl d) (h : ∀ k, k < d → vl ∉ lay nxL wl k) (k : Nat) : vl ∉ lay nxL wl k := by
  by_cases hk : k < d
  · exact h k hk
  · rw [lay_nil hd.2.1 k (by omega)]; simp

set_option maxRecDepth 100000 in
set_option maxHeartbeats 2000000 in
theorem sBetween_yes (wl vl : List UInt8) (w : World) (h1 : oneB (str wl) = true) (h2 : oneB (str vl) = true) :
    Calls Try.prog 28 #[.string (str wl), .string (str vl)] w fun e w' => ∃ x y, e = .returned (.tuple #[.string (str x), .bool y]) ∧ BwV wl vl x y ∧ Below w.heap.size w w' := by
  obtain ⟨r1, g1, o1⟩ := one_parts h1
  obtain ⟨r2, g2, o2⟩ := one_parts h2
  obtain ⟨d, hd, hd2⟩ := dep_of r1
  have hs : (str wl).size ≤ maxLen := by have := g1.2; rw [str_size]; unfold maxLen; omega
  have ht : (str vl).size ≤ maxLen := by have := g2.2; rw [str_size]; unfold maxLen; omega
  have H1 := Lib.hid h1
  have H2 := Lib.hid h2
  have HG := Lib.hid g1
  have HO := Lib.hid o1
  have HD := Lib.hid hd
  clear h1 h2 r1 r2 g1 g2 o1 o2 hd
  go_enter Try.func28, Try.ntmps28
  go_wp2_with fail
  refine (woOne_any _ _ hs).mono ?_; rintro e w' ⟨rfl, rfl⟩; rw [H1.out]
  go_wp2_with fail
  refine (woOne_any _ _ ht).mono ?_; rintro e w' ⟨rfl, rfl⟩; rw [H2.out]
  go_wp2_with fail
  refine (reAfter_any _ d wl vl _ HG.out HD.out hd2).mono ?_
  rintro e w1 ⟨a, rfl, haf, hb1⟩
  have HB1 := Lib.hid hb1
  clear hb1
  rcases haf with ⟨k, hk, hv, rfl⟩ | ⟨hno, rfl⟩
  · have hk0 : ¬ ((k : Int) < 0) := by omega
    have HV := Lib.hid hv
    clear hv
    go_wp2_with fail
    refine (woFirst_any _ wl vl k _ HG.out HO.out HV.out).mono ?_
    rintro e w2 ⟨rfl, hb2⟩
    go_wp2
    go_ret2
    exact ⟨_, true, rfl, .inl ⟨k, HV.out, rfl, rfl⟩, HB1.out.trans (hb2.mono HB1.out.size)⟩
  · have hneg : ((-1 : Int) < 0) := by decide
    have HN := Lib.hid (none_all HD.out hno)
    clear hno
    go_wp2
    go_ret2
    exact ⟨[], false, rfl, .inr ⟨HN.out, rfl, rfl⟩, HB1.out⟩

theorem one_row (w : World) (v : Value) (t : TypeId) (x : List UInt8) (h : v = .string (str x)) : StAt (w.alloc (.cells #[v] t)) (some ⟨w.heap.size, 0, none⟩) [x] := by
  intro q hq
  have : q = 0 := by simpa using hq
  subst this
  exact ⟨w.heap.size, rfl, by rw [World.size_alloc]; exact Nat.lt_succ_self _, by rw [World.cell?_alloc_new, h]; rfl⟩

set_option maxRecDepth 100000 in
set_option maxHeartbeats 2000000 in
theorem between_yes (wl vl : List UInt8) (w : World) (h1 : oneB (str wl) = true) (h2 : oneB (str vl) = true) :
    Calls Try.prog 29 #[.string (str wl), .string (str vl)] w fun e w' => ∃ x y, e = .returned (.tuple #[.string (str x), .bool y]) ∧ BwV wl vl x y ∧ Below w.heap.size w w' := by
  obtain ⟨r1, g1, o1⟩ := one_parts h1
  obtain ⟨r2, g2, o2⟩ := one_parts h2
  obtain ⟨d, hd, hd2⟩ := dep_of r1
  have hs : (str wl).size ≤ maxLen := by have := g1.2; rw [str_size]; unfold maxLen; omega
  have ht : (str vl).size ≤ maxLen := by have := g2.2; rw [str_size]; unfold maxLen; omega
  have H1 := Lib.hid h1
  have H2 := Lib.hid h2
  have R1 := Lib.hid r1
  have R2 := Lib.hid r2
  have HG := Lib.hid g1
  have HO := Lib.hid o1
  have HD := Lib.hid hd
  clear h1 h2 r1 r2 g1 g2 o1 o2 hd
  go_enter Try.func29, Try.ntmps29
  go_wp2_with fail
  refine (hasOneGap_any _ _ hs).mono ?_; rintro e w' ⟨rfl, rfl⟩; rw [H1.out]
  go_wp2_with fail
  refine (hasOneGap_any _ _ ht).mono ?_; rintro e w' ⟨rfl, rfl⟩; rw [H2.out]
  go_wp2_with fail
  refine (movesBetween_yes d wl vl _ R1.out HD.out hd2 R2.out).mono ?_
  rintro e w1 ⟨a, b, rfl, hmb, hb1⟩
  have HB1 := Lib.hid hb1
  clear hb1
  rcases hmb with ⟨rfl, k, hk, hv, rfl⟩ | ⟨rfl, rfl, hno⟩
  · have HV := Lib.hid hv
    have hk29 := lay_few HG.out HO.out hv
    have HVG : Hid (∀ e ∈ [vl], goodT wl.length e) := Lib.hid fun e he => by
      have : e = vl := by simpa using he
      rw [this]
      exact (lay_good (steps_line _) HG.out k vl HV.out).1
    have HW : Hid ((itB sgW (leadB [vl]) wl k).map (·.1) = wlS (isV vl) k wl) := Lib.hid (by
      rw [it_ends HG.out [vl] k (fun e he => by have : e = vl := by simpa using he
                                                rw [this]; exact HV.out) (fun h => by
        subst h
        have := HV.out
        have : vl = wl := by simpa [lay] using this
        rw [this]; simp), isV_end]
      rfl)
    have HNE : Hid (wlS (isV vl) k wl ≠ []) := Lib.hid (wl_some HO.out HV.out)
    clear hv
    go_wp2_with fail
    refine (wordsTo_any wl.length [vl] _ 1 wl k _ (one_row _ _ _ vl rfl) HVG.out (by simp) HG.out (by omega)).mono ?_
    rintro e w2 ⟨v2, rfl, ho2, hb2⟩
    rw [HW.out] at ho2
    have HHD : Hid (hdW (isV vl) k wl = (wlS (isV vl) k wl).headD []) := Lib.hid rfl
    generalize wlS (isV vl) k wl = L at ho2 HNE HHD
    obtain ⟨x0, L', rfl⟩ : ∃ x0 L', L = x0 :: L' := by
      cases L with
      | nil => exact absurd rfl HNE.out
      | cons x0 L' => exact ⟨x0, L', rfl⟩
    obtain ⟨A2, cap2, rfl, _, _, at2, _⟩ := st_own ho2
    obtain ⟨g, rfl, hg, hc0⟩ := at2 0 (by simp)
    have hc0 : w2.cell? ⟨g, 0, none⟩ = some (.string (str x0)) := hc0
    have hlen1 : (0 : Int) < ((x0 :: L').length : Int) := by rw [List.length_cons]; omega
    have HB2 := Lib.hid ((HB1.out.alloc HB1.out.size (Obj.cells #[.string (str vl)] 9)).trans (hb2.mono (by have := HB1.out.size; rw [World.size_alloc]; omega)))
    clear ho2 at2 hb2
    generalize (x0 :: L').length = lenM at hlen1
    go_wp2
    go_ret2
    exact ⟨x0, true, rfl, .inl ⟨k, HV.out, by rw [HHD.out]; rfl, rfl⟩, HB2.out⟩
  · have HN := Lib.hid (none_all HD.out hno)
    clear hno
    go_wp2
    go_ret2
    exact ⟨[], false, rfl, .inr ⟨HN.out, rfl, rfl⟩, HB1.out⟩

set_option maxHeartbeats 1000000 in
theorem walk_FnExactWordBetween (s : ByteArray) (hs : s.size ≤ maxLen) (t : ByteArray) (ht : t.size ≤ maxLen) (w : World) :
    Calls Try.prog 9 #[.string s, .string t] w fun e w' => e = .returned (.bool true) ∧ Below w.heap.size w w' := by
  obtain ⟨wl, hwl⟩ : ∃ wl, s = str wl := ⟨byt s, (str_byt s).symm⟩
  obtain ⟨vl, hvl⟩ : ∃ vl, t = str vl := ⟨byt t, (str_byt t).symm⟩
  subst hwl
  subst hvl
  by_cases hbig : (1048576 : Int) < ((str wl).size : Int)
  · go_enter Try.func9, Try.ntmps9
    go_wp2
    go_ret
    exact ⟨rfl, Below.refl _ _⟩
  · by_cases hbig2 : (1048576 : Int) < ((str vl).size : Int)
    · go_enter Try.func9, Try.ntmps9
      go_wp2
      go_ret
      exact ⟨rfl, Below.refl _ _⟩
    · cases hc : (oneB (str wl) && oneB (str vl))
      · have HC := Lib.hid hc
        clear hc
        go_enter Try.func9, Try.ntmps9
        go_wp2_with fail
        refine (sBetween_no _ _ _ hs ht HC.out).mono ?_
        rintro e w1 ⟨rfl, hb1⟩
        go_wp2_with fail
        refine (between_no _ _ _ hs ht HC.out).mono ?_
        rintro e w2 ⟨rfl, hb2⟩
        go_wp2
        go_ret
        exact ⟨rfl, hb1.trans (hb2.mono hb1.size)⟩
      · rw [Bool.and_eq_true] at hc
        have H1 := Lib.hid hc.1
        have H2 := Lib.hid hc.2
        clear hc
        go_enter Try.func9, Try.ntmps9
        go_wp2_with fail
        refine (sBetween_yes _ _ _ H1.out H2.out).mono ?_
        rintro e w1 ⟨x, y, rfl, hv1, hb1⟩
        have HV1 := Lib.hid hv1
        clear hv1
        go_wp2_with fail
        refine (between_yes _ _ _ H1.out H2.out).mono ?_
        rintro e w2 ⟨x', y', rfl, hv2, hb2⟩
        obtain ⟨rfl, rfl⟩ := BwV.one (one_parts H1.out).2.1 HV1.out hv2
        clear hv2
        go_wp2
        go_ret
        exact ⟨rfl, hb1.trans (hb2.mono hb1.size)⟩
end Go.Proofs.Ytoefeooldcbfiaa
