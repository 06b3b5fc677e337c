/- The lengths of runs: the program's contract. -/
import Derived.Test.YtoefeooldcbfiaaDoorWoS
namespace Go.Proofs.YtoefeooldcbfiaaDoor
open Go.RowKit

theorem Tryd.infoB : (Tryd.prog.info? 53).map (fun i => (i.zero, i.size, i.bytes)) = some (some (.slice none 0 0), 1, 24) := by kernel_rfl
/-- The program turns a text into bytes of its own; with their room. -/
theorem to_bytes_cap (s : ByteArray) (W : World) : ∃ (cap : Nat) (W2 : World), (convert 9 53 (.string s)).run Tryd.prog W = .ok (.slice (some ⟨W.heap.size, 0, none⟩) s.size cap) W2 ∧ s.size ≤ cap ∧
    (∀ j (hj : j < s.size), W2.cell? ⟨W.heap.size, j, none⟩ = some (.int .u8 s[j].toNat)) ∧ Below W.heap.size W W2 ∧ W.heap.size < W2.heap.size := by
  refine ⟨_, _, run_bytes_of_string (P := Tryd.prog) W 9 53 5 s Tryd.underlying9 Tryd.underlying53 Tryd.underlying5, grownCap_ge _ _ _ _, fun j hj => ?_, (Below.drew (Below.refl _ _)).alloc (Nat.le_refl _) _, by simp⟩
  have h := World.cell?_alloc_mark W.drew (bytesRow s (grownCap W s.size 0 5)) 5 ((bytesRow s (grownCap W s.size 0 5)).size, (bytesRow s (grownCap W s.size 0 5)).size + 1) j
  refine Eq.trans h ?_
  unfold bytesRow
  rw [Array.getElem?_append_left (by simpa using hj)]
  simp [hj]
  rfl
/-- A part of the signs, without room behind it. -/
def sv (g : Nat) (p : Nat × Nat) : Value := .slice (some ⟨g, p.1, none⟩) (p.2 - p.1) (p.2 - p.1)
def ln (p : Nat × Nat) : Int := (p.2 : Int) - p.1
/-- Where the cutting stands. -/
def RcAt (s : ByteArray) (P : List (Nat × Nat)) (f t : Nat) : Prop :=
  1 ≤ t ∧ t ≤ s.size + 1 ∧ P.length < t ∧ (∀ p ∈ P, p.1 < p.2 ∧ p.2 ≤ s.size) ∧
    (t ≤ s.size → f < t ∧ rnL s t = P.map ln ++ [(t : Int) - f] ∧ (byt s).getD (t - 1) 0 = (byt s).getD f 0) ∧ (t = s.size + 1 → P.map ln = rnL s s.size)
theorem RcAt.start (s : ByteArray) : RcAt s [] 0 1 := by
  refine ⟨by omega, by omega, by simp, fun p hp => (by cases hp), fun _ => ⟨by omega, by simp [rnL], rfl⟩, fun h => ?_⟩
  have : s.size = 0 := by omega
  rw [this]; rfl
theorem RcAt.cut {s : ByteArray} {P : List (Nat × Nat)} {f t : Nat} (h : RcAt s P f t) (ht : t ≤ s.size) (hd : t = s.size ∨ (byt s).getD t 0 ≠ (byt s).getD f 0) : RcAt s (P ++ [(f, t)]) t (t + 1) := by
  obtain ⟨h1, h2, h3, h4, h5, _⟩ := h
  obtain ⟨a1, a2, a3⟩ := h5 ht
  refine ⟨by omega, by omega, by simp; omega, fun p hp => ?_, fun hlt => ⟨by omega, ?_, by simp⟩, fun e => ?_⟩
  · rcases List.mem_append.1 hp with hp | hp
    · exact h4 p hp
    · have : p = (f, t) := by simpa using hp
      subst this
      exact ⟨a1, ht⟩
  · have hne := hd.resolve_left (by omega)
    rw [rnL_new (.inr (by rw [a3]; exact hne)), a2]
    simp [ln]
    omega
  · have : t = s.size := by omega
    rw [← this, a2]
    simp [ln]
theorem RcAt.more {s : ByteArray} {P : List (Nat × Nat)} {f t : Nat} (h : RcAt s P f t) (ht : t < s.size) (hd : (byt s).getD t 0 = (byt s).getD f 0) : RcAt s P f (t + 1) := by
  obtain ⟨h1, h2, h3, h4, h5, _⟩ := h
  obtain ⟨a1, a2, a3⟩ := h5 (by omega)
  refine ⟨by omega, by omega, by omega, h4, fun _ => ⟨by omega, ?_, by simpa using hd⟩, fun e => by omega⟩
  rw [rnL_more (by omega) (by rw [hd, a3]) a2]
  congr 2
  push_cast
  omega

set_option maxRecDepth 100000 in
set_option maxHeartbeats 2000000 in
theorem runsOf_any (s : ByteArray) (g cp : Nat) (w : World) (h40 : s.size ≤ 40) (hcp : s.size ≤ cp) (hg : g < w.heap.size) (hc : ∀ j (hj : j < s.size), w.cell? ⟨g, j, none⟩ = some (.int .u8 s[j].toNat)) :
    Calls Tryd.prog 47 #[.slice (some ⟨g, 0, none⟩) s.size cp] w fun e w' => ∃ (v : Value) (P : List (Nat × Nat)), e = .returned v ∧ w'.ownsRow w.heap.size 53 1 v P.length (P.map (sv g)) ∧ Below w.heap.size w w' ∧ P.map ln = rnL s s.size ∧ P.length ≤ 40 ∧ ∀ p ∈ P, p.1 < p.2 ∧ p.2 ≤ s.size := by
  obtain ⟨i0, hi, hz0, hz1, hz2⟩ := info_parts Tryd.infoB
  have HI := Lib.hid hi
  have HZ0 := Lib.hid hz0
  have HZ1 := Lib.hid hz1
  have HZ2 := Lib.hid hz2
  have HC := Lib.hid hc
  clear hi hz0 hz1 hz2 hc
  go_enter Tryd.func47, Tryd.ntmps47
  go_wp2
  go_loopw [3, 4, 5] (fun v x y wr => ∃ (P : List (Nat × Nat)) (f t : Nat), x = .int .i64 f ∧ y = .int .i64 t ∧ Hid (RcAt s P f t) ∧ Hid (wr.ownsRow w.heap.size 53 1 v P.length (P.map (sv g))) ∧ Below w.heap.size w wr) (fun _ _ y _ => s.size + 1 - (intOf y).toNat)
  case atStart => exact ⟨[], 0, 1, rfl, rfl, Lib.hid (RcAt.start s), Lib.hid (World.ownsRow_nil _ _ _ _), Below.refl _ _⟩
  case round =>
    obtain ⟨P, f, t, rfl, rfl, HR, hO, hB⟩ := hrel
    obtain ⟨h1, h2, h3, h4, h5, h6⟩ := HR.out
    by_cases hle : t ≤ s.size
    · obtain ⟨a1, _, _⟩ := h5 hle
      have HB := Lib.hid hB
      clear h4 h5 h6 hB
      have i1 : (0 : Int) ≤ (f : Int) := by omega
      have i2 : (f : Int) ≤ (t : Int) := by omega
      have i3 : (t : Int) ≤ (cp : Int) := by omega
      have i5 : (0 : Int) ≤ (t : Int) := by omega
      have i6 : (f : Int) < (s.size : Int) := by omega
      have H3 : P.length + 1 ≤ maxLen := by unfold maxLen; omega
      have H4 : (P.length + 1) * 24 ≤ 140737488355328 := by omega
      by_cases he : t = s.size
      · have HCUT := Lib.hid (HR.out.cut hle (.inl he))
        have hq : ((t : Int) == (s.size : Int)) = true := by rw [he]; simp
        clear he
        go_wp2
        go_region
        obtain ⟨wq, hwq⟩ : ∃ wq : World, wq = wr.drew := ⟨_, rfl⟩
        rw [← hwq]
        have HOq : Hid (wq.ownsRow w.heap.size 53 1 u3 P.length (P.map (sv g))) := Lib.hid (by rw [hwq]; exact own_below hO.out (Below.drew (Below.refl _ _)))
        have hBq : Below w.heap.size w wq := by rw [hwq]; exact Below.drew HB.out
        have hBs := hBq.size
        have HBq := Lib.hid hBq
        clear hwq hO HB hBq
        go_wp2_with (first | (at_builtin; refine wpList_append_own _ rfl _ _ 57 rfl w.heap.size 53 i0 (.slice none 0 0) 1 24 Tryd.underlying57 HI.out HZ0.out HZ1.out HZ2.out rfl (by decide) _ _ _ rfl (HOq.out.alloc _) ⟨wq.heap.size, 0, none⟩ 1 1 [sv g (f, t)] rfl rfl (cell_one_at _ _ _) (fun u hu => by simp at hu; subst hu; rfl) H3 H4 (by simp; omega) ?_; intro v' w3 hown' hgrow _; have HO3 := Lib.hid hown'; have HB3 := Lib.hid ((HBq.out.alloc HBq.out.size (Obj.cells #[sv g (f, t)] 53)).grown hgrow (by simp; omega) (fun q hq => (HOq.out.lt q hq).1)); clear hown' hgrow))
        go_roundw
        case rel =>
          refine ⟨P ++ [(f, t)], t, t + 1, rfl, by go_num, HCUT, Lib.hid ?_, HB3.out⟩
          rw [List.length_append, List.map_append]
          exact HO3.out
        case measure => simp [intOf]; omega
      · have hlt : t < s.size := by omega
        have hq : ((t : Int) == (s.size : Int)) = false := by simp; omega
        have i4 : (t : Int) < (s.size : Int) := by omega
        have ct : wr.cell? ⟨g, t, none⟩ = some (.int .u8 s[t].toNat) := (HB.out.cell (p := ⟨g, t, none⟩) hg).trans (HC.out t hlt)
        have cf : wr.cell? ⟨g, f, none⟩ = some (.int .u8 (s[f]'(by omega)).toNat) := (HB.out.cell (p := ⟨g, f, none⟩) hg).trans (HC.out f (by omega))
        by_cases hd : (byt s).getD t 0 = (byt s).getD f 0
        · have HMORE := Lib.hid (HR.out.more hlt hd)
          have hb : ((s[t].toNat : Int) != ((s[f]'(by omega)).toNat : Int)) = false := by
            rw [byt_at s t hlt, byt_at s f (by omega)] at hd
            rw [hd]
            simp
          generalize s[t] = x at ct hb
          generalize s[f]'(by omega) = z at cf hb
          clear hd he
          go_wp2
          go_region
          go_wp2
          go_roundw
          case rel => exact ⟨P, f, t + 1, rfl, by go_num, HMORE, Lib.hid (own_below hO.out (Below.drew (Below.refl _ _))), Below.drew HB.out⟩
          case measure => simp [intOf]; omega
        · have HCUT := Lib.hid (HR.out.cut hle (.inr hd))
          have hb : ((s[t].toNat : Int) != ((s[f]'(by omega)).toNat : Int)) = true := by
            rw [byt_at s t hlt, byt_at s f (by omega)] at hd
            simp only [bne_iff_ne]
            exact fun e => hd ((u8_int _ _).1 e)
          generalize s[t] = x at ct hb
          generalize s[f]'(by omega) = z at cf hb
          clear hd he
          go_wp2
          go_region
          obtain ⟨wq, hwq⟩ : ∃ wq : World, wq = wr.drew := ⟨_, rfl⟩
          rw [← hwq]
          have HOq : Hid (wq.ownsRow w.heap.size 53 1 u3 P.length (P.map (sv g))) := Lib.hid (by rw [hwq]; exact own_below hO.out (Below.drew (Below.refl _ _)))
          have hBq : Below w.heap.size w wq := by rw [hwq]; exact Below.drew HB.out
          have hBs := hBq.size
          have HBq := Lib.hid hBq
          clear hwq hO HB hBq
          go_wp2_with (first | (at_builtin; refine wpList_append_own _ rfl _ _ 57 rfl w.heap.size 53 i0 (.slice none 0 0) 1 24 Tryd.underlying57 HI.out HZ0.out HZ1.out HZ2.out rfl (by decide) _ _ _ rfl (HOq.out.alloc _) ⟨wq.heap.size, 0, none⟩ 1 1 [sv g (f, t)] rfl rfl (cell_one_at _ _ _) (fun u hu => by simp at hu; subst hu; rfl) H3 H4 (by simp; omega) ?_; intro v' w3 hown' hgrow _; have HO3 := Lib.hid hown'; have HB3 := Lib.hid ((HBq.out.alloc HBq.out.size (Obj.cells #[sv g (f, t)] 53)).grown hgrow (by simp; omega) (fun q hq => (HOq.out.lt q hq).1)); clear hown' hgrow))
          go_roundw
          case rel =>
            refine ⟨P ++ [(f, t)], t, t + 1, rfl, by go_num, HCUT, Lib.hid ?_, HB3.out⟩
            rw [List.length_append, List.map_append]
            exact HO3.out
          case measure => simp [intOf]; omega
    · have ht : t = s.size + 1 := by omega
      have hq := Lib.hid (h6 ht)
      have h4q := Lib.hid h4
      clear h5 h6 h4
      go_wp2
      go_ret
      exact ⟨_, P, rfl, hO.out, hB, hq.out, by omega, h4q.out⟩

theorem row_low {w : World} {b b' : Nat} {e : TypeId} {size n : Nat} {v : Value} {xs : List Value} (h : w.ownsRow b e size v n xs) (hb : b' ≤ b) : w.ownsRow b' e size v n xs := by
  refine ⟨h.1, ?_⟩
  rcases h.2 with h0 | ⟨g, cap, cur, hv, hg, rest⟩
  · exact .inl h0
  · exact .inr ⟨g, cap, cur, hv, by omega, rest⟩
/-- A row of one cell each, opened. -/
theorem row_open {w : World} {base n : Nat} {e : TypeId} {v : Value} {xs : List Value} (h : w.ownsRow base e 1 v n xs) (hx : xs.length = n) : ∃ A cap, v = .slice A n cap ∧ ∀ k (hk : k < xs.length), ∃ g, A = some ⟨g, 0, none⟩ ∧ g < w.heap.size ∧ w.cell? ⟨g, k, none⟩ = some xs[k] := by
  rcases h.2 with ⟨hv, h0⟩ | ⟨g, cap, cur, rfl, hg, hh, hn, hm, _⟩
  · have h2 : n = 0 := by have h4 := h.1; omega
    exact ⟨none, 0, by rw [hv, h2], fun k hk => by omega⟩
  · refine ⟨_, cap, rfl, fun k hk => ⟨g, rfl, (Array.getElem?_eq_some_iff.1 hh).1, ?_⟩⟩
    exact (h.cellAt k (by omega)).trans (List.getElem?_eq_getElem hk)

set_option maxRecDepth 100000 in
set_option maxHeartbeats 2000000 in
theorem runs_any (s : ByteArray) (w : World) (hs : s.size ≤ maxLen) :
    Calls Tryd.prog 28 #[.string s] w (RnPost (if wordB s then rnL s s.size else []) (wordB s) w) := by
  cases hc : wordB s
  · have hC := Lib.hid hc
    clear hc
    rw [if_neg (by decide)]
    go_enter Tryd.func28, Tryd.ntmps28
    go_wp2_with fail
    refine (isWord_any s _ hs).mono ?_; rintro e w1 ⟨rfl, hb1⟩; rw [hC.out]
    go_wp2
    go_ret2
    exact ⟨_, rfl, World.ownsRow_nil _ _ _ _, hb1⟩
  · have hC := Lib.hid hc
    obtain ⟨h40, _⟩ := (wordB_iff s).1 hc
    clear hc
    rw [if_pos rfl]
    obtain ⟨i0, hi, hz0, hz1, hz2⟩ := info_parts Tryd.infoN
    have HI := Lib.hid hi
    have HZ0 := Lib.hid hz0
    have HZ1 := Lib.hid hz1
    have HZ2 := Lib.hid hz2
    clear hi hz0 hz1 hz2
    go_enter Tryd.func28, Tryd.ntmps28
    go_wp2_with fail
    refine (isWord_any s _ hs).mono ?_; rintro e w1 ⟨rfl, hb1⟩; rw [hC.out]
    obtain ⟨cap, W2, hconv, hcap, hcs, hB2, hz2⟩ := to_bytes_cap s w1
    have HCS := Lib.hid hcs
    have HB2 := Lib.hid (hb1.trans (hB2.mono hb1.size))
    clear hcs hb1 hB2
    go_wp2_with fail
    refine (runsOf_any s w1.heap.size cap _ h40 hcap hz2 HCS.out).mono ?_
    rintro e w3 ⟨v, P, rfl, ho3, hb3, hP, hPl, hPp⟩
    obtain ⟨A, cv, rfl, hrow⟩ := row_open ho3 (by rw [List.length_map])
    have HROW := Lib.hid hrow
    have HB3 := Lib.hid (HB2.out.trans (hb3.mono HB2.out.size))
    have HP := Lib.hid hP
    have HPP := Lib.hid hPp
    clear ho3 hb3 hrow hP hPp HCS HB2 hconv
    go_wp2
    go_loopw [4, 6, 14] (fun v _ i wr => ∃ k : Nat, k ≤ P.length ∧ i = .int .i64 k ∧ Hid (wr.ownsRow w3.heap.size 3 1 v ((P.take k).map ln).length (itx ((P.take k).map ln))) ∧ Below w3.heap.size w3 wr) (fun _ _ i _ => P.length - (intOf i).toNat)
    case atStart => exact ⟨0, Nat.zero_le _, rfl, Lib.hid (World.ownsRow_nil _ _ _ _), Below.refl _ _⟩
    case round =>
      obtain ⟨k, hk, rfl, hO, hB⟩ := hrel
      by_cases hlt : k < P.length
      · obtain ⟨g, rfl, hg, c0⟩ := HROW.out k (by rw [List.length_map]; exact hlt)
        have hkl : ((P.take k).map ln).length = k := by rw [List.length_map, List.length_take]; omega
        have hNX : Hid ((P.take (k + 1)).map ln = (P.take k).map ln ++ [ln P[k]]) := Lib.hid (by rw [List.take_succ_eq_append_getElem hlt, List.map_append]; rfl)
        obtain ⟨p1, p2⟩ := HPP.out P[k] (List.getElem_mem _)
        rw [List.getElem_map] at c0
        have c1 := (hB.cell (p := ⟨g, k, none⟩) hg).trans c0
        have hln : Hid (ln P[k] = ((P[k].2 - P[k].1 : Nat) : Int)) := Lib.hid (by unfold ln; omega)
        generalize P[k] = p at c1 hNX p1 p2 hln
        obtain ⟨x, y⟩ := p
        have c2 : wr.cell? ⟨g, k, none⟩ = some (.slice (some ⟨w1.heap.size, x, none⟩) (y - x) (y - x)) := c1
        have hwz : w3.heap.size ≤ wr.heap.size := hB.size
        rw [hkl] at hO
        have H3 : k + 1 ≤ maxLen := by unfold maxLen; omega
        have H4 : (k + 1) * 8 ≤ 140737488355328 := by omega
        have i1 : (0 : Int) ≤ (k : Int) := by omega
        have i2 : (k : Int) < (P.length : Int) := by omega
        have HBr := Lib.hid hB
        clear c0 c1 hB
        go_wp2_with (first | (at_builtin; refine wpList_append_own _ rfl _ _ 35 rfl w3.heap.size 3 i0 (.int .i64 0) 1 8 Tryd.underlying35 HI.out HZ0.out HZ1.out HZ2.out rfl (by decide) _ _ _ rfl (hO.out.alloc _) ⟨wr.heap.size, 0, none⟩ 1 1 [.int .i64 ((y - x : Nat) : Int)] rfl rfl (cell_one_at _ _ _) (fun u hu => by simp at hu; subst hu; rfl) H3 H4 (by simp; omega) ?_; intro v' w4 hown' hgrow _; have HO4 := Lib.hid hown'; have HG4 := Lib.hid hgrow; clear hown' hgrow))
        go_roundw
        case rel =>
          refine ⟨k + 1, by omega, by go_num, Lib.hid ?_, ?_⟩
          · rw [hNX.out, itx_app, List.length_append, hkl]
            have e : itx [ln (x, y)] = [Value.int .i64 ((y - x : Nat) : Int)] := by rw [hln.out]; rfl
            rw [e]
            exact HO4.out
          · exact (HBr.out.alloc HBr.out.size (Obj.cells #[Value.int .i64 ((y - x : Nat) : Int)] 3)).grown HG4.out (by simp; omega) (fun q hq => (hO.out.lt q hq).1)
        case measure => simp [intOf]; omega
      · obtain rfl : k = P.length := by omega
        rw [List.take_length, HP.out] at hO
        go_wp2
        go_ret2
        exact ⟨_, rfl, row_low hO.out HB3.out.size, HB3.out.trans (hB.mono HB3.out.size)⟩
end Go.Proofs.YtoefeooldcbfiaaDoor
