/- FirstPlay: which moves it makes, and what is known of the lines that are reached (parts of BefM, FpA, At, Rch, FpB: a lighter closure). -/
import Derived.Test.YtflpncdnneapmaaBef
import Derived.Test.YtflpncdnneapmaaBndB
import Derived.Test.YtflpncdnneapmaaLayW
import Derived.Test.YtflpncdnneapmaaMany
namespace Go.Proofs.Ytflpncdnneapmaa
open Go.RowKit Go.Maps


/-- One move leads on, told by the signs that it changes. -/
def Mv (u x : List UInt8) : Prop := ∃ p r, (u = p ++ 84 :: 46 :: r ∧ x = p ++ 46 :: 84 :: r) ∨ (u = p ++ 84 :: 70 :: 46 :: r ∧ x = p ++ 46 :: 70 :: 84 :: r) ∨
  (u = p ++ 46 :: 70 :: r ∧ x = p ++ 70 :: 46 :: r) ∨ (u = p ++ 46 :: 84 :: 70 :: r ∧ x = p ++ 70 :: 84 :: 46 :: r)
theorem Mv.rev {u x : List UInt8} (h : Mv u x) : Mv x.reverse u.reverse := by
  obtain ⟨p, r, h⟩ := h
  refine ⟨r.reverse, p.reverse, ?_⟩
  rcases h with ⟨rfl, rfl⟩ | ⟨rfl, rfl⟩ | ⟨rfl, rfl⟩ | ⟨rfl, rfl⟩
  · exact .inl ⟨by simp, by simp⟩
  · exact .inr (.inl ⟨by simp, by simp⟩)
  · exact .inr (.inr (.inl ⟨by simp, by simp⟩))
  · exact .inr (.inr (.inr ⟨by simp, by simp⟩))
theorem Mv.of_can {u : List UInt8} {f t : Int} (h : canM (str u) f t = true) : Mv u (behind (str u) f t) := by
  obtain ⟨⟨f0, f1⟩, ⟨t0, t1⟩, h46, hh⟩ := (canM_iff _ _ _).1 h
  rw [str_size] at f1 t1
  obtain ⟨a, rfl⟩ := Int.eq_ofNat_of_zero_le f0
  obtain ⟨b, rfl⟩ := Int.eq_ofNat_of_zero_le t0
  have ha : a < u.length := by omega
  have hb : b < u.length := by omega
  have eb := sg_str hb rfl h46
  have put : behind (str u) (a : Int) (b : Int) = (u.set b (u.getD a 0)).set a 46 := by
    unfold behind putL
    rw [byt_str]; rfl
  rw [put]
  rcases hh with ⟨h84, hh⟩ | ⟨h70, hh⟩
  · have ea := sg_str ha rfl h84
    rcases hh with hh | ⟨hh, hm⟩
    · obtain rfl : b = a + 1 := by omega
      obtain ⟨p, r, rfl, hp⟩ := split2 hb ea eb
      subst hp
      exact ⟨p, r, .inl ⟨rfl, by simp [List.getD_eq_getElem?_getD]⟩⟩
    · obtain rfl : b = a + 2 := by omega
      have em := sg_str (k := a + 1) (by omega) (by omega) hm
      obtain ⟨p, r, rfl, hp⟩ := split3 hb ea em eb
      subst hp
      exact ⟨p, r, .inr (.inl ⟨rfl, by simp [List.getD_eq_getElem?_getD]⟩)⟩
  · have ea := sg_str ha rfl h70
    rcases hh with hh | ⟨hh, hm⟩
    · obtain rfl : a = b + 1 := by omega
      obtain ⟨p, r, rfl, hp⟩ := split2 ha eb ea
      subst hp
      exact ⟨p, r, .inr (.inr (.inl ⟨rfl, by simp [List.getD_eq_getElem?_getD]⟩))⟩
    · obtain rfl : a = b + 2 := by omega
      have em := sg_str (k := b + 1) (by omega) (by omega) hm
      obtain ⟨p, r, rfl, hp⟩ := split3 ha eb em ea
      subst hp
      exact ⟨p, r, .inr (.inr (.inr ⟨rfl, by simp [List.getD_eq_getElem?_getD]⟩))⟩
theorem sg_of {u : List UInt8} {k : Nat} {c : UInt8} (h : u[k]? = some c) : sgAt (str u) k = c := by
  obtain ⟨hk, e⟩ := List.getElem?_eq_some_iff.1 h
  rw [sgAt_in (str u) k (by rw [str_size]; exact hk)]
  exact e
theorem Mv.can {u x : List UInt8} (h : Mv u x) : ∃ f t : Int, canM (str u) f t = true ∧ x = behind (str u) f t := by
  obtain ⟨p, r, h⟩ := h
  rcases h with ⟨rfl, rfl⟩ | ⟨rfl, rfl⟩ | ⟨rfl, rfl⟩ | ⟨rfl, rfl⟩
  · refine ⟨(p.length : Nat), (p.length + 1 : Nat), (canM_iff _ _ _).2 ⟨?_, ?_, sg_of (by simp), .inl ⟨sg_of (by simp), .inl (by omega)⟩⟩, ?_⟩
    · rw [str_size]; simp; omega
    · rw [str_size]; simp; omega
    · show _ = putL _ p.length (p.length + 1)
      simp [putL, byt_str, List.getD_eq_getElem?_getD]
  · refine ⟨(p.length : Nat), (p.length + 2 : Nat), (canM_iff _ _ _).2 ⟨?_, ?_, sg_of (by simp), .inl ⟨sg_of (by simp), .inr ⟨by omega, ?_⟩⟩⟩, ?_⟩
    · rw [str_size]; simp; omega
    · rw [str_size]; simp; omega
    · exact sg_of (k := p.length + 1) (by simp)
    · show _ = putL _ p.length (p.length + 2)
      simp [putL, byt_str, List.getD_eq_getElem?_getD]
  · refine ⟨(p.length + 1 : Nat), (p.length : Nat), (canM_iff _ _ _).2 ⟨?_, ?_, sg_of (by simp), .inr ⟨sg_of (by simp), .inl (by omega)⟩⟩, ?_⟩
    · rw [str_size]; simp; omega
    · rw [str_size]; simp; omega
    · show _ = putL _ (p.length + 1) p.length
      simp [putL, byt_str, List.getD_eq_getElem?_getD]
  · refine ⟨(p.length + 2 : Nat), (p.length : Nat), (canM_iff _ _ _).2 ⟨?_, ?_, sg_of (by simp), .inr ⟨sg_of (by simp), .inr ⟨by omega, ?_⟩⟩⟩, ?_⟩
    · rw [str_size]; simp; omega
    · rw [str_size]; simp; omega
    · rw [show ((p.length + 2 : Nat) : Int) + -1 = ((p.length + 1 : Nat) : Int) by omega]
      exact sg_of (by simp)
    · show _ = putL _ (p.length + 2) p.length
      simp [putL, byt_str, List.getD_eq_getElem?_getD]
theorem nx_iff (u x : List UInt8) : x ∈ nxL u ↔ Mv u x := by
  constructor
  · intro h
    obtain ⟨m, hc, rfl⟩ := mem_nxL h
    exact Mv.of_can hc
  · intro h
    obtain ⟨f, t, hc, rfl⟩ := h.can
    exact List.mem_map.2 ⟨(f, t), (mem_moves _ _ _).2 hc, rfl⟩
theorem nx_rev (u x : List UInt8) : x ∈ nxL u ↔ u.reverse ∈ nxL x.reverse := by
  rw [nx_iff, nx_iff]
  constructor
  · exact Mv.rev
  · intro h
    have := h.rev
    rwa [List.reverse_reverse, List.reverse_reverse] at this

/-- A line is reached from another. -/
def Rt (u v : List UInt8) : Prop := ∃ k, v ∈ lay nxL u k
theorem lay_trans {u x : List UInt8} (hx : x ∈ nxL u) : ∀ k v, v ∈ lay nxL x k → v ∈ lay nxL u (k + 1)
  | 0, v, h => by
    have : v = x := by simpa [lay] using h
    subst this
    exact (mem_lay_next 0 v).2 ⟨u, by simp [lay], hx⟩
  | k + 1, v, h => by
    obtain ⟨y, hy, hv⟩ := (mem_lay_next k v).1 h
    exact (mem_lay_next (k + 1) v).2 ⟨y, lay_trans hx k y hy, hv⟩
theorem lay_first {u : List UInt8} : ∀ k v, v ∈ lay nxL u (k + 1) → ∃ x, x ∈ nxL u ∧ v ∈ lay nxL x k
  | 0, v, h => by
    obtain ⟨y, hy, hv⟩ := (mem_lay_next 0 v).1 h
    have : y = u := by simpa [lay] using hy
    subst this
    exact ⟨v, hv, by simp [lay]⟩
  | k + 1, v, h => by
    obtain ⟨y, hy, hv⟩ := (mem_lay_next (k + 1) v).1 h
    obtain ⟨x, hx, hk⟩ := lay_first k y hy
    exact ⟨x, hx, (mem_lay_next k v).2 ⟨y, hk, hv⟩⟩
/-- Told backwards, the play leads the other way. -/
theorem lay_rev (u : List UInt8) : ∀ k v, v ∈ lay nxL u k → u.reverse ∈ lay nxL v.reverse k
  | 0, v, h => by
    have : v = u := by simpa [lay] using h
    subst this
    simp [lay]
  | k + 1, v, h => by
    obtain ⟨y, hy, hv⟩ := (mem_lay_next k v).1 h
    exact lay_trans ((nx_rev y v).1 hv) k _ (lay_rev u k y hy)
theorem lay_rev_iff (u v : List UInt8) (k : Nat) : v ∈ lay nxL u k ↔ u.reverse ∈ lay nxL v.reverse k := by
  constructor
  · exact lay_rev u k v
  · intro h
    have := lay_rev _ k _ h
    rwa [List.reverse_reverse, List.reverse_reverse] at this
theorem rt_rev (u v : List UInt8) : Rt u v ↔ ∃ k, u.reverse ∈ lay nxL v.reverse k := by
  constructor
  · rintro ⟨k, h⟩; exact ⟨k, (lay_rev_iff u v k).1 h⟩
  · rintro ⟨k, h⟩; exact ⟨k, (lay_rev_iff u v k).2 h⟩
theorem rt_dep {u v : List UInt8} {d : Nat} (hd : IsDep nxL u d) : Rt u v ↔ ∃ k, k < d ∧ v ∈ lay nxL u k := by
  constructor
  · rintro ⟨k, h⟩
    by_cases hk : k < d
    · exact ⟨k, hk, h⟩
    · rw [lay_nil hd.2.1 k (by omega)] at h
      cases h
  · rintro ⟨k, _, h⟩; exact ⟨k, h⟩
theorem rt_self (u : List UInt8) : Rt u u := ⟨0, by simp [lay]⟩
/-- From a line that is not yet there, some move leads on. -/
theorem rt_step {u v : List UInt8} (h : Rt u v) (hne : u ≠ v) : ∃ x ∈ nxL u, Rt x v := by
  obtain ⟨k, h⟩ := h
  match k with
  | 0 =>
    have : v = u := by simpa [lay] using h
    exact absurd this.symm hne
  | k + 1 =>
    obtain ⟨x, hx, hv⟩ := lay_first k v h
    exact ⟨x, hx, k, hv⟩
theorem rt_ms {n : Nat} {u v : List UInt8} (hg : goodT n u) (h : Rt u v) : goodT n v ∧ msL v ≤ msL u := by
  obtain ⟨k, h⟩ := h
  obtain ⟨a, b, _⟩ := lay_good (steps_line n) hg k v h
  exact ⟨a, by omega⟩
/-- The moves of a line, in order. -/
def mvL (u : List UInt8) : List (Int × Int) := mvsTo (canM (str u)) (str u) (str u).size
/-- The line behind a move. -/
def bh (u : List UInt8) (m : Int × Int) : List UInt8 := behind (str u) m.1 m.2
/-- A step of the first play: the first move that still leads to the line. -/
def FpStep (v u : List UInt8) (m : Int × Int) : Prop := ∃ i, ∃ h : i < (mvL u).length, (mvL u)[i] = m ∧ Rt (bh u m) v ∧ ∀ j (hj : j < i), ¬ Rt (bh u ((mvL u)[j]'(by omega))) v
/-- The first play's moves so far. -/
inductive Fp (v : List UInt8) : List UInt8 → List (Int × Int) → List UInt8 → Prop
  | start (u : List UInt8) : Fp v u [] u
  | next (w u : List UInt8) (l : List (Int × Int)) (m : Int × Int) : Fp v w l u → u ≠ v → FpStep v u m → Fp v w (l ++ [m]) (bh u m)
theorem FpStep.one {v u : List UInt8} {m m' : Int × Int} (h : FpStep v u m) (h' : FpStep v u m') : m = m' := by
  obtain ⟨i, hi, e, hr, hn⟩ := h
  obtain ⟨i', hi', e', hr', hn'⟩ := h'
  rcases Nat.lt_trichotomy i i' with hlt | rfl | hlt
  · exact absurd (by rw [e]; exact hr) (hn' i hlt)
  · rw [← e, ← e']
  · exact absurd (by rw [e']; exact hr') (hn i' hlt)
theorem Fp.ms {n : Nat} {v w u : List UInt8} {l : List (Int × Int)} (h : Fp v w l u) (hg : goodT n w) (hr : Rt w v) : goodT n u ∧ Rt u v ∧ msL u = msL w - l.length := by
  induction h with
  | start => exact ⟨hg, hr, by simp⟩
  | next u l m _ _ hs ih =>
    obtain ⟨i, hi, rfl, hR, _⟩ := hs
    have hx : bh u (mvL u)[i] ∈ nxL u := List.mem_map.2 ⟨_, List.getElem_mem hi, rfl⟩
    have h1 := (steps_line n).one u _ ih.1 hx
    refine ⟨(steps_line n).keeps u _ ih.1 hx, hR, ?_⟩
    rw [h1, ih.2.2, List.length_append]
    simp
    omega
/-- Two first plays of one length are one. -/
theorem Fp.same_len {v w u u' : List UInt8} {l l' : List (Int × Int)} (h : Fp v w l u) (h' : Fp v w l' u') (e : l.length = l'.length) : l = l' ∧ u = u' := by
  induction h generalizing l' u' with
  | start =>
    cases h' with
    | start => exact ⟨rfl, rfl⟩
    | next => simp at e
  | next u l m hp hne hs ih =>
    cases h' with
    | start => simp at e
    | next u2 l2 m2 hp2 hne2 hs2 =>
      obtain ⟨e1, e2⟩ := ih hp2 (by simpa using e)
      subst e1 e2
      obtain rfl := hs.one hs2
      exact ⟨rfl, rfl⟩
/-- There is one first play that ends at the line. -/
theorem Fp.one {n : Nat} {v w : List UInt8} {l l' : List (Int × Int)} (hg : goodT n w) (hr : Rt w v) (h : Fp v w l v) (h' : Fp v w l' v) : l = l' := by
  have h1 := (h.ms hg hr).2.2
  have h2 := (h'.ms hg hr).2.2
  exact (h.same_len h' (by omega)).1
theorem Try.zeroA (w : World) : (zeroValue 58).run Try.prog w = .ok (.agg #[.int .i64 0, .int .i64 0]) w := by kernel_rfl
/-- What is known of the arrival at a line. -/
def AtV (wl vt : List UInt8) (d : Nat) (a b : Int) : Prop :=
  (∀ k, k < d → vt ∈ lay nxL wl k → a = k ∧ b = wr (pc nxL wl k vt)) ∧ ((∀ k, k < d → vt ∉ lay nxL wl k) → a = 0 ∧ b = 0)


/-- The layer in which a line lies, or -1. -/
def AfV (wl vt : List UInt8) (d : Nat) (a : Int) : Prop := (∃ k : Nat, k < d ∧ vt ∈ lay nxL wl k ∧ a = k) ∨ ((∀ k, k < d → vt ∉ lay nxL wl k) ∧ a = -1)
/-- What an arrival says, the plays counted well. -/
theorem at_cases {wl vt : List UInt8} {d : Nat} {a b : Int} (hr : reachB (str wl) = true) (h : AtV wl vt d a b) :
    (∃ k m : Nat, k < d ∧ vt ∈ lay nxL wl k ∧ a = k ∧ b = m ∧ 1 ≤ m ∧ m < 9223372036854775808) ∨ ((∀ k, k < d → vt ∉ lay nxL wl k) ∧ a = 0 ∧ b = 0) := by
  by_cases hx : ∃ k, k < d ∧ vt ∈ lay nxL wl k
  · obtain ⟨k, hk, hv⟩ := hx
    obtain ⟨h1, h2⟩ := h.1 k hk hv
    exact .inl ⟨k, pc nxL wl k vt, hk, hv, h1, by rw [h2, wr_pc (reach_good hr)], pc_pos k vt hv, pc_small (reach_good hr) k⟩
  · have hno : ∀ k, k < d → vt ∉ lay nxL wl k := fun k hk hv => hx ⟨k, hk, hv⟩
    obtain ⟨h1, h2⟩ := h.2 hno
    exact .inr ⟨hno, h1, h2⟩

set_option maxRecDepth 100000 in
set_option maxHeartbeats 4000000 in
theorem reAfter_any (n d : Nat) (wl vt : List UInt8) (w : World) (hg : goodT n wl) (hd : IsDep nxL wl d) (hd2 : d ≤ 60000) :
    Calls Try.prog 27 #[.string (str wl), .string (str vt)] w fun e w' => ∃ a : Int, e = .returned (.int .i64 a) ∧ AfV wl vt d a ∧ Below w.heap.size w w' := by
  have HG := Lib.hid hg
  have HD := Lib.hid hd
  clear hg hd
  go_enter Try.func27, Try.ntmps27
  go_wp2_with fail
  refine (reLayers_any _ d wl _ HG.out HD.out hd2).mono ?_
  rintro e w1 ⟨v1, rfl, ⟨g, c, vs, rfl, hgl, hn, hvl, hat, hcell⟩, hb1⟩
  have HAT := Lib.hid hat
  have HCE := Lib.hid hcell
  have HB1 := Lib.hid hb1
  clear hat hcell hb1
  go_wp2
  go_loop [12] (fun t => ∃ k : Nat, k ≤ d ∧ t = .int .i64 k ∧ Hid (∀ j, j < k → vt ∉ lay nxL wl j)) (fun t => d - (intOf t).toNat)
  case atStart => exact ⟨0, Nat.zero_le _, rfl, Lib.hid fun j hj => by omega⟩
  case round =>
    obtain ⟨k, hk, rfl, HN⟩ := hrel
    by_cases hlt : k < d
    · have hck := HCE.out k (by omega)
      have hst := HAT.out k (by omega)
      obtain ⟨g2, c2, e2, hc2, hc2m, hg2, hs2⟩ := ok_form hst (HD.out.2.2 k hlt)
      rw [e2] at hck
      have hlenL : (lay nxL wl k).length ≤ 59049 := few_good (rising_nodup (lay_rising k)) fun v hv => (lay_good (steps_line _) HG.out k v hv).1
      have HSX := Lib.hid hs2
      clear hst hs2 e2
      obtain ⟨L, hL⟩ : ∃ L, lay nxL wl k = L := ⟨_, rfl⟩
      have HL := Lib.hid hL
      rw [hL] at hck HSX hlenL hc2
      clear hL
      go_wp2
      go_loop [19] (fun t => ∃ i : Nat, i ≤ L.length ∧ t = .int .i64 i ∧ Hid (∀ v, v ∈ L.take i → v ≠ vt)) (fun t => L.length - (intOf t).toNat)
      case atStart => exact ⟨0, Nat.zero_le _, rfl, Lib.hid fun v hv => by simp at hv⟩
      case round =>
        obtain ⟨i, hi, rfl, HT⟩ := hrel
        by_cases hlti : i < L.length
        · have hcs := HSX.out i hlti
          have HS := Lib.hid (same_str L[i] vt)
          have HTK := Lib.hid (List.take_succ_eq_append_getElem hlti)
          have HIN := Lib.hid (List.getElem_mem hlti)
          generalize L[i] = x at hcs HS HTK HIN
          by_cases he : x = vt
          · have hb : ((str x).toList == (str vt).toList) = true := by rw [HS.out]; simp [he]
            go_wp2
            go_ret
            exact ⟨k, rfl, .inl ⟨k, hlt, by rw [HL.out, ← he]; exact HIN.out, rfl⟩, HB1.out⟩
          · have hb : ((str x).toList == (str vt).toList) = false := by rw [HS.out]; simp [he]
            go_wp2
            go_round
            case rel => exact ⟨i + 1, by omega, by go_num, Lib.hid fun v hv => by
              rw [HTK.out, List.mem_append] at hv
              rcases hv with hv | hv
              · exact HT.out v hv
              · obtain rfl : v = x := by simpa using hv
                exact he⟩
            case measure => simp [intOf]; omega
        · obtain rfl : i = L.length := by omega
          go_wp2
          go_round
          case rel =>
            refine ⟨k + 1, by omega, by go_num, Lib.hid fun j hj hv => ?_⟩
            by_cases e : j = k
            · subst e
              rw [HL.out] at hv
              exact HT.out vt (by rw [List.take_length]; exact hv) rfl
            · exact HN.out j (by omega) hv
          case measure => simp [intOf]; omega
    · obtain rfl : k = d := by omega
      go_wp2
      go_ret
      exact ⟨-1, rfl, .inr ⟨HN.out, rfl⟩, HB1.out⟩


theorem Fp.lay {v w u : List UInt8} {l : List (Int × Int)} (h : Fp v w l u) : u ∈ lay nxL w l.length := by
  induction h with
  | start => simp [Ytflpncdnneapmaa.lay]
  | next u l m _ _ hs ih =>
    obtain ⟨i, hi, rfl, _, _⟩ := hs
    rw [List.length_append]
    exact (mem_lay_next _ _).2 ⟨u, ih, List.mem_map.2 ⟨_, List.getElem_mem hi, rfl⟩⟩
theorem Fp.few {n : Nat} {v w u : List UInt8} {l : List (Int × Int)} (h : Fp v w l u) (hg : goodT n w) : l.length ≤ 50000 := by
  obtain ⟨h1, _, h3⟩ := lay_good (steps_line n) hg _ _ h.lay
  have h4 := (steps_line n).pos u h1
  have h5 := wayL_le hg
  omega
/-- How far a line is from another, by the moves left. -/
def msV (vt : List UInt8) : Value → Nat
  | .string s => (msL (byt s) - msL vt).toNat
  | _ => 0
theorem rt_less {n : Nat} {u x v : List UInt8} (hg : goodT n u) (hx : x ∈ nxL u) (h : Rt x v) : msV v (.string (str x)) < msV v (.string (str u)) := by
  have h1 := (steps_line n).one u x hg hx
  have h2 := (rt_ms ((steps_line n).keeps u x hg hx) h).2
  show (msL (byt (str x)) - msL v).toNat < (msL (byt (str u)) - msL v).toNat
  rw [byt_str, byt_str]
  omega
/-- The model's test of a line: whether it leads on. -/
theorem after_rt {n : Nat} (x vt : List UInt8) (hg : goodT n x) (hn : n ≤ 10) (w : World) :
    Calls Try.prog 27 #[.string (str x), .string (str vt)] w fun e w' => ∃ a : Int, e = .returned (.int .i64 a) ∧ ((Rt x vt ∧ 0 ≤ a) ∨ (¬ Rt x vt ∧ a = -1)) ∧ Below w.heap.size w w' := by
  have hr : reachB (str x) = true := by
    unfold reachB
    rw [hg.1, Bool.true_and, decide_eq_true_iff, str_size, hg.2.1]
    exact hn
  obtain ⟨d, hd, hd2⟩ := dep_of hr
  refine (reAfter_any n d x vt w hg hd hd2).mono ?_
  rintro e w' ⟨a, rfl, h, hb⟩
  refine ⟨a, rfl, ?_, hb⟩
  rcases h with ⟨k, _, hk, rfl⟩ | ⟨hno, rfl⟩
  · exact .inl ⟨⟨k, hk⟩, by omega⟩
  · refine .inr ⟨fun h => ?_, rfl⟩
    obtain ⟨k, h1, h2⟩ := (rt_dep hd).1 h
    exact hno k h1 h2

/-- The moves of a line, and what is known of them. -/
theorem fp_moves {n : Nat} (ut vt : List UInt8) (hg : goodT n ut) : ∃ M : List (Int × Int), (∀ wx, Calls Try.prog 28 #[.string (str ut), .bool true, .bool true] wx (SpPost wx M)) ∧ M.length ≤ 12 ∧
    (∀ j (h : j < M.length), ∃ a b : Nat, M[j].1 = a ∧ M[j].2 = b ∧ M[j] = ((a : Int), (b : Int)) ∧ a < (str ut).size ∧ b < (str ut).size ∧ a ≠ b ∧ bh ut M[j] = putL (str ut) a b ∧ putL (str ut) a b ∈ nxL ut) ∧
    (∀ x ∈ nxL ut, ∃ j, ∃ h : j < M.length, x = bh ut M[j]) ∧
    (∀ i (h : i < M.length), Rt (bh ut M[i]) vt → (∀ j (h : j < M.length), j < i → ¬ Rt (bh ut M[j]) vt) → FpStep vt ut M[i]) := by
  refine ⟨mvL ut, fun wx => ?_, ?_, fun j h => ?_, fun x hx => ?_, fun i h h1 h2 => ⟨i, h, rfl, h1, fun j hj => h2 j (by omega) hj⟩⟩
  · have := liMoves_all (str ut) wx hg.1
    rwa [kinds_can] at this
  · have h1 := mvsTo_le (canM (str ut)) (str ut) (str ut).size
    have h2 := ((goodL_iff _).1 hg.1).2.1
    show (mvsTo (canM (str ut)) (str ut) (str ut).size).length ≤ 12
    omega
  · obtain ⟨a, b, e1, e2, ha, hb, hne, h2, e3⟩ := nx_move hg j h
    refine ⟨a, b, e1, e2, Prod.ext e1 e2, ha, hb, hne, ?_, by rw [← e3]; exact List.getElem_mem h2⟩
    rw [← e3]
    simp only [nxL, List.getElem_map]
    rfl
  · obtain ⟨m, hm, rfl⟩ := List.mem_map.1 hx
    obtain ⟨j, hj, rfl⟩ := List.getElem_of_mem hm
    exact ⟨j, hj, rfl⟩
end Go.Proofs.Ytflpncdnneapmaa
