/- Contracts: the line with a rank, the program's. -/
import Derived.Test.YtdcbjbmnkajjcaaMany
import Derived.Test.YtdcbjbmnkajjcaaMoves
namespace Go.Proofs.Ytdcbjbmnkajjcaa
open Go.RowKit

def rowB (l : List UInt8) (m : Nat) : List Value := u8s l ++ List.replicate m (.int .u8 0)
theorem rowB_at (l : List UInt8) (m k : Nat) (h : l.length = k) (hm : 0 < m) : (rowB l m)[k]? = some (.int .u8 0) := by
  unfold rowB
  rw [List.getElem?_append_right (by rw [u8s_len]; omega), u8s_len, h, Nat.sub_self]
  simp [hm]
theorem rowB_set (l : List UInt8) (m k : Nat) (c : UInt8) (h : l.length = k) (hm : 0 < m) : (rowB l m).set k (.int .u8 c.toNat) = rowB (l ++ [c]) (m - 1) := by
  unfold rowB
  obtain ⟨j, rfl⟩ : ∃ j, m = j + 1 := ⟨m - 1, by omega⟩
  rw [List.set_append_right _ _ (by rw [u8s_len]; omega), u8s_len, h, Nat.sub_self, List.replicate_succ]
  simp [u8s]

/-- The state of the reckoning: what is left, in one block; the signs so far, in another. -/
structure St (w wr : World) (bl bs n : Nat) (g f t : Int) (cells : List Value) : Prop where
  left : LeftAt wr bl g f t
  own : wr.ownsRow bs 5 1 (.slice (some ⟨bs, 0, none⟩) n n) n cells
  bel : Below w.heap.size w wr
  h1 : bl < bs
  h2 : w.heap.size ≤ bl
theorem St.below {w wr w' : World} {bl bs n : Nat} {g f t : Int} {cells : List Value} (h : St w wr bl bs n g f t cells) (hb : Below wr.heap.size wr w') : St w w' bl bs n g f t cells :=
  ⟨h.left.below hb, own_below h.own hb, h.bel.trans (hb.mono h.bel.size), h.h1, h.h2⟩
theorem St.sign {w wr : World} {bl bs n : Nat} {g f t : Int} {cells : List Value} (h : St w wr bl bs n g f t cells) (k : Nat) (v : Value) : St w (wr.setCell ⟨bs, k, none⟩ v) bl bs n g f t (cells.set k v) := by
  obtain ⟨hz, c0, c1, c2, f0, f1, f2⟩ := h.left
  have ne : ∀ j, (⟨bl, j, none⟩ : Addr) ≠ ⟨bs, k, none⟩ := fun j e => by injection e with e _; have := h.h1; omega
  have far : ∀ j, (wr.setCell ⟨bs, k, none⟩ v).cell? ⟨bl, j, none⟩ = wr.cell? ⟨bl, j, none⟩ := fun j => World.cell?_setCell_other _ _ _ _ (by first | exact ne j | exact (ne j).symm)
  exact ⟨⟨by simpa using hz, (far 0).trans c0, (far 1).trans c1, (far 2).trans c2, by simpa using f0, by simpa using f1, by simpa using f2⟩, (h.own.stored k v).1, h.bel.setCell (by have := h.h1; have := h.h2; show _ ≤ bs; omega) _, h.h1, h.h2⟩
theorem own_far {w : World} {base b j : Nat} {e : TypeId} {size n : Nat} {v u : Value} {xs : List Value} (h : w.ownsRow base e size v n xs) (hb : b < base) : (w.setCell ⟨b, j, none⟩ u).ownsRow base e size v n xs :=
  ownsRow_setCell_below h hb u
theorem St.lefts {w wr : World} {bl bs n : Nat} {g f t : Int} {cells : List Value} (h : St w wr bl bs n g f t cells) (g' f' t' : Int) :
    St w (((wr.setCell ⟨bl, 0, none⟩ (.int .i64 g')).setCell ⟨bl, 1, none⟩ (.int .i64 f')).setCell ⟨bl, 2, none⟩ (.int .i64 t')) bl bs n g' f' t' cells := by
  obtain ⟨hz, c0, c1, c2, f0, f1, f2⟩ := h.left
  exact ⟨left_set hz c0 c1 c2 f0 f1 f2 _ _ _, own_far (own_far (own_far h.own h.h1) h.h1) h.h1, ((h.bel.setCell h.h2 _).setCell h.h2 _).setCell h.h2 _, h.h1, h.h2⟩

set_option maxRecDepth 100000 in
set_option maxHeartbeats 1500000 in
theorem unr_any (t g f r : Int) (w : World) :
    Calls Try.prog 51 #[.int .i64 t, .int .i64 g, .int .i64 f, .int .i64 r] w fun e w' => e = .returned (strOr (three t g f && inR r 0 (manyI t g f - 1)) (unr (t + g + f).toNat t g f r)) ∧ Below w.heap.size w w' := by
  cases hc : three t g f
  · have hR := Lib.hid (intOr_no (three t g f) (manyI t g f) hc)
    clear hc
    go_enter Try.func51, Try.ntmps51
    go_wp2_with fail
    refine (countLines_any _ _ _ _).mono ?_
    rintro e w1 ⟨rfl, hb1⟩
    rw [hR.out]
    go_wp2
    go_ret2
    exact ⟨rfl, hb1⟩
  · have hR := Lib.hid (intOr_yes (three t g f) (manyI t g f) hc)
    obtain ⟨⟨ht0, _⟩, ⟨hg0, _⟩, ⟨hf0, _⟩, h1, h12⟩ := (three_iff t g f).1 hc
    have hm := manyI_le t g f (by omega)
    obtain ⟨_, _⟩ := hm
    clear hc
    cases hr : inR r 0 (manyI t g f - 1)
    · have hr0 : r < 0 ∨ manyI t g f ≤ r := by
        have h : ¬ (0 ≤ r ∧ r ≤ manyI t g f - 1) := by intro h; simp [inR] at hr; omega
        omega
      clear hr
      rcases hr0 with hr0 | hr0
      · go_enter Try.func51, Try.ntmps51
        go_wp2_with fail
        refine (countLines_any _ _ _ _).mono ?_
        rintro e w1 ⟨rfl, hb1⟩
        rw [hR.out]
        go_wp2
        go_ret2
        exact ⟨rfl, hb1⟩
      · have hn : ¬ r < 0 := by omega
        go_enter Try.func51, Try.ntmps51
        go_wp2_with fail
        refine (countLines_any _ _ _ _).mono ?_
        rintro e w1 ⟨rfl, hb1⟩
        rw [hR.out]
        go_wp2
        go_ret2
        exact ⟨rfl, hb1⟩
    · have hr0 : 0 ≤ r ∧ r < manyI t g f := by simp [inR] at hr; omega
      clear hr
      obtain ⟨hr0, hr1⟩ := hr0
      have hr2 : ¬ r < 0 := by omega
      have hr3 : ¬ manyI t g f ≤ r := by omega
      obtain ⟨n0, hn0⟩ : ∃ n0 : Nat, (t + g + f) = (n0 : Int) := ⟨(t + g + f).toNat, by omega⟩
      have hn0' : Hid ((t + g + f).toNat = n0) := by show _ = _; omega
      have hn12 : n0 ≤ 12 := by omega
      have HN0 := Lib.hid hn0
      obtain ⟨i0, hi, hz0, hz1, hz2⟩ := info_parts Try.info5
      have hbytes : i0.bytes * n0 ≤ 281474976710656 := by rw [hz2]; omega
      have hmx : n0 ≤ maxLen := by unfold maxLen; omega
      have HI := Lib.hid hi
      have HZ0 := Lib.hid hz0
      have HZ1 := Lib.hid hz1
      clear hi hz0 hz1 hz2 hn0
      go_enter Try.func51, Try.ntmps51
      go_wp2_with fail
      refine (countLines_any _ _ _ _).mono ?_
      rintro e w1 ⟨rfl, hb1⟩
      rw [hR.out]
      go_wp2_with (at_make; refine wpList_make_full _ rfl (.tmp 42) (.tmp 42) 69 rfl (w1.heap.size + 1) 5 i0 (.int .u8 0) 1 Try.underlying69 HI.out HZ0.out HZ1.out .i64 .i64 (t + g + f) (t + g + f) n0 rfl rfl HN0.out HN0.out hbytes hmx (by simp) ?_; intro w2 hown hgrow)
      have hst0 : St w w2 w1.heap.size (w1.heap.size + 1) n0 g f t (rowB [] n0) := by
        have hsz : (w1.alloc (ctB g f t)).heap.size = w1.heap.size + 1 := by simp
        have hb : Below (w1.alloc (ctB g f t)).heap.size (w1.alloc (ctB g f t)) w2 := (Below.refl _ _).grown hgrow (Nat.le_refl _) (by simp)
        have e : (madeCells (Value.int .u8 0).cells (n0 * 1)).toList = rowB [] n0 := by
          rw [Nat.mul_one, made_one (.int .u8 0) rfl n0]; simp [rowB, u8s]
        rw [e] at hown
        refine ⟨(left_new w1 g f t).below hb, by simpa [hsz] using hown, (hb1.alloc hb1.size _).trans (hb.mono (by rw [hsz]; have := hb1.size; omega)), by omega, hb1.size⟩
      have hslice : Hid ((w1.alloc (ctB g f t)).heap.size = w1.heap.size + 1) := by show _ = _; simp
      have HST := Lib.hid hst0
      clear hown hgrow hst0 hb1 HI HZ0 HZ1 hbytes
      generalize w1.heap.size = bl at HST hslice
      go_loopw [3, 14, 15, 46] (fun a _ _ i wr => ∃ (k : Nat) (t' g' f' r' : Int) (l : List UInt8), k ≤ n0 ∧ i = .int .i64 k ∧ a = .int .i64 r' ∧ 0 ≤ t' ∧ 0 ≤ g' ∧ 0 ≤ f' ∧ t' + g' + f' = (n0 : Int) - k ∧ 0 ≤ r' ∧ r' < manyI t' g' f' ∧ l.length = k ∧ Hid (unr n0 t g f r = l ++ unr (n0 - k) t' g' f' r') ∧ St w wr bl (bl + 1) n0 g' f' t' (rowB l (n0 - k))) (fun _ _ _ i _ => n0 - (intOf i).toNat)
      case atStart => exact ⟨0, t, g, f, r, [], Nat.zero_le _, rfl, rfl, ht0, hg0, hf0, by have := HN0.out; omega, hr0, hr1, rfl, rfl, HST.out⟩
      case round =>
        clear HST
        obtain ⟨k, t', g', f', r', l, hk, rfl, rfl, q1, q2, q3, q4, q5, q6, hlen, hU, hst⟩ := hrel
        by_cases hlt : k < n0
        · obtain ⟨n, hn⟩ : ∃ n, n0 - k = n + 1 := ⟨n0 - k - 1, by omega⟩
          have hsum := many_sum t' g' f' q1 q2 q3 (by omega) (by omega)
          have hstep : Hid (unr (n + 1) t' g' f' r' = if r' < manyI t' (g' - 1) f' then 46 :: unr n t' (g' - 1) f' r' else if r' < manyI t' (g' - 1) f' + manyI t' g' (f' - 1) then 70 :: unr n t' g' (f' - 1) (r' - manyI t' (g' - 1) f') else 84 :: unr n (t' - 1) g' f' (r' - (manyI t' (g' - 1) f' + manyI t' g' (f' - 1)))) := rfl
          have m1 := manyI_le t' (g' - 1) f' (by omega)
          have m2 := manyI_le t' g' (f' - 1) (by omega)
          have m3 := manyI_le (t' - 1) g' f' (by omega)
          have m4 := manyI_le t' g' f' (by omega)
          have hr4 : r' ≤ 8916100448256 := by omega
          have p1 : 0 < manyI t' (g' - 1) f' → 0 ≤ t' ∧ 0 ≤ g' - 1 ∧ 0 ≤ f' := many_pos
          have p2 : 0 < manyI t' g' (f' - 1) → 0 ≤ t' ∧ 0 ≤ g' ∧ 0 ≤ f' - 1 := many_pos
          have p3 : 0 < manyI (t' - 1) g' f' → 0 ≤ t' - 1 ∧ 0 ≤ g' ∧ 0 ≤ f' := many_pos
          have HS := Lib.hid hsum
          have P1 := Lib.hid p1
          have P2 := Lib.hid p2
          have P3 := Lib.hid p3
          have HN := Lib.hid hn
          have Q4 := Lib.hid q4
          have q6' := Lib.hid q6
          have q4a : t' + g' + f' ≤ 12 := by omega
          obtain ⟨_, _⟩ := m1
          obtain ⟨_, _⟩ := m2
          obtain ⟨_, _⟩ := m3
          have c3 : r' - (manyI t' (g' - 1) f' + manyI t' g' (f' - 1)) < manyI (t' - 1) g' f' := by omega
          clear hsum p1 p2 p3 hn q6 m4 q4
          obtain ⟨wo, hwo⟩ : ∃ wo : World, wo = wr := ⟨_, rfl⟩
          subst hwo
          go_wp2
          go_loopw [3, 15] (fun a i wq => ∃ sg : Int, (sg = 0 ∨ sg = 1 ∨ sg = 2) ∧ i = .int .i64 sg ∧ a = .int .i64 (r' - partR t' g' f' sg) ∧ (0 < sg → partR t' g' f' sg ≤ r') ∧ St w wq bl (bl + 1) n0 g' f' t' (rowB l (n0 - k))) (fun _ i _ => (2 - intOf i).toNat)
          case atStart => exact ⟨0, .inl rfl, rfl, by simp [partR], by omega, hst⟩
          case round =>
            clear hst
            obtain ⟨sg, hsg, rfl, rfl, hge, hst⟩ := hrel
            obtain ⟨z0, a0, a1, a2, b0, b1, b2⟩ := hst.left
            have HH := Lib.hid hst
            clear hst
            rcases hsg with rfl | rfl | rfl
            · have e0 : partR t' g' f' 0 = 0 := by simp [partR]
              rw [e0, Int.sub_zero]
              clear e0 hge
              go_wp2_with fail
              refine (linesFrom_0 _ _ _ _ (by omega)).mono ?_
              rintro e w4 ⟨rfl, hb2⟩
              have hst := HH.out
              clear HH a0 a1 a2 b0 b1 b2
              by_cases c1 : r' < manyI t' (g' - 1) f'
              · have c1' : ¬ manyI t' (g' - 1) f' ≤ r' := by omega
                have hp := P1.out (by omega)
                have hU2 : Hid (unr n0 t g f r = (l ++ [46]) ++ unr (n0 - (k + 1)) (t') (g' - 1) (f') (r')) := by
                  show _ = _
                  rw [hU.out, HN.out, hstep.out, if_pos c1, show n0 - (k + 1) = n by have := HN.out; omega]; simp
                have hst2 := hst.below hb2
                clear hb2
                have hcl := (hst2.own.cellAt k (by omega)).trans (rowB_at l (n0 - k) k hlen (by omega))
                have hfr := hst2.own.frozenAt k
                have hst3 : St w (w4.setCell ⟨bl + 1, k, none⟩ (.int .u8 46)) bl (bl + 1) n0 g' f' t' (rowB (l ++ [46]) (n0 - (k + 1))) := by
                  have h := hst2.sign k (.int .u8 ((46 : UInt8).toNat : Int))
                  rw [rowB_set l (n0 - k) k 46 hlen (by omega), show n0 - k - 1 = n0 - (k + 1) by omega] at h
                  exact h
                obtain ⟨z0, a0, a1, a2, b0, b1, b2⟩ := hst3.left
                have HST := Lib.hid hst3
                have i1 : (0 : Int) ≤ (k : Int) := by omega
                have i2 : (k : Int) < (n0 : Int) := by omega
                have hsi : ∀ wx, (Instr.index 9 (.string ⟨#[46, 70, 84]⟩) (.int .i64 0)).run Try.prog wx = .ok (.int .u8 46) wx := fun _ => by kernel_rfl
                clear hst hst2 hst3
                go_wp2_with fail
                refine (without_0 _ _ _ _ (by omega)).mono ?_
                rintro e w5 ⟨rfl, hb5⟩
                have hst5 := HST.out.below hb5
                obtain ⟨z5, x0, x1, x2, y0, y1, y2⟩ := hst5.left
                have hst6 := Lib.hid (hst5.lefts (g' - 1) (f') (t'))
                clear hb5 hst5 HST a0 a1 a2 b0 b1 b2 hcl hfr
                go_wp2
                go_roundw
                case rel => exact ⟨k + 1, t', g' - 1, f', r', l ++ [46], by omega, by go_num, rfl, by omega, by omega, by omega, by have := Q4.out; omega, by omega, c1, by simp [hlen], hU2, hst6.out⟩
                case measure => simp [intOf]; omega
              · have c1' : manyI t' (g' - 1) f' ≤ r' := by omega
                have hpp := part_01 t' g' f'
                have HPP := Lib.hid hpp
                clear hpp
                have hst2 := hst.below hb2
                clear hb2 hst
                obtain ⟨z0, a0, a1, a2, b0, b1, b2⟩ := hst2.left
                have H2 := Lib.hid hst2
                clear hst2
                go_wp2_with fail
                refine (linesFrom_0 _ _ _ _ (by omega)).mono ?_
                rintro e w3 ⟨rfl, hb3⟩
                have hst3 := Lib.hid (H2.out.below hb3)
                clear hb3 H2 a0 a1 a2 b0 b1 b2
                go_wp2
                go_roundw
                case rel => exact ⟨1, by omega, rfl, by rw [part_01], fun _ => by rw [part_01]; omega, hst3.out⟩
                case measure => simp [intOf]; try omega
            · have e0 := part_01 t' g' f'
              rw [e0] at hge ⊢
              clear e0
              have hge := hge (by omega)
              have c1 : ¬ r' < manyI t' (g' - 1) f' := by omega
              go_wp2_with fail
              refine (linesFrom_1 _ _ _ _ (by omega)).mono ?_
              rintro e w4 ⟨rfl, hb2⟩
              have hst := HH.out
              clear HH a0 a1 a2 b0 b1 b2
              by_cases c2 : r' < manyI t' (g' - 1) f' + manyI t' g' (f' - 1)
              · have c2' : ¬ manyI t' g' (f' - 1) ≤ r' - manyI t' (g' - 1) f' := by omega
                have hp := P2.out (by omega)
                have hU2 : Hid (unr n0 t g f r = (l ++ [70]) ++ unr (n0 - (k + 1)) (t') (g') (f' - 1) (r' - manyI t' (g' - 1) f')) := by
                  show _ = _
                  rw [hU.out, HN.out, hstep.out, if_neg (show ¬ r' < manyI t' (g' - 1) f' by omega), if_pos c2, show n0 - (k + 1) = n by have := HN.out; omega]; simp
                have hst2 := hst.below hb2
                clear hb2
                have hcl := (hst2.own.cellAt k (by omega)).trans (rowB_at l (n0 - k) k hlen (by omega))
                have hfr := hst2.own.frozenAt k
                have hst3 : St w (w4.setCell ⟨bl + 1, k, none⟩ (.int .u8 70)) bl (bl + 1) n0 g' f' t' (rowB (l ++ [70]) (n0 - (k + 1))) := by
                  have h := hst2.sign k (.int .u8 ((70 : UInt8).toNat : Int))
                  rw [rowB_set l (n0 - k) k 70 hlen (by omega), show n0 - k - 1 = n0 - (k + 1) by omega] at h
                  exact h
                obtain ⟨z0, a0, a1, a2, b0, b1, b2⟩ := hst3.left
                have HST := Lib.hid hst3
                have i1 : (0 : Int) ≤ (k : Int) := by omega
                have i2 : (k : Int) < (n0 : Int) := by omega
                have hsi : ∀ wx, (Instr.index 9 (.string ⟨#[46, 70, 84]⟩) (.int .i64 1)).run Try.prog wx = .ok (.int .u8 70) wx := fun _ => by kernel_rfl
                clear hst hst2 hst3
                go_wp2_with fail
                refine (without_1 _ _ _ _ (by omega)).mono ?_
                rintro e w5 ⟨rfl, hb5⟩
                have hst5 := HST.out.below hb5
                obtain ⟨z5, x0, x1, x2, y0, y1, y2⟩ := hst5.left
                have hst6 := Lib.hid (hst5.lefts (g') (f' - 1) (t'))
                clear hb5 hst5 HST a0 a1 a2 b0 b1 b2 hcl hfr
                go_wp2
                go_roundw
                case rel => exact ⟨k + 1, t', g', f' - 1, r' - manyI t' (g' - 1) f', l ++ [70], by omega, by go_num, rfl, by omega, by omega, by omega, by have := Q4.out; omega, by omega, by omega, by simp [hlen], hU2, hst6.out⟩
                case measure => simp [intOf]; omega
              · have c2' : manyI t' g' (f' - 1) ≤ r' - manyI t' (g' - 1) f' := by omega
                have hst2 := hst.below hb2
                clear hb2 hst
                obtain ⟨z0, a0, a1, a2, b0, b1, b2⟩ := hst2.left
                have H2 := Lib.hid hst2
                clear hst2
                go_wp2_with fail
                refine (linesFrom_1 _ _ _ _ (by omega)).mono ?_
                rintro e w3 ⟨rfl, hb3⟩
                have hst3 := Lib.hid (H2.out.below hb3)
                clear hb3 H2 a0 a1 a2 b0 b1 b2
                go_wp2
                go_roundw
                case rel => exact ⟨2, by omega, rfl, by rw [part_12, Int.sub_sub], fun _ => by rw [part_12]; omega, hst3.out⟩
                case measure => simp [intOf]; try omega
            · have e0 := part_12 t' g' f'
              rw [e0] at hge ⊢
              clear e0
              have hge := hge (by omega)
              have c1 : ¬ r' < manyI t' (g' - 1) f' := by omega
              have c2 : ¬ r' < manyI t' (g' - 1) f' + manyI t' g' (f' - 1) := by omega
              have c3' : ¬ manyI (t' - 1) g' f' ≤ r' - (manyI t' (g' - 1) f' + manyI t' g' (f' - 1)) := by omega
              go_wp2_with fail
              refine (linesFrom_2 _ _ _ _ (by omega)).mono ?_
              rintro e w4 ⟨rfl, hb2⟩
              have hst := HH.out
              clear HH a0 a1 a2 b0 b1 b2
              have hp := P3.out (by have := HS.out; have := q6'.out; omega)
              have hU2 : Hid (unr n0 t g f r = (l ++ [84]) ++ unr (n0 - (k + 1)) (t' - 1) (g') (f') (r' - (manyI t' (g' - 1) f' + manyI t' g' (f' - 1)))) := by
                show _ = _
                rw [hU.out, HN.out, hstep.out, if_neg (show ¬ r' < manyI t' (g' - 1) f' by omega), if_neg (show ¬ r' < manyI t' (g' - 1) f' + manyI t' g' (f' - 1) by omega), show n0 - (k + 1) = n by have := HN.out; omega]; simp
              have hst2 := hst.below hb2
              clear hb2
              have hcl := (hst2.own.cellAt k (by omega)).trans (rowB_at l (n0 - k) k hlen (by omega))
              have hfr := hst2.own.frozenAt k
              have hst3 : St w (w4.setCell ⟨bl + 1, k, none⟩ (.int .u8 84)) bl (bl + 1) n0 g' f' t' (rowB (l ++ [84]) (n0 - (k + 1))) := by
                have h := hst2.sign k (.int .u8 ((84 : UInt8).toNat : Int))
                rw [rowB_set l (n0 - k) k 84 hlen (by omega), show n0 - k - 1 = n0 - (k + 1) by omega] at h
                exact h
              obtain ⟨z0, a0, a1, a2, b0, b1, b2⟩ := hst3.left
              have HST := Lib.hid hst3
              have i1 : (0 : Int) ≤ (k : Int) := by omega
              have i2 : (k : Int) < (n0 : Int) := by omega
              have hsi : ∀ wx, (Instr.index 9 (.string ⟨#[46, 70, 84]⟩) (.int .i64 2)).run Try.prog wx = .ok (.int .u8 84) wx := fun _ => by kernel_rfl
              clear hst hst2 hst3
              go_wp2_with fail
              refine (without_2 _ _ _ _ (by omega)).mono ?_
              rintro e w5 ⟨rfl, hb5⟩
              have hst5 := HST.out.below hb5
              obtain ⟨z5, x0, x1, x2, y0, y1, y2⟩ := hst5.left
              have hst6 := Lib.hid (hst5.lefts (g') (f') (t' - 1))
              clear hb5 hst5 HST a0 a1 a2 b0 b1 b2 hcl hfr
              go_wp2
              go_roundw
              case rel => exact ⟨k + 1, t' - 1, g', f', r' - (manyI t' (g' - 1) f' + manyI t' g' (f' - 1)), l ++ [84], by omega, by go_num, rfl, by omega, by omega, by omega, by have := Q4.out; omega, by omega, by have := HS.out; have := q6'.out; omega, by simp [hlen], hU2, hst6.out⟩
              case measure => simp [intOf]; omega
        · obtain rfl : k = n0 := by omega
          have hE : Hid (unr k t g f r = l) := by show _ = _; rw [hU.out, Nat.sub_self]; simp [unr]
          have hcv := run_convert_bytes_back (P := Try.prog) wr 69 9 5 ⟨bl + 1, 0, none⟩ k l Try.underlying69 Try.underlying5 Try.underlying9 (by
            intro j hj
            have := hst.own.cellAt j (by omega)
            rw [addr_add, this]
            simp [rowB, u8s, hj])
          rw [hlen] at hcv
          have hB := hst.bel
          clear hst
          go_wp2
          go_ret2
          exact ⟨by show _ = Ending.returned (.tuple #[.string (str (unr (t + g + f).toNat t g f r)), .bool true]); rw [hn0'.out, hE.out]; rfl, hB⟩
end Go.Proofs.Ytdcbjbmnkajjcaa
