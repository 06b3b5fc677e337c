/- Toads that meet frogs on a ring: both sides, the law's walk. -/
import Derived.Test.YtfjjdelmfohaeaaCiL
import Derived.Test.YtfjjdelmfohaeaaCntW
import Derived.Lib.CountLaws
import Derived.Lib.IndexMore
import Derived.Test.YtfjjdelmfohaeaaItr
namespace Go.Proofs.Ytfjjdelmfohaeaa
open Go.RowKit

/-- A toad, and a frog in the next place. -/
def at2 (l : List UInt8) (k : Nat) : Nat := if l[k]? = some 84 ∧ l[k + 1]? = some 70 then 1 else 0
def prs (l : List UInt8) : Nat := sumTo (at2 l) l.length
theorem sumTo_front (φ : Nat → Nat) (m : Nat) : sumTo φ (m + 1) = φ 0 + sumTo (fun r => φ (r + 1)) m := by
  have h := sumTo_add φ 1 m
  rw [Nat.add_comm 1 m] at h
  rw [h]
  show (0 + φ 0) + _ = _
  rw [Nat.zero_add]
  congr 1
  exact sumTo_congr m fun r _ => by rw [Nat.add_comm]
theorem prs_cons (c : UInt8) (l : List UInt8) : prs (c :: l) = (if c = 84 ∧ l.head? = some 70 then 1 else 0) + prs l := by
  unfold prs
  rw [List.length_cons, sumTo_front]
  congr 1
  unfold at2
  cases l <;> simp
theorem occ_tf (l : List UInt8) : Lib.occAt l [84, 70] 0 = true ↔ ∃ r, l = 84 :: 70 :: r := by
  unfold Lib.occAt
  rw [List.drop_zero, List.isPrefixOf_iff_prefix]
  constructor
  · rintro ⟨r, h⟩; exact ⟨r, h.symm⟩
  · rintro ⟨r, h⟩; exact ⟨r, h.symm⟩
theorem occ_succ (c : UInt8) (l sub : List UInt8) (j : Nat) : Lib.occAt (c :: l) sub (j + 1) = Lib.occAt l sub j := rfl
theorem prs_skip (c : UInt8) (l : List UInt8) (h : Lib.occAt (c :: l) [84, 70] 0 = false) : prs (c :: l) = prs l := by
  rw [prs_cons, if_neg, Nat.zero_add]
  rintro ⟨rfl, h2⟩
  have : Lib.occAt (84 :: l) [84, 70] 0 = true := (occ_tf _).2 (by
    cases l with
    | nil => cases h2
    | cons d r => simp at h2; subst h2; exact ⟨r, rfl⟩)
  rw [this] at h; cases h
theorem prs_none : ∀ l : List UInt8, (∀ j, j ≤ l.length → Lib.occAt l [84, 70] j = false) → prs l = 0
  | [], _ => rfl
  | c :: l, h => by
    rw [prs_skip c l (h 0 (by omega))]
    exact prs_none l fun j hj => by rw [← occ_succ c]; exact h (j + 1) (by simp; omega)
theorem prs_at : ∀ (i : Nat) (l : List UInt8), i ≤ l.length → (∀ j, j < i → Lib.occAt l [84, 70] j = false) → prs l = prs (l.drop i)
  | 0, _, _, _ => rfl
  | i + 1, [], h, _ => by simp at h
  | i + 1, c :: l, h, hn => by
    rw [prs_skip c l (hn 0 (by omega))]
    exact prs_at i l (by simpa using h) fun j hj => by rw [← occ_succ c]; exact hn (j + 1) (by omega)
theorem prs_count (n : Nat) : ∀ l : List UInt8, l.length ≤ n → Lib.count l [84, 70] = prs l := by
  induction n with
  | zero =>
    intro l h
    obtain rfl : l = [] := List.eq_nil_of_length_eq_zero (by omega)
    rfl
  | succ n ih =>
    intro l h
    rcases Lib.index_spec l [84, 70] with ⟨e, hno⟩ | ⟨i, e, hi, ho, hno⟩
    · rw [Lib.count_miss e, prs_none l hno]
    · rw [Lib.count_hit (by simp) e, prs_at i l hi hno]
      have ho2 : Lib.occAt (l.drop i) [84, 70] 0 = true := by
        unfold Lib.occAt at ho ⊢
        rwa [List.drop_zero]
      obtain ⟨r, hr⟩ := (occ_tf _).1 ho2
      have hd : l.drop (i + 2) = r := by rw [← List.drop_drop, hr]; rfl
      have hlen : r.length + 2 + i ≤ l.length := by
        have := congrArg List.length hr
        rw [List.length_drop] at this
        simp at this
        omega
      show 1 + Lib.count (l.drop (i + 2)) [84, 70] = _
      rw [hd, ih r (by omega), hr, prs_cons, prs_cons]
      simp
theorem tmod_T2 (n a : Nat) : ((a : Int) + 1).tmod (n : Int) = ((nxT n a : Nat) : Int) := by
  rw [show (a : Int) + 1 = ((a + 1 : Nat) : Int) by omega]; rfl
/-- The model's count of the first cells. -/
def mtAt (s : ByteArray) (k : Nat) : Nat := if sgAt s k = 84 ∧ sgAt s (nxT s.size k) = 70 then 1 else 0
def meetN (s : ByteArray) : Nat := sumTo (mtAt s) s.size
theorem sg_get (s : ByteArray) (k : Nat) (h : k < s.size) : (byt s)[k]? = some (sgAt s k) := by
  rw [sgAt_in s k h, List.getElem?_eq_getElem (by rw [byt_len]; exact h)]
  rfl
theorem meet_prs (s : ByteArray) : prs (byt s ++ [sgAt s 0]) = meetN s := by
  have hb := byt_len s
  unfold prs meetN
  rw [List.length_append, hb]
  show sumTo _ s.size + at2 _ s.size = _
  have e0 : at2 (byt s ++ [sgAt s 0]) s.size = 0 := by
    unfold at2
    rw [if_neg]
    rintro ⟨_, h2⟩
    rw [List.getElem?_eq_none (by simp [hb])] at h2
    cases h2
  rw [e0, Nat.add_zero]
  refine sumTo_congr _ fun k hk => ?_
  unfold at2 mtAt
  have e1 : (byt s ++ [sgAt s 0])[k]? = some (sgAt s k) := by rw [List.getElem?_append_left (by omega)]; exact sg_get s k hk
  have e2 : (byt s ++ [sgAt s 0])[k + 1]? = some (sgAt s (nxT s.size k)) := by
    rw [nxT_val _ _ hk]
    by_cases h1 : k + 1 < s.size
    · rw [if_pos h1, List.getElem?_append_left (by omega)]; exact sg_get s (k + 1) h1
    · rw [if_neg h1, List.getElem?_append_right (by omega), hb, show k + 1 - s.size = 0 by omega]; rfl
  rw [e1, e2]
  simp

set_option maxHeartbeats 1000000 in
theorem meets_any (s : ByteArray) (w : World) (m : Int) (hm : w.cell? ⟨0, 0, none⟩ = some (.int .i64 m)) (hs : s.size ≤ maxLen) :
    Calls Try.prog 20 #[.string s] w fun e w' => e = .returned (intOr (ringB s) (meetN s)) ∧ w = w' := by
  cases hc : ringB s
  · have hC := Lib.hid hc
    clear hc
    go_enter Try.func20, Try.ntmps20
    go_wp2_with (go_at_call 10; refine (isRing_any _ _ hs).mono ?_; rintro e w' ⟨rfl, rfl⟩; rw [hC.out])
    go_ret2
    exact ⟨rfl, rfl⟩
  · have hC := Lib.hid hc
    obtain ⟨h3, h9⟩ := ring_sz hc
    have HP : Hid (Lib.countB (s ++ s.extract 0 1) ⟨#[84, 70]⟩ = meetN s) := Lib.hid (by
      have e : byt (s ++ s.extract 0 1) = byt s ++ [sgAt s 0] := by
        rw [byt_app, byt_extract]
        congr 1
        have := byt_len s
        have h0 := sg_get s 0 (by omega)
        cases hb : byt s with
        | nil => rw [hb] at h0; cases h0
        | cons c r => rw [hb] at h0; simp at h0; simp [h0]
      show Lib.count (byt (s ++ s.extract 0 1)) [84, 70] = _
      rw [e, prs_count _ _ (Nat.le_refl _)]
      exact meet_prs s)
    have hz : (s ++ s.extract 0 1).size < 4294967281 := by rw [ByteArray.size_append, ByteArray.size_extract]; omega
    have i1 : (1 : Int) ≤ (s.size : Int) := by omega
    have hz1 : (s.extract 0 1).size ≤ 1000 := by rw [ByteArray.size_extract]; omega
    clear hc
    go_enter Try.func20, Try.ntmps20
    go_wp2_with (go_at_call 10; refine (isRing_any _ _ hs).mono ?_; rintro e w' ⟨rfl, rfl⟩; rw [hC.out])
    refine (Try.strings_Count _ ⟨#[84, 70]⟩ m _ hz hm (by decide)).mono ?_
    rintro e w' ⟨rfl, rfl⟩
    rw [HP.out]
    go_wp2
    go_ret2
    exact ⟨rfl, rfl⟩

set_option maxHeartbeats 1000000 in
theorem sMeets_any (s : ByteArray) (w : World) (hs : s.size ≤ maxLen) :
    Calls Try.prog 19 #[.string s] w fun e w' => e = .returned (intOr (ringB s) (meetN s)) ∧ Below w.heap.size w w' := by
  cases hc : ringB s
  · have hC := Lib.hid hc
    clear hc
    go_enter Try.func19, Try.ntmps19
    go_wp2_with (go_at_call 21; refine (ciGood_any _ _ hs).mono ?_; rintro e w' ⟨rfl, rfl⟩; rw [hC.out])
    go_ret2
    exact ⟨rfl, Below.refl _ _⟩
  · have hC := Lib.hid hc
    obtain ⟨h3, h9⟩ := ring_sz hc
    have HASC := Lib.hid (good_asc (ring_good hc))
    have hnz : ((s.size : Int) == 0) = false := beq_eq_false_iff_ne.2 (by omega)
    clear hc
    go_enter Try.func19, Try.ntmps19
    go_wp2_with (go_at_call 21; refine (ciGood_any _ _ hs).mono ?_; rintro e w' ⟨rfl, rfl⟩; rw [hC.out])
    go_loopw [4, 5] (fun v _ wr => ∃ k n : Nat, k ≤ s.size ∧ n ≤ k ∧ wr.heap[w.heap.size]? = some (.stringIter s k) ∧ v = .int .i64 n ∧ Hid (n = sumTo (mtAt s) k) ∧ Below w.heap.size w wr) (fun _ _ wr => s.size - wr.iterPos w.heap.size)
    case atStart => exact ⟨0, 0, Nat.zero_le _, Nat.le_refl _, World.iter_heap w s 0, rfl, Lib.hid rfl, (Below.refl _ _).alloc (Nat.le_refl _) _⟩
    case round =>
      obtain ⟨k, n, hk, hnk, hit, rfl, HN, hB⟩ := hrel
      have hpos0 := iterPos_of hit
      by_cases hlt : k < s.size
      · have hasc := HASC.out k hlt
        have hnx : ∀ ty, (Instr.next (.pointer (some ⟨w.heap.size, 0, none⟩)) true ty).run Try.prog wr = _ := fun ty => Lib.run_next_ascii_at wr w.heap.size s k ty hit hlt hasc
        have hit2 := Lib.iterAt_heap wr w.heap.size s k (k + 1) hit
        have hB2 := Lib.below_iterAt hB (k := w.heap.size) (by omega) s (k + 1)
        obtain ⟨W1, hW1⟩ : ∃ W1, W1 = wr.iterAt w.heap.size s (k + 1) := ⟨_, rfl⟩
        rw [← hW1] at hnx hit2 hB2
        clear hW1 hit hB hasc
        have HIT := Lib.hid hit2
        clear hit2
        obtain ⟨b, hb, r1, HS2⟩ : ∃ (b : Nat) (hb : b < s.size), ((k : Int) + 1).tmod (s.size : Int) = (b : Int) ∧ Hid (sumTo (mtAt s) (k + 1) = sumTo (mtAt s) k + if s[k] = 84 ∧ s[b] = 70 then 1 else 0) :=
          ⟨nxT s.size k, nxT_lt (by omega), tmod_T2 s.size k, Lib.hid (by rw [← sgAt_in s k hlt, ← sgAt_in s _ (nxT_lt (by omega))]; rfl)⟩
        rcases is_or s[k] 84 84 rfl with ⟨e1, hv1⟩ | ⟨e1, hv1⟩
        · rcases is_or s[b] 70 70 rfl with ⟨e2, hv2⟩ | ⟨e2, hv2⟩
          · have HQ : Hid (n + 1 = sumTo (mtAt s) (k + 1)) := Lib.hid (by rw [HS2.out, if_pos ⟨e1, e2⟩, ← HN.out])
            clear e1 e2
            go_wp2
            go_roundw
            case rel => exact ⟨k + 1, n + 1, by omega, by omega, HIT.out, by go_num, HQ, hB2⟩
            case measure => rw [iterPos_of HIT.out, hpos0]; omega
          · have HQ : Hid (n = sumTo (mtAt s) (k + 1)) := Lib.hid (by rw [HS2.out, if_neg (fun h => e2 h.2), ← HN.out]; rfl)
            clear e1 e2
            go_wp2
            go_roundw
            case rel => exact ⟨k + 1, n, by omega, by omega, HIT.out, rfl, HQ, hB2⟩
            case measure => rw [iterPos_of HIT.out, hpos0]; omega
        · have HQ : Hid (n = sumTo (mtAt s) (k + 1)) := Lib.hid (by rw [HS2.out, if_neg (fun h => e1 h.1), ← HN.out]; rfl)
          clear e1
          go_wp2
          go_roundw
          case rel => exact ⟨k + 1, n, by omega, by omega, HIT.out, rfl, HQ, hB2⟩
          case measure => rw [iterPos_of HIT.out, hpos0]; omega
      · have hnx : ∀ ty, (Instr.next (.pointer (some ⟨w.heap.size, 0, none⟩)) true ty).run Try.prog wr = _ := fun ty => Lib.run_next_end_at wr w.heap.size s k ty hit hlt
        go_wp2
        go_ret2
        obtain rfl : k = s.size := by omega
        exact ⟨by rw [HN.out]; rfl, hB⟩

set_option maxRecDepth 100000 in
set_option maxHeartbeats 2000000 in
theorem walk_FnExactMeetsOfRing (s : ByteArray) (hs : s.size ≤ maxLen) (w : World) (m : Int) (hm : w.cell? ⟨0, 0, none⟩ = some (.int .i64 m)) :
    Calls Try.prog 8 #[.string s] w fun e w' => e = .returned (.bool true) ∧ Below w.heap.size w w' := by
  by_cases hbig : (1048576 : Int) < (s.size : Int)
  · go_enter Try.func8, Try.ntmps8
    go_wp2
    go_ret
    exact ⟨rfl, Below.refl _ _⟩
  · have HS := Lib.hid (fun wx => sMeets_any s wx hs)
    have HM := Lib.hid (fun wx (hx : wx.cell? ⟨0, 0, none⟩ = some (.int .i64 m)) => meets_any s wx m hx hs)
    obtain ⟨x, y, hxy⟩ := intOr_open (ringB s) (meetN s)
    rw [hxy] at HS HM
    clear hxy
    have hlt : 0 < w.heap.size := by
      rcases Nat.lt_or_ge 0 w.heap.size with h | h
      · exact h
      · exfalso
        unfold World.cell? at hm
        rw [Array.getElem?_eq_none h] at hm
        cases hm
    go_enter Try.func8, Try.ntmps8
    go_wp2_with fail
    refine (HS.out _).mono ?_
    rintro e w1 ⟨rfl, hb1⟩
    have hm1 := (hb1.cell (p := ⟨0, 0, none⟩) hlt).trans hm
    go_wp2_with fail
    refine (HM.out _ hm1).mono ?_
    rintro e w2 ⟨rfl, rfl⟩
    go_wp2
    go_ret
    exact ⟨rfl, hb1⟩
end Go.Proofs.Ytfjjdelmfohaeaa
