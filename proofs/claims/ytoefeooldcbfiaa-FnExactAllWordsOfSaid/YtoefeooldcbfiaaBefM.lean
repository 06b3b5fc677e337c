/- The lines from which one move leads to a line: moves told backwards. -/
import Derived.Test.YtoefeooldcbfiaaBef
import Derived.Test.YtoefeooldcbfiaaBndB
import Derived.Test.YtoefeooldcbfiaaOrd
namespace Go.Proofs.Ytoefeooldcbfiaa

/-- One move leads on, told by the signs that it changes. -/
def Mv (u x : List UInt8) : Prop := ∃ p r, (u = p ++ 84 :: 46 :: r ∧ x = p ++ 46 :: 84 :: r) ∨ (u = p ++ 84 :: 70 :: 46 :: r ∧ x = p ++ 46 :: 70 :: 84 :: r) ∨
  (u = p ++ 46 :: 70 :: r ∧ x = p ++ 70 :: 46 :: r) ∨ (u = p ++ 46 :: 84 :: 70 :: r ∧ x = p ++ 70 :: 84 :: 46 :: r)
theorem Mv.rev {u x : List UInt8} (h : Mv u x) : Mv x.reverse u.reverse := by
  obtain ⟨p, r, h⟩ := h
  refine ⟨r.reverse, p.reverse, ?_⟩
  rcases h with ⟨rfl, rfl⟩ | ⟨rfl, rfl⟩ | ⟨rfl, rfl⟩ | ⟨rfl, rfl⟩
  · exact .inl ⟨by simp, by simp⟩
  · exact .inr (.inl ⟨by simp, by simp⟩)
  · exact .inr (.inr (.inl ⟨by simp, by simp⟩))
  · exact .inr (.inr (.inr ⟨by simp, by simp⟩))
theorem Mv.of_can {u : List UInt8} {f t : Int} (h : canM (str u) f t = true) : Mv u (behind (str u) f t) := by
  obtain ⟨⟨f0, f1⟩, ⟨t0, t1⟩, h46, hh⟩ := (canM_iff _ _ _).1 h
  rw [str_size] at f1 t1
  obtain ⟨a, rfl⟩ := Int.eq_ofNat_of_zero_le f0
  obtain ⟨b, rfl⟩ := Int.eq_ofNat_of_zero_le t0
  have ha : a < u.length := by omega
  have hb : b < u.length := by omega
  have eb := sg_str hb rfl h46
  have put : behind (str u) (a : Int) (b : Int) = (u.set b (u.getD a 0)).set a 46 := by
    unfold behind putL
    rw [byt_str]; rfl
  rw [put]
  rcases hh with ⟨h84, hh⟩ | ⟨h70, hh⟩
  · have ea := sg_str ha rfl h84
    rcases hh with hh | ⟨hh, hm⟩
    · obtain rfl : b = a + 1 := by omega
      obtain ⟨p, r, rfl, hp⟩ := split2 hb ea eb
      subst hp
      exact ⟨p, r, .inl ⟨rfl, by simp [List.getD_eq_getElem?_getD]⟩⟩
    · obtain rfl : b = a + 2 := by omega
      have em := sg_str (k := a + 1) (by omega) (by omega) hm
      obtain ⟨p, r, rfl, hp⟩ := split3 hb ea em eb
      subst hp
      exact ⟨p, r, .inr (.inl ⟨rfl, by simp [List.getD_eq_getElem?_getD]⟩)⟩
  · have ea := sg_str ha rfl h70
    rcases hh with hh | ⟨hh, hm⟩
    · obtain rfl : a = b + 1 := by omega
      obtain ⟨p, r, rfl, hp⟩ := split2 ha eb ea
      subst hp
      exact ⟨p, r, .inr (.inr (.inl ⟨rfl, by simp [List.getD_eq_getElem?_getD]⟩))⟩
    · obtain rfl : a = b + 2 := by omega
      have em := sg_str (k := b + 1) (by omega) (by omega) hm
      obtain ⟨p, r, rfl, hp⟩ := split3 ha eb em ea
      subst hp
      exact ⟨p, r, .inr (.inr (.inr ⟨rfl, by simp [List.getD_eq_getElem?_getD]⟩))⟩
theorem sg_of {u : List UInt8} {k : Nat} {c : UInt8} (h : u[k]? = some c) : sgAt (str u) k = c := by
  obtain ⟨hk, e⟩ := List.getElem?_eq_some_iff.1 h
  rw [sgAt_in (str u) k (by rw [str_size]; exact hk)]
  exact e
theorem Mv.can {u x : List UInt8} (h : Mv u x) : ∃ f t : Int, canM (str u) f t = true ∧ x = behind (str u) f t := by
  obtain ⟨p, r, h⟩ := h
  rcases h with ⟨rfl, rfl⟩ | ⟨rfl, rfl⟩ | ⟨rfl, rfl⟩ | ⟨rfl, rfl⟩
  · refine ⟨(p.length : Nat), (p.length + 1 : Nat), (canM_iff _ _ _).2 ⟨?_, ?_, sg_of (by simp), .inl ⟨sg_of (by simp), .inl (by omega)⟩⟩, ?_⟩
    · rw [str_size]; simp; omega
    · rw [str_size]; simp; omega
    · show _ = putL _ p.length (p.length + 1)
      simp [putL, byt_str, List.getD_eq_getElem?_getD]
  · refine ⟨(p.length : Nat), (p.length + 2 : Nat), (canM_iff _ _ _).2 ⟨?_, ?_, sg_of (by simp), .inl ⟨sg_of (by simp), .inr ⟨by omega, ?_⟩⟩⟩, ?_⟩
    · rw [str_size]; simp; omega
    · rw [str_size]; simp; omega
    · exact sg_of (k := p.length + 1) (by simp)
    · show _ = putL _ p.length (p.length + 2)
      simp [putL, byt_str, List.getD_eq_getElem?_getD]
  · refine ⟨(p.length + 1 : Nat), (p.length : Nat), (canM_iff _ _ _).2 ⟨?_, ?_, sg_of (by simp), .inr ⟨sg_of (by simp), .inl (by omega)⟩⟩, ?_⟩
    · rw [str_size]; simp; omega
    · rw [str_size]; simp; omega
    · show _ = putL _ (p.length + 1) p.length
      simp [putL, byt_str, List.getD_eq_getElem?_getD]
  · refine ⟨(p.length + 2 : Nat), (p.length : Nat), (canM_iff _ _ _).2 ⟨?_, ?_, sg_of (by simp), .inr ⟨sg_of (by simp), .inr ⟨by omega, ?_⟩⟩⟩, ?_⟩
    · rw [str_size]; simp; omega
    · rw [str_size]; simp; omega
    · rw [show ((p.length + 2 : Nat) : Int) + -1 = ((p.length + 1 : Nat) : Int) by omega]
      exact sg_of (by simp)
    · show _ = putL _ (p.length + 2) p.length
      simp [putL, byt_str, List.getD_eq_getElem?_getD]
theorem nx_iff (u x : List UInt8) : x ∈ nxL u ↔ Mv u x := by
  constructor
  · intro h
    obtain ⟨m, hc, rfl⟩ := mem_nxL h
    exact Mv.of_can hc
  · intro h
    obtain ⟨f, t, hc, rfl⟩ := h.can
    exact List.mem_map.2 ⟨(f, t), (mem_moves _ _ _).2 hc, rfl⟩
theorem nx_rev (u x : List UInt8) : x ∈ nxL u ↔ u.reverse ∈ nxL x.reverse := by
  rw [nx_iff, nx_iff]
  constructor
  · exact Mv.rev
  · intro h
    have := h.rev
    rwa [List.reverse_reverse, List.reverse_reverse] at this
/-- A move taken back. -/
theorem put_back (s : ByteArray) (a b : Nat) (ha : a < s.size) (hb : b < s.size) (hne : a ≠ b) (h : sgAt s b = 46) : putL (str (putL s a b)) b a = byt s := by
  have hz : (str (putL s a b)).size = s.size := by rw [str_size, putL_len]
  have at1 : ∀ j (hj : j < s.size), (str (putL s a b))[j]'(by omega) = if j = a then 46 else if j = b then s[a] else s[j] := fun j hj => by
    have := putL_at s a b j ha hj
    rw [List.getElem?_eq_getElem (by rw [putL_len]; exact hj)] at this
    injection this
  rw [sgAt_in s b hb] at h
  apply List.ext_getElem?
  intro j
  by_cases hj : j < s.size
  · rw [putL_at _ b a j (by omega) (by omega), at1 b hb, at1 j hj]
    have e : (byt s)[j]? = some s[j] := by
      rw [List.getElem?_eq_getElem (by rw [byt_len]; exact hj)]; rfl
    rw [e]
    by_cases e1 : j = b
    · subst e1; rw [if_pos rfl, h]
    · rw [if_neg e1]
      by_cases e2 : j = a
      · subst e2
        rw [if_pos rfl, if_neg (Ne.symm hne), if_pos rfl]
      · rw [if_neg e2, if_neg e2, if_neg e1]
  · rw [List.getElem?_eq_none (by rw [putL_len]; omega), List.getElem?_eq_none (by rw [byt_len]; omega)]
theorem mem_up (s : ByteArray) (v : List UInt8) : v ∈ upB s s.size 0 ↔ ∃ a, a < s.size ∧ sgAt s a ≠ 46 ∧ ∃ i : Nat, i < 5 ∧ v ∈ bk s a ((a : Int) - 2 + i) := by
  unfold upB scanB
  rw [rowB_zero, List.append_nil, mem_insAll]
  constructor
  · rintro (h | h)
    · obtain ⟨a, ha, h⟩ := List.mem_flatMap.1 h
      have ha := List.mem_range.1 ha
      unfold rowB at h
      split at h
      · cases h
      · rename_i hs
        obtain ⟨i, hi, h⟩ := List.mem_flatMap.1 h
        exact ⟨a, ha, hs, i, List.mem_range.1 hi, h⟩
    · cases h
  · rintro ⟨a, ha, hs, i, hi, h⟩
    refine .inl (List.mem_flatMap.2 ⟨a, List.mem_range.2 ha, ?_⟩)
    unfold rowB
    rw [if_neg hs]
    exact List.mem_flatMap.2 ⟨i, List.mem_range.2 hi, h⟩
/-- What the model takes are the lines from which one move leads here. -/
theorem up_iff (l v : List UInt8) : v ∈ upB (str l) (str l).size 0 ↔ l ∈ nxL v := by
  rw [mem_up]
  constructor
  · rintro ⟨a, ha, hs, i, hi, h⟩
    unfold bk at h
    split at h
    · rename_i hc
      obtain ⟨b, hb, hbs, h46⟩ := lat_dot hc.1
      rw [hb] at hc h
      have hv : v = putL (str l) a b := by simpa using h
      subst hv
      have hne : a ≠ b := by rintro rfl; exact hs h46
      refine List.mem_map.2 ⟨((b : Int), (a : Int)), (mem_moves _ _ _).2 hc.2, ?_⟩
      show putL _ _ _ = _
      have := put_back (str l) a b ha hbs hne h46
      rw [byt_str] at this
      exact this
    · cases h
  · intro h
    obtain ⟨m, hc, hl⟩ := mem_nxL h
    obtain ⟨f, t⟩ := m
    obtain ⟨k1, k2⟩ := can_sg hc
    have hfar := canM_far hc
    obtain ⟨b, a, rfl, rfl, hb, ha, hne⟩ := canM_in hc
    have hl' : l = putL (str v) b a := hl
    have hbk := put_back (str v) b a hb ha hne k1
    rw [byt_str, ← hl'] at hbk
    have hz : (str l).size = (str v).size := by rw [hl', str_size, putL_len]
    have at1 := fun j hj => putL_at (str v) b a j hb hj
    have e1 : sgAt (str l) b = 46 := sg_of (by rw [hl', at1 b hb, if_pos rfl])
    have e2 : sgAt (str l) a = (str v)[b] := sg_of (by rw [hl', at1 a ha, if_neg (Ne.symm hne), if_pos rfl])
    have e3 : (str v)[b] ≠ 46 := by
      rw [← sgAt_in (str v) b hb]
      rcases k2 with k | k <;> rw [k] <;> decide
    obtain ⟨i, hi⟩ : ∃ i : Nat, (a : Int) - 2 + i = b := ⟨((b : Int) - a + 2).toNat, by omega⟩
    refine ⟨a, by omega, by rw [e2]; exact e3, i, by omega, ?_⟩
    rw [hi]
    unfold bk
    rw [if_pos]
    · exact List.mem_singleton.2 hbk.symm
    · refine ⟨by rw [lat_of (by omega)]; exact e1, ?_⟩
      show canM (str (putL (str l) a b)) b a = true
      rw [hbk]; exact hc
/-- The lines before a line, in order. -/
def befL (l : List UInt8) : List (List UInt8) := upB (str l) (str l).size 0
theorem rev_nodup {L : List (List UInt8)} (h : L.Nodup) : (L.map List.reverse).Nodup := by
  refine List.pairwise_map.2 (h.imp fun {a b} hab e => hab ?_)
  have := congrArg List.reverse e
  rwa [List.reverse_reverse, List.reverse_reverse] at this
theorem bef_sorted (l : List UInt8) : ((nxL l.reverse).map List.reverse).mergeSort (fun x y => decide (x ≤ y)) = befL l := by
  refine sorted_is (rev_nodup (nxL_nodup _)) (upB_rising _ _ _) fun v => ?_
  show _ ↔ v ∈ upB (str l) (str l).size 0
  rw [up_iff, nx_rev]
  constructor
  · intro h
    obtain ⟨x, hx, rfl⟩ := List.mem_map.1 h
    rwa [List.reverse_reverse]
  · intro h
    exact List.mem_map.2 ⟨_, h, List.reverse_reverse _⟩
end Go.Proofs.Ytoefeooldcbfiaa
