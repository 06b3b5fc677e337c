/- RingReached: the program's side. -/
import Derived.Test.YtdcbjbmnkajjcaaDoorRiA
import Derived.Test.YtdcbjbmnkajjcaaDoorCiW
import Derived.Test.YtdcbjbmnkajjcaaDoorSrts
import Derived.Maps.RangeWalk
import Derived.Sort.Walk0
import Derived.Sort.OwnSorted
namespace Go.Proofs.YtdcbjbmnkajjcaaDoor
open Go.RowKit Go.Shelf Go.Maps Go.Sort

theorem sorted_isR {ss l : List (List UInt8)} (hn : ss.Nodup) (hr : Rising l) (hm : ∀ v, v ∈ ss ↔ v ∈ l) : ss.mergeSort (fun x y => decide (x ≤ y)) = l := by
  have tr : ∀ a b c : List UInt8, decide (a ≤ b) = true → decide (b ≤ c) = true → decide (a ≤ c) = true := fun a b c h1 h2 => by simp only [decide_eq_true_eq] at *; exact List.le_trans h1 h2
  have tot : ∀ a b : List UInt8, (decide (a ≤ b) || decide (b ≤ a)) = true := fun a b => by simp only [Bool.or_eq_true, decide_eq_true_eq]; exact List.le_total a b
  have hs := List.pairwise_mergeSort tr tot ss
  have hp := List.mergeSort_perm ss (fun x y => decide (x ≤ y))
  have hn2 : (ss.mergeSort (fun x y => decide (x ≤ y))).Nodup := hp.nodup_iff.2 hn
  refine rising_ext ?_ hr fun v => (hp.mem_iff).trans (hm v)
  refine (hs.and hn2).imp fun {a b} h => ?_
  have h1 : a ≤ b := by simpa using h.1
  by_cases hlt : a < b
  · exact hlt
  · exact absurd (List.le_antisymm h1 (List.not_lt.1 hlt)) h.2
set_option maxHeartbeats 1000000 in
theorem sortRow_R (v : Value) (base : Nat) (ss : List (List UInt8)) (w : World) (hown : w.ownsRow base 9 1 v ss.length (txs ss)) (hbase : base ≤ w.heap.size) (hl : ss.length ≤ 60000) :
    Calls Tryd.prog 31 #[v] w fun e w' => e = .returned (.tuple #[]) ∧ w'.ownsRow base 9 1 v ss.length (txs (ss.mergeSort fun x y => decide (x ≤ y))) ∧ Below base w w' := by
  rcases hown with ⟨hlen, ⟨hv, h0⟩ | ⟨g, cap, cur, rfl, hg0, hg, hle, hm, hs, ht⟩⟩
  · have h2 : ss.length = 0 := by have h3 := txs_len ss; omega
    obtain rfl := List.eq_nil_of_length_eq_zero h2
    subst hv
    refine (AnyM.slices_Sort_string_none Tryd.sort31 none 0 w).mono ?_
    rintro e w' ⟨rfl, rfl⟩
    exact ⟨rfl, ⟨by simp [txs], .inl ⟨rfl, rfl⟩⟩, Below.refl _ _⟩
  · rw [Nat.mul_one] at ht
    refine (AnyM.slices_Sort_string Tryd.sort31 g 0 cap ss w (holds_of_block hg ht) (lt_of_block hg) (by omega)).mono ?_
    rintro e w' ⟨rfl, n, os, rfl⟩
    refine ⟨rfl, ownsRow_sorted (by rw [List.length_mergeSort]) hg0 hg hle hm hs, (Below.refl base w).grown (grownBy_sorted _) hbase fun i hi => ?_⟩
    injection hi with hi
    omega
theorem keyOf_arrR {P : Program} {k : TypeId} {n e} {v : Value} {kl : Lit} (hu : P.underlying k = some (.array n e)) (h : keyOf P k v = some kl) : ∃ x, kl = .string x := by
  unfold keyOf at h
  rw [hu] at h
  dsimp only at h
  by_cases hc : (P.keyType k && v.formed P k) = true
  · rw [if_pos hc] at h
    obtain ⟨x, _, hx⟩ := Option.map_eq_some_iff.1 h
    exact ⟨_, hx.symm⟩
  · rw [if_neg hc] at h
    cases h
theorem keyOf_r {v : Value} {kl : Lit} (h : keyOf Tryd.prog 46 v = some kl) : ∃ x, kl = .string x := keyOf_arrR Tryd.underlying46 h
theorem strike_eqR {a b : List UInt8} : (Lit.string a).sameKey (.string b) = decide (a = b) := by
  by_cases h : a = b <;> simp [Lit.sameKey, h]
/-- The texts: the first ring's and those of the others that have come. -/
def ssR (s : ByteArray) (vs : List ByteArray) : List (List UInt8) := byt s :: (vs.filter fun x => decide (x ≠ s)).map byt
theorem ssR_len (s : ByteArray) (vs : List ByteArray) : (ssR s vs).length ≤ vs.length + 1 := by
  have := List.length_filter_le (fun x => decide (x ≠ s)) vs
  unfold ssR
  rw [List.length_cons, List.length_map]
  omega
theorem ssR_same (s : ByteArray) (vs : List ByteArray) : ssR s (vs ++ [s]) = ssR s vs := by
  unfold ssR
  rw [List.filter_append, List.filter_cons_of_neg (by simp)]
  simp
theorem ssR_new {s x : ByteArray} (vs : List ByteArray) (h : x ≠ s) : ssR s (vs ++ [x]) = ssR s vs ++ [byt x] := by
  unfold ssR
  rw [List.filter_append, List.filter_cons_of_pos (by simpa using h)]
  simp
theorem ssR_sort {s : ByteArray} {L : List (EntP ByteArray)} {l : List (List UInt8)} (hB : BfP nxC s L (L.length + 1) 0) (hl : RrL s l) {vs : List ByteArray} (hn : vs.Nodup) (hm : ∀ x, x ∈ vs ↔ x ∈ kP L) : (ssR s vs).mergeSort (fun x y => decide (x ≤ y)) = l := by
  refine sorted_isR ?_ hl.1 fun v => ?_
  · unfold ssR
    refine List.nodup_cons.2 ⟨fun h => ?_, ?_⟩
    · obtain ⟨x, hx, e⟩ := List.mem_map.1 h
      have := (List.mem_filter.1 hx).2
      simp at this
      exact this (byt_inj e)
    · rw [List.Nodup, List.pairwise_map]
      exact List.Pairwise.imp (fun {a b} hne e => hne (byt_inj e)) (hn.sublist List.filter_sublist)
  · rw [hl.2 v]
    unfold ssR
    rw [List.mem_cons]
    constructor
    · rintro (rfl | h)
      · exact ⟨[], by rw [str_byt]; rfl⟩
      · obtain ⟨x, hx, rfl⟩ := List.mem_map.1 h
        have hx := (hm x).1 (List.mem_filter.1 hx).1
        obtain ⟨e, he, rfl⟩ := List.mem_map.1 hx
        exact ⟨e.2, by rw [str_byt]; exact hB.val e he⟩
    · rintro ⟨q, hq⟩
      by_cases hvs : str v = s
      · refine .inl ?_
        rw [← hvs, byt_str]
      · refine .inr (List.mem_map.2 ⟨str v, List.mem_filter.2 ⟨(hm _).2 ?_, by simpa using hvs⟩, by rw [byt_str]⟩)
        by_cases hk : str v ∈ kP L
        · exact hk
        · refine absurd hq (kept_none hB hk q fun e => ?_)
          rw [e] at hq
          have hq : some s = some (str v) := hq
          injection hq with hq
          exact hvs hq.symm
/-- Where the walk over the rings found stands. -/
structure RrV (w : World) (b1 bm r N : Nat) (D : DataW Unit) (cs : List Value) (L : List (EntP ByteArray)) (vs : List ByteArray) (left : Lit → Bool) (cnt : Nat) (W : World) : Prop where
  rng : W.ranges Tryd.prog 46 stR bm r N D left cnt
  nodup : vs.Nodup
  mem : ∀ x ∈ vs, x ∈ kP L
  lft : ∀ x ∈ kP L, x ∉ vs → left (.string (kbR (byt x))) = true
  lft2 : ∀ x ∈ kP L, left (.string (kbR (byt x))) = true → x ∉ vs
  box : W.rangeAt b1 0 cs
  bl : b1 < W.heap.size
  below : Below w.heap.size w W
/-- The texts' row. -/
def RrR (s : ByteArray) (g : Nat) (vs : List ByteArray) (v : Value) (W : World) : Prop := W.ownsRow g 9 1 v (ssR s vs).length (txs (ssR s vs))
section
variable {w W W' : World} {b1 bm r g N : Nat} {D : DataW Unit} {cs : List Value} {L : List (EntP ByteArray)} {x s : ByteArray} {vs : List ByteArray} {v v' : Value} {left : Lit → Bool} {cnt : Nat} {row : Option Nat}
theorem RrV.grown (h : RrV w b1 bm r N D cs L vs left cnt W) (hg : W.grownBy W' row) (h1 : some bm ≠ row) (h2 : some r ≠ row) (h3 : some b1 ≠ row) (h4 : ∀ j, row = some j → w.heap.size ≤ j) : RrV w b1 bm r N D cs L vs left cnt W' :=
  ⟨h.rng.kept hg h1 h2, h.nodup, h.mem, h.lft, h.lft2, rng_grown h.box hg h.bl h3, Nat.lt_of_lt_of_le h.bl hg.size, h.below.grown hg h.below.size h4⟩
theorem RrV.later (h : RrV w b1 bm r N D cs L vs left cnt W) (hb : Below W.heap.size W W') : RrV w b1 bm r N D cs L vs left cnt W' := h.grown (grown_of_below hb) (by simp) (by simp) (by simp) (fun j e => by cases e)
/-- A row of texts is neither a map nor a walk over one. -/
theorem row_rng {n : Nat} {xs : List Value} (h : W.ranges Tryd.prog 46 stR bm r N D left cnt) (ho : W.ownsRow g 9 1 v n xs) : some bm ≠ v.ownBlock ∧ some r ≠ v.ownBlock := by
  obtain ⟨es, clock, since, seen, c0, hb, _, _, _, hr, _⟩ := h
  rcases ho.2 with ⟨hv, _⟩ | ⟨k, cap, cur, hv, _, hk, _⟩
  · subst hv
    exact ⟨by simp [Value.ownBlock], by simp [Value.ownBlock]⟩
  · subst hv
    refine ⟨fun e => ?_, fun e => ?_⟩
    · injection e with e
      have e : bm = k := e
      subst e
      rw [hb] at hk
      cases hk
    · injection e with e
      have e : r = k := e
      subst e
      rw [hr] at hk
      cases hk
/-- A ring has come. -/
theorem RrV.come (h : RrV w b1 bm r N D cs L vs left cnt W) (hG : ∀ x ∈ kP L, ringB x = true) (hx : x ∈ kP L) (hn : x ∉ vs) {cnt2 : Nat} (hr : W'.ranges Tryd.prog 46 stR bm r N D (fun z => left z && !z.sameKey (.string (kbR (byt x)))) cnt2) (hg : W.grownBy W' (some r)) (hbr : b1 ≠ r) (hwr : w.heap.size ≤ r) :
    RrV w b1 bm r N D cs L (vs ++ [x]) (fun z => left z && !z.sameKey (.string (kbR (byt x)))) cnt2 W' := by
  refine ⟨hr, List.nodup_append.2 ⟨h.nodup, by simp, fun a ha b hb e => ?_⟩, fun y hy => ?_, fun y hy hyn => ?_, fun y hy hyl => ?_, rng_grown h.box hg h.bl (fun e => hbr (by injection e)), Nat.lt_of_lt_of_le h.bl hg.size, h.below.grown hg h.below.size fun j hj => by injection hj with hj; omega⟩
  · simp at hb
    subst hb
    subst e
    exact hn ha
  · rcases List.mem_append.1 hy with hy | hy
    · exact h.mem y hy
    · simp at hy; subst hy; exact hx
  · simp at hyn
    rw [h.lft y hy hyn.1, strike_eqR, decide_eq_false fun e => hyn.2 (kbR_inj (hG y hy) (hG x hx) e)]
    rfl
  · rw [Bool.and_eq_true] at hyl
    have h1 := h.lft2 y hy hyl.1
    intro hm
    rcases List.mem_append.1 hm with hm | hm
    · exact h1 hm
    · simp at hm
      subst hm
      have := hyl.2
      rw [strike_eqR] at this
      simp at this
theorem RrR.first (h : RrR s g vs v W) : RrR s g (vs ++ [s]) v W := by
  unfold RrR at h ⊢
  rw [ssR_same]
  exact h
theorem RrR.other (hx : x ≠ s) (hr : W.ownsRow g 9 1 v ((ssR s vs).length + 1) (txs (ssR s vs) ++ [.string x])) : RrR s g (vs ++ [x]) v W := by
  unfold RrR
  rw [ssR_new _ hx, txs_app, List.length_append]
  have e : txs [byt x] = [.string x] := by simp [txs, str_byt]
  rw [e]
  exact hr
end
def RsRing (l : List (List UInt8)) (c : Bool) (w : World) (e : Ending) (w' : World) : Prop :=
  ∃ v, e = .returned (.tuple #[v, .bool c]) ∧ w'.ownsRow w.heap.size 9 1 v l.length (txs l) ∧ Below w.heap.size w w'
set_option maxRecDepth 100000 in
set_option maxHeartbeats 1000000 in
theorem iRing_no (s : ByteArray) (w : World) (hs : s.size ≤ maxLen) (h : ringB s = false) : Calls Tryd.prog 9 #[.string s] w (RsRing [] false w) := by
  have hC := Lib.hid h
  clear h
  go_enter Tryd.func9, Tryd.ntmps9
  go_wp2_with (go_at_call 27; refine (isRing_any _ _ hs).mono ?_; rintro e w' ⟨rfl, rfl⟩; rw [hC.out])
  go_ret2
  exact ⟨_, rfl, World.ownsRow_nil _ _ _ _, Below.refl _ _⟩
set_option maxRecDepth 100000 in
set_option maxHeartbeats 16000000 in
theorem iRing_yes (s : ByteArray) (l : List (List UInt8)) (w : World) (hs : ringB s = true) (hl : RrL s l) : Calls Tryd.prog 9 #[.string s] w (RsRing l true w) := by
  obtain ⟨i0, hi, hz0, hz1, hz2⟩ := info_parts Tryd.infoS
  have HI := Lib.hid hi
  have HZ0 := Lib.hid hz0
  have HZ1 := Lib.hid hz1
  have HZ2 := Lib.hid hz2
  clear hi hz0 hz1 hz2
  have hsz := (ring_sz hs).2
  have HIR : Hid (∀ wx, Calls Tryd.prog 27 #[.string s] wx fun e w' => e = .returned (.bool true) ∧ wx = w') := Lib.hid fun wx => by
    have := isRing_any s wx (by unfold maxLen; omega)
    rwa [hs] at this
  have HRO := Lib.hid (fun wx => ringOf_any s wx hsz)
  have HTX := Lib.hid (fun wx => ringText_any (byt s) wx (ring_len hs) (ring_nz hs))
  have HST := Lib.hid (fun wx => steps_any _ _ _ s wx (same_of hs))
  rw [str_byt] at HTX
  obtain ⟨cs, hcs⟩ : ∃ cs, cs = u8s (ringP (byt s)) := ⟨_, rfl⟩
  have hls : cs.length = 9 := by rw [hcs, u8s_len, ringP_len (ring_len hs)]
  have e1 : ringV (byt s) = .agg cs.toArray := by rw [hcs]; rfl
  have h1c : (cs.toArray.all fun v => v.oneCell') = true := by rw [hcs]; exact all_oneCell_toArray (u8s_one (ringP (byt s)))
  rw [e1] at HRO HTX HST
  have HI1 : Hid ((Tryd.prog.info? 46).map (·.size) = some cs.length) := Lib.hid (by rw [Tryd.infoR, hls])
  have HI2 : Hid ((Tryd.prog.info? 46).map (·.size) = some cs.toArray.size) := Lib.hid (by rw [Tryd.infoR, List.size_toArray, hls])
  have H1C := Lib.hid h1c
  have HCS := Lib.hid hcs
  have HS := Lib.hid hs
  have HL := Lib.hid hl
  have HLS := Lib.hid hls
  clear hs hl e1 hcs h1c hls hsz
  go_enter Tryd.func9, Tryd.ntmps9
  go_wp2_with fail
  refine (HIR.out _).mono ?_
  rintro e w' ⟨rfl, rfl⟩
  go_wp2_with fail
  refine (HRO.out _).mono ?_
  rintro e w1 ⟨rfl, hb1⟩
  obtain ⟨W2, hW2⟩ : ∃ W2, W2 = (w1.alloc zrO).setCells w1.heap.size 0 cs := ⟨_, rfl⟩
  have hth : (w1.alloc zrO).there w1.heap.size 0 cs.length := there_zr w1 HLS.out
  have HTH : Hid ((w1.alloc zrO).there w1.heap.size 0 cs.toArray.size) := Lib.hid (by rw [List.size_toArray]; exact hth)
  have HR2 : Hid (W2.rangeAt w1.heap.size 0 cs) := Lib.hid (by rw [hW2]; exact World.rangeAt_setCells_same _ _ _ _ hth)
  have hb2 : Below w1.heap.size w1 W2 := by rw [hW2]; exact below_setCells (Nat.le_refl _) _ _ _ ((Below.refl _ _).alloc (Nat.le_refl _) _)
  have HZ2W : Hid (w1.heap.size < W2.heap.size) := Lib.hid (by rw [hW2]; exact set_grows w1 cs)
  have HB2 := Lib.hid (hb1.trans (hb2.mono hb1.size))
  clear hb1 hb2 hth
  go_wp2_with (first
    | (refine wpList_store_mid rfl 46 (.tmp 4) (.tmp 11) rfl w1.heap.size 0 cs.toArray rfl rfl HTH.out HI2.out H1C.out ?_; rw [← hW2]; clear hW2)
    | (refine wpList_load_mid rfl 46 (.tmp 4) rfl w1.heap.size 0 rfl cs _ HR2.out Tryd.underlying46 rfl HI1.out ?_))
  refine (HTX.out _).mono ?_
  rintro e w3 ⟨rfl, hb3⟩
  have HR3 := Lib.hid (rng_grown HR2.out (grown_of_below hb3) HZ2W.out (by simp))
  have HZ3 : Hid (w1.heap.size < w3.heap.size) := Lib.hid (Nat.lt_of_lt_of_le HZ2W.out hb3.size)
  have HB3 := Lib.hid (HB2.out.trans (hb3.mono HB2.out.size))
  obtain ⟨W3, hW3⟩ : ∃ W3, W3 = w3.alloc (Obj.cells #[.string s] 9) := ⟨_, rfl⟩
  have hb4 : Below w3.heap.size w3 W3 := by rw [hW3]; exact (Below.refl _ _).alloc (Nat.le_refl _) _
  have hHW : W3.heap.size = w3.heap.size + 1 := by rw [hW3]; simp
  have HR4 := Lib.hid (rng_grown HR3.out (grown_of_below hb4) HZ3.out (by simp))
  have HB4 := Lib.hid (HB3.out.trans (hb4.mono HB3.out.size))
  have HO4 : Hid (RrR s w3.heap.size [] (.slice (some ⟨w3.heap.size, 0, none⟩) 1 1) W3) := Lib.hid (by
    rw [hW3]
    refine ⟨by simp [ssR, txs], .inr ⟨w3.heap.size, 1, #[.string s], rfl, Nat.le_refl _, heap_alloc_new w3 _, Nat.le_refl _, by decide, rfl, ?_⟩⟩
    simp [ssR, txs, str_byt])
  have HRA : Hid ((w3.alloc (Obj.cells #[.string s] 9)).rangeAt w1.heap.size 0 cs) := Lib.hid (by rw [← hW3]; exact HR4.out)
  have HHW := Lib.hid hHW
  have HW3 := Lib.hid hW3
  clear hb3 hb4 hHW hW3 HTH
  go_wp2_with (refine wpList_load_mid rfl 46 (.tmp 4) rfl w1.heap.size 0 rfl cs _ HRA.out Tryd.underlying46 rfl HI1.out ?_)
  refine (HST.out _).mono ?_
  rw [← HW3.out]
  rintro e w4 ⟨bm, D, L, rfl, hbm, hM, hF, hB, hb5⟩
  have hg5 := grown_of_below hb5
  have HZB : Hid (w3.heap.size < bm) := Lib.hid (by have := HHW.out; omega)
  have HZ4 : Hid (w1.heap.size < w4.heap.size) := Lib.hid (by have := HHW.out; have := HZ3.out; have := hb5.size; omega)
  have HR5 := Lib.hid (rng_grown HR4.out hg5 (by have := HHW.out; have := HZ3.out; omega) (by simp))
  have HO5 : Hid (RrR s w3.heap.size [] (.slice (some ⟨w3.heap.size, 0, none⟩) 1 1) w4) := Lib.hid (own_below HO4.out hb5)
  have HB5 := Lib.hid (HB4.out.trans (hb5.mono HB4.out.size))
  have HW34 : Hid (w.heap.size ≤ w3.heap.size) := Lib.hid HB3.out.size
  have HM := Lib.hid hM
  have HF := Lib.hid hF
  have hbm4 : bm < w4.heap.size := hM.lt
  have HLR : Hid (∀ x ∈ kP L, ringB x = true) := Lib.hid fun x hx => by
    obtain ⟨e, he, rfl⟩ := List.mem_map.1 hx
    exact (bfp_same (same_of HS.out) hB e he).ring
  have HVF : Hid (∀ vs : List ByteArray, vs.Nodup → (∀ x ∈ vs, x ∈ kP L) → vs.length ≤ 50000) := Lib.hid fun vs h1 h2 => rrL_few2 HS.out vs h1 fun x hx => by
    obtain ⟨e, he, rfl⟩ := List.mem_map.1 (h2 x hx)
    exact ⟨e.2, hB.val e he⟩
  have HSORT : Hid (∀ vs : List ByteArray, vs.Nodup → (∀ x, x ∈ vs ↔ x ∈ kP L) → (ssR s vs).mergeSort (fun x y => decide (x ≤ y)) = l) := Lib.hid fun vs h1 h2 => ssR_sort hB HL.out h1 h2
  clear hM hF hB hb5 hg5 hbm HR2 HR3 HR4 HRA HO4 HB2 HB3 HB4 HW3
  go_wp2_with (first
    | (at_range; refine wpList_range_own _ rfl _ 50 rfl 46 73 Tryd.keysR Tryd.underlying50 _ bm L.length D rfl HM.out ?_; intro w5 hrg0 hg0 hs0)
    | go_in)
  try go_frame
  have HST5 : Hid ((∃ left cnt, RrV w w1.heap.size bm w4.heap.size L.length D cs L [] left cnt w5) ∧ RrR s w3.heap.size [] (.slice (some ⟨w3.heap.size, 0, none⟩) 1 1) w5) := Lib.hid ⟨⟨_, _, hrg0, List.nodup_nil, fun x hx => by simp at hx, fun x hx _ => fndC_yes HF.out hx, fun x _ _ h => by simp at h, rng_grown HR5.out hg0 HZ4.out (by simp), Nat.lt_of_lt_of_le HZ4.out hg0.size, HB5.out.grown hg0 HB5.out.size (fun j hj => by cases hj)⟩, own_blkG HO5.out fun k hk => hg0.block k (HO5.out.lt k hk).2 (by simp)⟩
  clear hrg0 hg0 hs0
  go_loopw [5] (fun v wq => ∃ (vs : List ByteArray) (left : Lit → Bool) (cnt : Nat), RrV w w1.heap.size bm w4.heap.size L.length D cs L vs left cnt wq ∧ RrR s w3.heap.size vs v wq) (fun _ wq => wq.rangeLeft bm w4.heap.size)
  case atStart =>
    obtain ⟨⟨left, cnt, h⟩, h2⟩ := HST5.out
    exact ⟨[], left, cnt, h, h2⟩
  case round =>
    obtain ⟨vs, left, cnt, hH, hHR⟩ := hrel
    obtain ⟨wq, hwq⟩ : ∃ wq : World, wq = wr := ⟨_, rfl⟩
    subst hwq
    have hrg := hH.rng
    have HRG00 := Lib.hid hrg
    go_wp2_with (first
      | (at_next; refine wpList_next_ranges _ rfl _ rfl 46 Tryd.keysR stR (fun v : Value => v) (fun v : Value => v) (fun key kl _ => ⟨key, rfl⟩) (fun v y _ => ⟨v, rfl⟩) bm w4.heap.size L.length _ _ _ rfl hrg ?_ ?_)
      | go_in)
    · intro hc0 hl0
      have hall : ∀ x, x ∈ vs ↔ x ∈ kP L := fun x => ⟨hH.mem x, fun hx => by
        by_cases h : x ∈ vs
        · exact h
        · have := hH.lft x hx h
          rw [hl0] at this
          cases this⟩
      have hso := HSORT.out vs hH.nodup hall
      have hlen : (ssR s vs).length ≤ 60000 := by
        have h1 := ssR_len s vs
        have h2 := HVF.out vs hH.nodup hH.mem
        omega
      have hlq : (ssR s vs).length = l.length := by rw [← hso, List.length_mergeSort]
      have hgq : w3.heap.size ≤ wq.heap.size := by have h1 := hrg.lt; have h2 := HZB.out; omega
      have hsr := sortRow_R u5 w3.heap.size (ssR s vs) wq hHR hgq hlen
      rw [hso, hlq] at hsr
      have HSR := Lib.hid hsr
      have HBQ := Lib.hid hH.below
      clear hH hHR hrg hl0 hall hso hlen hlq hsr
      go_wp2_with fail
      refine HSR.out.mono ?_
      rintro e w6 ⟨rfl, ho6, hb6⟩
      have HO6 := Lib.hid (own_low ho6 HW34.out)
      have HB6 := Lib.hid (HBQ.out.trans (hb6.mono HW34.out))
      clear ho6 hb6
      go_wp2_with fail
      go_ret2
      exact ⟨u5, rfl, HO6.out, HB6.out⟩
    · intro x c kl yd yp w2' cnt2 hkey hlk hv hat hrg2 hlt2 hg2 hs2 hen
      obtain ⟨sx, rfl⟩ := keyOf_r hkey
      obtain ⟨⟨u, q⟩, heL, rfl⟩ := HF.out.key sx (has_true_of_atKey hat)
      have hul : u ∈ kP L := List.mem_map_of_mem (f := (·.1)) heL
      have hru := HLR.out u hul
      obtain rfl : x = ringV (byt u) := Tryd.keysR.inj hkey (keyR (ring_len hru))
      have hnv := hH.lft2 u hul hlk
      have HTU := Lib.hid (fun wx => ringText_any (byt u) wx (ring_len hru) (ring_nz hru))
      rw [str_byt] at HTU
      obtain ⟨rr1, rr2⟩ := row_rng hrg hHR
      have H2 := Lib.hid (hH.come HLR.out hul hnv hrg2 hg2 (by have := HZ4.out; omega) (by have := HB5.out.size; omega))
      have HR2 : Hid (RrR s w3.heap.size vs u5 w2') := Lib.hid (own_blkG hHR fun k hk => hg2.block k (hHR.lt k hk).2 (fun e => rr2 (by rw [hk, e])))
      have hfew : (ssR s vs).length ≤ 50001 := Nat.le_trans (ssR_len s vs) (by have := HVF.out vs hH.nodup hH.mem; omega)
      obtain ⟨cu, hcu⟩ : ∃ cu, cu = u8s (ringP (byt u)) := ⟨_, rfl⟩
      have hlu : cu.length = 9 := by rw [hcu, u8s_len, ringP_len (ring_len hru)]
      have e1 : ringV (byt u) = .agg cu.toArray := by rw [hcu]; rfl
      have hu1c : (cu.toArray.all fun v => v.oneCell') = true := by rw [hcu]; exact all_oneCell_toArray (u8s_one (ringP (byt u)))
      have HU1 : Hid ((Tryd.prog.info? 46).map (·.size) = some cu.length) := Lib.hid (by rw [Tryd.infoR, hlu])
      have HU2 : Hid ((Tryd.prog.info? 46).map (·.size) = some cu.toArray.size) := Lib.hid (by rw [Tryd.infoR, List.size_toArray, hlu])
      have HU3 := Lib.hid hu1c
      have HUE : Hid (∀ wx : World, (Op.equalIn 10000 46 (.agg cu.toArray) (.agg cs.toArray)).run Tryd.prog wx = .ok (decide (u = s)) wx) := Lib.hid fun wx => by
        have := ring_eql (ringP_len (l := byt u) (ring_len hru)) (ringP_len (l := byt s) (ring_len HS.out)) wx
        rw [← HCS.out, ← hcu] at this
        rw [this]
        congr 1
        rw [decide_eq_decide]
        exact ⟨fun e => byt_inj (ringP_inj (ring_nz hru) (ring_nz HS.out) e), fun e => by rw [e]⟩
      rw [e1] at HTU hen ⊢
      have HEN := Lib.hid hen
      have HLT2 := Lib.hid hlt2
      obtain ⟨W7, hW7⟩ : ∃ W7, W7 = (w2'.alloc zrO).setCells w2'.heap.size 0 cu := ⟨_, rfl⟩
      have hth : (w2'.alloc zrO).there w2'.heap.size 0 cu.length := there_zr w2' hlu
      have HTH : Hid ((w2'.alloc zrO).there w2'.heap.size 0 cu.toArray.size) := Lib.hid (by rw [List.size_toArray]; exact hth)
      have HX7 : Hid (W7.rangeAt w2'.heap.size 0 cu) := Lib.hid (by rw [hW7]; exact World.rangeAt_setCells_same _ _ _ _ hth)
      have hb7 : Below w2'.heap.size w2' W7 := by rw [hW7]; exact below_setCells (Nat.le_refl _) _ _ _ ((Below.refl _ _).alloc (Nat.le_refl _) _)
      have HZ7 : Hid (w2'.heap.size < W7.heap.size) := Lib.hid (by rw [hW7]; exact set_grows w2' cu)
      have H7 := Lib.hid (H2.out.later hb7)
      have HR7 : Hid (RrR s w3.heap.size vs u5 W7) := Lib.hid (own_below HR2.out hb7)
      have HBX7 := Lib.hid H7.out.box
      clear hkey hlk hv hat hrg2 hg2 hs2 hH hHR hrg hnv heL hul hru hlu e1 hcu hu1c hlt2 hth hb7 HST5 rr1 rr2 HR2 H2
      by_cases hus : u = s
      · have heq := HUE.out
        rw [decide_eq_true hus] at heq
        go_wp2_with (first
          | (refine wpList_store_mid rfl 46 (.tmp 6) (.tmp 21) rfl w2'.heap.size 0 cu.toArray rfl rfl HTH.out HU2.out HU3.out ?_; rw [← hW7]; clear hW7)
          | (refine wpList_load_mid rfl 46 (.tmp 6) rfl w2'.heap.size 0 rfl cu _ HX7.out Tryd.underlying46 rfl HU1.out ?_)
          | (refine wpList_load_mid rfl 46 (.tmp 4) rfl w1.heap.size 0 rfl cs _ HBX7.out Tryd.underlying46 rfl HI1.out ?_))
        have HRF : Hid (RrR s w3.heap.size (vs ++ [u]) u5 W7) := Lib.hid (by rw [hus]; exact HR7.out.first)
        refine ⟨⟨vs ++ [u], _, cnt2, H7.out, HRF.out⟩, ?_⟩
        rw [H7.out.rng.left_eq, HRG00.out.left_eq]
        exact HLT2.out
      · have heq := HUE.out
        rw [decide_eq_false hus] at heq
        have HNE := Lib.hid hus
        clear hus
        go_wp2_with (first
          | (refine wpList_store_mid rfl 46 (.tmp 6) (.tmp 21) rfl w2'.heap.size 0 cu.toArray rfl rfl HTH.out HU2.out HU3.out ?_; rw [← hW7]; clear hW7)
          | (refine wpList_load_mid rfl 46 (.tmp 6) rfl w2'.heap.size 0 rfl cu _ HX7.out Tryd.underlying46 rfl HU1.out ?_)
          | (refine wpList_load_mid rfl 46 (.tmp 4) rfl w1.heap.size 0 rfl cs _ HBX7.out Tryd.underlying46 rfl HI1.out ?_))
        refine (HTU.out _).mono ?_
        rintro e w8 ⟨rfl, hb8⟩
        have H8 := Lib.hid (H7.out.later hb8)
        have hrow : w8.ownsRow w3.heap.size 9 1 u5 (ssR s vs).length (txs (ssR s vs)) := own_below HR7.out hb8
        have H3a : (ssR s vs).length + 1 ≤ maxLen := by unfold maxLen; omega
        have H4a : ((ssR s vs).length + 1) * 16 ≤ 140737488355328 := by omega
        have H5a : w3.heap.size ≤ (w8.alloc (Obj.cells #[Value.string u] 9)).heap.size := by have h1 := H8.out.rng.lt; have h2 := HZB.out; simp; omega
        have HOTH : Hid (∀ (v' : Value) (W' : World), W'.ownsRow w3.heap.size 9 1 v' ((ssR s vs).length + 1) (txs (ssR s vs) ++ [.string u]) → RrR s w3.heap.size (vs ++ [u]) v' W') := Lib.hid fun v' W' h => RrR.other HNE.out h
        have HROW := Lib.hid hrow
        have HAP := Lib.hid (row_rng H8.out.rng hrow)
        clear hb8 H7 HR7 hrow hfew
        generalize txs (ssR s vs) = us at HROW HOTH
        generalize (ssR s vs).length = q9 at HROW HOTH H3a H4a
        go_wp2_with (first | (at_builtin; refine wpList_append_own _ rfl _ _ 22 rfl w3.heap.size 9 i0 (.string ByteArray.empty) 1 16 Tryd.underlying22 HI.out HZ0.out HZ1.out HZ2.out rfl (by decide) _ _ _ rfl (HROW.out.alloc _) ⟨w8.heap.size, 0, none⟩ 1 1 [.string u] rfl rfl (cell_one_new _ _ _) (fun u hu => by simp at hu; subst hu; rfl) H3a H4a H5a ?_; intro v' w9 hown' hgrow _))
        have HN := Lib.hid ((H8.out.later ((Below.refl w8.heap.size w8).alloc (Nat.le_refl _) (Obj.cells #[Value.string u] 9))).grown hgrow HAP.out.1 HAP.out.2 (fun e => by have h1 := (HROW.out.lt w1.heap.size e.symm).1; have h2 := HZ3.out; omega) (fun j hj => by have h1 := (HROW.out.lt j hj).1; have h2 := HW34.out; omega))
        have HRN := Lib.hid (HOTH.out _ _ hown')
        clear hown' hgrow
        go_roundw
        case rel => exact ⟨vs ++ [u], _, cnt2, HN.out, HRN.out⟩
        case measure => rw [HN.out.rng.left_eq, HRG00.out.left_eq]; exact HLT2.out
end Go.Proofs.YtdcbjbmnkajjcaaDoor
