/- RingReached: what is answered; the model's side. -/
import Derived.Test.YtdcbjbmnkajjcaaDoorCiSo
import Derived.Test.YtdcbjbmnkajjcaaDoorCiTo
import Derived.Test.YtdcbjbmnkajjcaaDoorCiW
namespace Go.Proofs.YtdcbjbmnkajjcaaDoor
open Go.RowKit

/-- The rings reached, in order. -/
def RrL (s : ByteArray) (l : List (List UInt8)) : Prop := Rising l ∧ ∀ x, x ∈ l ↔ ∃ q, runP nxC s q = some (str x)
theorem rrL_same {s : ByteArray} (hs : ringB s = true) {x : List UInt8} (h : ∃ q, runP nxC s q = some (str x)) : SameC (cnt 84 (byt s)) (cnt 46 (byt s)) (cnt 70 (byt s)) (str x) := by
  obtain ⟨q, hq⟩ := h
  exact same_run (same_of hs) hq
theorem rrL_ex {s : ByteArray} (hs : ringB s = true) : ∃ l, RrL s l := by
  classical
  generalize ht : cnt 84 (byt s) = t
  generalize hg : cnt 46 (byt s) = g
  generalize hf : cnt 70 (byt s) = f
  refine ⟨insAll (((List.range (manyK t g f)).map fun r : Nat => unr (t + g + f) t g f (r : Int)).filter fun x => decide (∃ q, runP nxC s q = some (str x))) [], rising_insAll _ _ (by simp [Rising]), fun x => ?_⟩
  rw [mem_insAll, List.mem_filter]
  constructor
  · rintro (⟨_, h⟩ | h)
    · simpa using h
    · cases h
  · intro hx
    refine .inl ⟨?_, by simpa using hx⟩
    have h1 := rrL_same hs hx
    rw [ht, hg, hf] at h1
    obtain ⟨h3, h9⟩ := ring_sz h1.ring
    have h2 := unr_rkL (byt (str x)) h1.all (by rw [byt_len]; omega)
    obtain ⟨⟨a0, a1⟩, b⟩ := h2
    rw [h1.ct, h1.cg, h1.cf, byt_len, ← h1.sum] at b
    rw [h1.ct, h1.cg, h1.cf] at a1
    have hm := manyK_eq h1.three
    refine List.mem_map.2 ⟨(rkL (byt (str x))).toNat, List.mem_range.2 (by omega), ?_⟩
    have e : (((rkL (byt (str x))).toNat : Nat) : Int) = rkL (byt (str x)) := by omega
    rw [e, b, byt_str]
theorem rrL_one {s : ByteArray} {l m : List (List UInt8)} (h : RrL s l) (h' : RrL s m) : l = m := rising_ext h.1 h'.1 fun x => (h.2 x).trans (h'.2 x).symm
theorem many9L {t g f : Int} (h : thrC t g f = true) : manyI t g f ≤ 50000 := by
  have h0 : ((List.range 10).all fun t => (List.range 10).all fun g => (List.range 10).all fun f => decide (9 < t + g + f) || decide (manyI (t : Int) (g : Int) (f : Int) ≤ 50000)) = true := by decide +kernel
  obtain ⟨ht, hg, hf, _, hs⟩ := (thrC_iff t g f).1 h
  obtain ⟨x, rfl⟩ := Int.eq_ofNat_of_zero_le ht
  obtain ⟨y, rfl⟩ := Int.eq_ofNat_of_zero_le hg
  obtain ⟨z, rfl⟩ := Int.eq_ofNat_of_zero_le hf
  simp only [List.all_eq_true, List.mem_range] at h0
  have := h0 x (by omega) y (by omega) z (by omega)
  rw [Bool.or_eq_true, decide_eq_true_iff, decide_eq_true_iff] at this
  rcases this with h | h
  · omega
  · exact h
theorem rrL_few2 {s : ByteArray} (hs : ringB s = true) (L : List ByteArray) (hn : L.Nodup) (h : ∀ x ∈ L, ∃ q, runP nxC s q = some x) : L.length ≤ 50000 := by
  have h0 := same_of hs
  have h1 := same_few L hn fun x hx => same_run h0 (h x hx).choose_spec
  have h2 : thrC (cnt 84 (byt s)) (cnt 46 (byt s)) (cnt 70 (byt s)) = true := (thrC_iff _ _ _).2 (by have := h0.sum; have := ring_sz hs; omega)
  have := many9L h2
  have := manyK_eq h0.three
  omega
theorem rrL_few {s : ByteArray} {l : List (List UInt8)} (hs : ringB s = true) (h : RrL s l) : l.length ≤ 50000 := by
  have hn : (l.map str).Nodup := by
    rw [List.Nodup, List.pairwise_map]
    refine List.Pairwise.imp (fun {a b} hlt e => ?_) h.1
    rw [str_inj.1 e] at hlt
    exact List.lt_irrefl b hlt
  have := rrL_few2 hs (l.map str) hn fun x hx => by
    obtain ⟨y, hy, rfl⟩ := List.mem_map.1 hx
    exact (h.2 y).1 hy
  rwa [List.length_map] at this
theorem rrL_texts {s : ByteArray} {R : List ByteArray} {NX : List (List Nat)} (h : GrOk s R NX) {O : List (List UInt8)} (hO : SoI R R.length O) : RrL s O := by
  refine ⟨hO.ris, fun x => ?_⟩
  rw [hO.mem]
  constructor
  · rintro ⟨i, _, e⟩
    exact h.got _ (List.mem_of_getElem? e)
  · rintro ⟨q, hq⟩
    obtain ⟨b, _, hb⟩ := (h.run q 0 s h.first (str x)).1 hq
    exact ⟨b, (List.getElem?_eq_some_iff.1 hb).1, hb⟩
def RlPost (l : List (List UInt8)) (c : Bool) (w : World) (e : Ending) (w' : World) : Prop :=
  ∃ A cap, e = .returned (.tuple #[.slice A l.length cap, .bool c]) ∧ StAt w' A l ∧ Below w.heap.size w w'
set_option maxRecDepth 100000 in
set_option maxHeartbeats 1000000 in
theorem sRing_no (s : ByteArray) (w : World) (hs : s.size ≤ maxLen) (h : ringB s = false) : Calls Tryd.prog 8 #[.string s] w (RlPost [] false w) := by
  have HGS : Hid (∀ wx, Calls Tryd.prog 24 #[.string s] wx fun e w' => e = .returned (.bool false) ∧ wx = w') := Lib.hid fun wx => by
    have := ciGood_any s wx hs
    rwa [h] at this
  clear h
  go_enter Tryd.func8, Tryd.ntmps8
  go_wp2_with fail
  refine (HGS.out _).mono ?_
  rintro e w' ⟨rfl, rfl⟩
  go_wp2
  go_ret2
  exact ⟨none, 0, rfl, fun k hk => by simp at hk, Below.refl _ _⟩
set_option maxRecDepth 100000 in
set_option maxHeartbeats 2000000 in
theorem sRing_yes (s : ByteArray) (l : List (List UInt8)) (w : World) (hs : ringB s = true) (hl : RrL s l) : Calls Tryd.prog 8 #[.string s] w (RlPost l true w) := by
  have HGS : Hid (∀ wx, Calls Tryd.prog 24 #[.string s] wx fun e w' => e = .returned (.bool true) ∧ wx = w') := Lib.hid fun wx => by
    have := ciGood_any s wx (by have := (ring_sz hs).2; unfold maxLen; omega)
    rwa [hs] at this
  have HRE := Lib.hid (fun wx => ciReach_any s wx hs)
  have HL := Lib.hid hl
  clear hs hl
  go_enter Tryd.func8, Tryd.ntmps8
  go_wp2_with fail
  refine (HGS.out _).mono ?_
  rintro e w' ⟨rfl, rfl⟩
  go_wp2_with fail
  refine (HRE.out _).mono ?_
  rintro e w1 ⟨B, R, NX, rfl, hM, hO, hn, hb1⟩
  obtain ⟨A, cap, c0, hR⟩ := hM.rings
  have HSO := Lib.hid (ciSorted_any R A cap w1 hO.nd hn hR)
  have HOK := Lib.hid hO
  have HB1 := Lib.hid hb1
  clear hM hO hR hb1
  go_wp2_with fail
  refine HSO.out.mono ?_
  rintro e w2 ⟨v2, O, rfl, hso, ho2, hb2⟩
  obtain rfl := rrL_one (rrL_texts HOK.out hso) HL.out
  obtain ⟨A2, cap2, rfl, _, _, at2, _⟩ := st_own ho2
  have AT2 := Lib.hid at2
  have HB2 := Lib.hid (HB1.out.trans (hb2.mono HB1.out.size))
  clear hso ho2 hb2 at2
  go_wp2
  go_ret2
  exact ⟨A2, cap2, rfl, AT2.out, HB2.out⟩
end Go.Proofs.YtdcbjbmnkajjcaaDoor
