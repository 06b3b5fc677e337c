/- Contracts: how many rings there are, both sides. -/
import Derived.Test.YtfjjdelmfohaeaaDoorCiN
import Derived.Test.YtfjjdelmfohaeaaDoorCiQ
import Derived.Test.YtfjjdelmfohaeaaDoorLns
namespace Go.Proofs.YtfjjdelmfohaeaaDoor
open Go.RowKit

/-- Numbers of toads, gaps and frogs of a ring. -/
def thrC (t g f : Int) : Bool := [t, g, f].all (inR · 0 9) && inR (t + g + f) 3 9
theorem thrC_iff (t g f : Int) : thrC t g f = true ↔ (0 ≤ t ∧ 0 ≤ g ∧ 0 ≤ f ∧ 3 ≤ t + g + f ∧ t + g + f ≤ 9) := by
  simp [thrC, inR, and_assoc]
  omega
theorem thrC_three {t g f : Int} (h : thrC t g f = true) : three t g f = true := by
  have := (thrC_iff t g f).1 h
  rw [three_iff]
  omega
theorem many9 {t g f : Int} (h : thrC t g f = true) : manyI t g f ≤ 100000 := by
  have h0 : ((List.range 10).all fun t => (List.range 10).all fun g => (List.range 10).all fun f => decide (9 < t + g + f) || decide (manyI (t : Int) (g : Int) (f : Int) ≤ 100000)) = true := by decide +kernel
  obtain ⟨ht, hg, hf, _, hs⟩ := (thrC_iff t g f).1 h
  obtain ⟨x, rfl⟩ := Int.eq_ofNat_of_zero_le ht
  obtain ⟨y, rfl⟩ := Int.eq_ofNat_of_zero_le hg
  obtain ⟨z, rfl⟩ := Int.eq_ofNat_of_zero_le hf
  rw [List.all_eq_true] at h0
  have a := h0 x (List.mem_range.2 (by omega))
  rw [List.all_eq_true] at a
  have b := a y (List.mem_range.2 (by omega))
  rw [List.all_eq_true] at b
  have c := b z (List.mem_range.2 (by omega))
  simp at c
  omega
theorem lnk_ring {t g f : Int} (h : thrC t g f = true) {k : Nat} (hk : k < manyK t g f) : ringB (str (lnk t g f k)) = true := by
  obtain ⟨ht, hg, hf, h3, h9⟩ := (thrC_iff t g f).1 h
  have hm := manyK_eq (thrC_three h)
  obtain ⟨ha, _⟩ := rkL_unr (t + g + f).toNat t g f k ht hg hf (by omega) (by omega) (by omega) (by omega)
  have hl : (lnk t g f k).length = (t + g + f).toNat := unr_len _ _ _ _ _
  exact ring_str ha (by omega) (by omega)
theorem keep_app (A B : List (List UInt8)) : keepL (A ++ B) = keepL A ++ keepL B := by unfold keepL; rw [List.filter_append]
/-- So many rings, and so many blocked ones, of the lines by rank. -/
theorem keep_sum (t g f : Int) : ∀ k, (keepL (lnsTo t g f k)).length = sumTo (hitR ciA (t + g + f).toNat t g f [] 1) k
  | 0 => rfl
  | k + 1 => by
    rw [lns_succ, keep_app, List.length_append, keep_sum t g f k]
    show _ = sumTo _ k + hitR ciA _ t g f [] 1 k
    congr 1
    unfold hitR ciA keepL delB
    show (List.filter _ [lnk t g f k]).length = if (if leastL (lnk t g f k) = lnk t g f k then 1 else 0) = 1 then 1 else 0
    by_cases h : leastL (lnk t g f k) = lnk t g f k
    · simp [h]
    · have h2 : ¬ lnk t g f k = leastL (lnk t g f k) := fun e => h e.symm
      simp [h, h2]
def blkL (L : List (List UInt8)) : Nat := (L.filter fun x => decide (rgTo (str x) x.length = [])).length
theorem blk_sum (t g f : Int) : ∀ k, blkL (keepL (lnsTo t g f k)) = sumTo (hitR ciK (t + g + f).toNat t g f [] 1) k
  | 0 => rfl
  | k + 1 => by
    have e : blkL (keepL (lnsTo t g f (k + 1))) = blkL (keepL (lnsTo t g f k)) + blkL (keepL [lnk t g f k]) := by
      rw [lns_succ, keep_app]; unfold blkL; rw [List.filter_append, List.length_append]
    rw [e, blk_sum t g f k]
    show _ = sumTo _ k + hitR ciK _ t g f [] 1 k
    congr 1
    unfold hitR ciK blkL keepL delB
    show (List.filter _ (List.filter _ [lnk t g f k])).length = if (if leastL (lnk t g f k) = lnk t g f k ∧ rgTo (str (lnk t g f k)) (lnk t g f k).length = [] then 1 else 0) = 1 then 1 else 0
    by_cases h : leastL (lnk t g f k) = lnk t g f k
    · by_cases h3 : rgTo (str (lnk t g f k)) (lnk t g f k).length = []
      · simp [h, h3]
      · simp [h, h3]
    · have h2 : ¬ lnk t g f k = leastL (lnk t g f k) := fun e => h e.symm
      simp [h, h2]
/-- How many rings; how many blocked ones. -/
def nA (t g f : Int) : Nat := cA (t + g + f).toNat t g f []
def nK (t g f : Int) : Nat := cK (t + g + f).toNat t g f []
theorem keep_nA {t g f : Int} (h : thrC t g f = true) : (keepL (lnsTo t g f (manyK t g f))).length = nA t g f ∧ blkL (keepL (lnsTo t g f (manyK t g f))) = nK t g f := by
  obtain ⟨ht, hg, hf, h3, h9⟩ := (thrC_iff t g f).1 h
  constructor
  · rw [keep_sum]; exact cntW_ranks ciA 1 _ t g f [] ht hg hf (by omega) (by omega)
  · rw [blk_sum]; exact cntW_ranks ciK 1 _ t g f [] ht hg hf (by omega) (by omega)

set_option maxHeartbeats 400000 in
theorem ciNumbers_any (t g f : Int) (w : World) :
    Calls Tryd.prog 65 #[.int .i64 t, .int .i64 g, .int .i64 f] w fun e w' => e = .returned (.bool (thrC t g f)) ∧ Below w.heap.size w w' := by
  have hcell := Lib.hid (three_cells t g f w)
  cases ha : [t, g, f].all (inR · 0 9)
  · have hA := Lib.hid ha
    have h3 : Hid (thrC t g f = false) := by show _ = _; unfold thrC; rw [ha]; rfl
    clear ha
    go_enter Tryd.func65, Tryd.ntmps65
    go_wp2_with (go_at_call 83; refine (l1All_any _ 3 [t, g, f] _ _ _ (by simp) hcell.out).mono ?_; rintro e w' ⟨rfl, rfl⟩; rw [hA.out])
    go_ret
    exact ⟨congrArg (fun b => Ending.returned (.bool b)) h3.out.symm, (Below.refl _ _).alloc (Nat.le_refl _) _⟩
  · have hA := Lib.hid ha
    have h3 : Hid (thrC t g f = inR (t + g + f) 3 9) := by show _ = _; unfold thrC; rw [ha]; rfl
    have hb : (0 ≤ t ∧ t ≤ 9) ∧ (0 ≤ g ∧ g ≤ 9) ∧ (0 ≤ f ∧ f ≤ 9) := by simpa [inR] using ha
    clear ha
    obtain ⟨⟨_, _⟩, ⟨_, _⟩, ⟨_, _⟩⟩ := hb
    go_enter Tryd.func65, Tryd.ntmps65
    go_wp2_with (first | (go_at_call 83; refine (l1All_any _ 3 [t, g, f] _ _ _ (by simp) hcell.out).mono ?_; rintro e w' ⟨rfl, rfl⟩; rw [hA.out]) | (go_at_call 69; refine (l1In_any _ _ _ _).mono ?_; rintro e w' ⟨rfl, rfl⟩))
    go_ret
    exact ⟨congrArg (fun b => Ending.returned (.bool b)) h3.out.symm, (Below.refl _ _).alloc (Nat.le_refl _) _⟩

theorem sCnt_any (t g f : Int) (w : World) (h : thrC t g f = true) :
    Calls Tryd.prog 66 #[.string ByteArray.empty, .int .i64 t, .int .i64 g, .int .i64 f] w (CnPost w (nA t g f) (nK t g f)) := by
  obtain ⟨ht, hg, hf, h3, h9⟩ := (thrC_iff t g f).1 h
  exact ciCount_any _ t g f [] w ht hg hf (by omega) (by simp; omega) (by simp; omega) rfl

/-- The least rings, or none. -/
def lrL (t g f : Int) : List (List UInt8) := keepL (lnsTo t g f (manyK t g f))
set_option maxHeartbeats 1000000 in
theorem leastRings_yes (t g f : Int) (w : World) (h : thrC t g f = true) :
    Calls Tryd.prog 67 #[.int .i64 t, .int .i64 g, .int .i64 f] w fun e w' => ∃ A c, e = .returned (.tuple #[.slice A (lrL t g f).length c, .bool true]) ∧ StAt w' A (lrL t g f) ∧ Below w.heap.size w w' := by
  obtain ⟨ht, hg, hf, h3, h9⟩ := (thrC_iff t g f).1 h
  have H3 := Lib.hid (thrC_three h)
  have HA : Hid (∀ wx, Calls Tryd.prog 87 #[.int .i64 t, .int .i64 g, .int .i64 f] wx fun e w' => ∃ v, e = .returned v ∧ w'.ownsRow wx.heap.size 9 1 v (lnsTo t g f (manyK t g f)).length (txs (lnsTo t g f (manyK t g f))) ∧ Below wx.heap.size wx w') := Lib.hid fun wx => by
    rw [lns_len]
    exact allLinesG_any t g f wx (thrC_three h) (many9 h)
  have HR : Hid (∀ x ∈ lnsTo t g f (manyK t g f), ringB (str x) = true) := Lib.hid fun x hx => by
    unfold lnsTo at hx
    obtain ⟨k, hk, rfl⟩ := List.mem_map.1 hx
    exact lnk_ring h (List.mem_range.1 hk)
  have hN : (lnsTo t g f (manyK t g f)).length ≤ 100000 := by
    rw [lns_len]
    have h1 := manyK_eq (thrC_three h)
    have h2 := many9 h
    omega
  unfold lrL
  clear h
  generalize lnsTo t g f (manyK t g f) = L at HA HR hN ⊢
  go_enter Tryd.func67, Tryd.ntmps67
  go_wp2_with fail
  refine (areCounts_any t g f _).mono ?_
  rintro e w1 ⟨rfl, rfl⟩
  rw [H3.out]
  go_wp2_with fail
  refine (HA.out _).mono ?_
  rintro e w2 ⟨v, rfl, hown, hb2⟩
  have HO := Lib.hid hown
  have HB2 := Lib.hid hb2
  clear hown hb2
  go_wp2_with fail
  refine (deleteDel_any L v _ _ HO.out HB2.out.size HR.out hN).mono ?_
  rintro e w3 ⟨A, c, rfl, hat, hb3⟩
  have HAT := Lib.hid hat
  have HB3 := Lib.hid (HB2.out.trans hb3)
  clear hat hb3
  go_wp2
  go_ret2
  exact ⟨A, c, rfl, HAT.out, HB3.out⟩

set_option maxHeartbeats 1000000 in
theorem leastRings_no (t g f : Int) (w : World) (h : thrC t g f = false) :
    Calls Tryd.prog 67 #[.int .i64 t, .int .i64 g, .int .i64 f] w fun e w' => e = .returned (.tuple #[.slice none 0 0, .bool false]) ∧ w = w' := by
  cases h3 : three t g f
  · have H3 := Lib.hid h3
    clear h3 h
    go_enter Tryd.func67, Tryd.ntmps67
    go_wp2_with (go_at_call 85; refine (areCounts_any t g f _).mono ?_; rintro e w1 ⟨rfl, rfl⟩; rw [H3.out])
    go_ret2
    exact ⟨rfl, rfl⟩
  · obtain ⟨_, _, _, _, _⟩ := (three_iff t g f).1 h3
    have hn : ¬ (0 ≤ t ∧ 0 ≤ g ∧ 0 ≤ f ∧ 3 ≤ t + g + f ∧ t + g + f ≤ 9) := fun hh => by
      rw [(thrC_iff t g f).2 hh] at h
      cases h
    have H3 := Lib.hid h3
    clear h3 h
    by_cases ha : t + g + f < 3
    · go_enter Tryd.func67, Tryd.ntmps67
      go_wp2_with (go_at_call 85; refine (areCounts_any t g f _).mono ?_; rintro e w1 ⟨rfl, rfl⟩; rw [H3.out])
      go_ret2
      exact ⟨rfl, rfl⟩
    · have hb : 9 < t + g + f := by omega
      go_enter Tryd.func67, Tryd.ntmps67
      go_wp2_with (go_at_call 85; refine (areCounts_any t g f _).mono ?_; rintro e w1 ⟨rfl, rfl⟩; rw [H3.out])
      go_ret2
      exact ⟨rfl, rfl⟩

end Go.Proofs.YtfjjdelmfohaeaaDoor
