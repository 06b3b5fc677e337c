/- Lines counted by rank and sign by sign: one; no walk. -/
import Derived.Test.YtdcbjbmnkajjcaaDoorMany
import Derived.Test.YtdcbjbmnkajjcaaDoorCiL
import Derived.Test.YtdcbjbmnkajjcaaDoorCiE
import Derived.Deep.RegionHeld3
import Derived.Test.YtdcbjbmnkajjcaaDoorUnrI
import Derived.Lib.SliceRun
import Derived.Test.YtdcbjbmnkajjcaaDoorLns
namespace Go.Proofs.YtdcbjbmnkajjcaaDoor
open Go.RowKit

def sumTo (φ : Nat → Nat) : Nat → Nat
  | 0 => 0
  | m + 1 => sumTo φ m + φ m
theorem sumTo_add (φ : Nat → Nat) (a : Nat) : ∀ b, sumTo φ (a + b) = sumTo φ a + sumTo (fun r => φ (a + r)) b
  | 0 => rfl
  | b + 1 => by
    show sumTo φ (a + b) + φ (a + b) = sumTo φ a + (sumTo (fun r => φ (a + r)) b + φ (a + b))
    rw [sumTo_add φ a b]; omega
theorem sumTo_congr {φ ψ : Nat → Nat} : ∀ m, (∀ r, r < m → φ r = ψ r) → sumTo φ m = sumTo ψ m
  | 0, _ => rfl
  | m + 1, h => by
    show sumTo φ m + φ m = sumTo ψ m + ψ m
    rw [sumTo_congr m fun r hr => h r (by omega), h m (by omega)]
theorem sumTo_le {φ : Nat → Nat} (h : ∀ r, φ r ≤ 1) : ∀ m, sumTo φ m ≤ m
  | 0 => Nat.le_refl _
  | m + 1 => by
    have h1 := sumTo_le h m
    have h2 := h m
    show sumTo φ m + φ m ≤ m + 1
    omega
/-- How many lines that begin with p and have so many more signs are counted at o. -/
def cntW (out : List UInt8 → Nat) : Nat → Int → Int → Int → List UInt8 → Nat → Nat
  | 0, _, _, _, p, o => if out p = o then 1 else 0
  | n + 1, t, g, f, p, o => (if 0 < t then cntW out n (t - 1) g f (p ++ [84]) o else 0) + (if 0 < g then cntW out n t (g - 1) f (p ++ [46]) o else 0) + (if 0 < f then cntW out n t g (f - 1) (p ++ [70]) o else 0)
def hitR (out : List UInt8 → Nat) (n : Nat) (t g f : Int) (p : List UInt8) (o r : Nat) : Nat := if out (p ++ unr n t g f r) = o then 1 else 0
theorem manyI_neg {t g f : Int} (h : t < 0 ∨ g < 0 ∨ f < 0) : manyI t g f = 0 := by unfold manyI; rw [if_pos h]
theorem unr_gap {n : Nat} {t g f r : Int} (h : r < manyI t (g - 1) f) : unr (n + 1) t g f r = 46 :: unr n t (g - 1) f r := by rw [unr, if_pos h]
theorem unr_frog {n : Nat} {t g f r : Int} (h1 : ¬ r < manyI t (g - 1) f) (h : r < manyI t (g - 1) f + manyI t g (f - 1)) : unr (n + 1) t g f r = 70 :: unr n t g (f - 1) (r - manyI t (g - 1) f) := by rw [unr, if_neg h1, if_pos h]
theorem unr_toad {n : Nat} {t g f r : Int} (h1 : ¬ r < manyI t (g - 1) f) (h : ¬ r < manyI t (g - 1) f + manyI t g (f - 1)) : unr (n + 1) t g f r = 84 :: unr n (t - 1) g f (r - (manyI t (g - 1) f + manyI t g (f - 1))) := by rw [unr, if_neg h1, if_neg h]
theorem cntW_ranks (out : List UInt8 → Nat) (o : Nat) : ∀ (n : Nat) (t g f : Int) (p : List UInt8), 0 ≤ t → 0 ≤ g → 0 ≤ f → t + g + f = n → n ≤ 12 →
    sumTo (hitR out n t g f p o) (manyI t g f).toNat = cntW out n t g f p o
  | 0, t, g, f, p, ht, hg, hf, hn, _ => by
    obtain rfl : t = 0 := by omega
    obtain rfl : g = 0 := by omega
    obtain rfl : f = 0 := by omega
    rw [many_zero]
    show 0 + hitR out 0 0 0 0 p o 0 = _
    simp [hitR, unr, cntW]
  | n + 1, t, g, f, p, ht, hg, hf, hn, h12 => by
    have hs := many_sum t g f ht hg hf (by omega) (by omega)
    have a1 := (manyI_le t (g - 1) f (by omega)).1
    have a2 := (manyI_le t g (f - 1) (by omega)).1
    have a3 := (manyI_le (t - 1) g f (by omega)).1
    have eT : (manyI t g f).toNat = (manyI t (g - 1) f).toNat + (manyI t g (f - 1)).toNat + (manyI (t - 1) g f).toNat := by omega
    have p1 : sumTo (hitR out (n + 1) t g f p o) (manyI t (g - 1) f).toNat = if 0 < g then cntW out n t (g - 1) f (p ++ [46]) o else 0 := by
      by_cases h : 0 < g
      · rw [if_pos h, ← cntW_ranks out o n t (g - 1) f (p ++ [46]) ht (by omega) hf (by omega) (by omega)]
        refine sumTo_congr _ fun r hr => ?_
        unfold hitR
        rw [unr_gap (by omega), List.append_assoc]
        rfl
      · have e : manyI t (g - 1) f = 0 := manyI_neg (by omega)
        rw [if_neg h, e]; rfl
    have p2 : sumTo (fun r => hitR out (n + 1) t g f p o ((manyI t (g - 1) f).toNat + r)) (manyI t g (f - 1)).toNat = if 0 < f then cntW out n t g (f - 1) (p ++ [70]) o else 0 := by
      by_cases h : 0 < f
      · rw [if_pos h, ← cntW_ranks out o n t g (f - 1) (p ++ [70]) ht hg (by omega) (by omega) (by omega)]
        refine sumTo_congr _ fun r hr => ?_
        unfold hitR
        rw [unr_frog (by omega) (by omega), List.append_assoc, show (((manyI t (g - 1) f).toNat + r : Nat) : Int) - manyI t (g - 1) f = r by omega]
        rfl
      · have e : manyI t g (f - 1) = 0 := manyI_neg (by omega)
        rw [if_neg h, e]; rfl
    have p3 : sumTo (fun r => hitR out (n + 1) t g f p o ((manyI t (g - 1) f).toNat + (manyI t g (f - 1)).toNat + r)) (manyI (t - 1) g f).toNat = if 0 < t then cntW out n (t - 1) g f (p ++ [84]) o else 0 := by
      by_cases h : 0 < t
      · rw [if_pos h, ← cntW_ranks out o n (t - 1) g f (p ++ [84]) (by omega) hg hf (by omega) (by omega)]
        refine sumTo_congr _ fun r hr => ?_
        unfold hitR
        rw [unr_toad (by omega) (by omega), List.append_assoc, show (((manyI t (g - 1) f).toNat + (manyI t g (f - 1)).toNat + r : Nat) : Int) - (manyI t (g - 1) f + manyI t g (f - 1)) = r by omega]
        rfl
      · have e : manyI (t - 1) g f = 0 := manyI_neg (by omega)
        rw [if_neg h, e]; rfl
    rw [eT, sumTo_add, sumTo_add, p1, p2, p3]
    show _ = (if 0 < t then _ else _) + (if 0 < g then _ else _) + (if 0 < f then _ else _)
    omega
theorem cntW_le (out : List UInt8 → Nat) (o n : Nat) (t g f : Int) (p : List UInt8) (ht : 0 ≤ t) (hg : 0 ≤ g) (hf : 0 ≤ f) (hn : t + g + f = n) (h12 : n ≤ 12) : (cntW out n t g f p o : Int) ≤ manyI t g f := by
  rw [← cntW_ranks out o n t g f p ht hg hf hn h12]
  have h1 := sumTo_le (φ := hitR out n t g f p o) (fun r => by unfold hitR; split <;> omega) (manyI t g f).toNat
  have h2 := (manyI_le t g f (by omega)).1
  omega
end Go.Proofs.YtdcbjbmnkajjcaaDoor
namespace Go.Proofs.YtdcbjbmnkajjcaaDoor
open Go.RowKit

/-- A ring is the first one of its turned ones; and blocked. -/
def ciA (p : List UInt8) : Nat := if leastL p = p then 1 else 0
def ciK (p : List UInt8) : Nat := if leastL p = p ∧ rgTo (str p) p.length = [] then 1 else 0
/-- What is counted of the lines that begin so. -/
def cA (n : Nat) (t g f : Int) (p : List UInt8) : Nat := cntW ciA n t g f p 1
def cK (n : Nat) (t g f : Int) (p : List UInt8) : Nat := cntW ciK n t g f p 1
def CnPost (w : World) (a b : Nat) (e : Ending) (w' : World) : Prop := e = .returned (.tuple #[.int .i64 a, .int .i64 b]) ∧ Below w.heap.size w w'
theorem ring_str {p : List UInt8} (hp : p.all isSign = true) (h3 : 3 ≤ p.length) (h9 : p.length ≤ 9) : ringB (str p) = true := by
  have hg : goodL (str p) = true := (goodL_iff _).2 ⟨by rw [str_size]; omega, by rw [str_size]; omega, by rw [byt_str]; exact hp⟩
  rw [ring_in _ hg, str_size]
  unfold inR
  simp
  omega
theorem cA_le (n : Nat) (t g f : Int) (p : List UInt8) (ht : 0 ≤ t) (hg : 0 ≤ g) (hf : 0 ≤ f) (hn : t + g + f = n) (h : n ≤ 9) : cA n t g f p ≤ 8916100448256 ∧ cK n t g f p ≤ 8916100448256 := by
  have h1 := cntW_le ciA 1 n t g f p ht hg hf hn (by omega)
  have h2 := cntW_le ciK 1 n t g f p ht hg hf hn (by omega)
  have h3 := (manyI_le t g f (by omega)).2
  unfold cA cK
  omega

/-- Three signs as a list in memory; three numbers. -/
abbrev LfBx (W : World) (b : Nat) (x y z : Int) : Prop :=
  W.cell? ⟨b, 0, none⟩ = some (.int .i64 x) ∧ W.cell? ⟨b, 1, none⟩ = some (.int .i64 y) ∧ W.cell? ⟨b, 2, none⟩ = some (.int .i64 z) ∧ b < W.heap.size
theorem lf_below {W W' : World} {b : Nat} {x y z : Int} (h : LfBx W b x y z) (hb : Below W.heap.size W W') : LfBx W' b x y z :=
  ⟨(hb.cell (p := ⟨b, 0, none⟩) h.2.2.2).trans h.1, (hb.cell (p := ⟨b, 1, none⟩) h.2.2.2).trans h.2.1, (hb.cell (p := ⟨b, 2, none⟩) h.2.2.2).trans h.2.2.1, Nat.lt_of_lt_of_le h.2.2.2 hb.size⟩
abbrev sgO : Obj := .cells #[.string ⟨#[84]⟩, .string ⟨#[46]⟩, .string ⟨#[70]⟩] 9

end Go.Proofs.YtdcbjbmnkajjcaaDoor
namespace Go.Proofs.YtdcbjbmnkajjcaaDoor
open Go.RowKit

def delB (x : List UInt8) : Bool := !decide (x = leastL x)
def keepL (L : List (List UInt8)) : List (List UInt8) := L.filter fun x => !delB x

/-- What a search tells: no one, or the first one. -/
def IxIs (L : List (List UInt8)) (r : Int) : Prop := (r = -1 ∧ ∀ x ∈ L, delB x = false) ∨ ∃ i : Nat, r = i ∧ ∃ h : i < L.length, delB L[i] = true ∧ ∀ j (hj : j < L.length), j < i → delB L[j] = false

/-- The kept ones, of the first ones. -/
theorem keep_all (L : List (List UInt8)) (h : ∀ x ∈ L, delB x = false) : keepL L = L := by
  unfold keepL
  exact List.filter_eq_self.2 fun x hx => by rw [h x hx]; rfl
theorem keep_first (L : List (List UInt8)) (i : Nat) (h : i < L.length) (hd : delB L[i] = true) (hno : ∀ j (hj : j < L.length), j < i → delB L[j] = false) : keepL (L.take (i + 1)) = L.take i := by
  rw [List.take_succ_eq_append_getElem h]
  unfold keepL
  rw [List.filter_append]
  have h1 : List.filter (fun x => !delB x) [L[i]] = [] := by simp [hd]
  rw [h1, List.append_nil]
  refine List.filter_eq_self.2 fun x hx => ?_
  obtain ⟨k, hk, e⟩ := List.getElem_of_mem hx
  rw [List.getElem_take] at e
  rw [List.length_take] at hk
  rw [← e, hno k (by omega) (by omega)]
  rfl
theorem keep_next (L : List (List UInt8)) (j : Nat) (h : j < L.length) : keepL (L.take (j + 1)) = keepL (L.take j) ++ if delB L[j] then [] else [L[j]] := by
  rw [List.take_succ_eq_append_getElem h]
  unfold keepL
  rw [List.filter_append]
  cases hd : delB L[j] <;> simp [hd]
theorem keep_len (L : List (List UInt8)) : (keepL L).length ≤ L.length := List.length_filter_le _ _
theorem txs_set (L : List (List UInt8)) (i : Nat) (x : List UInt8) : (txs L).set i (.string (str x)) = txs (L.set i x) := by simp [txs, List.map_set]
/-- What the first cells hold while others are moved up: the kept ones in front, the rest as it was. -/
structure DelSt (L C : List (List UInt8)) (a b : Nat) : Prop where
  len : C.length = L.length
  lt : a < b
  ble : b ≤ L.length
  front : C.take a = keepL (L.take b)
  back : C.drop b = L.drop b
theorem DelSt.alen {L C : List (List UInt8)} {a b : Nat} (h : DelSt L C a b) : a = (keepL (L.take b)).length := by
  rw [← h.front, List.length_take, h.len]
  have := h.lt; have := h.ble
  omega
theorem DelSt.at {L C : List (List UInt8)} {a b : Nat} (h : DelSt L C a b) (hb : b < L.length) : ∃ hc : b < C.length, C[b] = L[b] := by
  have hc : b < C.length := by rw [h.len]; exact hb
  refine ⟨hc, ?_⟩
  have h1 := h.back
  rw [List.drop_eq_getElem_cons hc, List.drop_eq_getElem_cons hb] at h1
  injection h1
theorem DelSt.skip {L C : List (List UInt8)} {a b : Nat} (h : DelSt L C a b) (hb : b < L.length) (hd : delB L[b] = true) : DelSt L C a (b + 1) := by
  refine ⟨h.len, by have := h.lt; omega, by omega, ?_, ?_⟩
  · rw [keep_next L b hb, hd, if_pos rfl, List.append_nil]; exact h.front
  · rw [← List.drop_drop, ← List.drop_drop, h.back]
theorem DelSt.put {L C : List (List UInt8)} {a b : Nat} (h : DelSt L C a b) (hb : b < L.length) (hd : delB L[b] = false) : DelSt L (C.set a L[b]) (a + 1) (b + 1) := by
  have hlt := h.lt
  have hl := h.len
  refine ⟨by rw [List.length_set]; exact hl, by omega, by omega, ?_, ?_⟩
  · rw [keep_next L b hb, hd, if_neg (by decide), ← h.front, List.take_succ_eq_append_getElem (by rw [List.length_set]; omega), List.take_set_of_le (Nat.le_refl _)]
    simp
  · rw [List.drop_set_of_lt (by omega), ← List.drop_drop, ← List.drop_drop, h.back]
theorem DelSt.start {L : List (List UInt8)} {i : Nat} (h : i < L.length) (hd : delB L[i] = true) (hno : ∀ j (hj : j < L.length), j < i → delB L[j] = false) : DelSt L L i (i + 1) :=
  ⟨rfl, by omega, by omega, (keep_first L i h hd hno).symm, rfl⟩
end Go.Proofs.YtdcbjbmnkajjcaaDoor
namespace Go.Proofs.YtdcbjbmnkajjcaaDoor
open Go.RowKit

theorem size_setCs (b : Nat) : ∀ (vs : List Value) (o : Nat) (w : World), (w.setCells b o vs).heap.size = w.heap.size
  | [], _, _ => rfl
  | v :: r, o, w => by rw [World.setCells, size_setCs b r]; simp
theorem below_setCs {B b : Nat} {a : World} (hb : B ≤ b) : ∀ (vs : List Value) (o : Nat) (w : World), Below B a w → Below B a (w.setCells b o vs)
  | [], _, _, h => h
  | v :: r, o, w, h => by rw [World.setCells]; exact below_setCs hb r _ _ (h.setCell hb _)

/-- 'clear' on the rest of a list of texts. -/
theorem run_clear_slice_at {P : Program} (w : World) (b o n c : Nat) (hn : 0 < n) (hc : ∀ j, j < n → (w.cell? ⟨b, o + j, none⟩).isSome = true) (hf : ∀ j, j < n → w.frozen? ⟨b, o + j, none⟩ = false)
    (ht : P.underlying 22 = some (.slice 9)) (hv : ∀ w, (zeroValue 9).run P w = .ok (.string ByteArray.empty) w) (ty : TypeId) :
    (Builtin.clear_ #[22] ty #[.slice (some ⟨b, o, none⟩) n c]).run P w = .ok (.tuple #[]) (w.setCells b o (List.replicate n (.string ByteArray.empty))) :=
  Lib.run_clear_slice w 22 9 ty (.string ByteArray.empty) ht hv rfl rfl b o n c hn hc hf

end Go.Proofs.YtdcbjbmnkajjcaaDoor
namespace Go.Proofs.YtdcbjbmnkajjcaaDoor
open Go.RowKit

/-- Numbers of toads, gaps and frogs of a ring. -/
def thrC (t g f : Int) : Bool := [t, g, f].all (inR · 0 9) && inR (t + g + f) 3 9
theorem thrC_iff (t g f : Int) : thrC t g f = true ↔ (0 ≤ t ∧ 0 ≤ g ∧ 0 ≤ f ∧ 3 ≤ t + g + f ∧ t + g + f ≤ 9) := by
  simp [thrC, inR, and_assoc]
  omega
theorem thrC_three {t g f : Int} (h : thrC t g f = true) : three t g f = true := by
  have := (thrC_iff t g f).1 h
  rw [three_iff]
  omega
theorem many9 {t g f : Int} (h : thrC t g f = true) : manyI t g f ≤ 100000 := by
  have h0 : ((List.range 10).all fun t => (List.range 10).all fun g => (List.range 10).all fun f => decide (9 < t + g + f) || decide (manyI (t : Int) (g : Int) (f : Int) ≤ 100000)) = true := by decide +kernel
  obtain ⟨ht, hg, hf, _, hs⟩ := (thrC_iff t g f).1 h
  obtain ⟨x, rfl⟩ := Int.eq_ofNat_of_zero_le ht
  obtain ⟨y, rfl⟩ := Int.eq_ofNat_of_zero_le hg
  obtain ⟨z, rfl⟩ := Int.eq_ofNat_of_zero_le hf
  rw [List.all_eq_true] at h0
  have a := h0 x (List.mem_range.2 (by omega))
  rw [List.all_eq_true] at a
  have b := a y (List.mem_range.2 (by omega))
  rw [List.all_eq_true] at b
  have c := b z (List.mem_range.2 (by omega))
  simp at c
  omega
theorem lnk_ring {t g f : Int} (h : thrC t g f = true) {k : Nat} (hk : k < manyK t g f) : ringB (str (lnk t g f k)) = true := by
  obtain ⟨ht, hg, hf, h3, h9⟩ := (thrC_iff t g f).1 h
  have hm := manyK_eq (thrC_three h)
  obtain ⟨ha, _⟩ := rkL_unr (t + g + f).toNat t g f k ht hg hf (by omega) (by omega) (by omega) (by omega)
  have hl : (lnk t g f k).length = (t + g + f).toNat := unr_len _ _ _ _ _
  exact ring_str ha (by omega) (by omega)
theorem keep_app (A B : List (List UInt8)) : keepL (A ++ B) = keepL A ++ keepL B := by unfold keepL; rw [List.filter_append]
/-- So many rings, and so many blocked ones, of the lines by rank. -/
theorem keep_sum (t g f : Int) : ∀ k, (keepL (lnsTo t g f k)).length = sumTo (hitR ciA (t + g + f).toNat t g f [] 1) k
  | 0 => rfl
  | k + 1 => by
    rw [lns_succ, keep_app, List.length_append, keep_sum t g f k]
    show _ = sumTo _ k + hitR ciA _ t g f [] 1 k
    congr 1
    unfold hitR ciA keepL delB
    show (List.filter _ [lnk t g f k]).length = if (if leastL (lnk t g f k) = lnk t g f k then 1 else 0) = 1 then 1 else 0
    by_cases h : leastL (lnk t g f k) = lnk t g f k
    · simp [h]
    · have h2 : ¬ lnk t g f k = leastL (lnk t g f k) := fun e => h e.symm
      simp [h, h2]
def blkL (L : List (List UInt8)) : Nat := (L.filter fun x => decide (rgTo (str x) x.length = [])).length
theorem blk_sum (t g f : Int) : ∀ k, blkL (keepL (lnsTo t g f k)) = sumTo (hitR ciK (t + g + f).toNat t g f [] 1) k
  | 0 => rfl
  | k + 1 => by
    have e : blkL (keepL (lnsTo t g f (k + 1))) = blkL (keepL (lnsTo t g f k)) + blkL (keepL [lnk t g f k]) := by
      rw [lns_succ, keep_app]; unfold blkL; rw [List.filter_append, List.length_append]
    rw [e, blk_sum t g f k]
    show _ = sumTo _ k + hitR ciK _ t g f [] 1 k
    congr 1
    unfold hitR ciK blkL keepL delB
    show (List.filter _ (List.filter _ [lnk t g f k])).length = if (if leastL (lnk t g f k) = lnk t g f k ∧ rgTo (str (lnk t g f k)) (lnk t g f k).length = [] then 1 else 0) = 1 then 1 else 0
    by_cases h : leastL (lnk t g f k) = lnk t g f k
    · by_cases h3 : rgTo (str (lnk t g f k)) (lnk t g f k).length = []
      · simp [h, h3]
      · simp [h, h3]
    · have h2 : ¬ lnk t g f k = leastL (lnk t g f k) := fun e => h e.symm
      simp [h, h2]
/-- How many rings; how many blocked ones. -/
def nA (t g f : Int) : Nat := cA (t + g + f).toNat t g f []
def nK (t g f : Int) : Nat := cK (t + g + f).toNat t g f []
theorem keep_nA {t g f : Int} (h : thrC t g f = true) : (keepL (lnsTo t g f (manyK t g f))).length = nA t g f ∧ blkL (keepL (lnsTo t g f (manyK t g f))) = nK t g f := by
  obtain ⟨ht, hg, hf, h3, h9⟩ := (thrC_iff t g f).1 h
  constructor
  · rw [keep_sum]; exact cntW_ranks ciA 1 _ t g f [] ht hg hf (by omega) (by omega)
  · rw [blk_sum]; exact cntW_ranks ciK 1 _ t g f [] ht hg hf (by omega) (by omega)

/-- The least rings, or none. -/
def lrL (t g f : Int) : List (List UInt8) := keepL (lnsTo t g f (manyK t g f))
end Go.Proofs.YtdcbjbmnkajjcaaDoor
