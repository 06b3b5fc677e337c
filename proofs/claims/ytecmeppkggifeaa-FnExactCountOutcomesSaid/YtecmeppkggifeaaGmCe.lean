/- CountOutcomes: counts by rank and sign by sign, both sides, the law's walk. -/
import Derived.Test.YtecmeppkggifeaaRankMath
import Derived.Test.YtecmeppkggifeaaGmX
import Derived.Test.YtecmeppkggifeaaGmY
import Derived.Test.YtecmeppkggifeaaUnrI
namespace Go.Proofs.Ytecmeppkggifeaa
open Go.RowKit

def sumTo (φ : Nat → Nat) : Nat → Nat
  | 0 => 0
  | m + 1 => sumTo φ m + φ m
theorem sumTo_add (φ : Nat → Nat) (a : Nat) : ∀ b, sumTo φ (a + b) = sumTo φ a + sumTo (fun r => φ (a + r)) b
  | 0 => rfl
  | b + 1 => by
    show sumTo φ (a + b) + φ (a + b) = sumTo φ a + (sumTo (fun r => φ (a + r)) b + φ (a + b))
    rw [sumTo_add φ a b]; omega
theorem sumTo_congr {φ ψ : Nat → Nat} : ∀ m, (∀ r, r < m → φ r = ψ r) → sumTo φ m = sumTo ψ m
  | 0, _ => rfl
  | m + 1, h => by
    show sumTo φ m + φ m = sumTo ψ m + ψ m
    rw [sumTo_congr m fun r hr => h r (by omega), h m (by omega)]
theorem sumTo_le {φ : Nat → Nat} (h : ∀ r, φ r ≤ 1) : ∀ m, sumTo φ m ≤ m
  | 0 => Nat.le_refl _
  | m + 1 => by
    have h1 := sumTo_le h m
    have h2 := h m
    show sumTo φ m + φ m ≤ m + 1
    omega
/-- How many lines that begin with p and have so many more signs are counted at o. -/
def cntW (out : List UInt8 → Nat) : Nat → Int → Int → Int → List UInt8 → Nat → Nat
  | 0, _, _, _, p, o => if out p = o then 1 else 0
  | n + 1, t, g, f, p, o => (if 0 < t then cntW out n (t - 1) g f (p ++ [84]) o else 0) + (if 0 < g then cntW out n t (g - 1) f (p ++ [46]) o else 0) + (if 0 < f then cntW out n t g (f - 1) (p ++ [70]) o else 0)
def hitR (out : List UInt8 → Nat) (n : Nat) (t g f : Int) (p : List UInt8) (o r : Nat) : Nat := if out (p ++ unr n t g f r) = o then 1 else 0
theorem manyI_neg {t g f : Int} (h : t < 0 ∨ g < 0 ∨ f < 0) : manyI t g f = 0 := by unfold manyI; rw [if_pos h]
theorem unr_gap {n : Nat} {t g f r : Int} (h : r < manyI t (g - 1) f) : unr (n + 1) t g f r = 46 :: unr n t (g - 1) f r := by rw [unr, if_pos h]
theorem unr_frog {n : Nat} {t g f r : Int} (h1 : ¬ r < manyI t (g - 1) f) (h : r < manyI t (g - 1) f + manyI t g (f - 1)) : unr (n + 1) t g f r = 70 :: unr n t g (f - 1) (r - manyI t (g - 1) f) := by rw [unr, if_neg h1, if_pos h]
theorem unr_toad {n : Nat} {t g f r : Int} (h1 : ¬ r < manyI t (g - 1) f) (h : ¬ r < manyI t (g - 1) f + manyI t g (f - 1)) : unr (n + 1) t g f r = 84 :: unr n (t - 1) g f (r - (manyI t (g - 1) f + manyI t g (f - 1))) := by rw [unr, if_neg h1, if_neg h]
theorem cntW_ranks (out : List UInt8 → Nat) (o : Nat) : ∀ (n : Nat) (t g f : Int) (p : List UInt8), 0 ≤ t → 0 ≤ g → 0 ≤ f → t + g + f = n → n ≤ 12 →
    sumTo (hitR out n t g f p o) (manyI t g f).toNat = cntW out n t g f p o
  | 0, t, g, f, p, ht, hg, hf, hn, _ => by
    obtain rfl : t = 0 := by omega
    obtain rfl : g = 0 := by omega
    obtain rfl : f = 0 := by omega
    rw [many_zero]
    show 0 + hitR out 0 0 0 0 p o 0 = _
    simp [hitR, unr, cntW]
  | n + 1, t, g, f, p, ht, hg, hf, hn, h12 => by
    have hs := many_sum t g f ht hg hf (by omega) (by omega)
    have a1 := (manyI_le t (g - 1) f (by omega)).1
    have a2 := (manyI_le t g (f - 1) (by omega)).1
    have a3 := (manyI_le (t - 1) g f (by omega)).1
    have eT : (manyI t g f).toNat = (manyI t (g - 1) f).toNat + (manyI t g (f - 1)).toNat + (manyI (t - 1) g f).toNat := by omega
    have p1 : sumTo (hitR out (n + 1) t g f p o) (manyI t (g - 1) f).toNat = if 0 < g then cntW out n t (g - 1) f (p ++ [46]) o else 0 := by
      by_cases h : 0 < g
      · rw [if_pos h, ← cntW_ranks out o n t (g - 1) f (p ++ [46]) ht (by omega) hf (by omega) (by omega)]
        refine sumTo_congr _ fun r hr => ?_
        unfold hitR
        rw [unr_gap (by omega), List.append_assoc]
        rfl
      · have e : manyI t (g - 1) f = 0 := manyI_neg (by omega)
        rw [if_neg h, e]; rfl
    have p2 : sumTo (fun r => hitR out (n + 1) t g f p o ((manyI t (g - 1) f).toNat + r)) (manyI t g (f - 1)).toNat = if 0 < f then cntW out n t g (f - 1) (p ++ [70]) o else 0 := by
      by_cases h : 0 < f
      · rw [if_pos h, ← cntW_ranks out o n t g (f - 1) (p ++ [70]) ht hg (by omega) (by omega) (by omega)]
        refine sumTo_congr _ fun r hr => ?_
        unfold hitR
        rw [unr_frog (by omega) (by omega), List.append_assoc, show (((manyI t (g - 1) f).toNat + r : Nat) : Int) - manyI t (g - 1) f = r by omega]
        rfl
      · have e : manyI t g (f - 1) = 0 := manyI_neg (by omega)
        rw [if_neg h, e]; rfl
    have p3 : sumTo (fun r => hitR out (n + 1) t g f p o ((manyI t (g - 1) f).toNat + (manyI t g (f - 1)).toNat + r)) (manyI (t - 1) g f).toNat = if 0 < t then cntW out n (t - 1) g f (p ++ [84]) o else 0 := by
      by_cases h : 0 < t
      · rw [if_pos h, ← cntW_ranks out o n (t - 1) g f (p ++ [84]) (by omega) hg hf (by omega) (by omega)]
        refine sumTo_congr _ fun r hr => ?_
        unfold hitR
        rw [unr_toad (by omega) (by omega), List.append_assoc, show (((manyI t (g - 1) f).toNat + (manyI t g (f - 1)).toNat + r : Nat) : Int) - (manyI t (g - 1) f + manyI t g (f - 1)) = r by omega]
        rfl
      · have e : manyI (t - 1) g f = 0 := manyI_neg (by omega)
        rw [if_neg h, e]; rfl
    rw [eT, sumTo_add, sumTo_add, p1, p2, p3]
    show _ = (if 0 < t then _ else _) + (if 0 < g then _ else _) + (if 0 < f then _ else _)
    omega
end Go.Proofs.Ytecmeppkggifeaa

/- Contract: the model counts the outcomes of all lines. -/
namespace Go.Proofs.Ytecmeppkggifeaa
open Go.RowKit

/-- Which outcome a line has: 0 to 3. -/
def outN (p : List UInt8) : Nat := (outI (Wn true p) (Wn false p)).toNat
/-- The outcomes' signs in their order. -/
def ocS (k : Nat) : UInt8 := if k = 0 then 49 else if k = 1 then 50 else if k = 2 then 70 else 84
theorem ocS_out (p : List UInt8) (k : Nat) (hk : k < 4) : ([outC (Wn true p) (Wn false p)] = [ocS k]) ↔ k = outN p := by
  unfold outN outC outI ocS
  cases Wn true p <;> cases Wn false p <;> (rcases (by omega : k = 0 ∨ k = 1 ∨ k = 2 ∨ k = 3) with rfl | rfl | rfl | rfl) <;> decide
theorem outN_lt (p : List UInt8) : outN p < 4 := by
  unfold outN outI
  cases Wn true p <;> cases Wn false p <;> decide
/-- Four counts in a block. -/
def CtB (w : World) (g : Nat) (c : Nat → Nat) : Prop := w.heap[g]? = some (.cells #[.int .i64 (c 0 : Int), .int .i64 (c 1 : Int), .int .i64 (c 2 : Int), .int .i64 (c 3 : Int)] 3 (0, 0))
theorem CtB.lt {w : World} {g : Nat} {c : Nat → Nat} (h : CtB w g c) : g < w.heap.size := (Array.getElem?_eq_some_iff.1 h).1
theorem CtB.at {w : World} {g : Nat} {c : Nat → Nat} (h : CtB w g c) (k : Nat) (hk : k < 4) : w.cell? ⟨g, k, none⟩ = some (.int .i64 (c k : Int)) ∧ w.frozen? ⟨g, k, none⟩ = false := by
  unfold CtB at h
  rcases (by omega : k = 0 ∨ k = 1 ∨ k = 2 ∨ k = 3) with rfl | rfl | rfl | rfl <;> simp [World.cell?, World.frozen?, h]
theorem CtB.set {w : World} {g : Nat} {c : Nat → Nat} (h : CtB w g c) (k : Nat) (hk : k < 4) (n : Nat) : CtB (w.setCell ⟨g, k, none⟩ (.int .i64 (n : Int))) g (fun o => if o = k then n else c o) := by
  unfold CtB at h ⊢
  rcases (by omega : k = 0 ∨ k = 1 ∨ k = 2 ∨ k = 3) with rfl | rfl | rfl | rfl
  · simpa using heap_setCell_same w g 0 _ _ (.int .i64 (n : Int)) h
  · simpa using heap_setCell_same w g 1 _ _ (.int .i64 (n : Int)) h
  · simpa using heap_setCell_same w g 2 _ _ (.int .i64 (n : Int)) h
  · simpa using heap_setCell_same w g 3 _ _ (.int .i64 (n : Int)) h
theorem CtB.kp {w w' : World} {g : Nat} {c : Nat → Nat} (h : CtB w g c) (hb : Below w.heap.size w w') : CtB w' g c := (hb.block _ h.lt).trans h
theorem CtB.congr {w : World} {g : Nat} {c d : Nat → Nat} (h : CtB w g c) (e : ∀ o, o < 4 → c o = d o) : CtB w g d := by
  unfold CtB at h ⊢
  rw [← e 0 (by omega), ← e 1 (by omega), ← e 2 (by omega), ← e 3 (by omega)]
  exact h
theorem KpM.setCell {B k : Nat} {W W' : World} (h : KpM B W W') (v : Value) : KpM B W (W'.setCell ⟨B, k, none⟩ v) :=
  h.trans ⟨rfl, rfl, rfl, by simp, fun i hne _ => Below.heap_setCell _ _ _ _ (fun e => hne (by rw [e]))⟩
theorem cntW_le (out : List UInt8 → Nat) (o n : Nat) (t g f : Int) (p : List UInt8) (ht : 0 ≤ t) (hg : 0 ≤ g) (hf : 0 ≤ f) (hn : t + g + f = n) (h12 : n ≤ 12) : (cntW out n t g f p o : Int) ≤ manyI t g f := by
  rw [← cntW_ranks out o n t g f p ht hg hf hn h12]
  have h1 := sumTo_le (φ := hitR out n t g f p o) (fun r => by unfold hitR; split <;> omega) (manyI t g f).toNat
  have h2 := (manyI_le t g f (by omega)).1
  omega
/-- What a count leaves. -/
def CtP (W : World) (gc : Nat) (c : Nat → Nat) (m : Nat → Nat) (e : Ending) (W' : World) : Prop := e = .returned (.tuple #[]) ∧ CtB W' gc (fun o => c o + m o) ∧ KpM gc W W'
set_option maxRecDepth 100000 in
set_option maxHeartbeats 2000000 in
theorem gaCount_end (gc : Nat) (c : Nat → Nat) (p : List UInt8) (W : World) (hp : fewB (str p) = true) (hc : CtB W gc c) (hle : ∀ o, o < 4 → c o ≤ 1000000) :
    Calls Try.prog 80 #[.string (str p), .int .i64 0, .int .i64 0, .int .i64 0, .slice (some ⟨gc, 0, none⟩) 4 4] W (CtP W gc c fun o => if outN p = o then 1 else 0) := by
  have hO : ∀ wx : World, Calls Try.prog 60 #[.slice (some ⟨wx.heap.size, 0, none⟩) 1 1] (wx.alloc (.cells #[.string (str p)] 9)) fun e w' => e = .returned (.string (str [outC (Wn true p) (Wn false p)])) ∧ Below (wx.alloc (.cells #[.string (str p)] 9)).heap.size (wx.alloc (.cells #[.string (str p)] 9)) w' := fun wx =>
    gaOutcome_any [p] (some ⟨wx.heap.size, 0, none⟩) 1 _ (one_slice wx p) (fun a e => by injection e with e; subst e; simp) (by rw [sumOk_one]; exact hp)
  have HO := Lib.hid hO
  have HS := Lib.hid (ocS_out p)
  have hlt := hc.lt
  have HC := Lib.hid hc
  have HLE := Lib.hid hle
  have hb0 : Below W.heap.size W (W.alloc (.cells #[.string (str [49]), .string (str [50]), .string (str [70]), .string (str [84])] 9)) := (Below.refl _ _).alloc (Nat.le_refl _) _
  have hd : ∀ k, k < 4 → (W.alloc (.cells #[.string (str [49]), .string (str [50]), .string (str [70]), .string (str [84])] 9)).cell? ⟨W.heap.size, k, none⟩ = some (.string (str [ocS k])) := fun k hk => by
    rw [World.cell?_alloc_new]
    rcases (by omega : k = 0 ∨ k = 1 ∨ k = 2 ∨ k = 3) with rfl | rfl | rfl | rfl <;> rfl
  have HDD := Lib.hid hd
  have HB0 := Lib.hid hb0
  clear hO hp hc hle hd hb0
  generalize outC (Wn true p) (Wn false p) = oc at HO HS
  go_enter Try.func80, Try.ntmps80
  go_wp2
  go_loopw [20] (fun i wr => ∃ k : Nat, k ≤ 4 ∧ i = .int .i64 k ∧ Hid (CtB wr gc fun o => c o + if o < k ∧ outN p = o then 1 else 0) ∧ Hid (KpM gc (W.alloc (.cells #[.string (str [49]), .string (str [50]), .string (str [70]), .string (str [84])] 9)) wr)) (fun i _ => 4 - (intOf i).toNat)
  case atStart => exact ⟨0, by omega, rfl, Lib.hid ((HC.out.kp HB0.out).congr fun o _ => by simp), Lib.hid (KpM.refl _ _)⟩
  case round =>
    obtain ⟨k, hk, rfl, HCT, HKP⟩ := hrel
    by_cases hltk : k < 4
    · have d0 := (HKP.out.cell (b := W.heap.size) (o := k) (by simp) (by omega)).trans (HDD.out k hltk)
      have hbw : Below wr.heap.size wr (wr.alloc (.cells #[.string (str p)] 9)) := (Below.refl _ _).alloc (Nat.le_refl _) _
      have HBW := Lib.hid hbw
      clear hbw
      have j1 : (0 : Int) ≤ (k : Int) := by omega
      have j2 : (k : Int) < 4 := by omega
      go_wp2_with fail
      refine (HO.out _).mono ?_
      rintro e w3 ⟨rfl, hb3⟩
      have HB3 := Lib.hid (HBW.out.trans (hb3.mono HBW.out.size))
      clear hb3
      have HC3 := Lib.hid (HCT.out.kp HB3.out)
      have HK3 := Lib.hid (HKP.out.trans (KpM.below HB3.out))
      by_cases he : [oc] = [ocS k]
      · have hbb : ((str [oc]).toList == (str [ocS k]).toList) = true := by rw [same_str]; simp [he]
        have HE := Lib.hid ((HS.out k hltk).1 he)
        have hcl := HLE.out k hltk
        obtain ⟨q0, q1⟩ := HC3.out.at k hltk
        have e0 : (c k + if k < k ∧ outN p = k then 1 else 0) = c k := by simp
        rw [e0] at q0
        clear he e0
        go_wp2
        go_roundw
        case rel =>
          refine ⟨k + 1, by omega, by go_num, Lib.hid ?_, Lib.hid (HK3.out.setCell _)⟩
          refine ((HC3.out.set k hltk (c k + 1)).congr fun o ho => ?_)
          have h1 := HE.out
          by_cases e : o = k
          · subst e; simp [h1]
          · have : ¬ outN p = o := fun h => e (by omega)
            simp [e, this]
        case measure => simp [intOf]; omega
      · have hbb : ((str [oc]).toList == (str [ocS k]).toList) = false := by rw [same_str]; simpa using he
        have HE := Lib.hid (fun h => he ((HS.out k hltk).2 h))
        clear he
        go_wp2
        go_roundw
        case rel =>
          refine ⟨k + 1, by omega, by go_num, Lib.hid (HC3.out.congr fun o ho => ?_), HK3⟩
          have h1 := HE.out
          by_cases e : o = k
          · subst e
            have : ¬ outN p = o := fun h => h1 h.symm
            simp [this]
          · have : (o < k ∧ outN p = o) ↔ (o < k + 1 ∧ outN p = o) := by constructor <;> (rintro ⟨a, b⟩; exact ⟨by omega, b⟩)
            simp [this]
        case measure => simp [intOf]; omega
    · obtain rfl : k = 4 := by omega
      go_wp2
      go_end0
      exact ⟨rfl, HCT.out.congr fun o ho => by simp [ho], (KpM.below HB0.out).trans HKP.out⟩
end Go.Proofs.Ytecmeppkggifeaa

/- Contract: the model counts the outcomes of all lines, sign by sign. -/
namespace Go.Proofs.Ytecmeppkggifeaa
open Go.RowKit
set_option maxRecDepth 100000 in
set_option maxHeartbeats 4000000 in
theorem gaCount_any (gc : Nat) : ∀ (n : Nat) (t g f : Int) (p : List UInt8) (c : Nat → Nat) (W : World), 0 ≤ t → 0 ≤ g → 0 ≤ f → t + g + f = n → 1 ≤ p.length + n → p.length + n ≤ 10 → p.all isSign = true →
    CtB W gc c → (∀ o, o < 4 → ((c o : Nat) : Int) + manyI t g f ≤ 1000000) →
    Calls Try.prog 80 #[.string (str p), .int .i64 t, .int .i64 g, .int .i64 f, .slice (some ⟨gc, 0, none⟩) 4 4] W (CtP W gc c fun o => cntW outN n t g f p o)
  | 0, t, g, f, p, c, W, ht, hg, hf, hn, h1, h10, hp, hc, hle => by
    obtain rfl : t = 0 := by omega
    obtain rfl : g = 0 := by omega
    obtain rfl : f = 0 := by omega
    refine gaCount_end gc c p W ?_ hc fun o ho => by have := hle o ho; rw [many_zero] at this; omega
    unfold fewB
    rw [Bool.and_eq_true, decide_eq_true_iff, goodL_iff, str_size, byt_str]
    exact ⟨⟨by omega, by omega, hp⟩, by omega⟩
  | n + 1, t, g, f, p, c, W, ht, hg, hf, hn, h1, h10, hp, hc, hle => by
    have e84 : str (p ++ [84]) = str p ++ ⟨#[84]⟩ := by rw [← str_app]; rfl
    have e46 : str (p ++ [46]) = str p ++ ⟨#[46]⟩ := by rw [← str_app]; rfl
    have e70 : str (p ++ [70]) = str p ++ ⟨#[70]⟩ := by rw [← str_app]; rfl
    have hT : ∀ (_ : 0 < t) (wx : World) (c' : Nat → Nat), CtB wx gc c' → (∀ o, o < 4 → ((c' o : Nat) : Int) + manyI (t - 1) g f ≤ 1000000) → Calls Try.prog 80 #[.string (str p ++ ⟨#[84]⟩), .int .i64 (t - 1), .int .i64 g, .int .i64 f, .slice (some ⟨gc, 0, none⟩) 4 4] wx (CtP wx gc c' fun o => cntW outN n (t - 1) g f (p ++ [84]) o) := fun h0 wx c' h2 h3 => by
      rw [← e84]
      exact gaCount_any gc n (t - 1) g f (p ++ [84]) c' wx (by omega) hg hf (by omega) (by simp; omega) (by simp; omega) (by rw [List.all_append, hp]; rfl) h2 h3
    have hG : ∀ (_ : 0 < g) (wx : World) (c' : Nat → Nat), CtB wx gc c' → (∀ o, o < 4 → ((c' o : Nat) : Int) + manyI t (g - 1) f ≤ 1000000) → Calls Try.prog 80 #[.string (str p ++ ⟨#[46]⟩), .int .i64 t, .int .i64 (g - 1), .int .i64 f, .slice (some ⟨gc, 0, none⟩) 4 4] wx (CtP wx gc c' fun o => cntW outN n t (g - 1) f (p ++ [46]) o) := fun h0 wx c' h2 h3 => by
      rw [← e46]
      exact gaCount_any gc n t (g - 1) f (p ++ [46]) c' wx ht (by omega) hf (by omega) (by simp; omega) (by simp; omega) (by rw [List.all_append, hp]; rfl) h2 h3
    have hF : ∀ (_ : 0 < f) (wx : World) (c' : Nat → Nat), CtB wx gc c' → (∀ o, o < 4 → ((c' o : Nat) : Int) + manyI t g (f - 1) ≤ 1000000) → Calls Try.prog 80 #[.string (str p ++ ⟨#[70]⟩), .int .i64 t, .int .i64 g, .int .i64 (f - 1), .slice (some ⟨gc, 0, none⟩) 4 4] wx (CtP wx gc c' fun o => cntW outN n t g (f - 1) (p ++ [70]) o) := fun h0 wx c' h2 h3 => by
      rw [← e70]
      exact gaCount_any gc n t g (f - 1) (p ++ [70]) c' wx ht hg (by omega) (by omega) (by simp; omega) (by simp; omega) (by rw [List.all_append, hp]; rfl) h2 h3
    have HT := Lib.hid hT
    have HG := Lib.hid hG
    have HF := Lib.hid hF
    have HWT : Hid (∀ (_ : 0 < t) (o : Nat), (cntW outN n (t - 1) g f (p ++ [84]) o : Int) ≤ manyI (t - 1) g f) := Lib.hid fun h o => cntW_le _ o n _ _ _ _ (by omega) hg hf (by omega) (by omega)
    have HWG : Hid (∀ (_ : 0 < g) (o : Nat), (cntW outN n t (g - 1) f (p ++ [46]) o : Int) ≤ manyI t (g - 1) f) := Lib.hid fun h o => cntW_le _ o n _ _ _ _ ht (by omega) hf (by omega) (by omega)
    have HSUM : Hid (manyI t g f = manyI t (g - 1) f + manyI t g (f - 1) + manyI (t - 1) g f ∧ 0 ≤ manyI t (g - 1) f ∧ 0 ≤ manyI t g (f - 1) ∧ 0 ≤ manyI (t - 1) g f) :=
      Lib.hid ⟨many_sum t g f ht hg hf (by omega) (by omega), (manyI_le t (g - 1) f (by omega)).1, (manyI_le t g (f - 1) (by omega)).1, (manyI_le (t - 1) g f (by omega)).1⟩
    have HLE := Lib.hid hle
    have HCX := Lib.hid hc
    have HKX := Lib.hid (KpM.refl gc W)
    have hz : (str p).size ≤ 1000 := by rw [str_size]; omega
    have b1 : t ≤ 12 := by omega
    have b2 : g ≤ 12 := by omega
    have b3 : f ≤ 12 := by omega
    have hne : (t + g + f == 0) = false := by simp; omega
    clear hT hG hF hle hc e84 e46 e70 hn h1 h10 hp
    go_enter Try.func80, Try.ntmps80
    by_cases ht0 : 0 < t
    · have HLXT : Hid (∀ o, o < 4 → ((c o : Nat) : Int) + manyI (t - 1) g f ≤ 1000000) := Lib.hid fun o ho => by
        have b0 := HLE.out o ho
        have b9 := HSUM.out
        omega
      go_wp2_with fail
      refine (HT.out ht0 _ _ HCX.out HLXT.out).mono ?_
      rintro e w1 ⟨rfl, hc1, hk1⟩
      have HCXT := Lib.hid hc1
      have HKXT := Lib.hid (HKX.out.trans hk1)
      clear hc1 hk1
      by_cases hg0 : 0 < g
      · have HLXTG : Hid (∀ o, o < 4 → ((c o + cntW outN n (t - 1) g f (p ++ [84]) o : Nat) : Int) + manyI t (g - 1) f ≤ 1000000) := Lib.hid fun o ho => by
          have b0 := HLE.out o ho
          have bT := HWT.out ht0 o
          have b9 := HSUM.out
          omega
        go_wp2_with fail
        refine (HG.out hg0 _ _ HCXT.out HLXTG.out).mono ?_
        rintro e w2 ⟨rfl, hc2, hk2⟩
        have HCXTG := Lib.hid hc2
        have HKXTG := Lib.hid (HKXT.out.trans hk2)
        clear hc2 hk2
        by_cases hf0 : 0 < f
        · have HLXTGF : Hid (∀ o, o < 4 → ((c o + cntW outN n (t - 1) g f (p ++ [84]) o + cntW outN n t (g - 1) f (p ++ [46]) o : Nat) : Int) + manyI t g (f - 1) ≤ 1000000) := Lib.hid fun o ho => by
            have b0 := HLE.out o ho
            have bT := HWT.out ht0 o
            have bG := HWG.out hg0 o
            have b9 := HSUM.out
            omega
          go_wp2_with fail
          refine (HF.out hf0 _ _ HCXTG.out HLXTGF.out).mono ?_
          rintro e w3 ⟨rfl, hc3, hk3⟩
          have HCXTGF := Lib.hid hc3
          have HKXTGF := Lib.hid (HKXTG.out.trans hk3)
          clear hc3 hk3
          go_wp2
          go_end0
          refine ⟨rfl, HCXTGF.out.congr fun o ho => ?_, HKXTGF.out⟩
          show _ = c o + ((if 0 < t then _ else _) + (if 0 < g then _ else _) + (if 0 < f then _ else _))
          rw [if_pos ht0, if_pos hg0, if_pos hf0]
          omega
        · go_wp2
          go_end0
          refine ⟨rfl, HCXTG.out.congr fun o ho => ?_, HKXTG.out⟩
          show _ = c o + ((if 0 < t then _ else _) + (if 0 < g then _ else _) + (if 0 < f then _ else _))
          rw [if_pos ht0, if_pos hg0, if_neg (Int.not_lt.2 hf0)]
          omega
      · by_cases hf0 : 0 < f
        · have HLXTF : Hid (∀ o, o < 4 → ((c o + cntW outN n (t - 1) g f (p ++ [84]) o : Nat) : Int) + manyI t g (f - 1) ≤ 1000000) := Lib.hid fun o ho => by
            have b0 := HLE.out o ho
            have bT := HWT.out ht0 o
            have b9 := HSUM.out
            omega
          go_wp2_with fail
          refine (HF.out hf0 _ _ HCXT.out HLXTF.out).mono ?_
          rintro e w3 ⟨rfl, hc3, hk3⟩
          have HCXTF := Lib.hid hc3
          have HKXTF := Lib.hid (HKXT.out.trans hk3)
          clear hc3 hk3
          go_wp2
          go_end0
          refine ⟨rfl, HCXTF.out.congr fun o ho => ?_, HKXTF.out⟩
          show _ = c o + ((if 0 < t then _ else _) + (if 0 < g then _ else _) + (if 0 < f then _ else _))
          rw [if_pos ht0, if_neg (Int.not_lt.2 hg0), if_pos hf0]
          omega
        · go_wp2
          go_end0
          refine ⟨rfl, HCXT.out.congr fun o ho => ?_, HKXT.out⟩
          show _ = c o + ((if 0 < t then _ else _) + (if 0 < g then _ else _) + (if 0 < f then _ else _))
          rw [if_pos ht0, if_neg (Int.not_lt.2 hg0), if_neg (Int.not_lt.2 hf0)]
          omega
    · by_cases hg0 : 0 < g
      · have HLXG : Hid (∀ o, o < 4 → ((c o : Nat) : Int) + manyI t (g - 1) f ≤ 1000000) := Lib.hid fun o ho => by
          have b0 := HLE.out o ho
          have b9 := HSUM.out
          omega
        go_wp2_with fail
        refine (HG.out hg0 _ _ HCX.out HLXG.out).mono ?_
        rintro e w2 ⟨rfl, hc2, hk2⟩
        have HCXG := Lib.hid hc2
        have HKXG := Lib.hid (HKX.out.trans hk2)
        clear hc2 hk2
        by_cases hf0 : 0 < f
        · have HLXGF : Hid (∀ o, o < 4 → ((c o + cntW outN n t (g - 1) f (p ++ [46]) o : Nat) : Int) + manyI t g (f - 1) ≤ 1000000) := Lib.hid fun o ho => by
            have b0 := HLE.out o ho
            have bG := HWG.out hg0 o
            have b9 := HSUM.out
            omega
          go_wp2_with fail
          refine (HF.out hf0 _ _ HCXG.out HLXGF.out).mono ?_
          rintro e w3 ⟨rfl, hc3, hk3⟩
          have HCXGF := Lib.hid hc3
          have HKXGF := Lib.hid (HKXG.out.trans hk3)
          clear hc3 hk3
          go_wp2
          go_end0
          refine ⟨rfl, HCXGF.out.congr fun o ho => ?_, HKXGF.out⟩
          show _ = c o + ((if 0 < t then _ else _) + (if 0 < g then _ else _) + (if 0 < f then _ else _))
          rw [if_neg (Int.not_lt.2 ht0), if_pos hg0, if_pos hf0]
          omega
        · go_wp2
          go_end0
          refine ⟨rfl, HCXG.out.congr fun o ho => ?_, HKXG.out⟩
          show _ = c o + ((if 0 < t then _ else _) + (if 0 < g then _ else _) + (if 0 < f then _ else _))
          rw [if_neg (Int.not_lt.2 ht0), if_pos hg0, if_neg (Int.not_lt.2 hf0)]
          omega
      · by_cases hf0 : 0 < f
        · have HLXF : Hid (∀ o, o < 4 → ((c o : Nat) : Int) + manyI t g (f - 1) ≤ 1000000) := Lib.hid fun o ho => by
            have b0 := HLE.out o ho
            have b9 := HSUM.out
            omega
          go_wp2_with fail
          refine (HF.out hf0 _ _ HCX.out HLXF.out).mono ?_
          rintro e w3 ⟨rfl, hc3, hk3⟩
          have HCXF := Lib.hid hc3
          have HKXF := Lib.hid (HKX.out.trans hk3)
          clear hc3 hk3
          go_wp2
          go_end0
          refine ⟨rfl, HCXF.out.congr fun o ho => ?_, HKXF.out⟩
          show _ = c o + ((if 0 < t then _ else _) + (if 0 < g then _ else _) + (if 0 < f then _ else _))
          rw [if_neg (Int.not_lt.2 ht0), if_neg (Int.not_lt.2 hg0), if_pos hf0]
          omega
        · go_wp2
          go_end0
          refine ⟨rfl, HCX.out.congr fun o ho => ?_, HKX.out⟩
          show _ = c o + ((if 0 < t then _ else _) + (if 0 < g then _ else _) + (if 0 < f then _ else _))
          rw [if_neg (Int.not_lt.2 ht0), if_neg (Int.not_lt.2 hg0), if_neg (Int.not_lt.2 hf0)]
          omega
end Go.Proofs.Ytecmeppkggifeaa

/- Contract: the model's CountOutcomes. -/
namespace Go.Proofs.Ytecmeppkggifeaa
open Go.RowKit
theorem Try.make4 (w : World) : (Instr.makeSlice 53 (.int .i64 4) (.int .i64 4)).run Try.prog w = .ok (.slice (some ⟨w.heap.size, 0, none⟩) 4 4) (w.alloc (.cells #[.int .i64 0, .int .i64 0, .int .i64 0, .int .i64 0] 3)) := by kernel_rfl
/-- What both sides count. -/
def ctO (t g f : Int) (o : Nat) : Nat := cntW outN (t + g + f).toNat t g f [] o
def ctOk (t g f : Int) : Bool := three t g f && decide (t + g + f ≤ 7)
/-- The answer: four counts in a slice of the call's own, or none. -/
def CtA (w : World) (b : Bool) (m : Nat → Nat) (e : Ending) (w' : World) : Prop :=
  if b then ∃ gc, e = .returned (.tuple #[.slice (some ⟨gc, 0, none⟩) 4 4, .bool true]) ∧ w.heap.size ≤ gc ∧ CtB w' gc m ∧ Below w.heap.size w w'
  else e = .returned (.tuple #[.slice none 0 0, .bool false]) ∧ Below w.heap.size w w'
theorem manyI_small {t g f : Int} (ht : 0 ≤ t) (hg : 0 ≤ g) (hf : 0 ≤ f) (h : t + g + f ≤ 7) : manyI t g f ≤ 3000 := by
  have h0 : ((List.range 8).all fun t => (List.range 8).all fun g => (List.range 8).all fun f => decide (7 < t + g + f) || decide (manyI (t : Int) (g : Int) (f : Int) ≤ 3000)) = true := by decide +kernel
  obtain ⟨x, rfl⟩ := Int.eq_ofNat_of_zero_le ht
  obtain ⟨y, rfl⟩ := Int.eq_ofNat_of_zero_le hg
  obtain ⟨z, rfl⟩ := Int.eq_ofNat_of_zero_le hf
  rw [List.all_eq_true] at h0
  have a := h0 x (List.mem_range.2 (by omega))
  rw [List.all_eq_true] at a
  have b := a y (List.mem_range.2 (by omega))
  rw [List.all_eq_true] at b
  have c := b z (List.mem_range.2 (by omega))
  rw [Bool.or_eq_true, decide_eq_true_iff, decide_eq_true_iff] at c
  omega
set_option maxRecDepth 100000 in
set_option maxHeartbeats 1000000 in
theorem sCountOutcomes_any (t g f : Int) (w : World) :
    Calls Try.prog 47 #[.int .i64 t, .int .i64 g, .int .i64 f] w (CtA w (ctOk t g f) (ctO t g f)) := by
  have hmk := @Try.make4
  cases hc : three t g f
  · have hC := Lib.hid hc
    have e : ctOk t g f = false := by unfold ctOk; rw [hc]; rfl
    rw [e]
    clear hc e
    go_enter Try.func47, Try.ntmps47
    go_wp2_with fail
    refine (liThree_any _ _ _ _).mono ?_
    rintro e w1 ⟨rfl, hb1⟩
    rw [hC.out]
    go_wp2
    go_ret2
    exact ⟨rfl, hb1⟩
  · have hC := Lib.hid hc
    obtain ⟨⟨_, _⟩, ⟨_, _⟩, ⟨_, _⟩, _, _⟩ := (three_iff t g f).1 hc
    by_cases h7 : t + g + f ≤ 7
    · have e : ctOk t g f = true := by unfold ctOk; rw [hc]; simp [h7]
      rw [e]
      have hm := manyI_small (t := t) (g := g) (f := f) (by omega) (by omega) (by omega) h7
      have HCT := Lib.hid (fun gc wx h => gaCount_any gc (t + g + f).toNat t g f [] (fun _ => 0) wx (by omega) (by omega) (by omega) (by omega) (by simp; omega) (by simp; omega) rfl h fun o _ => by simp; omega)
      clear hc e hm
      go_enter Try.func47, Try.ntmps47
      go_wp2_with fail
      refine (liThree_any _ _ _ _).mono ?_
      rintro e w1 ⟨rfl, hb1⟩
      rw [hC.out]
      have HB1 := Lib.hid hb1
      clear hb1
      have hnew : CtB (w1.alloc (.cells #[.int .i64 0, .int .i64 0, .int .i64 0, .int .i64 0] 3)) w1.heap.size (fun _ => 0) := heap_alloc_new _ _
      have HN := Lib.hid hnew
      clear hnew
      go_wp2_with fail
      refine (HCT.out _ _ HN.out).mono ?_
      rintro e w2 ⟨rfl, hc2, hk2⟩
      have HC2 := Lib.hid hc2
      have HB2 := Lib.hid ((HB1.out.alloc HB1.out.size (.cells #[.int .i64 0, .int .i64 0, .int .i64 0, .int .i64 0] 3)).trans (hk2.to_below HB1.out.size (by have := HB1.out.size; simp; omega)))
      clear hc2 hk2
      go_wp2
      go_ret2
      exact ⟨w1.heap.size, rfl, HB1.out.size, HC2.out.congr fun o _ => by simp [ctO], HB2.out⟩
    · have e : ctOk t g f = false := by unfold ctOk; rw [hc]; simp; omega
      rw [e]
      clear hc e
      go_enter Try.func47, Try.ntmps47
      go_wp2_with fail
      refine (liThree_any _ _ _ _).mono ?_
      rintro e w1 ⟨rfl, hb1⟩
      rw [hC.out]
      go_wp2
      go_ret2
      exact ⟨rfl, hb1⟩
end Go.Proofs.Ytecmeppkggifeaa

/- Contract: the program's CountOutcomes. -/
namespace Go.Proofs.Ytecmeppkggifeaa
open Go.RowKit Go.Maps
theorem grownBy_cell (W : World) (b k : Nat) (v : Value) : W.grownBy (W.setCell ⟨b, k, none⟩ v) (some b) :=
  ⟨rfl, rfl, rfl, by simp, fun j _ hk => Below.heap_setCell _ _ _ j (fun e => hk (by rw [e]))⟩
theorem TellI.set {W : World} {L B Bt Br Bs : Nat} (h : TellI W L B Bt Br Bs) (gc k : Nat) (v : Value) (h0 : gc ≠ B) (h1 : gc ≠ Bt) (h2 : gc ≠ Br) (h3 : gc ≠ Bs) : TellI (W.setCell ⟨gc, k, none⟩ v) L B Bt Br Bs := by
  obtain ⟨⟨D, m1, m2⟩, hb⟩ := h
  have e : ∀ b, gc ≠ b → (W.setCell ⟨gc, k, none⟩ v).cell? ⟨b, 0, none⟩ = W.cell? ⟨b, 0, none⟩ := fun b hne => World.cell?_setCell_other _ _ _ _ (by intro e; injection e with e _; exact hne e)
  exact ⟨⟨D, m1.kept (grownBy_cell W gc k v) (by intro e; injection e with e; exact h0 e.symm), m2⟩, ⟨(e _ h1).trans hb.told, (e _ h2).trans hb.rule, (e _ h3).trans hb.tell, by simpa using hb.lt, hb.ne⟩⟩
/-- Where the loop stands. -/
structure CoR (w w2 : World) (L B Bt Br Bs gc k : Nat) (t g f : Int) (wr : World) : Prop where
  ct : CtB wr gc (fun o => sumTo (hitR outN L t g f [] o) k)
  tell : TellI wr L B Bt Br Bs
  ne : gc ≠ B ∧ gc ≠ Bt ∧ gc ≠ Br ∧ gc ≠ Bs
  ge : w.heap.size ≤ gc ∧ w.heap.size ≤ B
  bel : Below w.heap.size w wr
theorem three_small {t g f : Int} (hc : three t g f = true) (h7 : t + g + f ≤ 7) {r : Int} (h0 : 0 ≤ r) (h1 : r < manyI t g f) : fewB (str (unr (t + g + f).toNat t g f r)) = true := by
  obtain ⟨⟨a, _⟩, ⟨b, _⟩, ⟨c, _⟩, d, _⟩ := (three_iff t g f).1 hc
  obtain ⟨h, _⟩ := rkL_unr (t + g + f).toNat t g f r a b c (by omega) (by omega) h0 h1
  have hl := unr_len (t + g + f).toNat t g f r
  unfold fewB
  rw [Bool.and_eq_true, decide_eq_true_iff, goodL_iff, str_size, byt_str]
  exact ⟨⟨by omega, by omega, h⟩, by omega⟩
set_option maxRecDepth 100000 in
set_option maxHeartbeats 2000000 in
theorem pCountOutcomes_yes (t g f : Int) (w : World) (hc : three t g f = true) (h7 : t + g + f ≤ 7) :
    Calls Try.prog 48 #[.int .i64 t, .int .i64 g, .int .i64 f] w (CtA w true (ctO t g f)) := by
  have hmk := @Try.make4
  obtain ⟨⟨ht, _⟩, ⟨hg, _⟩, ⟨hf, _⟩, hs1, _⟩ := (three_iff t g f).1 hc
  have hN0 := (manyI_le t g f (by omega)).1
  have hN := manyI_small ht hg hf h7
  obtain ⟨N, hNe⟩ := Int.eq_ofNat_of_zero_le hN0
  have HR : Hid (∀ k : Nat, k < N → ∀ wx, Calls Try.prog 82 #[.int .i64 t, .int .i64 g, .int .i64 f, .int .i64 k] wx fun e w' => e = .returned (.tuple #[.string (str (unr (t + g + f).toNat t g f k)), .bool true]) ∧ Below wx.heap.size wx w') := Lib.hid fun k hk wx => by
    have := unr_any t g f k wx
    have e : (three t g f && inR (k : Int) 0 (manyI t g f - 1)) = true := by
      rw [hc, Bool.true_and]; unfold inR
      rw [Bool.and_eq_true, decide_eq_true_iff, decide_eq_true_iff]; omega
    rw [e] at this
    exact this
  have HC := Lib.hid (fun wx => countLines_any t g f wx)
  have hRR : ∀ wx, Calls Try.prog 81 #[.int .i64 t, .int .i64 g, .int .i64 f] wx fun e w' => e = .returned (.tuple #[.int .i64 N, .bool true]) ∧ Below wx.heap.size wx w' := fun wx => by
    have := countLines_any t g f wx
    rw [hc, hNe] at this
    exact this
  have HCL := Lib.hid hRR
  have HFW : Hid (∀ k : Nat, k < N → fewB (str (unr (t + g + f).toNat t g f k)) = true) := Lib.hid fun k hk => three_small hc h7 (by omega) (by omega)
  have HWN := Lib.hid (fun wx => winning_ex (t + g + f).toNat wx)
  have HOO : Hid (∀ (k : Nat), k < N → ∀ B Bt Br Bs (wx : World), TellI wx (t + g + f).toNat B Bt Br Bs → Calls Try.prog 70 #[telV Bt Br Bs, .slice (some ⟨wx.heap.size, 0, none⟩) 1 1] (wx.alloc (.cells #[.string (str (unr (t + g + f).toNat t g f k))] 9)) fun e w' => e = .returned (.tuple #[.int .i64 (outN (unr (t + g + f).toNat t g f k) : Int), .bool true]) ∧ TellI w' (t + g + f).toNat B Bt Br Bs ∧ KpM B (wx.alloc (.cells #[.string (str (unr (t + g + f).toNat t g f k))] 9)) w') := Lib.hid fun k hk B Bt Br Bs wx hI => by
    have h := outcomeOf_yes (t + g + f).toNat B Bt Br Bs [unr (t + g + f).toNat t g f k] (some ⟨wx.heap.size, 0, none⟩) 1 (wx.alloc (.cells #[.string (str (unr (t + g + f).toNat t g f k))] 9)) (by show (joinG [_]).length = _; exact unr_len _ _ _ _ _) (one_slice wx _) (by simp) (by rw [sumOk_one]; exact HFW.out k hk) (hI.below ((Below.refl _ _).alloc (Nat.le_refl _) _))
    have e : outI (Wn true (joinG [unr (t + g + f).toNat t g f k])) (Wn false (joinG [unr (t + g + f).toNat t g f k])) = (outN (unr (t + g + f).toNat t g f k) : Int) := by
      show outI (Wn true (unr _ t g f k)) (Wn false (unr _ t g f k)) = _
      unfold outN outI
      split <;> (try split) <;> (try split) <;> rfl
    rw [e] at h
    exact h
  have HLT : Hid (∀ k : Nat, outN (unr (t + g + f).toNat t g f k) < 4) := Lib.hid fun k => outN_lt _
  have HHIT : Hid (∀ (k o : Nat), hitR outN (t + g + f).toNat t g f [] o k = if outN (unr (t + g + f).toNat t g f k) = o then 1 else 0) := Lib.hid fun k o => rfl
  have HEND : Hid (∀ o, sumTo (hitR outN (t + g + f).toNat t g f [] o) N = ctO t g f o) := Lib.hid fun o => by
    have := cntW_ranks outN o (t + g + f).toNat t g f [] ht hg hf (by omega) (by omega)
    rw [hNe] at this
    exact this
  have HSM : Hid (∀ (o k : Nat), sumTo (hitR outN (t + g + f).toNat t g f [] o) k ≤ k) := Lib.hid fun o k => sumTo_le (fun r => by unfold hitR; split <;> omega) k
  rw [hNe] at hN
  clear hRR hc hN0 hNe
  generalize (t + g + f).toNat = L at HR HFW HWN HOO HLT HHIT HEND HSM
  go_enter Try.func48, Try.ntmps48
  go_wp2_with fail
  refine (HCL.out _).mono ?_
  rintro e w1 ⟨rfl, hb1⟩
  have HB1 := Lib.hid hb1
  clear hb1
  go_wp2_with fail
  refine (HWN.out _).mono ?_
  rintro e w3 ⟨B, Bt, Br, Bs, rfl, hI3, hBB, hb3⟩
  have hz3 := HB1.out.size
  have hCo : CoR w w3 L B Bt Br Bs w3.heap.size 0 t g f (w3.alloc (.cells #[.int .i64 0, .int .i64 0, .int .i64 0, .int .i64 0] 3)) := by
    have h1 := hI3.map.lt
    obtain ⟨h2, h3, h4⟩ := hI3.box.lt
    have h5 := hb3.size
    exact ⟨heap_alloc_new _ _, hI3.below ((Below.refl _ _).alloc (Nat.le_refl _) _), ⟨by omega, by omega, by omega, by omega⟩, ⟨by omega, by omega⟩, (HB1.out.trans (hb3.mono hz3)).alloc (by omega) _⟩
  have HCO := Lib.hid hCo
  clear hI3 hBB hb3 hz3 hCo
  generalize hgc : w3.heap.size = gc at HCO
  go_wp2
  go_loopw [37] (fun i wr => ∃ k : Nat, k ≤ N ∧ i = .int .i64 k ∧ Hid (CoR w w3 L B Bt Br Bs gc k t g f wr)) (fun i _ => N - (intOf i).toNat)
  case atStart => exact ⟨0, Nat.zero_le _, rfl, HCO⟩
  case round =>
    obtain ⟨k, hk, rfl, HQ⟩ := hrel
    by_cases hlt : k < N
    · have j1 : (0 : Int) ≤ (k : Int) := by omega
      have j2 : (k : Int) < (N : Int) := by omega
      go_wp2_with fail
      refine (HR.out k hlt _).mono ?_
      rintro e w4 ⟨rfl, hb4⟩
      have HI4 := Lib.hid (HQ.out.tell.below hb4)
      have HB4 := Lib.hid hb4
      clear hb4
      go_wp2_with fail
      refine (HOO.out k hlt B Bt Br Bs _ HI4.out).mono ?_
      rintro e w5 ⟨rfl, hI5, hk5⟩
      have hol := HLT.out k
      have HH := Lib.hid (fun o => HHIT.out k o)
      have HS := Lib.hid (fun o => HSM.out o k)
      generalize outN (unr L t g f k) = on at hol HH
      have hgl := HQ.out.ct.lt
      have hg4 := Nat.lt_of_lt_of_le hgl HB4.out.size
      have hC5 : CtB w5 gc (fun o => sumTo (hitR outN L t g f [] o) k) := (hk5.far.2 gc (fun e => HQ.out.ne.1 (by injection e)) (by simp; omega)).trans ((((HQ.out.ct.kp HB4.out).kp ((Below.refl _ _).alloc (Nat.le_refl _) _))))
      have HC5 := Lib.hid hC5
      have HI5 := Lib.hid hI5
      have hB5 : Below w.heap.size w w5 := by
        have q1 := HQ.out.bel
        have q2 := q1.trans (HB4.out.mono q1.size)
        have q3 := q2.alloc q2.size (.cells #[.string (str (unr L t g f k))] 9)
        exact q3.trans (hk5.to_below HQ.out.ge.2 q3.size)
      have HB5 := Lib.hid hB5
      have hcl := HS.out on
      obtain ⟨q0, q1⟩ := hC5.at on hol
      clear hI5 hk5 hC5 hB5
      have i1 : (0 : Int) ≤ (on : Int) := by omega
      have i2 : (on : Int) < 4 := by omega
      generalize hcn : sumTo (hitR outN L t g f [] on) k = cn at q0 hcl
      have HCN := Lib.hid hcn
      clear hcn
      go_wp2
      go_roundw
      case rel =>
        refine ⟨k + 1, by omega, by go_num, Lib.hid ⟨?_, HI5.out.set gc on _ HQ.out.ne.1 HQ.out.ne.2.1 HQ.out.ne.2.2.1 HQ.out.ne.2.2.2, HQ.out.ne, HQ.out.ge, HB5.out.setCell HQ.out.ge.1 _⟩⟩
        refine (HC5.out.set on hol (cn + 1)).congr fun o ho => ?_
        show _ = sumTo (hitR outN L t g f [] o) k + hitR outN L t g f [] o k
        rw [HH.out o]
        by_cases e : o = on
        · subst e; rw [if_pos rfl, if_pos rfl, HCN.out]
        · rw [if_neg e, if_neg (fun h => e h.symm)]; rfl
      case measure => simp [intOf]; omega
    · obtain rfl : k = N := by omega
      go_wp2
      go_ret2
      exact ⟨gc, rfl, HQ.out.ge.1, HQ.out.ct.congr fun o _ => HEND.out o, HQ.out.bel⟩
set_option maxHeartbeats 1000000 in
theorem pCountOutcomes_any (t g f : Int) (w : World) :
    Calls Try.prog 48 #[.int .i64 t, .int .i64 g, .int .i64 f] w (CtA w (ctOk t g f) (ctO t g f)) := by
  cases hc : three t g f
  · have e : ctOk t g f = false := by unfold ctOk; rw [hc]; rfl
    rw [e]
    have hRR : ∀ wx, Calls Try.prog 81 #[.int .i64 t, .int .i64 g, .int .i64 f] wx fun e w' => e = .returned (.tuple #[.int .i64 0, .bool false]) ∧ Below wx.heap.size wx w' := fun wx => by
      have := countLines_any t g f wx
      rw [hc] at this
      exact this
    have HCL := Lib.hid hRR
    clear hc e hRR
    go_enter Try.func48, Try.ntmps48
    go_wp2_with fail
    refine (HCL.out _).mono ?_
    rintro e w1 ⟨rfl, hb1⟩
    go_wp2
    go_ret2
    exact ⟨rfl, hb1⟩
  · by_cases h7 : t + g + f ≤ 7
    · have e : ctOk t g f = true := by unfold ctOk; rw [hc]; simp [h7]
      rw [e]
      exact pCountOutcomes_yes t g f w hc h7
    · have e : ctOk t g f = false := by unfold ctOk; rw [hc]; simp; omega
      rw [e]
      obtain ⟨⟨_, _⟩, ⟨_, _⟩, ⟨_, _⟩, _, _⟩ := (three_iff t g f).1 hc
      have hRR : ∀ wx, Calls Try.prog 81 #[.int .i64 t, .int .i64 g, .int .i64 f] wx fun e w' => e = .returned (.tuple #[.int .i64 (manyI t g f), .bool true]) ∧ Below wx.heap.size wx w' := fun wx => by
        have := countLines_any t g f wx
        rw [hc] at this
        exact this
      have HCL := Lib.hid hRR
      clear hc e hRR
      generalize manyI t g f = N at HCL
      go_enter Try.func48, Try.ntmps48
      go_wp2_with fail
      refine (HCL.out _).mono ?_
      rintro e w1 ⟨rfl, hb1⟩
      go_wp2
      go_ret2
      exact ⟨rfl, hb1⟩
end Go.Proofs.Ytecmeppkggifeaa

/- CountOutcomes: the law's helpers on four counts or none, and its walk. -/
namespace Go.Proofs.Ytecmeppkggifeaa
open Go.RowKit
/-- Four counts in a block, or none. -/
def SlC (w : World) (A : Option Addr) (n : Nat) (c : Nat → Nat) : Prop := n ≤ 4 ∧ ∀ k, k < n → ∃ g, A = some ⟨g, 0, none⟩ ∧ CtB w g c
theorem SlC.below {w w' : World} {A : Option Addr} {n : Nat} {c : Nat → Nat} (h : SlC w A n c) (hb : Below w.heap.size w w') : SlC w' A n c :=
  ⟨h.1, fun k hk => by obtain ⟨g, e, h2⟩ := h.2 k hk; exact ⟨g, e, h2.kp hb⟩⟩
/-- All is kept but the block of A. -/
structure KpA (A : Option Addr) (w w' : World) : Prop where
  os : w'.os = w.os
  tape : w'.tape = w.tape
  output : w'.output = w.output
  size : w.heap.size ≤ w'.heap.size
  far : ∀ j, j < w.heap.size → (∀ a, A = some a → a.block ≠ j) → w'.heap[j]? = w.heap[j]?
theorem KpA.refl (A : Option Addr) (w : World) : KpA A w w := ⟨rfl, rfl, rfl, Nat.le_refl _, fun _ _ _ => rfl⟩
theorem KpA.set {A : Option Addr} {w w' : World} {g : Nat} (h : KpA A w w') (e : A = some ⟨g, 0, none⟩) (k : Nat) (v : Value) : KpA A w (w'.setCell ⟨g, k, none⟩ v) :=
  ⟨h.os, h.tape, h.output, by simpa using h.size, fun j hj hne => (Below.heap_setCell _ _ _ _ (fun e2 => hne _ e (by rw [e2]))).trans (h.far j hj hne)⟩
theorem KpA.to_below {A : Option Addr} {w w' : World} {n : Nat} (h : KpA A w w') (hA : ∀ a, A = some a → n ≤ a.block) (hn : n ≤ w.heap.size) : Below n w w' :=
  ⟨h.os, h.tape, h.output, h.size, fun k hk => h.far k (by omega) (fun a e e2 => by have := hA a e; omega)⟩
theorem SlC.kpA {A A' : Option Addr} {w w' : World} {n : Nat} {c : Nat → Nat} (h : SlC w A n c) (hk : KpA A' w w') (hne : ∀ a a', A = some a → A' = some a' → a.block ≠ a'.block) : SlC w' A n c :=
  ⟨h.1, fun k hk2 => by
    obtain ⟨g, e, h2⟩ := h.2 k hk2
    exact ⟨g, e, (hk.far g h2.lt (fun a e2 => fun e3 => hne _ a e e2 e3.symm)).trans h2⟩⟩
set_option maxRecDepth 100000 in
set_option maxHeartbeats 1000000 in
theorem eqIntS_four (n : Nat) (c : Nat → Nat) (A1 A2 : Option Addr) (w : World) (h1 : SlC w A1 n c) (h2 : SlC w A2 n c) :
    Calls Try.prog 49 #[.slice A1 n n, .slice A2 n n] w fun e w' => e = .returned (.bool true) ∧ Below w.heap.size w w' := by
  have hn := h1.1
  have H1 := Lib.hid h1
  have H2 := Lib.hid h2
  clear h1 h2
  go_enter Try.func49, Try.ntmps49
  go_wp2
  go_loopw [5] (fun i wr => ∃ k : Nat, k ≤ n ∧ i = .int .i64 k ∧ Below w.heap.size w wr) (fun i _ => n - (intOf i).toNat)
  case atStart => exact ⟨0, Nat.zero_le _, rfl, Below.refl _ _⟩
  case round =>
    obtain ⟨k, hk, rfl, hB⟩ := hrel
    by_cases hlt : k < n
    · obtain ⟨g, rfl, z1⟩ := (H1.out.below hB).2 k hlt
      obtain ⟨g', rfl, z2⟩ := (H2.out.below hB).2 k hlt
      obtain ⟨p1, _⟩ := z1.at k (by omega)
      obtain ⟨p2, _⟩ := z2.at k (by omega)
      clear z1 z2
      generalize c k = a at p1 p2
      have i1 : (0 : Int) ≤ (k : Int) := by omega
      have i2 : (k : Int) < (n : Int) := by omega
      have hHB := Lib.hid hB
      clear hB
      go_wp2
      go_region
      go_wp2
      first
        | exact ⟨⟨k + 1, by omega, by go_num, Below.drew hHB.out⟩, by simp [intOf]; omega⟩
        | (go_roundw
           case rel => exact ⟨k + 1, by omega, by go_num, Below.drew hHB.out⟩
           case measure => simp [intOf]; omega)
    · go_wp2
      go_ret
      exact ⟨rfl, hB⟩
set_option maxRecDepth 100000 in
set_option maxHeartbeats 1000000 in
theorem heldIntS_four (n : Nat) (A : Option Addr) (w : World) (h : SlC w A n (fun o => o + 1)) :
    Calls Try.prog 51 #[.slice A n n, .int .i64 1] w fun e w' => e = .returned (.int .i64 ((n : Int) + 1)) ∧ Below w.heap.size w w' := by
  have hn := h.1
  have H := Lib.hid h
  clear h
  go_enter Try.func51, Try.ntmps51
  go_wp2
  go_loopw [1, 5] (fun q i wr => ∃ k : Nat, k ≤ n ∧ i = .int .i64 k ∧ q = .int .i64 ((k : Int) + 1) ∧ Below w.heap.size w wr) (fun _ i _ => n - (intOf i).toNat)
  case atStart => exact ⟨0, Nat.zero_le _, rfl, rfl, Below.refl _ _⟩
  case round =>
    obtain ⟨k, hk, rfl, rfl, hB⟩ := hrel
    by_cases hlt : k < n
    · obtain ⟨g, rfl, z1⟩ := (H.out.below hB).2 k hlt
      obtain ⟨p1, _⟩ := z1.at k (by omega)
      clear z1
      have e1 : (((fun o => o + 1) k : Nat) : Int) = (k : Int) + 1 := by simp
      rw [e1] at p1
      clear e1
      have i1 : (0 : Int) ≤ (k : Int) := by omega
      have i2 : (k : Int) < (n : Int) := by omega
      have hHB := Lib.hid hB
      clear hB
      go_wp2
      go_roundw
      case rel => exact ⟨k + 1, by omega, by go_num, by go_num, hHB.out⟩
      case measure => simp [intOf]; omega
    · obtain rfl : k = n := by omega
      go_wp2
      go_ret
      exact ⟨rfl, hB⟩
set_option maxRecDepth 100000 in
set_option maxHeartbeats 1000000 in
theorem markIntS_four (n : Nat) (c : Nat → Nat) (A : Option Addr) (w : World) (h : SlC w A n c) :
    Calls Try.prog 50 #[.slice A n n, .int .i64 1] w fun e w' => e = .returned (.int .i64 ((n : Int) + 1)) ∧ (n = 4 ∨ n = 0 → SlC w' A n (fun o => o + 1)) ∧ KpA A w w' := by
  have hn := h.1
  have H := Lib.hid h
  clear h
  go_enter Try.func50, Try.ntmps50
  go_wp2
  go_loopw [1, 5] (fun q i wr => ∃ k : Nat, k ≤ n ∧ i = .int .i64 k ∧ q = .int .i64 ((k : Int) + 1) ∧ Hid (SlC wr A n (fun o => if o < k then o + 1 else c o)) ∧ Hid (KpA A w wr)) (fun _ i _ => n - (intOf i).toNat)
  case atStart => exact ⟨0, Nat.zero_le _, rfl, rfl, Lib.hid (by simpa using H.out), Lib.hid (KpA.refl _ _)⟩
  case round =>
    obtain ⟨k, hk, rfl, rfl, HS, HK⟩ := hrel
    by_cases hlt : k < n
    · obtain ⟨g, hA, z1⟩ := HS.out.2 k hlt
      obtain ⟨p1, f1⟩ := z1.at k (by omega)
      have HZ := Lib.hid z1
      have HA := Lib.hid hA
      subst hA
      have i1 : (0 : Int) ≤ (k : Int) := by omega
      have i2 : (k : Int) < (n : Int) := by omega
      clear z1
      go_wp2
      go_roundw
      case rel =>
        refine ⟨k + 1, by omega, by go_num, by go_num, Lib.hid ⟨hn, fun j hj => ⟨g, rfl, (HZ.out.set k (by omega) (k + 1)).congr fun o ho => ?_⟩⟩, Lib.hid (HK.out.set rfl _ _)⟩
        by_cases e : o = k
        · subst e; simp
        · have : (o < k) ↔ (o < k + 1) := by omega
          simp [e, this]
      case measure => simp [intOf]; omega
    · obtain rfl : k = n := by omega
      go_wp2
      go_ret
      refine ⟨rfl, fun h4 => ⟨hn, fun j hj => ?_⟩, HK.out⟩
      obtain ⟨g, e, h2⟩ := HS.out.2 j hj
      refine ⟨g, e, h2.congr fun o ho => ?_⟩
      rw [if_pos (by omega)]
/-- The answers opened. -/
theorem ct_open {w w' : World} {b : Bool} {m : Nat → Nat} {e : Ending} (h : CtA w b m e w') : ∃ A, e = .returned (.tuple #[.slice A (if b then 4 else 0) (if b then 4 else 0), .bool b]) ∧ SlC w' A (if b then 4 else 0) m ∧ (∀ a, A = some a → w.heap.size ≤ a.block ∧ a.block < w'.heap.size) ∧ Below w.heap.size w w' := by
  unfold CtA at h
  cases b
  · obtain ⟨rfl, h2⟩ := h
    exact ⟨none, rfl, ⟨by simp, fun k hk => by simp at hk⟩, (fun a e => by cases e), h2⟩
  · obtain ⟨gc, rfl, h1, h2, h3⟩ := h
    exact ⟨_, rfl, ⟨by simp, fun k _ => ⟨gc, rfl, h2⟩⟩, (fun a e => by injection e with e; subst e; exact ⟨h1, h2.lt⟩), h3⟩
set_option maxRecDepth 100000 in
set_option maxHeartbeats 2000000 in
theorem walk_FnExactCountOutcomes (t : Int) (_ : (Lit.int .i64 t).wf = true) (g : Int) (_ : (Lit.int .i64 g).wf = true) (f : Int) (_ : (Lit.int .i64 f).wf = true) (w : World) :
    Calls Try.prog 14 #[.int .i64 t, .int .i64 g, .int .i64 f] w fun e w' => e = .returned (.bool true) ∧ Below w.heap.size w w' := by
  have HS := Lib.hid (fun wx => (sCountOutcomes_any t g f wx).mono fun _ _ h => ct_open h)
  have HP := Lib.hid (fun wx => (pCountOutcomes_any t g f wx).mono fun _ _ h => ct_open h)
  generalize ctO t g f = m at HS HP
  generalize ctOk t g f = b at HS HP
  have h40 : (if b then 4 else 0) = 4 ∨ (if b then 4 else 0) = 0 := by cases b <;> simp
  generalize hn : (if b then 4 else 0) = n at HS HP h40
  clear hn
  have hn4 : n ≤ 4 := by omega
  have H40 := Lib.hid h40
  clear h40
  go_enter Try.func14, Try.ntmps14
  go_wp2_with fail
  refine (HS.out _).mono ?_
  rintro e w1 ⟨A1, rfl, s1, a1, b1⟩
  have S1 := Lib.hid s1
  have Q1 := Lib.hid a1
  have B1 := Lib.hid b1
  clear s1 a1 b1
  go_wp2_with fail
  refine (HP.out _).mono ?_
  rintro e w2 ⟨A2, rfl, s2, a2, b2⟩
  have S12 := Lib.hid (S1.out.below b2)
  have S2 := Lib.hid s2
  have Q2 := Lib.hid a2
  have B2 := Lib.hid (B1.out.trans (b2.mono B1.out.size))
  have AP := Lib.hid (fun a a' (e : A1 = some a) (e' : A2 = some a') => show a.block ≠ a'.block by have := (Q1.out a e).2; have := (a2 a' e').1; omega)
  have Z2 := Lib.hid b2.size
  clear s2 a2 b2
  go_wp2_with fail
  refine (eqIntS_four n m A2 A1 _ S2.out S12.out).mono ?_
  rintro e w3 ⟨rfl, b3⟩
  have S13 := Lib.hid (S12.out.below b3)
  have S3 := Lib.hid (S2.out.below b3)
  have B3 := Lib.hid (B2.out.trans (b3.mono B2.out.size))
  have Z3 := Lib.hid b3.size
  clear b3
  go_wp2_with fail
  refine (markIntS_four n m A2 _ S3.out).mono ?_
  rintro e w4 ⟨rfl, s4, k4⟩
  have S4 := Lib.hid (s4 H40.out)
  have S14 := Lib.hid (S13.out.kpA k4 AP.out)
  have B4 := Lib.hid (B3.out.trans (k4.to_below (n := w.heap.size) (fun a e => by have := (Q2.out a e).1; have := B1.out.size; omega) B3.out.size))
  clear s4 k4
  go_wp2_with fail
  refine (heldIntS_four n A2 _ S4.out).mono ?_
  rintro e w5 ⟨rfl, b5⟩
  have S5 := Lib.hid (S4.out.below b5)
  have S15 := Lib.hid (S14.out.below b5)
  have B5 := Lib.hid (B4.out.trans (b5.mono B4.out.size))
  clear b5
  go_wp2_with fail
  refine (HP.out _).mono ?_
  rintro e w6 ⟨A6, rfl, s6, a6, b6⟩
  have S16 := Lib.hid (S15.out.below b6)
  have S26 := Lib.hid (S5.out.below b6)
  have S6 := Lib.hid s6
  have B6 := Lib.hid (B5.out.trans (b6.mono B5.out.size))
  clear s6 a6 b6
  go_wp2_with fail
  refine (eqIntS_four n m A6 A1 _ S6.out S16.out).mono ?_
  rintro e w7 ⟨rfl, b7⟩
  have S27 := Lib.hid (S26.out.below b7)
  have B7 := Lib.hid (B6.out.trans (b7.mono B6.out.size))
  clear b7
  go_wp2_with fail
  refine (heldIntS_four n A2 _ S27.out).mono ?_
  rintro e w8 ⟨rfl, b8⟩
  go_wp2
  go_ret
  exact ⟨rfl, B7.out.trans (b8.mono B7.out.size)⟩
end Go.Proofs.Ytecmeppkggifeaa
