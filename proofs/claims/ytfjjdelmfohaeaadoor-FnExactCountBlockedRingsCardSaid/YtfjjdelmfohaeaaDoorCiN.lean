/- Contracts: rings counted, the model's. -/
import Derived.Test.YtfjjdelmfohaeaaDoorCntW
import Derived.Test.YtfjjdelmfohaeaaDoorCiC
import Derived.Test.YtfjjdelmfohaeaaDoorCiE
import Derived.Deep.RegionHeld3
namespace Go.Proofs.YtfjjdelmfohaeaaDoor
open Go.RowKit

/-- A ring is the first one of its turned ones; and blocked. -/
def ciA (p : List UInt8) : Nat := if leastL p = p then 1 else 0
def ciK (p : List UInt8) : Nat := if leastL p = p ∧ rgTo (str p) p.length = [] then 1 else 0
/-- What is counted of the lines that begin so. -/
def cA (n : Nat) (t g f : Int) (p : List UInt8) : Nat := cntW ciA n t g f p 1
def cK (n : Nat) (t g f : Int) (p : List UInt8) : Nat := cntW ciK n t g f p 1
def CnPost (w : World) (a b : Nat) (e : Ending) (w' : World) : Prop := e = .returned (.tuple #[.int .i64 a, .int .i64 b]) ∧ Below w.heap.size w w'
theorem ring_str {p : List UInt8} (hp : p.all isSign = true) (h3 : 3 ≤ p.length) (h9 : p.length ≤ 9) : ringB (str p) = true := by
  have hg : goodL (str p) = true := (goodL_iff _).2 ⟨by rw [str_size]; omega, by rw [str_size]; omega, by rw [byt_str]; exact hp⟩
  rw [ring_in _ hg, str_size]
  unfold inR
  simp
  omega
theorem cA_le (n : Nat) (t g f : Int) (p : List UInt8) (ht : 0 ≤ t) (hg : 0 ≤ g) (hf : 0 ≤ f) (hn : t + g + f = n) (h : n ≤ 9) : cA n t g f p ≤ 8916100448256 ∧ cK n t g f p ≤ 8916100448256 := by
  have h1 := cntW_le ciA 1 n t g f p ht hg hf hn (by omega)
  have h2 := cntW_le ciK 1 n t g f p ht hg hf hn (by omega)
  have h3 := (manyI_le t g f (by omega)).2
  unfold cA cK
  omega

set_option maxRecDepth 100000 in
set_option maxHeartbeats 2000000 in
theorem ciCount_end (p : List UInt8) (w : World) (hp : p.all isSign = true) (h3 : 3 ≤ p.length) (h9 : p.length ≤ 9) :
    Calls Tryd.prog 66 #[.string (str p), .int .i64 0, .int .i64 0, .int .i64 0] w (CnPost w (cA 0 0 0 0 p) (cK 0 0 0 0 p)) := by
  have hr := ring_str hp h3 h9
  have HR := Lib.hid hr
  have HG := Lib.hid (ring_good hr)
  have HL := Lib.hid (str_size p)
  have HB : Hid (byt (str p) = p) := Lib.hid (byt_str p)
  clear hr hp
  by_cases hq : leastL p = p
  · have hbb : ((str (leastL p)).toList == (str p).toList) = true := by rw [same_str]; simpa using hq
    have hbn : ((str (leastL p)).toList != (str p).toList) = false := by unfold bne; rw [hbb]; rfl
    have HQ := Lib.hid hq
    clear hq
    by_cases hm : rgTo (str p) p.length = []
    · have HM := Lib.hid hm
      have HV : Hid (cA 0 0 0 0 p = 1 ∧ cK 0 0 0 0 p = 1) := Lib.hid (by
        unfold cA cK cntW ciA ciK
        simp [HQ.out, hm])
      clear hm
      go_enter Tryd.func66, Tryd.ntmps66
      go_wp2_with fail
      refine (ciLeast_any _ _ HG.out).mono ?_
      rintro e w1 ⟨rfl, hb1⟩
      rw [HB.out]
      go_wp2_with fail
      refine (ciMoves_any _ _ HR.out).mono ?_
      rintro e w2 ⟨v, rfl, ho2, hb2⟩
      rw [HL.out, HM.out] at ho2
      obtain ⟨A, cap, rfl, hat⟩ := at_of_own ho2
      have HB2 := Lib.hid (hb1.trans (hb2.mono hb1.size))
      clear ho2 hat hb1 hb2
      go_wp2
      go_ret2
      exact ⟨by rw [HV.out.1, HV.out.2]; rfl, HB2.out⟩
    · have HM := Lib.hid hm
      have HV : Hid (cA 0 0 0 0 p = 1 ∧ cK 0 0 0 0 p = 0) := Lib.hid (by
        unfold cA cK cntW ciA ciK
        simp [HQ.out, hm])
      have hne : (((rgTo (str p) p.length).length : Int) == 0) = false := beq_eq_false_iff_ne.2 (by
        have := List.length_pos_iff.2 hm
        omega)
      clear hm
      go_enter Tryd.func66, Tryd.ntmps66
      go_wp2_with fail
      refine (ciLeast_any _ _ HG.out).mono ?_
      rintro e w1 ⟨rfl, hb1⟩
      rw [HB.out]
      go_wp2_with fail
      refine (ciMoves_any _ _ HR.out).mono ?_
      rintro e w2 ⟨v, rfl, ho2, hb2⟩
      rw [HL.out] at ho2
      obtain ⟨A, cap, rfl, hat⟩ := at_of_own ho2
      have HB2 := Lib.hid (hb1.trans (hb2.mono hb1.size))
      clear ho2 hat hb1 hb2
      go_wp2
      go_ret2
      exact ⟨by rw [HV.out.1, HV.out.2]; rfl, HB2.out⟩
  · have hbb : ((str (leastL p)).toList == (str p).toList) = false := by rw [same_str]; simpa using hq
    have hbn : ((str (leastL p)).toList != (str p).toList) = true := by unfold bne; rw [hbb]; rfl
    have HV : Hid (cA 0 0 0 0 p = 0 ∧ cK 0 0 0 0 p = 0) := Lib.hid (by
      unfold cA cK cntW ciA ciK
      simp [hq])
    clear hq
    go_enter Tryd.func66, Tryd.ntmps66
    go_wp2_with fail
    refine (ciLeast_any _ _ HG.out).mono ?_
    rintro e w1 ⟨rfl, hb1⟩
    rw [HB.out]
    go_wp2
    go_ret2
    exact ⟨by rw [HV.out.1, HV.out.2]; rfl, hb1⟩

/-- Three signs as a list in memory; three numbers. -/
abbrev LfBx (W : World) (b : Nat) (x y z : Int) : Prop :=
  W.cell? ⟨b, 0, none⟩ = some (.int .i64 x) ∧ W.cell? ⟨b, 1, none⟩ = some (.int .i64 y) ∧ W.cell? ⟨b, 2, none⟩ = some (.int .i64 z) ∧ b < W.heap.size
theorem lf_below {W W' : World} {b : Nat} {x y z : Int} (h : LfBx W b x y z) (hb : Below W.heap.size W W') : LfBx W' b x y z :=
  ⟨(hb.cell (p := ⟨b, 0, none⟩) h.2.2.2).trans h.1, (hb.cell (p := ⟨b, 1, none⟩) h.2.2.2).trans h.2.1, (hb.cell (p := ⟨b, 2, none⟩) h.2.2.2).trans h.2.2.1, Nat.lt_of_lt_of_le h.2.2.2 hb.size⟩
abbrev sgO : Obj := .cells #[.string ⟨#[84]⟩, .string ⟨#[46]⟩, .string ⟨#[70]⟩] 9

set_option maxRecDepth 100000 in
set_option maxHeartbeats 4000000 in
theorem ciCount_any : ∀ (n : Nat) (t g f : Int) (p : List UInt8) (w : World), 0 ≤ t → 0 ≤ g → 0 ≤ f → t + g + f = n → 3 ≤ p.length + n → p.length + n ≤ 9 → p.all isSign = true →
    Calls Tryd.prog 66 #[.string (str p), .int .i64 t, .int .i64 g, .int .i64 f] w (CnPost w (cA n t g f p) (cK n t g f p))
  | 0, t, g, f, p, w, ht, hg, hf, hn, h3, h9, hp => by
    obtain rfl : t = 0 := by omega
    obtain rfl : g = 0 := by omega
    obtain rfl : f = 0 := by omega
    exact ciCount_end p w hp (by omega) (by omega)
  | n + 1, t, g, f, p, w, ht, hg, hf, hn, h3, h9, hp => by
    have e84 : str (p ++ [84]) = str p ++ ⟨#[84]⟩ := by rw [← str_app]; rfl
    have HT : Hid (0 < t → ∀ wx, Calls Tryd.prog 66 #[.string (str p ++ ⟨#[84]⟩), .int .i64 (t - 1), .int .i64 g, .int .i64 f] wx (CnPost wx (cA n (t - 1) g f (p ++ [84])) (cK n (t - 1) g f (p ++ [84])))) := Lib.hid fun h0 wx => by
      rw [← e84]
      exact ciCount_any n (t - 1) g f (p ++ [84]) wx (by omega) (by omega) (by omega) (by omega) (by simp; omega) (by simp; omega) (by rw [List.all_append, hp]; rfl)
    have LT : Hid (0 < t → cA n (t - 1) g f (p ++ [84]) ≤ 8916100448256 ∧ cK n (t - 1) g f (p ++ [84]) ≤ 8916100448256) := Lib.hid fun h0 => cA_le n (t - 1) g f _ (by omega) (by omega) (by omega) (by omega) (by omega)
    have e46 : str (p ++ [46]) = str p ++ ⟨#[46]⟩ := by rw [← str_app]; rfl
    have HG : Hid (0 < g → ∀ wx, Calls Tryd.prog 66 #[.string (str p ++ ⟨#[46]⟩), .int .i64 t, .int .i64 (g - 1), .int .i64 f] wx (CnPost wx (cA n t (g - 1) f (p ++ [46])) (cK n t (g - 1) f (p ++ [46])))) := Lib.hid fun h0 wx => by
      rw [← e46]
      exact ciCount_any n t (g - 1) f (p ++ [46]) wx (by omega) (by omega) (by omega) (by omega) (by simp; omega) (by simp; omega) (by rw [List.all_append, hp]; rfl)
    have LG : Hid (0 < g → cA n t (g - 1) f (p ++ [46]) ≤ 8916100448256 ∧ cK n t (g - 1) f (p ++ [46]) ≤ 8916100448256) := Lib.hid fun h0 => cA_le n t (g - 1) f _ (by omega) (by omega) (by omega) (by omega) (by omega)
    have e70 : str (p ++ [70]) = str p ++ ⟨#[70]⟩ := by rw [← str_app]; rfl
    have HF : Hid (0 < f → ∀ wx, Calls Tryd.prog 66 #[.string (str p ++ ⟨#[70]⟩), .int .i64 t, .int .i64 g, .int .i64 (f - 1)] wx (CnPost wx (cA n t g (f - 1) (p ++ [70])) (cK n t g (f - 1) (p ++ [70])))) := Lib.hid fun h0 wx => by
      rw [← e70]
      exact ciCount_any n t g (f - 1) (p ++ [70]) wx (by omega) (by omega) (by omega) (by omega) (by simp; omega) (by simp; omega) (by rw [List.all_append, hp]; rfl)
    have LF : Hid (0 < f → cA n t g (f - 1) (p ++ [70]) ≤ 8916100448256 ∧ cK n t g (f - 1) (p ++ [70]) ≤ 8916100448256) := Lib.hid fun h0 => cA_le n t g (f - 1) _ (by omega) (by omega) (by omega) (by omega) (by omega)
    have HV : Hid (cA (n + 1) t g f p = (if 0 < t then cA n (t - 1) g f (p ++ [84]) else 0) + (if 0 < g then cA n t (g - 1) f (p ++ [46]) else 0) + (if 0 < f then cA n t g (f - 1) (p ++ [70]) else 0) ∧
      cK (n + 1) t g f p = (if 0 < t then cK n (t - 1) g f (p ++ [84]) else 0) + (if 0 < g then cK n t (g - 1) f (p ++ [46]) else 0) + (if 0 < f then cK n t g (f - 1) (p ++ [70]) else 0)) := Lib.hid ⟨rfl, rfl⟩
    have hz : (str p).size ≤ 1000 := by rw [str_size]; omega
    have b1 : t ≤ 12 := by omega
    have b2 : g ≤ 12 := by omega
    have b3 : f ≤ 12 := by omega
    have hne : (t + g + f == 0) = false := beq_eq_false_iff_ne.2 (by omega)
    generalize cA n (t - 1) g f (p ++ [84]) = a0 at HT LT HV
    generalize cK n (t - 1) g f (p ++ [84]) = k0 at HT LT HV
    generalize cA n t (g - 1) f (p ++ [46]) = a1 at HG LG HV
    generalize cK n t (g - 1) f (p ++ [46]) = k1 at HG LG HV
    generalize cA n t g (f - 1) (p ++ [70]) = a2 at HF LF HV
    generalize cK n t g (f - 1) (p ++ [70]) = k2 at HF LF HV
    generalize cA (n + 1) t g f p = A at HV ⊢
    generalize cK (n + 1) t g f p = B at HV ⊢
    clear e84 e46 e70 hn h3 h9 hp
    obtain ⟨x0, hx0⟩ : ∃ x, x = if 0 < t then a0 else 0 := ⟨_, rfl⟩
    obtain ⟨y0, hy0⟩ : ∃ x, x = if 0 < t then k0 else 0 := ⟨_, rfl⟩
    obtain ⟨x1, hx1⟩ : ∃ x, x = if 0 < g then a1 else 0 := ⟨_, rfl⟩
    obtain ⟨y1, hy1⟩ : ∃ x, x = if 0 < g then k1 else 0 := ⟨_, rfl⟩
    obtain ⟨x2, hx2⟩ : ∃ x, x = if 0 < f then a2 else 0 := ⟨_, rfl⟩
    obtain ⟨y2, hy2⟩ : ∃ x, x = if 0 < f then k2 else 0 := ⟨_, rfl⟩
    rw [← hx0, ← hy0, ← hx1, ← hy1, ← hx2, ← hy2] at HV
    have z0 : x0 ≤ 8916100448256 ∧ y0 ≤ 8916100448256 := by
      rw [hx0, hy0]; split
      · rename_i h; exact LT.out h
      · omega
    have z1 : x1 ≤ 8916100448256 ∧ y1 ≤ 8916100448256 := by
      rw [hx1, hy1]; split
      · rename_i h; exact LG.out h
      · omega
    have z2 : x2 ≤ 8916100448256 ∧ y2 ≤ 8916100448256 := by
      rw [hx2, hy2]; split
      · rename_i h; exact LF.out h
      · omega
    obtain ⟨z00, z01⟩ := z0
    obtain ⟨z10, z11⟩ := z1
    obtain ⟨z20, z21⟩ := z2
    have X0 := Lib.hid hx0
    have Y0 := Lib.hid hy0
    have X1 := Lib.hid hx1
    have Y1 := Lib.hid hy1
    have X2 := Lib.hid hx2
    have Y2 := Lib.hid hy2
    clear hx0 hy0 hx1 hy1 hx2 hy2 LT LG LF
    go_enter Tryd.func66, Tryd.ntmps66
    go_wp2
    obtain ⟨W0, hW0⟩ : ∃ W0, W0 = w.alloc sgO := ⟨_, rfl⟩
    rw [← hW0]
    have s0 : W0.cell? ⟨w.heap.size, 0, none⟩ = some (.string ⟨#[84]⟩) := by rw [hW0, World.cell?_alloc_new]; rfl
    have s1 : W0.cell? ⟨w.heap.size, 1, none⟩ = some (.string ⟨#[46]⟩) := by rw [hW0, World.cell?_alloc_new]; rfl
    have s2 : W0.cell? ⟨w.heap.size, 2, none⟩ = some (.string ⟨#[70]⟩) := by rw [hW0, World.cell?_alloc_new]; rfl
    have hzl : w.heap.size < W0.heap.size := by rw [hW0]; simp
    have HB0 : Hid (Below w.heap.size w W0) := Lib.hid (by rw [hW0]; exact (Below.refl _ _).alloc (Nat.le_refl _) _)
    clear hW0
    go_loopw [10, 11, 12, 13, 14, 15, 16, 35] (fun al bl _ _ _ _ _ i wr => (∃ k : Nat, k ≤ 3 ∧ i = .int .i64 k ∧ ∃ xa xb : Nat, al = .int .i64 xa ∧ bl = .int .i64 xb ∧ ((k = 0 ∧ xa = 0 ∧ xb = 0) ∨ (k = 1 ∧ xa = x0 ∧ xb = y0) ∨ (k = 2 ∧ xa = x0 + x1 ∧ xb = y0 + y1) ∨ (k = 3 ∧ xa = x0 + x1 + x2 ∧ xb = y0 + y1 + y2))) ∧ Below W0.heap.size W0 wr) (fun _ _ _ _ _ _ _ i _ => 3 - (intOf i).toNat)
    case atStart => exact ⟨⟨0, by omega, rfl, 0, 0, rfl, rfl, .inl ⟨rfl, rfl, rfl⟩⟩, Below.refl _ _⟩
    case round =>
      obtain ⟨⟨k, hk, rfl, xa, xb, rfl, rfl, ⟨rfl, hxa, hxb⟩ | ⟨rfl, hxa, hxb⟩ | ⟨rfl, hxa, hxb⟩ | ⟨rfl, hxa, hxb⟩⟩, hB⟩ := hrel
      · subst xa; subst xb
        have q0 := (hB.cell (p := ⟨w.heap.size, 0, none⟩) hzl).trans s0
        by_cases h0 : 0 < t
        · have hnz : (t == 0) = false := beq_eq_false_iff_ne.2 (by omega)
          have EX : Hid (x0 = a0 ∧ y0 = k0) := Lib.hid ⟨by rw [X0.out, if_pos h0], by rw [Y0.out, if_pos h0]⟩
          have HC : Hid (∀ wx, Calls Tryd.prog 66 #[.string (str p ++ ⟨#[84]⟩), .int .i64 (t - 1), .int .i64 (g), .int .i64 (f)] wx (CnPost wx x0 y0)) := Lib.hid fun wx => by
            have := HT.out h0 wx
            rw [← EX.out.1, ← EX.out.2] at this
            exact this
          have hcs : ∀ wx, (Op.stringOp .add (str p) ⟨#[84]⟩).run Tryd.prog wx = .ok (.string (str p ++ ⟨#[84]⟩)) wx := fun wx => run_string_add_sum _ _ _ (by show (str p).size + 1 ≤ _; omega)
          have hcb : ∀ wx, (binOp .add 9 (.string (str p)) (.string ⟨#[84]⟩)).run Tryd.prog wx = .ok (.string (str p ++ ⟨#[84]⟩)) wx := fun wx => by simp [binOp, hcs]
          go_wp2
          obtain ⟨W1, hW1⟩ : ∃ W1, W1 = wr.alloc (Obj.cells #[.int .i64 (t - 1), .int .i64 (g), .int .i64 (f)] 3) := ⟨_, rfl⟩
          rw [← hW1]
          have HS0 : LfBx W1 wr.heap.size (t - 1) (g) (f) := by
            rw [hW1]
            exact ⟨by rw [World.cell?_alloc_new]; rfl, by rw [World.cell?_alloc_new]; rfl, by rw [World.cell?_alloc_new]; rfl, by simp⟩
          have HB1 : Hid (Below W0.heap.size W0 W1) := Lib.hid (by rw [hW1]; exact hB.alloc hB.size _)
          have hz1 : W0.heap.size ≤ W1.heap.size := HB1.out.size
          clear hW1 q0 hB
          have SD : LfBx W1.drew wr.heap.size (t - 1) (g) (f) := HS0
          go_region_held3 (fun w' => LfBx w' wr.heap.size (t - 1) (g) (f)) (first | exact HS0 | exact lf_below SD hbm) (first | (go_at_call 66; refine (HC.out _).mono ?_; rintro e w2 ⟨rfl, hbm⟩))
          have HB2 : Hid (Below W0.heap.size W0 w2) := Lib.hid (HB1.out.trans (((Below.drew (Below.refl W1.heap.size W1)).trans hbm).mono hz1))
          rename_i hHeld
          clear hHeld SD hbm HB1
          go_wp2
          go_roundw
          case rel => exact ⟨⟨1, by omega, by go_num, x0, y0, by go_num, by go_num, .inr (.inl ⟨rfl, rfl, rfl⟩)⟩, HB2.out⟩
          case measure => simp [intOf]
        · have EX : Hid (x0 = 0 ∧ y0 = 0) := Lib.hid ⟨by rw [X0.out, if_neg h0], by rw [Y0.out, if_neg h0]⟩
          obtain rfl : t = 0 := by omega
          go_wp2
          go_roundw
          case rel => exact ⟨⟨1, by omega, by go_num, x0, y0, by first | (rw [EX.out.1]; done) | (rw [EX.out.1]; go_num), by first | (rw [EX.out.2]; done) | (rw [EX.out.2]; go_num), .inr (.inl ⟨rfl, rfl, rfl⟩)⟩, hB.alloc hB.size _⟩
          case measure => simp [intOf]
      · subst xa; subst xb
        have q0 := (hB.cell (p := ⟨w.heap.size, 1, none⟩) hzl).trans s1
        by_cases h0 : 0 < g
        · have hnz : (g == 0) = false := beq_eq_false_iff_ne.2 (by omega)
          have EX : Hid (x1 = a1 ∧ y1 = k1) := Lib.hid ⟨by rw [X1.out, if_pos h0], by rw [Y1.out, if_pos h0]⟩
          have HC : Hid (∀ wx, Calls Tryd.prog 66 #[.string (str p ++ ⟨#[46]⟩), .int .i64 (t), .int .i64 (g - 1), .int .i64 (f)] wx (CnPost wx x1 y1)) := Lib.hid fun wx => by
            have := HG.out h0 wx
            rw [← EX.out.1, ← EX.out.2] at this
            exact this
          have hcs : ∀ wx, (Op.stringOp .add (str p) ⟨#[46]⟩).run Tryd.prog wx = .ok (.string (str p ++ ⟨#[46]⟩)) wx := fun wx => run_string_add_sum _ _ _ (by show (str p).size + 1 ≤ _; omega)
          have hcb : ∀ wx, (binOp .add 9 (.string (str p)) (.string ⟨#[46]⟩)).run Tryd.prog wx = .ok (.string (str p ++ ⟨#[46]⟩)) wx := fun wx => by simp [binOp, hcs]
          go_wp2
          obtain ⟨W1, hW1⟩ : ∃ W1, W1 = wr.alloc (Obj.cells #[.int .i64 (t), .int .i64 (g - 1), .int .i64 (f)] 3) := ⟨_, rfl⟩
          rw [← hW1]
          have HS0 : LfBx W1 wr.heap.size (t) (g - 1) (f) := by
            rw [hW1]
            exact ⟨by rw [World.cell?_alloc_new]; rfl, by rw [World.cell?_alloc_new]; rfl, by rw [World.cell?_alloc_new]; rfl, by simp⟩
          have HB1 : Hid (Below W0.heap.size W0 W1) := Lib.hid (by rw [hW1]; exact hB.alloc hB.size _)
          have hz1 : W0.heap.size ≤ W1.heap.size := HB1.out.size
          clear hW1 q0 hB
          have SD : LfBx W1.drew wr.heap.size (t) (g - 1) (f) := HS0
          go_region_held3 (fun w' => LfBx w' wr.heap.size (t) (g - 1) (f)) (first | exact HS0 | exact lf_below SD hbm) (first | (go_at_call 66; refine (HC.out _).mono ?_; rintro e w2 ⟨rfl, hbm⟩))
          have HB2 : Hid (Below W0.heap.size W0 w2) := Lib.hid (HB1.out.trans (((Below.drew (Below.refl W1.heap.size W1)).trans hbm).mono hz1))
          rename_i hHeld
          clear hHeld SD hbm HB1
          go_wp2
          go_roundw
          case rel => exact ⟨⟨2, by omega, by go_num, x0 + x1, y0 + y1, by go_num, by go_num, .inr (.inr (.inl ⟨rfl, rfl, rfl⟩))⟩, HB2.out⟩
          case measure => simp [intOf]
        · have EX : Hid (x1 = 0 ∧ y1 = 0) := Lib.hid ⟨by rw [X1.out, if_neg h0], by rw [Y1.out, if_neg h0]⟩
          obtain rfl : g = 0 := by omega
          go_wp2
          go_roundw
          case rel => exact ⟨⟨2, by omega, by go_num, x0 + x1, y0 + y1, by first | (rw [EX.out.1]; done) | (rw [EX.out.1]; go_num), by first | (rw [EX.out.2]; done) | (rw [EX.out.2]; go_num), .inr (.inr (.inl ⟨rfl, rfl, rfl⟩))⟩, hB.alloc hB.size _⟩
          case measure => simp [intOf]
      · subst xa; subst xb
        have q0 := (hB.cell (p := ⟨w.heap.size, 2, none⟩) hzl).trans s2
        by_cases h0 : 0 < f
        · have hnz : (f == 0) = false := beq_eq_false_iff_ne.2 (by omega)
          have EX : Hid (x2 = a2 ∧ y2 = k2) := Lib.hid ⟨by rw [X2.out, if_pos h0], by rw [Y2.out, if_pos h0]⟩
          have HC : Hid (∀ wx, Calls Tryd.prog 66 #[.string (str p ++ ⟨#[70]⟩), .int .i64 (t), .int .i64 (g), .int .i64 (f - 1)] wx (CnPost wx x2 y2)) := Lib.hid fun wx => by
            have := HF.out h0 wx
            rw [← EX.out.1, ← EX.out.2] at this
            exact this
          have hcs : ∀ wx, (Op.stringOp .add (str p) ⟨#[70]⟩).run Tryd.prog wx = .ok (.string (str p ++ ⟨#[70]⟩)) wx := fun wx => run_string_add_sum _ _ _ (by show (str p).size + 1 ≤ _; omega)
          have hcb : ∀ wx, (binOp .add 9 (.string (str p)) (.string ⟨#[70]⟩)).run Tryd.prog wx = .ok (.string (str p ++ ⟨#[70]⟩)) wx := fun wx => by simp [binOp, hcs]
          go_wp2
          obtain ⟨W1, hW1⟩ : ∃ W1, W1 = wr.alloc (Obj.cells #[.int .i64 (t), .int .i64 (g), .int .i64 (f - 1)] 3) := ⟨_, rfl⟩
          rw [← hW1]
          have HS0 : LfBx W1 wr.heap.size (t) (g) (f - 1) := by
            rw [hW1]
            exact ⟨by rw [World.cell?_alloc_new]; rfl, by rw [World.cell?_alloc_new]; rfl, by rw [World.cell?_alloc_new]; rfl, by simp⟩
          have HB1 : Hid (Below W0.heap.size W0 W1) := Lib.hid (by rw [hW1]; exact hB.alloc hB.size _)
          have hz1 : W0.heap.size ≤ W1.heap.size := HB1.out.size
          clear hW1 q0 hB
          have SD : LfBx W1.drew wr.heap.size (t) (g) (f - 1) := HS0
          go_region_held3 (fun w' => LfBx w' wr.heap.size (t) (g) (f - 1)) (first | exact HS0 | exact lf_below SD hbm) (first | (go_at_call 66; refine (HC.out _).mono ?_; rintro e w2 ⟨rfl, hbm⟩))
          have HB2 : Hid (Below W0.heap.size W0 w2) := Lib.hid (HB1.out.trans (((Below.drew (Below.refl W1.heap.size W1)).trans hbm).mono hz1))
          rename_i hHeld
          clear hHeld SD hbm HB1
          go_wp2
          go_roundw
          case rel => exact ⟨⟨3, by omega, by go_num, x0 + x1 + x2, y0 + y1 + y2, by go_num, by go_num, .inr (.inr (.inr ⟨rfl, rfl, rfl⟩))⟩, HB2.out⟩
          case measure => simp [intOf]
        · have EX : Hid (x2 = 0 ∧ y2 = 0) := Lib.hid ⟨by rw [X2.out, if_neg h0], by rw [Y2.out, if_neg h0]⟩
          obtain rfl : f = 0 := by omega
          go_wp2
          go_roundw
          case rel => exact ⟨⟨3, by omega, by go_num, x0 + x1 + x2, y0 + y1 + y2, by first | (rw [EX.out.1]; done) | (rw [EX.out.1]; go_num), by first | (rw [EX.out.2]; done) | (rw [EX.out.2]; go_num), .inr (.inr (.inr ⟨rfl, rfl, rfl⟩))⟩, hB.alloc hB.size _⟩
          case measure => simp [intOf]
      · subst xa; subst xb
        go_wp2
        go_ret2
        exact ⟨by rw [HV.out.1, HV.out.2]; rfl, HB0.out.trans (hB.mono (by omega))⟩
end Go.Proofs.YtfjjdelmfohaeaaDoor
