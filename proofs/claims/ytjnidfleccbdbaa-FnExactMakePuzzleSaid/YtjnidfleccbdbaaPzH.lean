/- Contracts: what a clue tells of a line, the model's. -/
import Derived.Test.YtjnidfleccbdbaaPzC
import Derived.Test.YtjnidfleccbdbaaGmV
namespace Go.Proofs.Ytjnidfleccbdbaa
open Go.RowKit

/-- The first place of a sign among others, or 0. -/
def ixOf (c : UInt8) : List UInt8 → Nat → Nat
  | [], _ => 0
  | d :: r, k => if d = c then k else ixOf c r (k + 1)

theorem str_toList (l : List UInt8) : (str l).toList = l := by rw [Lib.toList_data]; rfl
theorem byt_extractP (s : ByteArray) (i j : Nat) : byt (s.extract i j) = ((byt s).take j).drop i := by
  unfold byt
  rw [ByteArray.data_extract]
  simp [List.take_drop]
  by_cases h : i ≤ j
  · rw [show i + (j - i) = j by omega]
  · rw [List.drop_of_length_le (by simp; omega), List.drop_of_length_le (by simp; omega)]
theorem ext_one (s : ByteArray) (k : Nat) (h : k < s.size) : (s.extract k (k + 1)).toList = [s[k]] := by
  rw [Lib.toList_data]
  show byt _ = _
  rw [byt_extractP, List.drop_take, drop_cons s k h]
  simp
set_option maxRecDepth 100000 in
set_option maxHeartbeats 1000000 in
theorem pzIndex_any (s : ByteArray) (c : UInt8) (w : World) (hs : s.size ≤ 100) (has : ∀ k (h : k < s.size), s[k].toNat < 128) :
    Calls Try.prog 50 #[.string s, .string (str [c])] w fun e w' => e = .returned (.int .i64 (ixOf c (byt s) 0)) ∧ Below w.heap.size w w' := by
  have HA := Lib.hid has
  clear has
  go_enter Try.func50, Try.ntmps50
  go_wp2
  go_loopw [5, 8, 9, 10] (fun _ _ _ _ wr => ∃ k : Nat, k ≤ s.size ∧ wr.heap[w.heap.size]? = some (.stringIter s k) ∧ Hid (ixOf c (byt s) 0 = ixOf c ((byt s).drop k) k) ∧ Below w.heap.size w wr) (fun _ _ _ _ wr => s.size - wr.iterPos w.heap.size)
  case atStart => exact ⟨0, Nat.zero_le _, World.iter_heap w s 0, Lib.hid rfl, (Below.refl _ _).alloc (Nat.le_refl _) _⟩
  case round =>
    obtain ⟨k, hk, hit, hx, hB⟩ := hrel
    have hpos0 := iterPos_of hit
    by_cases hlt : k < s.size
    · have hasc := HA.out k hlt
      have hnx : ∀ ty, (Instr.next (.pointer (some ⟨w.heap.size, 0, none⟩)) true ty).run Try.prog wr = _ := fun ty => Lib.run_next_ascii_at wr w.heap.size s k ty hit hlt hasc
      have hit2 := Lib.iterAt_heap wr w.heap.size s k (k + 1) hit
      have hB2 := Lib.below_iterAt hB (k := w.heap.size) (Nat.le_refl _) s (k + 1)
      have hd := Lib.hid (drop_cons s k hlt)
      obtain ⟨W1, hW1⟩ : ∃ W1, W1 = wr.iterAt w.heap.size s (k + 1) := ⟨_, rfl⟩
      rw [← hW1] at hnx hit2 hB2
      clear hW1 hit hB
      have i1 : (0 : Int) ≤ (k : Int) := by omega
      have i2 : (k : Int) + 1 ≤ (s.size : Int) := by omega
      by_cases hc : s[k] = c
      · have hq : ((s.extract k (k + 1)).toList == (str [c]).toList) = true := by rw [ext_one s k hlt, hc]; simp [str_toList]
        have hxx : Hid (ixOf c (byt s) 0 = k) := Lib.hid (by rw [hx.out, hd.out]; unfold ixOf; rw [if_pos hc])
        clear hc hx hd
        go_wp2
        go_ret
        exact ⟨congrArg (fun n : Nat => Ending.returned (.int .i64 (n : Int))) hxx.out.symm, hB2⟩
      · have hq : ((s.extract k (k + 1)).toList == (str [c]).toList) = false := by rw [ext_one s k hlt]; simp [str_toList, hc]
        have hxx : Hid (ixOf c (byt s) 0 = ixOf c ((byt s).drop (k + 1)) (k + 1)) := Lib.hid (by rw [hx.out, hd.out]; conv => lhs; unfold ixOf; rw [if_neg hc])
        clear hc hx hd
        go_wp2
        go_roundw
        case rel => exact ⟨k + 1, by omega, hit2, hxx, hB2⟩
        case measure => rw [hpos0, iterPos_of hit2]; omega
    · obtain rfl : k = s.size := by omega
      have hnx : ∀ ty, (Instr.next (.pointer (some ⟨w.heap.size, 0, none⟩)) true ty).run Try.prog wr = _ := fun ty => Lib.run_next_end_at wr w.heap.size s s.size ty hit (Nat.lt_irrefl _)
      have hxx : Hid (ixOf c (byt s) 0 = 0) := Lib.hid (by rw [hx.out, drop_all]; rfl)
      clear hx
      go_wp2
      go_ret
      exact ⟨congrArg (fun n : Nat => Ending.returned (.int .i64 (n : Int))) hxx.out.symm, hB⟩

theorem kindM_all (s : ByteArray) : kindM true true s = canM s := by
  funext f t
  simp [kindM]
/-- What a clue of a kind tells of a line. -/
def clV (k : Int) (a : Nat) (l : List UInt8) : Int :=
  if k = 0 then (ixOf (l.getD a 0) [46, 70, 84] 0 : Nat) else if k = 1 then (cnt 84 l : Nat) else if k = 2 then (cnt 70 l : Nat) else if k = 3 then ((mvsTo (canM (str l)) (str l) l.length).length : Nat) else if k = 4 then ((pairSt l).1 : Nat) else outI (Wn true l) (Wn false l)
theorem signs_ascii : ∀ k (h : k < (⟨#[46, 70, 84]⟩ : ByteArray).size), (⟨#[46, 70, 84]⟩ : ByteArray)[k].toNat < 128 := by decide
theorem outs_ascii : ∀ k (h : k < (⟨#[49, 50, 70, 84]⟩ : ByteArray).size), (⟨#[49, 50, 70, 84]⟩ : ByteArray)[k].toNat < 128 := by decide
theorem outC_ix (a b : Bool) : ((ixOf (outC a b) [49, 50, 70, 84] 0 : Nat) : Int) = outI a b := by cases a <;> cases b <;> decide
theorem ext_sign (s : ByteArray) (k : Nat) (h : k < s.size) : s.extract k (k + 1) = str [(byt s).getD k 0] := by
  apply Go.WideShapes.bytes_inj
  have e := ext_one s k h
  rw [Lib.toList_data] at e
  rw [e]
  have : (byt s).getD k 0 = s[k] := by
    rw [List.getD_eq_getElem?_getD, List.getElem?_eq_getElem (by rw [byt_len]; exact h)]
    simp [byt]
    rfl
  rw [this]
  rfl

set_option maxRecDepth 100000 in
set_option maxHeartbeats 2000000 in
theorem pzValue_any (l : List UInt8) (k : Int) (a : Nat) (w : World) (hg : goodL (str l) = true) (h5 : l.length ≤ 5) (hk : 0 ≤ k ∧ k ≤ 5) (ha : a < l.length) :
    Calls Try.prog 36 #[.int .i64 k, .int .i64 a, .string (str l)] w fun e w' => e = .returned (.int .i64 (clV k a l)) ∧ Below w.heap.size w w' := by
  have hsz : (str l).size = l.length := str_size l
  have h : k = 0 ∨ k = 1 ∨ k = 2 ∨ k = 3 ∨ k = 4 ∨ k = 5 := by omega
  rcases h with rfl | rfl | rfl | rfl | rfl | rfl
  · have HI := Lib.hid (fun c wx => pzIndex_any ⟨#[46, 70, 84]⟩ c wx (by decide) signs_ascii)
    have HX := Lib.hid (ext_sign (str l) a (by omega))
    have HV : Hid (clV 0 a l = (ixOf ((byt (str l)).getD a 0) (byt ⟨#[46, 70, 84]⟩) 0 : Nat)) := Lib.hid (by rw [byt_str]; rfl)
    generalize (byt (str l)).getD a 0 = c at HX HV
    have i0 : (0 : Int) ≤ (a : Int) := by omega
    have i1 : (a : Int) + 1 ≤ (l.length : Int) := by omega
    have i2 : (a : Int) + 1 ≤ ((str l).size : Int) := by omega
    have i3 : IntKind.i64.wrap ((a : Int) + 1) = (a : Int) + 1 := by rw [IntKind.wrap_i64]; omega
    generalize str l = s at *
    go_enter Try.func36, Try.ntmps36
    go_wp2_with fail
    rw [HX.out]
    refine (HI.out c _).mono ?_
    rintro e w1 ⟨rfl, hb1⟩
    go_wp2_with fail
    go_ret
    exact ⟨congrArg (fun n : Int => Ending.returned (.int .i64 n)) HV.out.symm, hb1⟩
  · have HC := Lib.hid (fun wx => liCount_any (str l) 84 wx (by rw [hsz]; unfold maxLen; omega))
    simp only [byt_str] at HC
    generalize str l = s at *
    go_enter Try.func36, Try.ntmps36
    go_wp2_with fail
    refine (HC.out _).mono ?_
    rintro e w1 ⟨rfl, rfl⟩
    go_wp2_with fail
    go_ret
    exact ⟨rfl, Below.refl _ _⟩
  · have HC := Lib.hid (fun wx => liCount_any (str l) 70 wx (by rw [hsz]; unfold maxLen; omega))
    simp only [byt_str] at HC
    generalize str l = s at *
    go_enter Try.func36, Try.ntmps36
    go_wp2_with fail
    refine (HC.out _).mono ?_
    rintro e w1 ⟨rfl, rfl⟩
    go_wp2_with fail
    go_ret
    exact ⟨rfl, Below.refl _ _⟩
  · have HC := Lib.hid (fun wx => liMoves_all (str l) wx hg)
    rw [kindM_all, hsz] at HC
    have HV : Hid (clV 3 a l = ((mvsTo (canM (str l)) (str l) l.length).length : Nat)) := Lib.hid rfl
    generalize mvsTo (canM (str l)) (str l) l.length = M at HC HV
    generalize str l = s at *
    go_enter Try.func36, Try.ntmps36
    go_wp2_with fail
    refine (HC.out _).mono ?_
    rintro e w1 ⟨v, rfl, o1, hb1⟩
    obtain ⟨A, cap, rfl, _⟩ := at_of_own o1
    clear o1
    go_wp2_with fail
    go_ret
    exact ⟨congrArg (fun n : Int => Ending.returned (.int .i64 n)) HV.out.symm, hb1⟩
  · have HC := Lib.hid (fun wx => liPairs_any (str l) wx (by omega))
    simp only [byt_str] at HC
    generalize str l = s at *
    go_enter Try.func36, Try.ntmps36
    go_wp2_with fail
    refine (HC.out _).mono ?_
    rintro e w1 ⟨rfl, rfl⟩
    go_wp2_with fail
    go_ret
    exact ⟨rfl, Below.refl _ _⟩
  · have hok : sumOk [l] = true := by rw [sumOk_one]; unfold fewB; rw [hg]; simp [hsz]; omega
    have HG := Lib.hid (fun wx => gaOutcome_any [l] (some ⟨wx.heap.size, 0, none⟩) 1 (wx.alloc (.cells #[.string (str l)] 9)) (one_slice wx l) (fun ad e => by injection e with e; subst e; simp) hok)
    have hj : joinG [l] = l := by simp [joinG]
    rw [hj] at HG
    have HI := Lib.hid (fun c wx => pzIndex_any ⟨#[49, 50, 70, 84]⟩ c wx (by decide) outs_ascii)
    have HV : Hid (clV 5 a l = (ixOf (outC (Wn true l) (Wn false l)) (byt ⟨#[49, 50, 70, 84]⟩) 0 : Nat)) := Lib.hid ((outC_ix _ _).symm)
    generalize outC (Wn true l) (Wn false l) = c at HG HV
    generalize str l = s at *
    have hB : Below w.heap.size w (w.alloc (.cells #[.string s] 9)) := (Below.refl _ _).alloc (Nat.le_refl _) _
    go_enter Try.func36, Try.ntmps36
    go_wp2_with fail
    refine (HG.out _).mono ?_
    rintro e w1 ⟨rfl, hb1⟩
    go_wp2_with fail
    refine (HI.out c _).mono ?_
    rintro e w2 ⟨rfl, hb2⟩
    go_wp2_with fail
    go_ret
    have h1 := hB.trans (hb1.mono hB.size)
    exact ⟨congrArg (fun n : Int => Ending.returned (.int .i64 n)) HV.out.symm, h1.trans (hb2.mono h1.size)⟩

/-- A line fits a clue. -/
def fitC (c : Cl) (l : List UInt8) : Bool := if c.1 = 0 then clV 0 c.2.1.toNat l == c.2.2 else clV c.1 0 l == c.2.1
/-- A line that may be hidden. -/
def hidB (l : List UInt8) : Bool := goodL (str l) && decide (l.length ≤ 5)
set_option maxHeartbeats 1000000 in
theorem pzLine_any (l : List UInt8) (w : World) (hs : l.length ≤ maxLen) :
    Calls Try.prog 24 #[.string (str l)] w fun e w' => e = .returned (.bool (hidB l)) ∧ w = w' := by
  have hsz : (str l).size = l.length := str_size l
  have HG := Lib.hid (fun wx => liGood_any (str l) wx (by rw [hsz]; exact hs))
  unfold maxLen at hs
  cases hg : goodL (str l)
  · have HR : Hid (hidB l = false) := Lib.hid (by unfold hidB; rw [hg]; rfl)
    rw [hg] at HG
    clear hg
    rw [HR.out]
    generalize str l = s at *
    go_enter Try.func24, Try.ntmps24
    go_wp2_with fail
    refine (HG.out _).mono ?_; rintro e w' ⟨rfl, rfl⟩
    go_wp2_with fail
    go_ret
    exact ⟨rfl, rfl⟩
  · have HR : Hid (hidB l = decide (((str l).size : Int) ≤ 5)) := Lib.hid (by unfold hidB; rw [hg, hsz, Bool.true_and, decide_eq_decide]; omega)
    rw [hg] at HG
    clear hg hsz
    rw [HR.out]
    generalize str l = s at *
    go_enter Try.func24, Try.ntmps24
    go_wp2_with fail
    refine (HG.out _).mono ?_; rintro e w' ⟨rfl, rfl⟩
    go_wp2_with fail
    go_ret
    exact ⟨rfl, rfl⟩

def boolOr2 (c b : Bool) : Value := .tuple #[.bool (c && b), .bool c]
end Go.Proofs.Ytjnidfleccbdbaa
