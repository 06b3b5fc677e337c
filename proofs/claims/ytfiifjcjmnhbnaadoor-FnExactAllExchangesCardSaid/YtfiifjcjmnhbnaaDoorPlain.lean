/- Plain facts on lines as lists of bytes; no Go in sight. -/
import Derived.Lib.Hide
import Derived.Test.YtfiifjcjmnhbnaaDoorProg
import Derived.WalkKit
import Derived.WalkSpells
import Derived.WalkLawsBesides
import Derived.Deep.QuietTactic
import Derived.BigQuiet
namespace Go.Proofs.YtfiifjcjmnhbnaaDoor
/-- A sign of a line: T, F or a point. -/
def isSign (c : UInt8) : Bool := c == 84 || c == 70 || c == 46
/-- A line: one to twelve signs. -/
def goodL (s : ByteArray) : Bool := decide (1 ≤ s.size) && decide (s.size ≤ 12) && s.data.toList.all isSign
def inR (n lo hi : Int) : Bool := decide (lo ≤ n) && decide (n ≤ hi)
/-- The string of some bytes. -/
def str (l : List UInt8) : ByteArray := ⟨l.toArray⟩
/-- The bytes of a string. -/
def byt (s : ByteArray) : List UInt8 := s.data.toList
/-- How many of a sign there are. -/
def cnt (c : UInt8) (l : List UInt8) : Nat := (l.filter (· == c)).length
theorem isSign_int (c : UInt8) : isSign c = decide ((c.toNat : Int) = 84 ∨ (c.toNat : Int) = 70 ∨ (c.toNat : Int) = 46) := by
  rw [Bool.eq_iff_iff]
  simp [isSign, ← UInt8.toNat_inj]
  omega
theorem sign_cases (c : UInt8) : c = 84 ∨ c = 70 ∨ c = 46 ∨ isSign c = false := by
  unfold isSign
  by_cases h1 : c = 84
  · exact .inl h1
  · by_cases h2 : c = 70
    · exact .inr (.inl h2)
    · by_cases h3 : c = 46
      · exact .inr (.inr (.inl h3))
      · exact .inr (.inr (.inr (by simp [h1, h2, h3])))
theorem no_sign {c : UInt8} (h : isSign c = false) : ((c.toNat : Int) == 84) = false ∧ ((c.toNat : Int) == 70) = false ∧ ((c.toNat : Int) == 46) = false ∧ ((c.toNat : Int) != 84) = true ∧ ((c.toNat : Int) != 70) = true ∧ ((c.toNat : Int) != 46) = true := by
  rw [isSign_int] at h
  simp at h ⊢
  omega
theorem byt_str (l : List UInt8) : byt (str l) = l := by simp [byt, str]
theorem str_byt (s : ByteArray) : str (byt s) = s := by simp [byt, str]
theorem str_app (a b : List UInt8) : str a ++ str b = str (a ++ b) := by
  apply ByteArray.ext
  simp [str]
theorem str_size (l : List UInt8) : (str l).size = l.length := by
  show l.toArray.size = l.length
  simp
theorem byt_len (s : ByteArray) : (byt s).length = s.size := by
  show s.data.toList.length = s.data.size
  simp
theorem str_inj {a b : List UInt8} : str a = str b ↔ a = b := by
  constructor
  · intro h
    have := congrArg byt h
    rwa [byt_str, byt_str] at this
  · rintro rfl; rfl
theorem take_snoc (s : ByteArray) (k : Nat) (h : k < s.size) : (byt s).take (k + 1) = (byt s).take k ++ [s[k]] := by
  unfold byt
  rw [List.take_succ_eq_append_getElem (by simpa using h)]; rfl
theorem take_all (s : ByteArray) : (byt s).take s.size = byt s := List.take_of_length_le (by rw [byt_len]; exact Nat.le_refl _)
theorem cnt_nil (c : UInt8) : cnt c [] = 0 := rfl
theorem cnt_snoc (c d : UInt8) (l : List UInt8) : cnt c (l ++ [d]) = cnt c l + if d = c then 1 else 0 := by
  unfold cnt
  by_cases h : d = c <;> simp [List.filter_append, h]
theorem cnt_le (c : UInt8) (l : List UInt8) : cnt c l ≤ l.length := List.length_filter_le _ _
theorem u8_int (a b : UInt8) : ((a.toNat : Int) = (b.toNat : Int)) ↔ a = b := by rw [← UInt8.toNat_inj]; omega
theorem beq_u8 {a b : UInt8} (h : a = b) : ((a.toNat : Int) == (b.toNat : Int)) = true := by simp [h]
theorem bne_u8 {a b : UInt8} (h : ¬ a = b) : ((a.toNat : Int) == (b.toNat : Int)) = false := by
  rw [beq_eq_false_iff_ne]; exact fun e => h ((u8_int a b).1 e)
/-- Numbers of toads, gaps and frogs of a line. -/
def three (t g f : Int) : Bool := [t, g, f].all (inR · 0 12) && inR (t + g + f) 1 12
theorem three_iff (t g f : Int) : three t g f = true ↔ (0 ≤ t ∧ t ≤ 12) ∧ (0 ≤ g ∧ g ≤ 12) ∧ (0 ≤ f ∧ f ≤ 12) ∧ 1 ≤ t + g + f ∧ t + g + f ≤ 12 := by
  simp [three, inR, and_assoc]
def firstL (t g f : Nat) : List UInt8 := List.replicate t 84 ++ List.replicate g 46 ++ List.replicate f 70
def lastL (l : List UInt8) : List UInt8 := List.replicate (cnt 70 l) 70 ++ List.replicate (cnt 46 l) 46 ++ List.replicate (cnt 84 l) 84
theorem lastL_len (l : List UInt8) : (lastL l).length ≤ 3 * l.length := by
  have h1 := cnt_le 70 l
  have h2 := cnt_le 46 l
  have h3 := cnt_le 84 l
  simp [lastL]; omega
/-- A sign of the other side. -/
def oSign (c : UInt8) : UInt8 := if c = 84 then 70 else if c = 70 then 84 else 46
def otherL (l : List UInt8) : List UInt8 := (l.map oSign).reverse
/-- Pairs to pass, and toads, so far. -/
def pairStep (p : Nat × Nat) (c : UInt8) : Nat × Nat := if c = 84 then (p.1, p.2 + 1) else if c = 70 then (p.1 + p.2, p.2) else p
def pairSt (l : List UInt8) : Nat × Nat := l.foldl pairStep (0, 0)
theorem pairSt_snoc (l : List UInt8) (c : UInt8) : pairSt (l ++ [c]) = pairStep (pairSt l) c := by simp [pairSt, List.foldl_append]
theorem pairSt_le (l : List UInt8) : (pairSt l).2 ≤ l.length ∧ (pairSt l).1 ≤ l.length * l.length := by
  suffices h : ∀ r : List UInt8, (pairSt r.reverse).2 ≤ r.length ∧ (pairSt r.reverse).1 ≤ r.length * r.length by
    have := h l.reverse
    simpa using this
  intro r
  induction r with
  | nil => simp [pairSt]
  | cons c r ih =>
    rw [List.reverse_cons, pairSt_snoc, List.length_cons]
    have e : (r.length + 1) * (r.length + 1) = r.length * r.length + 2 * r.length + 1 := by
      rw [Nat.add_mul, Nat.mul_add]; omega
    unfold pairStep
    split
    · simp; omega
    · split
      · simp; omega
      · omega
/-- The sum of the cells with a sign, and how many cells there were. -/
def sumStep (c : UInt8) (p : Nat × Nat) (d : UInt8) : Nat × Nat := if d = c then (p.1 + p.2, p.2 + 1) else (p.1, p.2 + 1)
def sumSt (c : UInt8) (l : List UInt8) : Nat × Nat := l.foldl (sumStep c) (0, 0)
theorem sumSt_snoc (c : UInt8) (l : List UInt8) (d : UInt8) : sumSt c (l ++ [d]) = sumStep c (sumSt c l) d := by simp [sumSt, List.foldl_append]
theorem sumSt_le (c : UInt8) (l : List UInt8) : (sumSt c l).2 = l.length ∧ (sumSt c l).1 ≤ l.length * l.length := by
  suffices h : ∀ r : List UInt8, (sumSt c r.reverse).2 = r.length ∧ (sumSt c r.reverse).1 ≤ r.length * r.length by
    have := h l.reverse
    simpa using this
  intro r
  induction r with
  | nil => simp [sumSt]
  | cons d r ih =>
    rw [List.reverse_cons, sumSt_snoc, List.length_cons]
    have e : (r.length + 1) * (r.length + 1) = r.length * r.length + 2 * r.length + 1 := by
      rw [Nat.add_mul, Nat.mul_add]; omega
    unfold sumStep
    split
    · simp; omega
    · simp; omega
theorem otherL_cons (c : UInt8) (l : List UInt8) : otherL (c :: l) = otherL l ++ [oSign c] := by simp [otherL]
theorem otherL_len (l : List UInt8) : (otherL l).length = l.length := by simp [otherL]
theorem drop_cons (s : ByteArray) (k : Nat) (h : k < s.size) : (byt s).drop k = s[k] :: (byt s).drop (k + 1) := by
  unfold byt
  rw [List.drop_eq_getElem_cons (by simpa using h)]; rfl
theorem drop_all (s : ByteArray) : (byt s).drop s.size = [] := List.drop_of_length_le (by rw [byt_len]; exact Nat.le_refl _)
theorem goodL_iff (s : ByteArray) : goodL s = true ↔ 1 ≤ s.size ∧ s.size ≤ 12 ∧ (byt s).all isSign = true := by
  unfold goodL byt
  rw [Bool.and_eq_true, Bool.and_eq_true, decide_eq_true_iff, decide_eq_true_iff, and_assoc]
end Go.Proofs.YtfiifjcjmnhbnaaDoor
namespace Go.Proofs.YtfiifjcjmnhbnaaDoor
open Go.RowKit
set_option maxHeartbeats 400000 in
theorem l1In_any (n lo hi : Int) (w : World) :
    Calls Tryd.prog 20 #[.int .i64 n, .int .i64 lo, .int .i64 hi] w fun e w' => e = .returned (.bool (inR n lo hi)) ∧ w = w' := by
  by_cases h1 : lo ≤ n
  · by_cases h2 : n ≤ hi
    · go_enter Tryd.func20, Tryd.ntmps20
      go_wp2
      go_ret
      exact ⟨by simp [inR]; omega, rfl⟩
    · go_enter Tryd.func20, Tryd.ntmps20
      go_wp2
      go_ret
      exact ⟨by simp [inR]; omega, rfl⟩
  · go_enter Tryd.func20, Tryd.ntmps20
    go_wp2
    go_ret
    exact ⟨by simp [inR]; omega, rfl⟩

set_option maxHeartbeats 400000 in
theorem liCount_any (s : ByteArray) (c : UInt8) (w : World) (hs : s.size ≤ maxLen) :
    Calls Tryd.prog 35 #[.string s, .int .u8 c.toNat] w fun e w' => e = .returned (.int .i64 (cnt c (byt s))) ∧ w = w' := by
  unfold maxLen at hs
  go_enter Tryd.func35, Tryd.ntmps35
  go_wp2
  go_loop [5, 6] (fun n i => ∃ k : Nat, k ≤ s.size ∧ i = .int .i64 k ∧ n = .int .i64 (cnt c ((byt s).take k))) (fun _ i => s.size - (intOf i).toNat)
  case atStart => exact ⟨0, Nat.zero_le _, rfl, rfl⟩
  case round =>
    obtain ⟨k, hk, rfl, rfl⟩ := hrel
    have hd := cnt_le c ((byt s).take k)
    have hl : ((byt s).take k).length ≤ k := List.length_take_le _ _
    by_cases hlt : k < s.size
    · have HS : Hid (cnt c ((byt s).take (k + 1)) = cnt c ((byt s).take k) + if s[k] = c then 1 else 0) := by
        show _ = _
        rw [take_snoc s k hlt, cnt_snoc]
      by_cases hc : s[k] = c
      · have hv := beq_u8 hc
        have hC := Lib.hid hc
        clear hc
        go_wp2
        go_round
        case rel => exact ⟨k + 1, by omega, by go_num, by rw [HS.out, if_pos hC.out]; go_num⟩
        case measure => simp [intOf]; omega
      · have hv := bne_u8 hc
        have hC := Lib.hid hc
        clear hc
        go_wp2
        go_round
        case rel => exact ⟨k + 1, by omega, by go_num, by rw [HS.out, if_neg hC.out]; go_num⟩
        case measure => simp [intOf]; omega
    · go_wp2
      go_ret
      obtain rfl : k = s.size := by omega
      refine ⟨?_, rfl⟩
      rw [take_all]
      rfl

set_option maxHeartbeats 400000 in
theorem liTimes_any (c : UInt8) (n : Int) (w : World) (hn : n ≤ 1000) :
    Calls Tryd.prog 21 #[.string ⟨#[c]⟩, .int .i64 n] w fun e w' => e = .returned (.string (str (List.replicate n.toNat c))) ∧ w = w' := by
  go_enter Tryd.func21, Tryd.ntmps21
  go_wp2
  go_loop [1, 5] (fun m o => ∃ k : Int, k ≤ n ∧ (0 ≤ k ∨ k = n) ∧ m = .int .i64 k ∧ o = .string (str (List.replicate (n.toNat - k.toNat) c))) (fun m _ => (intOf m).toNat)
  case atStart => exact ⟨n, by omega, .inr rfl, rfl, by simp; rfl⟩
  case round =>
    obtain ⟨k, hk, hk2, rfl, rfl⟩ := hrel
    by_cases hlt : 0 < k
    · have hz : (str (List.replicate (n.toNat - k.toNat) c)).size ≤ 1000 := by rw [str_size, List.length_replicate]; omega
      go_wp2
      go_round
      case rel =>
        refine ⟨k - 1, by omega, by omega, rfl, ?_⟩
        have e : n.toNat - (k - 1).toNat = n.toNat - k.toNat + 1 := by omega
        rw [e, List.replicate_succ', ← str_app]
        rfl
      case measure => simp [intOf]; omega
    · go_wp2
      go_ret
      have e : n.toNat - k.toNat = n.toNat := by omega
      exact ⟨congrArg (fun m => Ending.returned (.string (str (List.replicate m c)))) e, rfl⟩

set_option maxHeartbeats 400000 in
theorem l1All_any (b c : Nat) (zs : List Int) (lo hi : Int) (w : World) (hm : zs.length ≤ 1000)
    (hc : ∀ j, j < zs.length → w.cell? ⟨b, j, none⟩ = some (.int .i64 (zs.getD j 0))) :
    Calls Tryd.prog 19 #[.slice (some ⟨b, 0, none⟩) zs.length c, .int .i64 lo, .int .i64 hi] w fun e w' => e = .returned (.bool (zs.all (inR · lo hi))) ∧ w = w' := by
  go_enter Tryd.func19, Tryd.ntmps19
  go_wp2
  go_loop [8, 11] (fun n i => ∃ k : Nat, k ≤ zs.length ∧ i = .int .i64 k ∧ Hid ((zs.take k).all (inR · lo hi) = true)) (fun _ i => zs.length - (intOf i).toNat)
  case atStart => exact ⟨0, Nat.zero_le _, rfl, rfl⟩
  case round =>
    obtain ⟨k, hk, rfl, hA⟩ := hrel
    by_cases hlt : k < zs.length
    · have hcell := hc k hlt
      have hts : Hid (zs.take (k + 1) = zs.take k ++ [zs.getD k 0]) := by
        show _ = _
        rw [List.take_succ_eq_append_getElem hlt]
        simp [List.getD_eq_getElem?_getD, hlt]
      clear hc
      generalize zs.getD k 0 = z at hcell hts
      cases hz : inR z lo hi
      · have hZ := Lib.hid hz
        clear hz
        go_wp2_with (go_at_call 20; refine (l1In_any _ _ _ _).mono ?_; rintro e w' ⟨rfl, rfl⟩; rw [hZ.out])
        go_ret
        refine ⟨congrArg (fun b => Ending.returned (.bool b)) ?_, rfl⟩
        have e1 : (zs.take (k + 1)).all (inR · lo hi) = false := by
          rw [hts.out, List.all_append]
          simp [hZ.out]
        show false = zs.all (inR · lo hi)
        rw [← List.take_append_drop (k + 1) zs, List.all_append, e1]
        rfl
      · have hZ := Lib.hid hz
        clear hz
        go_wp2_with (go_at_call 20; refine (l1In_any _ _ _ _).mono ?_; rintro e w' ⟨rfl, rfl⟩; rw [hZ.out])
        go_round
        case rel =>
          refine ⟨k + 1, by omega, by go_num, ?_⟩
          show _ = _
          rw [hts.out, List.all_append, hA.out]
          simp [hZ.out]
        case measure => simp [intOf]; omega
    · go_wp2
      go_ret
      refine ⟨congrArg (fun b => Ending.returned (.bool b)) ?_, rfl⟩
      obtain rfl : k = zs.length := by omega
      show true = zs.all (inR · lo hi)
      rw [← hA.out, List.take_length]
end Go.Proofs.YtfiifjcjmnhbnaaDoor
namespace Go.Proofs.YtfiifjcjmnhbnaaDoor
open Go.RowKit

theorem three_cells (t g f : Int) (w : World) : ∀ (j : Nat),
  j < [t, g, f].length →
    (w.alloc (Obj.cells #[Value.int IntKind.i64 t, Value.int IntKind.i64 g, Value.int IntKind.i64 f] 3)).cell? { block := w.heap.size, off := j } =
      some (Value.int IntKind.i64 ([t, g, f].getD j 0)) := by
  intro j hj
  rw [World.cell?_alloc_new]
  match j, hj with
  | 0, _ => rfl
  | 1, _ => rfl
  | 2, _ => rfl

set_option maxHeartbeats 400000 in
theorem liFirst_any (t g f : Int) (w : World) (ht : t ≤ 100) (hg : g ≤ 100) (hf : f ≤ 100) :
    Calls Tryd.prog 10 #[.int .i64 t, .int .i64 g, .int .i64 f] w fun e w' => e = .returned (.string (str (firstL t.toNat g.toNat f.toNat))) ∧ w = w' := by
  have z1 : (str (List.replicate t.toNat 84)).size ≤ 100 := by rw [str_size, List.length_replicate]; omega
  have z2 : (str (List.replicate g.toNat 46)).size ≤ 100 := by rw [str_size, List.length_replicate]; omega
  have z3 : (str (List.replicate f.toNat 70)).size ≤ 100 := by rw [str_size, List.length_replicate]; omega
  go_enter Tryd.func10, Tryd.ntmps10
  go_wp2_with fail
  refine (liTimes_any 84 _ _ (by omega)).mono ?_; rintro e w' ⟨rfl, rfl⟩
  go_wp2_with fail
  refine (liTimes_any 46 _ _ (by omega)).mono ?_; rintro e w' ⟨rfl, rfl⟩
  go_wp2_with fail
  refine (liTimes_any 70 _ _ (by omega)).mono ?_; rintro e w' ⟨rfl, rfl⟩
  go_wp2
  go_ret
  refine ⟨congrArg (fun b => Ending.returned (.string b)) ?_, rfl⟩
  show str _ ++ str _ ++ str _ = _
  rw [str_app, str_app]
  rfl

set_option maxHeartbeats 400000 in
theorem liLast_any (s : ByteArray) (w : World) (hs : s.size ≤ 100) :
    Calls Tryd.prog 22 #[.string s] w fun e w' => e = .returned (.string (str (lastL (byt s)))) ∧ w = w' := by
  have l1 := cnt_le 70 (byt s)
  have l2 := cnt_le 46 (byt s)
  have l3 := cnt_le 84 (byt s)
  have hb : (byt s).length ≤ 100 := by rw [byt_len]; exact hs
  have z1 : (str (List.replicate (cnt 70 (byt s)) 70)).size ≤ 100 := by rw [str_size, List.length_replicate]; omega
  have z2 : (str (List.replicate (cnt 46 (byt s)) 46)).size ≤ 100 := by rw [str_size, List.length_replicate]; omega
  have z3 : (str (List.replicate (cnt 84 (byt s)) 84)).size ≤ 100 := by rw [str_size, List.length_replicate]; omega
  have hm : s.size ≤ maxLen := by unfold maxLen; omega
  go_enter Tryd.func22, Tryd.ntmps22
  go_wp2_with fail
  refine (liCount_any s 70 _ hm).mono ?_; rintro e w' ⟨rfl, rfl⟩
  go_wp2_with fail
  refine (liTimes_any 70 _ _ (by omega)).mono ?_; rintro e w' ⟨rfl, rfl⟩
  go_wp2_with fail
  refine (liCount_any s 46 _ hm).mono ?_; rintro e w' ⟨rfl, rfl⟩
  go_wp2_with fail
  refine (liTimes_any 46 _ _ (by omega)).mono ?_; rintro e w' ⟨rfl, rfl⟩
  go_wp2_with fail
  refine (liCount_any s 84 _ hm).mono ?_; rintro e w' ⟨rfl, rfl⟩
  go_wp2_with fail
  refine (liTimes_any 84 _ _ (by omega)).mono ?_; rintro e w' ⟨rfl, rfl⟩
  go_wp2
  go_ret
  refine ⟨congrArg (fun b => Ending.returned (.string b)) ?_, rfl⟩
  show str _ ++ str _ ++ str _ = _
  rw [str_app, str_app]
  rfl
end Go.Proofs.YtfiifjcjmnhbnaaDoor
namespace Go.Proofs.YtfiifjcjmnhbnaaDoor
open Go.RowKit

/-- What is known of a byte, in the walk's own form. -/
theorem byte_split (c : UInt8) :
    (c = 84 ∧ (c.toNat : Int) = 84) ∨ (c = 70 ∧ (c.toNat : Int) = 70) ∨
    ((c ≠ 84 ∧ c ≠ 70) ∧ ((c.toNat : Int) == 84) = false ∧ ((c.toNat : Int) == 70) = false) := by
  by_cases h1 : c = 84
  · subst h1; exact .inl ⟨rfl, rfl⟩
  · by_cases h2 : c = 70
    · subst h2; exact .inr (.inl ⟨rfl, rfl⟩)
    · exact .inr (.inr ⟨⟨h1, h2⟩, bne_u8 (b := 84) h1, bne_u8 (b := 70) h2⟩)

/-- How far all have to go, as the model reckons it. -/
def wayL (l : List UInt8) : Int := ((sumSt 84 (lastL l)).1 : Int) - (sumSt 84 l).1 + (sumSt 70 l).1 - (sumSt 70 (lastL l)).1

theorem sumSt_small (c : UInt8) (l : List UInt8) (h : l.length ≤ 100) : (sumSt c l).1 ≤ 10000 := by
  have hb := (sumSt_le c l).2
  have hq : l.length * l.length ≤ 100 * 100 := Nat.mul_le_mul h h
  omega

end Go.Proofs.YtfiifjcjmnhbnaaDoor
