/- Contracts: plays, and the laws' copies of lists of moves. -/
import Derived.Test.YtfiifjcjmnhbnaaDoorMoves
import Derived.Deep.SlicePairs
import Derived.Test.YtfiifjcjmnhbnaaDoorImp
namespace Go.Proofs.YtfiifjcjmnhbnaaDoor
open Go.RowKit

/-- A slice's address leads to a list of moves, wherever it begins. -/
def MvIn (w : World) (A : Option Addr) (l : List (Int × Int)) : Prop :=
  ∀ k (h : k < l.length), ∃ g o, A = some ⟨g, o, none⟩ ∧ g < w.heap.size ∧ w.cell? ⟨g, o + k * 2, none⟩ = some (.int .i64 l[k].1) ∧ w.cell? ⟨g, o + k * 2 + 1, none⟩ = some (.int .i64 l[k].2)
theorem MvIn.below {w w' : World} {A : Option Addr} {l : List (Int × Int)} (h : MvIn w A l) (hb : Below w.heap.size w w') : MvIn w' A l := by
  intro k hk
  obtain ⟨g, o, a, b, c, d⟩ := h k hk
  exact ⟨g, o, a, Nat.lt_of_lt_of_le b hb.size, (hb.cell (p := ⟨g, o + k * 2, none⟩) b).trans c, (hb.cell (p := ⟨g, o + k * 2 + 1, none⟩) b).trans d⟩

theorem made_two (n : Nat) : (madeCells (Value.agg #[.int .i64 0, .int .i64 0]).cells (n * 2)).toList = flat (List.replicate n ((0 : Int), (0 : Int))) := by
  have hz : (Value.agg #[.int .i64 0, .int .i64 0]).cells = #[.int .i64 0, .int .i64 0] := rfl
  rw [hz]
  apply List.ext_getElem?
  intro i
  by_cases hi : i < n * 2
  · have f : (flat (List.replicate n ((0 : Int), (0 : Int))))[i]? = some (.int .i64 0) := by
      have h := flat_at (List.replicate n ((0 : Int), (0 : Int))) (i / 2) (by simp; omega)
      rw [List.getElem_replicate] at h
      rcases Nat.mod_two_eq_zero_or_one i with h0 | h0
      · rw [show i = i / 2 * 2 by omega]; exact h.1
      · rw [show i = i / 2 * 2 + 1 by omega]; exact h.2
    rw [f]
    simp [madeCells, hi]
    rcases Nat.mod_two_eq_zero_or_one i with h0 | h0 <;> simp [h0]
  · have l1 : (madeCells #[Value.int .i64 0, .int .i64 0] (n * 2)).toList.length ≤ i := by simp [madeCells]; omega
    have l2 : (flat (List.replicate n ((0 : Int), (0 : Int)))).length ≤ i := by rw [flat_len]; simp; omega
    rw [List.getElem?_eq_none l1, List.getElem?_eq_none l2]

end Go.Proofs.YtfiifjcjmnhbnaaDoor
namespace Go.Proofs.YtfiifjcjmnhbnaaDoor
open Go.RowKit

/-- What begins at a block's head lies somewhere. -/
theorem MvAt.into {w : World} {A : Option Addr} {l : List (Int × Int)} (h : MvAt w A l) : MvIn w A l := by
  intro k hk
  obtain ⟨g, a, b, c, d⟩ := h k hk
  exact ⟨g, 0, a, b, by rw [Nat.zero_add]; exact c, by rw [Nat.zero_add]; exact d⟩

/-- The line behind the moves that can be made, and how many they are. -/
def playS (s : ByteArray) : List (Int × Int) → ByteArray × Nat
  | [] => (s, 0)
  | p :: r => if canM s p.1 p.2 then ((playS (str (behind s p.1 p.2)) r).1, (playS (str (behind s p.1 p.2)) r).2 + 1) else (s, 0)
theorem playS_le (s : ByteArray) (l : List (Int × Int)) : (playS s l).2 ≤ l.length := by
  induction l generalizing s with
  | nil => simp [playS]
  | cons p r ih =>
    unfold playS
    split
    · have := ih (str (behind s p.1 p.2)); simp; omega
    · simp
theorem behind_len (s : ByteArray) (f t : Int) : (behind s f t).length = s.size := putL_len _ _ _
theorem playS_step (s : ByteArray) (l : List (Int × Int)) (k : Nat) (h : k < l.length) (hc : canM s l[k].1 l[k].2 = true) :
    playS s (l.drop k) = ((playS (str (behind s l[k].1 l[k].2)) (l.drop (k + 1))).1, (playS (str (behind s l[k].1 l[k].2)) (l.drop (k + 1))).2 + 1) := by
  rw [List.drop_eq_getElem_cons h, playS, if_pos hc]
theorem playS_stop (s : ByteArray) (l : List (Int × Int)) (k : Nat) (h : k < l.length) (hc : canM s l[k].1 l[k].2 = false) : playS s (l.drop k) = (s, 0) := by
  rw [List.drop_eq_getElem_cons h, playS, if_neg (by rw [hc]; decide)]

def PlPost (w : World) (q : ByteArray × Nat) (e : Ending) (w' : World) : Prop := e = .returned (.tuple #[.string q.1, .int .i64 q.2]) ∧ Below w.heap.size w w'

end Go.Proofs.YtfiifjcjmnhbnaaDoor
namespace Go.Proofs.YtfiifjcjmnhbnaaDoor
open Go.RowKit

def askedB (s : ByteArray) (n : Nat) : Bool := goodL s && decide (n ≤ 100)
theorem asked_no {s : ByteArray} {n : Nat} (h : goodL s = false) : askedB s n = false := by simp [askedB, h]

/-- All moves can be made. -/
def allB (s : ByteArray) (l : List (Int × Int)) : Bool := (playS s l).2 == l.length
def plVal (s : ByteArray) (l : List (Int × Int)) : Value := if askedB s l.length && allB s l then .tuple #[.string (playS s l).1, .bool true] else .tuple #[.string (str []), .bool false]
def mfVal (s : ByteArray) (l : List (Int × Int)) : Value := if askedB s l.length && !allB s l then .tuple #[.int .i64 (playS s l).2, .bool true] else .tuple #[.int .i64 0, .bool false]
theorem asked_in {s : ByteArray} {n : Nat} (h : askedB s n = true) : s.size ≤ 1000 ∧ n ≤ 100 := by
  unfold askedB at h
  rw [Bool.and_eq_true] at h
  exact ⟨good1000 h.1, by simpa using h.2⟩

end Go.Proofs.YtfiifjcjmnhbnaaDoor
namespace Go.Proofs.YtfiifjcjmnhbnaaDoor
open Go.RowKit

/-- b, b + 1, .. : the sum of the first m. -/
def pl (b : Nat) : Nat → Nat
  | 0 => 0
  | m + 1 => pl b m + (b + m)
theorem pl_le (b m : Nat) (hb : b ≤ 100) (hm : m ≤ 100) : pl b m ≤ 200 * m := by
  induction m with
  | zero => simp [pl]
  | succ m ih => simp only [pl]; have := ih (by omega); omega
theorem sumSt_same (c : UInt8) (l : List UInt8) : ∀ m, (sumSt c (l ++ List.replicate m c)).1 = (sumSt c l).1 + pl l.length m
  | 0 => by simp [pl]
  | m + 1 => by
    have h2 := (sumSt_le c (l ++ List.replicate m c)).1
    rw [List.replicate_succ', ← List.append_assoc, sumSt_snoc, sumStep, if_pos rfl, sumSt_same c l m, h2]
    simp [pl]; omega
theorem sumSt_other (c d : UInt8) (h : d ≠ c) (l : List UInt8) : ∀ m, (sumSt c (l ++ List.replicate m d)).1 = (sumSt c l).1
  | 0 => by simp
  | m + 1 => by
    rw [List.replicate_succ', ← List.append_assoc, sumSt_snoc, sumStep, if_neg h, sumSt_other c d h l m]
theorem cnt_cons (c d : UInt8) (l : List UInt8) : cnt c (d :: l) = (if d = c then 1 else 0) + cnt c l := by
  unfold cnt
  by_cases h : d = c <;> simp [h] <;> omega
theorem cnt_sum : ∀ (l : List UInt8), l.all isSign = true → cnt 84 l + cnt 46 l + cnt 70 l = l.length
  | [], _ => rfl
  | c :: l, h => by
    rw [List.all_cons, Bool.and_eq_true] at h
    have ih := cnt_sum l h.2
    rw [cnt_cons, cnt_cons, cnt_cons, List.length_cons]
    rcases sign_cases c with rfl | rfl | rfl | h3
    · simp; omega
    · simp; omega
    · simp; omega
    · rw [h3] at h; simp at h
theorem last84 (l : List UInt8) (h : l.all isSign = true) : (sumSt 84 (lastL l)).1 = pl (l.length - cnt 84 l) (cnt 84 l) := by
  have hs := cnt_sum l h
  unfold lastL
  rw [sumSt_same, sumSt_other 84 46 (by decide)]
  have e : (sumSt 84 (List.replicate (cnt 70 l) 70)).1 = 0 := by
    have := sumSt_other 84 70 (by decide) [] (cnt 70 l)
    simpa [sumSt] using this
  rw [e]
  have e2 : (List.replicate (cnt 70 l) (70 : UInt8) ++ List.replicate (cnt 46 l) 46).length = l.length - cnt 84 l := by simp; omega
  rw [e2]; omega
theorem last70 (l : List UInt8) : (sumSt 70 (lastL l)).1 = pl 0 (cnt 70 l) := by
  unfold lastL
  rw [sumSt_other 70 84 (by decide), sumSt_other 70 46 (by decide)]
  have := sumSt_same 70 [] (cnt 70 l)
  simpa [sumSt] using this

/-- What the program has gathered behind k cells. -/
def wayAt (b : Nat) (l : List UInt8) : Int := (pl b (cnt 84 l) : Int) - (sumSt 84 l).1 + (sumSt 70 l).1 - (pl 0 (cnt 70 l) : Int)
theorem wayAt_all (l : List UInt8) (h : l.all isSign = true) : wayAt (l.length - cnt 84 l) l = wayL l := by
  unfold wayAt wayL
  rw [last84 l h, last70 l]
theorem wayAt_snoc (b : Nat) (l : List UInt8) (c : UInt8) : wayAt b (l ++ [c]) = wayAt b l + (if c = 84 then (b : Int) + cnt 84 l - l.length else if c = 70 then (l.length : Int) - cnt 70 l else 0) := by
  unfold wayAt
  have h1 := (sumSt_le 84 l).1
  have h2 := (sumSt_le 70 l).1
  rw [sumSt_snoc, sumSt_snoc, cnt_snoc, cnt_snoc]
  unfold sumStep
  by_cases e1 : c = 84
  · subst e1
    simp [pl, h1]; omega
  · by_cases e2 : c = 70
    · subst e2
      simp [pl, h2]; omega
    · simp [e1, e2]
theorem wayAt_small (b : Nat) (l : List UInt8) (hb : b ≤ 100) (hl : l.length ≤ 100) : -50000 ≤ wayAt b l ∧ wayAt b l ≤ 50000 := by
  have h1 := sumSt_small 84 l hl
  have h2 := sumSt_small 70 l hl
  have c1 := cnt_le 84 l
  have c2 := cnt_le 70 l
  have p1 := pl_le b (cnt 84 l) hb (by omega)
  have p2 := pl_le 0 (cnt 70 l) (by omega) (by omega)
  unfold wayAt
  omega

set_option maxHeartbeats 400000 in
theorem way_any (s : ByteArray) (w : World) (hs : s.size ≤ maxLen) :
    Calls Tryd.prog 42 #[.string s] w fun e w' => e = .returned (intOr (goodL s) (wayL (byt s))) ∧ w = w' := by
  cases hc : goodL s
  · have hR : Hid (countsOr s = .tuple #[.int .i64 0, .int .i64 0, .int .i64 0, .bool false]) := by show _ = _; unfold countsOr; rw [hc]; rfl
    clear hc
    go_enter Tryd.func42, Tryd.ntmps42
    go_wp2_with (go_at_call 40; refine (countOf_any _ _ hs).mono ?_; rintro e w' ⟨rfl, rfl⟩; rw [hR.out])
    go_ret2
    exact ⟨rfl, rfl⟩
  · have hR : Hid (countsOr s = .tuple #[.int .i64 (cnt 84 (byt s)), .int .i64 (cnt 46 (byt s)), .int .i64 (cnt 70 (byt s)), .bool true]) := by show _ = _; unfold countsOr; rw [hc]; rfl
    obtain ⟨_, _, hall⟩ := (goodL_iff s).1 hc
    have hw : Hid (wayAt (s.size - cnt 84 (byt s)) (byt s) = wayL (byt s)) := by
      show _ = _
      have := wayAt_all (byt s) hall
      rwa [byt_len] at this
    have hcnt := cnt_le 84 (byt s)
    rw [byt_len] at hcnt
    obtain ⟨b, hb⟩ : ∃ b, s.size = b + cnt 84 (byt s) := ⟨s.size - cnt 84 (byt s), by omega⟩
    have hbi : Hid ((s.size : Int) - (cnt 84 (byt s) : Int) = (b : Int)) := by show _ = _; omega
    have hbn : Hid (s.size - cnt 84 (byt s) = b) := by show _ = _; omega
    have hb12 : b ≤ 12 := by omega
    clear hc hall hb
    go_enter Tryd.func42, Tryd.ntmps42
    go_wp2_with (go_at_call 40; refine (countOf_any _ _ hs).mono ?_; rintro e w' ⟨rfl, rfl⟩; rw [hR.out])
    rw [hbi.out]
    go_loop [8, 9, 10, 11, 27] (fun y f t _ i => ∃ k : Nat, k ≤ s.size ∧ i = .int .i64 k ∧ y = .int .i64 (wayAt b ((byt s).take k)) ∧ f = .int .i64 (cnt 70 ((byt s).take k)) ∧ t = .int .i64 ((b : Int) + cnt 84 ((byt s).take k))) (fun _ _ _ _ i => s.size - (intOf i).toNat)
    case atStart => exact ⟨0, Nat.zero_le _, rfl, rfl, rfl, by simp [cnt]⟩
    case round =>
      obtain ⟨k, hk, rfl, rfl, rfl, rfl⟩ := hrel
      have hl : ((byt s).take k).length = k := by rw [List.length_take, byt_len]; omega
      have hsm := wayAt_small b ((byt s).take k) (by omega) (by omega)
      have c1 := cnt_le 84 ((byt s).take k)
      have c2 := cnt_le 70 ((byt s).take k)
      by_cases hlt : k < s.size
      · have HS := Lib.hid (wayAt_snoc b ((byt s).take k) s[k])
        have H1 := Lib.hid (cnt_snoc 84 s[k] ((byt s).take k))
        have H2 := Lib.hid (cnt_snoc 70 s[k] ((byt s).take k))
        have HT := Lib.hid (take_snoc s k hlt)
        have HL := Lib.hid hl
        rw [hl] at c1 c2
        clear hl
        generalize wayAt b ((byt s).take k) = y at HS hsm
        generalize cnt 84 ((byt s).take k) = t at HS H1 c1
        generalize cnt 70 ((byt s).take k) = f at HS H2 c2
        obtain ⟨_, _⟩ := hsm
        rcases byte_split s[k] with ⟨hc, hv⟩ | ⟨hc, hv⟩ | ⟨hc, hv, hv2⟩
        all_goals
          have hC := Lib.hid hc
          clear hc
          go_wp2
          go_round
          case rel =>
            refine ⟨k + 1, by omega, by go_num, ?_, ?_, ?_⟩
            · rw [HT.out, HS.out, HL.out]; simp only [hC.out]; exact congrArg (fun n => Value.int .i64 n) (by simp; try omega)
            · rw [HT.out, H2.out]; simp only [hC.out]; exact congrArg (fun n => Value.int .i64 n) (by simp; try omega)
            · rw [HT.out, H1.out]; simp only [hC.out]; exact congrArg (fun n => Value.int .i64 n) (by simp; try omega)
          case measure => simp [intOf]; omega
      · go_wp2
        go_ret2
        obtain rfl : k = s.size := by omega
        refine ⟨congrArg (fun n => Ending.returned (.tuple #[.int .i64 n, .bool true])) ?_, rfl⟩
        show wayAt b ((byt s).take s.size) = wayL (byt s)
        rw [take_all, ← hw.out, hbn.out]

end Go.Proofs.YtfiifjcjmnhbnaaDoor
namespace Go.Proofs.YtfiifjcjmnhbnaaDoor
open Go.RowKit

theorem all_set (l : List UInt8) (k : Nat) (c : UInt8) (h : l.all isSign = true) (hc : isSign c = true) : (l.set k c).all isSign = true := by
  rw [List.all_eq_true] at h ⊢
  intro x hx
  rcases List.mem_or_eq_of_mem_set hx with h1 | rfl
  · exact h x h1
  · exact hc
/-- What a move leaves is a line. -/
theorem behind_all {s : ByteArray} {f t : Int} (h : (byt s).all isSign = true) (hc : canM s f t = true) : (behind s f t).all isSign = true := by
  obtain ⟨a, b, rfl, rfl, ha, hb, _⟩ := canM_in hc
  show (((byt s).set b ((byt s).getD a 0)).set a 46).all isSign = true
  refine all_set _ _ _ (all_set _ _ _ h ?_) (by decide)
  have hl : a < (byt s).length := by rw [byt_len]; exact ha
  rw [List.getD_eq_getElem?_getD, List.getElem?_eq_getElem hl]
  exact List.all_eq_true.1 h _ (List.getElem_mem hl)
theorem behind_good {s : ByteArray} {f t : Int} (h : goodL s = true) (hc : canM s f t = true) : goodL (str (behind s f t)) = true := by
  obtain ⟨h1, h2, h3⟩ := (goodL_iff s).1 h
  refine (goodL_iff _).2 ⟨?_, ?_, ?_⟩
  · rw [str_size, behind_len]; exact h1
  · rw [str_size, behind_len]; exact h2
  · rw [byt_str]; exact behind_all h3 hc

/-- A play's line is a line; the moves that can be made can all be made; the next cannot. -/
theorem playS_good (l : List (Int × Int)) : ∀ s, goodL s = true → goodL (playS s l).1 = true := by
  induction l with
  | nil => intro s h; exact h
  | cons p r ih =>
    intro s h
    rw [playS]
    split
    · rename_i hc; exact ih _ (behind_good h hc)
    · exact h
theorem playS_size (l : List (Int × Int)) : ∀ s, (playS s l).1.size = s.size := by
  induction l with
  | nil => intro s; rfl
  | cons p r ih =>
    intro s
    rw [playS]
    split
    · show (playS (str (behind s p.1 p.2)) r).1.size = s.size
      rw [ih, str_size, behind_len]
    · rfl
theorem playS_take (l : List (Int × Int)) : ∀ s, playS s (l.take (playS s l).2) = playS s l := by
  induction l with
  | nil => intro s; rfl
  | cons p r ih =>
    intro s
    by_cases hc : canM s p.1 p.2 = true
    · have e : playS s (p :: r) = ((playS (str (behind s p.1 p.2)) r).1, (playS (str (behind s p.1 p.2)) r).2 + 1) := by rw [playS, if_pos hc]
      rw [e, List.take_succ_cons, playS, if_pos hc, ih]
    · have e : playS s (p :: r) = (s, 0) := by rw [playS, if_neg hc]
      rw [e]; rfl
theorem playS_fails (l : List (Int × Int)) : ∀ s, (h : (playS s l).2 < l.length) → canM (playS s l).1 l[(playS s l).2].1 l[(playS s l).2].2 = false := by
  induction l with
  | nil => intro s h; simp at h
  | cons p r ih =>
    intro s
    by_cases hc : canM s p.1 p.2 = true
    · have e : playS s (p :: r) = ((playS (str (behind s p.1 p.2)) r).1, (playS (str (behind s p.1 p.2)) r).2 + 1) := by rw [playS, if_pos hc]
      rw [e]
      intro h
      exact ih (str (behind s p.1 p.2)) (by simpa using h)
    · have e : playS s (p :: r) = (s, 0) := by rw [playS, if_neg hc]
      rw [e]
      intro _
      exact Bool.eq_false_iff.2 hc
/-- Step by step to the same end. -/
theorem playS_all_step (s : ByteArray) (l : List (Int × Int)) (k : Nat) (h : k < l.length) (ha : (playS s (l.drop k)).2 = l.length - k) :
    canM s l[k].1 l[k].2 = true ∧ (playS (str (behind s l[k].1 l[k].2)) (l.drop (k + 1))).2 = l.length - (k + 1) ∧ (playS s (l.drop k)).1 = (playS (str (behind s l[k].1 l[k].2)) (l.drop (k + 1))).1 := by
  by_cases hc : canM s l[k].1 l[k].2 = true
  · rw [playS_step s l k h hc] at ha ⊢
    refine ⟨hc, ?_, rfl⟩
    simp only at ha
    omega
  · rw [playS_stop s l k h (Bool.eq_false_iff.2 hc)] at ha
    simp only at ha
    omega

/-- The same animals behind a move. -/
theorem cnt_set (c d : UInt8) (l : List UInt8) : ∀ k, (h : k < l.length) → cnt c (l.set k d) + (if l[k] = c then 1 else 0) = cnt c l + (if d = c then 1 else 0) := by
  induction l with
  | nil => intro k h; simp at h
  | cons e r ih =>
    intro k h
    cases k with
    | zero =>
      rw [List.set_cons_zero, cnt_cons, cnt_cons]
      simp only [List.getElem_cons_zero]
      omega
    | succ k =>
      have := ih k (by simpa using h)
      rw [List.set_cons_succ, cnt_cons, cnt_cons]
      simp only [List.getElem_cons_succ]
      omega
theorem behind_cnt {s : ByteArray} {f t : Int} (c : UInt8) (hc : canM s f t = true) : cnt c (behind s f t) = cnt c (byt s) := by
  have h46 : sgAt s t = 46 := ((canM_iff s f t).1 hc).2.2.1
  obtain ⟨a, b, rfl, rfl, ha, hb, hne⟩ := canM_in hc
  show cnt c (((byt s).set b ((byt s).getD a 0)).set a 46) = cnt c (byt s)
  have hla : a < (byt s).length := by rw [byt_len]; exact ha
  have hlb : b < (byt s).length := by rw [byt_len]; exact hb
  have hgb : (byt s)[b] = 46 := by rw [sgAt_in s b hb] at h46; exact h46
  have hga : (byt s).getD a 0 = (byt s)[a] := by rw [List.getD_eq_getElem?_getD, List.getElem?_eq_getElem hla]; rfl
  have e1 := cnt_set c ((byt s).getD a 0) (byt s) b hlb
  have e2 := cnt_set c 46 ((byt s).set b ((byt s).getD a 0)) a (by simpa using hla)
  have e3 : ((byt s).set b ((byt s).getD a 0))[a]'(by simpa using hla) = (byt s)[a] := List.getElem_set_ne (by omega) _
  rw [e3] at e2
  rw [hgb] at e1
  rw [hga] at e1 e2 ⊢
  omega
end Go.Proofs.YtfiifjcjmnhbnaaDoor
