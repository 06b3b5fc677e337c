/- Contracts: all moves on a line, the program's. -/
import Derived.Test.YtfiifjcjmnhbnaaDoorMove
import Derived.Lib.OthersKept
namespace Go.Proofs.YtfiifjcjmnhbnaaDoor
open Go.RowKit

theorem Tryd.infoM : (Tryd.prog.info? 55).map (fun i => (i.zero, i.size, i.bytes)) = some (some (.agg #[.int .i64 0, .int .i64 0]), 2, 16) := by kernel_rfl

/-- Pairs of numbers, cell by cell. -/
def flat (l : List (Int × Int)) : List Value := l.flatMap fun p => [.int .i64 p.1, .int .i64 p.2]
theorem flat_len (l : List (Int × Int)) : (flat l).length = l.length * 2 := by
  induction l with
  | nil => rfl
  | cons p l ih => simp only [flat, List.flatMap_cons, List.length_append, List.length_cons, List.length_nil] at ih ⊢; omega
theorem flat_app (a b : List (Int × Int)) : flat (a ++ b) = flat a ++ flat b := by simp [flat]

/-- The moves that are wanted, of the first k cells. -/
def mvsTo (wd : Int → Int → Bool) (s : ByteArray) : Nat → List (Int × Int)
  | 0 => []
  | k + 1 => mvsTo wd s k ++ if wd k (mvTo s k) then [((k : Int), mvTo s k)] else []
theorem mvsTo_le (wd : Int → Int → Bool) (s : ByteArray) (k : Nat) : (mvsTo wd s k).length ≤ k := by
  induction k with
  | zero => simp [mvsTo]
  | succ k ih => simp only [mvsTo, List.length_append]; split <;> simp <;> omega

theorem grown_of_below {w w' : World} (h : Below w.heap.size w w') : w.grownBy w' none := ⟨h.os, h.tape, h.output, h.size, fun k hk _ => h.block k hk⟩
theorem own_below {w w' : World} {base : Nat} {e : TypeId} {size n : Nat} {v : Value} {xs : List Value} (h : w.ownsRow base e size v n xs) (hb : Below w.heap.size w w') : w'.ownsRow base e size v n xs :=
  h.kept (grown_of_below hb) (by cases v.ownBlock <;> simp)
theorem cell_two_new (w : World) (a b : Value) (t : TypeId) : ∀ j u, [a, b][j]? = some u → (w.alloc (.cells #[a, b] t)).cell? ((⟨w.heap.size, 0, none⟩ : Addr).add j) = some u := by
  intro j u h
  rw [addr_add, World.cell?_alloc_new]
  simpa using h

/-- The answer: a list of moves in memory of the call's own. -/
def MvPost (w : World) (l : List (Int × Int)) (e : Ending) (w' : World) : Prop :=
  ∃ v, e = .returned (.tuple #[v, .bool true]) ∧ w'.ownsRow w.heap.size 55 2 v l.length (flat l) ∧ Below w.heap.size w w'

set_option maxRecDepth 100000 in
set_option maxHeartbeats 2000000 in
theorem movesWhere_can (s : ByteArray) (w : World) (hg : goodL s = true) (hs : s.size ≤ maxLen) :
    Calls Tryd.prog 69 #[.string s, .func (.func 70) #[] #[]] w (MvPost w (mvsTo (canM s) s s.size)) := by
  obtain ⟨i0, hi, hz0, hz1, hz2⟩ := info_parts Tryd.infoM
  have HI := Lib.hid hi
  have HZ0 := Lib.hid hz0
  have HZ1 := Lib.hid hz1
  have HZ2 := Lib.hid hz2
  clear hi hz0 hz1 hz2
  have hC := Lib.hid hg
  have h1 := good1000 hg
  obtain ⟨_, _, _⟩ := (goodL_iff s).1 hg
  clear hg
  go_enter Tryd.func69, Tryd.ntmps69
  go_wp2_with (go_at_call 54; refine (isLine_any _ _ hs).mono ?_; rintro e w' ⟨rfl, rfl⟩; rw [hC.out])
  go_loopw [6, 7, 8, 14] (fun v _ _ i wr => ∃ k : Nat, k ≤ s.size ∧ i = .int .i64 k ∧ wr.ownsRow w.heap.size 55 2 v (mvsTo (canM s) s k).length (flat (mvsTo (canM s) s k)) ∧ Below w.heap.size w wr) (fun _ _ _ i _ => s.size - (intOf i).toNat)
  case atStart => exact ⟨0, Nat.zero_le _, rfl, World.ownsRow_nil _ _ _ _, Below.refl _ _⟩
  case round =>
    obtain ⟨k, hk, rfl, hown, hB⟩ := hrel
    have hle := mvsTo_le (canM s) s k
    by_cases hlt : k < s.size
    · have hS : Hid (mvsTo (canM s) s (k + 1) = mvsTo (canM s) s k ++ if canM s k (mvTo s k) then [((k : Int), mvTo s k)] else []) := rfl
      generalize mvsTo (canM s) s k = L at hown hS hle
      go_wp2_with fail
      refine (moveFrom_any s k _ h1).mono ?_
      rintro e w1 ⟨rfl, hb1⟩
      have hown1 := own_below hown hb1
      have hB1 := hB.trans (hb1.mono hB.size)
      clear hown hB hb1
      go_wp2_with fail
      refine (canBeMade_any s k (mvTo s k) _ h1).mono ?_
      rintro e w2 ⟨rfl, hb2⟩
      have hown2 := own_below (hown1.alloc (plB k (mvTo s k) s)) hb2
      have hB2 := (hB1.alloc hB1.size (plB k (mvTo s k) s)).trans (hb2.mono (by have := hB1.size; simp; omega))
      obtain ⟨hcell, _⟩ := bcell hb2
      have hz := hb2.size
      have hz2 : w1.heap.size < w2.heap.size := by simp at hz; omega
      have d0 : w2.cell? ⟨w1.heap.size, 0, none⟩ = some (.int .i64 k) := by rw [hcell _ _ (by simp), World.cell?_alloc_new]; rfl
      have d1 : w2.cell? ⟨w1.heap.size, 1, none⟩ = some (.int .i64 (mvTo s k)) := by rw [hcell _ _ (by simp), World.cell?_alloc_new]; rfl
      have d2 : w2.cell? ⟨w1.heap.size, 2, none⟩ = some (.string s) := by rw [hcell _ _ (by simp), World.cell?_alloc_new]; rfl
      clear hown1 hB1 hb2 hcell hz
      cases hwd : canM s k (mvTo s k)
      · have HW := Lib.hid hwd
        clear hwd
        go_wp2
        go_roundw
        case rel => exact ⟨k + 1, by omega, by go_num, by rw [hS.out, HW.out]; simpa using hown2, hB2⟩
        case measure => simp [intOf]; omega
      · have HW := Lib.hid hwd
        clear hwd
        have H2 : ∀ x ∈ [Value.int .i64 (k : Int), Value.int .i64 (mvTo s k)], x.oneCell' = true := fun x hx => by simp at hx; rcases hx with rfl | rfl <;> rfl
        have H3 : L.length + 1 ≤ maxLen := by unfold maxLen; omega
        have H4 : (L.length + 1) * 16 ≤ 140737488355328 := by omega
        have H5 : w.heap.size ≤ (w2.alloc (mvB k (mvTo s k))).heap.size := by have := hB2.size; simp; omega
        go_wp2_with (first | (at_builtin; refine wpList_append_own _ rfl _ _ 36 rfl w.heap.size 55 i0 (.agg #[.int .i64 0, .int .i64 0]) 2 16 Tryd.underlying36 HI.out HZ0.out HZ1.out HZ2.out rfl (by decide) _ _ _ rfl (hown2.alloc _) ⟨w2.heap.size, 0, none⟩ 1 1 [.int .i64 k, .int .i64 (mvTo s k)] rfl rfl (cell_two_new _ _ _ _) H2 H3 H4 H5 ?_; intro v' w3 hown' hgrow _))
        go_roundw
        case rel =>
          refine ⟨k + 1, by omega, by go_num, ?_, ((hB2.alloc hB2.size (mvB k (mvTo s k))).grown hgrow H5 fun j hj => (hown2.lt _ hj).1)⟩
          rw [hS.out, HW.out, if_pos rfl, flat_app, List.length_append]
          exact hown'
        case measure => simp [intOf]; omega
    · go_wp2
      go_ret2
      obtain rfl : k = s.size := by omega
      exact ⟨_, rfl, hown, hB⟩

end Go.Proofs.YtfiifjcjmnhbnaaDoor
namespace Go.Proofs.YtfiifjcjmnhbnaaDoor
open Go.RowKit

/-- The cells of a slice's address hold a list of moves. -/
def MvAt (w : World) (A : Option Addr) (l : List (Int × Int)) : Prop :=
  ∀ k (h : k < l.length), ∃ g, A = some ⟨g, 0, none⟩ ∧ g < w.heap.size ∧ w.cell? ⟨g, k * 2, none⟩ = some (.int .i64 l[k].1) ∧ w.cell? ⟨g, k * 2 + 1, none⟩ = some (.int .i64 l[k].2)

theorem flat_at : ∀ (l : List (Int × Int)) (k : Nat) (h : k < l.length), (flat l)[k * 2]? = some (.int .i64 l[k].1) ∧ (flat l)[k * 2 + 1]? = some (.int .i64 l[k].2)
  | p :: l, 0, _ => by simp [flat]
  | p :: l, k + 1, h => by
    have ih := flat_at l k (by simpa using h)
    have e : flat (p :: l) = .int .i64 p.1 :: .int .i64 p.2 :: flat l := by simp [flat]
    rw [e]
    have e1 : (k + 1) * 2 = k * 2 + 1 + 1 := by omega
    rw [e1]
    simpa using ih

theorem at_of_own {w : World} {base : Nat} {v : Value} {l : List (Int × Int)} (h : w.ownsRow base 55 2 v l.length (flat l)) : ∃ A cap, v = .slice A l.length cap ∧ MvAt w A l := by
  rcases h.2 with ⟨hv, h0⟩ | ⟨g, cap, cur, rfl, hg, hh, hn, _⟩
  · have h2 : l.length = 0 := by have h3 := flat_len l; have h4 := h.1; omega
    exact ⟨none, 0, by rw [hv, h2], fun k hk => by omega⟩
  · refine ⟨_, cap, rfl, fun k hk => ⟨g, rfl, ?_, ?_⟩⟩
    · by_cases hlt : g < w.heap.size
      · exact hlt
      · rw [Array.getElem?_eq_none (by omega)] at hh; cases hh
    · have f := flat_at l k hk
      exact ⟨(h.cellAt (k * 2) (by omega)).trans f.1, (h.cellAt (k * 2 + 1) (by omega)).trans f.2⟩

theorem MvAt.below {w w' : World} {A : Option Addr} {l : List (Int × Int)} (h : MvAt w A l) (hb : Below w.heap.size w w') : MvAt w' A l := by
  intro k hk
  obtain ⟨g, a, b, c, d⟩ := h k hk
  exact ⟨g, a, Nat.lt_of_lt_of_le b hb.size, (hb.cell (p := ⟨g, k * 2, none⟩) b).trans c, (hb.cell (p := ⟨g, k * 2 + 1, none⟩) b).trans d⟩

set_option maxHeartbeats 400000 in
theorem eqMove_same (a b : Int) (w : World) :
    Calls Tryd.prog 34 #[.agg #[.int .i64 a, .int .i64 b], .agg #[.int .i64 a, .int .i64 b]] w fun e w' => e = .returned (.bool true) ∧ Below w.heap.size w w' := by
  go_enter Tryd.func34, Tryd.ntmps34
  go_wp2
  go_ret
  exact ⟨rfl, ((Below.refl _ _).alloc (Nat.le_refl _) _).alloc (by simp) _⟩

set_option maxRecDepth 100000 in
set_option maxHeartbeats 2000000 in
theorem eqMoveS_same (l : List (Int × Int)) (A1 A2 : Option Addr) (c1 c2 : Nat) (w : World) (h1 : MvAt w A1 l) (h2 : MvAt w A2 l) (hl : l.length ≤ 2000000) :
    Calls Tryd.prog 16 #[.slice A1 l.length c1, .slice A2 l.length c2] w fun e w' => e = .returned (.bool true) ∧ Below w.heap.size w w' := by
  have H1 := Lib.hid h1
  have H2 := Lib.hid h2
  clear h1 h2
  go_enter Tryd.func16, Tryd.ntmps16
  go_wp2
  go_loopw [5] (fun i wr => ∃ k : Nat, k ≤ l.length ∧ i = .int .i64 k ∧ Below w.heap.size w wr) (fun i _ => l.length - (intOf i).toNat)
  case atStart => exact ⟨0, Nat.zero_le _, rfl, Below.refl _ _⟩
  case round =>
    obtain ⟨k, hk, rfl, hB⟩ := hrel
    by_cases hlt : k < l.length
    · obtain ⟨g, rfl, z1, p1, q1⟩ := (H1.out.below hB) k hlt
      obtain ⟨g', rfl, z2, p2, q2⟩ := (H2.out.below hB) k hlt
      generalize l[k].1 = a at p1 p2
      generalize l[k].2 = b at q1 q2
      have i1 : (0 : Int) ≤ (k : Int) := by omega
      have i2 : (k : Int) < (l.length : Int) := by omega
      go_wp2
      go_region_held3 (fun w' => w'.cell? ⟨g, k * 2, none⟩ = some (.int .i64 a) ∧ w'.cell? ⟨g, k * 2 + 1, none⟩ = some (.int .i64 b) ∧ w'.cell? ⟨g', k * 2, none⟩ = some (.int .i64 a) ∧ w'.cell? ⟨g', k * 2 + 1, none⟩ = some (.int .i64 b)) (first | exact ⟨p1, q1, p2, q2⟩ | exact ⟨(hb.cell z1).trans p1, (hb.cell z1).trans q1, (hb.cell z2).trans p2, (hb.cell z2).trans q2⟩) (first | (go_at_call 34; refine (eqMove_same _ _ _).mono ?_; rintro e w' ⟨rfl, hb⟩))
      go_wp2
      go_roundw
      case rel => exact ⟨k + 1, by omega, by go_num, (Below.drew hB).trans (hb.mono hB.size)⟩
      case measure => simp [intOf]; omega
    · go_wp2
      go_ret
      exact ⟨rfl, hB⟩

/-- The marks k, k + 1, ..: two for each of n moves. -/
def marks (k : Nat) (n : Nat) : List (Int × Int) := (List.range n).map fun (j : Nat) => (((k + 2 * j : Nat) : Int), ((k + 2 * j + 1 : Nat) : Int))
theorem marks_len (k n : Nat) : (marks k n).length = n := by simp [marks]
theorem marks_next (k n : Nat) : marks k (n + 1) = marks k n ++ [(((k + 2 * n : Nat) : Int), ((k + 2 * n + 1 : Nat) : Int))] := by
  simp [marks, List.range_succ]
theorem marks_at (k n j : Nat) (h : j < (marks k n).length) : (marks k n)[j] = (((k + 2 * j : Nat) : Int), ((k + 2 * j + 1 : Nat) : Int)) := by simp [marks]

theorem flat_set (l : List (Int × Int)) (j : Nat) (h : j < l.length) (a b : Int) :
    ((flat l).set (j * 2) (.int .i64 a)).set (j * 2 + 1) (.int .i64 b) = flat (l.set j (a, b)) := by
  induction l generalizing j with
  | nil => simp at h
  | cons q l ih =>
    have e : ∀ q : Int × Int, ∀ r, flat (q :: r) = .int .i64 q.1 :: .int .i64 q.2 :: flat r := by intro q r; simp [flat]
    rw [e]
    cases j with
    | zero => simp [e]
    | succ j =>
      have e1 : (j + 1) * 2 = j * 2 + 1 + 1 := by omega
      have ih := ih j (by simpa using h)
      rw [e1]
      simp only [List.set_cons_succ, e, ih]
theorem set_mid (A B : List (Int × Int)) (q p : Int × Int) (j : Nat) (h : A.length = j) : (A ++ q :: B).set j p = (A ++ [p]) ++ B := by
  subst h
  simp

/-- All blocks but one lie as they lay. -/
def FarB (row : Option Nat) (w w' : World) : Prop := w.heap.size ≤ w'.heap.size ∧ ∀ k, some k ≠ row → k < w.heap.size → w'.heap[k]? = w.heap[k]?
theorem FarB.refl (row : Option Nat) (w : World) : FarB row w w := ⟨Nat.le_refl _, fun _ _ _ => rfl⟩
theorem FarB.set {g : Nat} {w w' : World} (h : FarB (some g) w w') (o : Nat) (u : Value) : FarB (some g) w (w'.setCell ⟨g, o, none⟩ u) :=
  ⟨by have := h.1; simpa using this, fun k hk hlt => (Below.heap_setCell _ _ _ k (fun e => hk (by rw [e]))).trans (h.2 k hk hlt)⟩
theorem own_farB {w w' : World} {row : Option Nat} {base : Nat} {e : TypeId} {size n : Nat} {v : Value} {xs : List Value} (h : w.ownsRow base e size v n xs) (hf : FarB row w w') (hne : ∀ g, v.ownBlock = some g → some g ≠ row) : w'.ownsRow base e size v n xs := by
  refine ⟨h.1, ?_⟩
  rcases h.2 with h2 | ⟨g, cap, cur, rfl, hb, hg, r⟩
  · exact .inl h2
  · exact .inr ⟨g, cap, cur, rfl, hb, (hf.2 g (hne g rfl) (Array.getElem?_eq_some_iff.1 hg).1).trans hg, r⟩

set_option maxRecDepth 100000 in
set_option maxHeartbeats 2000000 in
theorem markMoveS_far (n k0 base : Nat) (l : List (Int × Int)) (v : Value) (w : World) (hln : l.length = n) (hown : w.ownsRow base 55 2 v n (flat l)) (hn : n ≤ 2000000) (hk0 : k0 ≤ 1000) :
    Calls Tryd.prog 17 #[v, .int .i64 k0] w fun e w' => e = .returned (.int .i64 ((k0 : Int) + 2 * n)) ∧ (w'.ownsRow base 55 2 v n (flat (marks k0 n)) ∧ Below base w w' ∧ FarB v.ownBlock w w') := by
  rcases hown.2 with ⟨rfl, h0⟩ | ⟨g, cap, cur, rfl, hg, _, hcap, _⟩
  · have hz : n = 0 := by have h3 := flat_len l; have h4 := hown.1; omega
    subst hz
    have HO : Hid (w.ownsRow base 55 2 (.slice none 0 0) 0 (flat (marks k0 0))) := by
      have e : flat l = flat (marks k0 0) := by rw [List.eq_nil_of_length_eq_zero hln]; rfl
      rw [← e]; exact hown
    clear hown h0
    go_enter Tryd.func17, Tryd.ntmps17
    go_wp2
    go_loop [1, 5] (fun x i => i = .int .i64 0 ∧ x = .int .i64 k0) (fun _ _ => 0)
    case atStart => exact ⟨rfl, rfl⟩
    case round =>
      obtain ⟨rfl, rfl⟩ := hrel
      go_wp2
      go_ret
      exact ⟨by simp, HO.out, Below.refl _ _, FarB.refl _ _⟩
  · have HO := Lib.hid hown
    clear hown
    go_enter Tryd.func17, Tryd.ntmps17
    go_wp2
    go_loopw [1, 5] (fun x i wr => ∃ j : Nat, j ≤ n ∧ i = .int .i64 j ∧ x = .int .i64 ((k0 : Int) + 2 * j) ∧ wr.ownsRow base 55 2 (.slice (some ⟨g, 0, none⟩) n cap) n (flat (marks k0 j ++ l.drop j)) ∧ Below base w wr ∧ Hid (FarB (some g) w wr)) (fun _ i _ => n - (intOf i).toNat)
    case atStart => exact ⟨0, Nat.zero_le _, rfl, by simp, by simpa [marks] using HO.out, Below.refl _ _, Lib.hid (FarB.refl _ _)⟩
    case round =>
      obtain ⟨j, hj, rfl, rfl, hown, hB, hG⟩ := hrel
      by_cases hlt : j < n
      · obtain ⟨q, r, hd⟩ : ∃ q r, l.drop j = q :: r := by
          cases h : l.drop j with
          | nil => have := congrArg List.length h; simp at this; omega
          | cons q r => exact ⟨q, r, rfl⟩
        have hlen : (marks k0 j ++ l.drop j).length = n := by simp [marks_len]; omega
        have f0 := hown.frozenAt (j * 2)
        have f1 := hown.frozenAt (j * 2 + 1)
        have e0 := (hown.cellAt (j * 2) (by omega)).trans (flat_at (marks k0 j ++ l.drop j) j (by omega)).1
        have e1 := (hown.cellAt (j * 2 + 1) (by omega)).trans (flat_at (marks k0 j ++ l.drop j) j (by omega)).2
        generalize (marks k0 j ++ l.drop j)[j].1 = a0 at e0
        generalize (marks k0 j ++ l.drop j)[j].2 = a1 at e1
        have hs1 := (hown.stored (j * 2) (.int .i64 ((k0 : Int) + 2 * j))).1
        have hs2 := (hs1.stored (j * 2 + 1) (.int .i64 ((k0 : Int) + 2 * j + 1))).1
        rw [flat_set _ j (by omega), hd, set_mid _ _ _ _ j (marks_len k0 j)] at hs2
        have hr : l.drop (j + 1) = r := by
          have := congrArg List.tail hd
          simpa using this
        have hm : marks k0 (j + 1) ++ l.drop (j + 1) = marks k0 j ++ [((k0 : Int) + 2 * j, (k0 : Int) + 2 * j + 1)] ++ r := by
          rw [marks_next, hr]; push_cast; rfl
        rw [← hm] at hs2
        have HS := Lib.hid hs2
        have i1 : (0 : Int) ≤ (j : Int) := by omega
        have i2 : (j : Int) < (n : Int) := by omega
        clear hown hs1 hs2 hm hr hd hlen
        go_wp2
        go_roundw
        case rel =>
          refine ⟨j + 1, by omega, by go_num, congrArg (fun n => Value.int .i64 n) (by push_cast; omega), HS.out, (hB.setCell hg _).setCell hg _, Lib.hid ((hG.out.set _ _).set _ _)⟩
        case measure => simp [intOf]; omega
      · obtain rfl : j = n := by omega
        have hz : marks k0 j ++ l.drop j = marks k0 j := by rw [List.drop_of_length_le (by omega), List.append_nil]
        rw [hz] at hown
        have HS := Lib.hid hown
        clear hown hz
        go_wp2
        go_ret
        exact ⟨rfl, HS.out, hB, hG.out⟩

theorem markMoveS_any (n k0 base : Nat) (l : List (Int × Int)) (v : Value) (w : World) (hln : l.length = n) (hown : w.ownsRow base 55 2 v n (flat l)) (hn : n ≤ 1000) (hk0 : k0 ≤ 1000) :
    Calls Tryd.prog 17 #[v, .int .i64 k0] w fun e w' => e = .returned (.int .i64 ((k0 : Int) + 2 * n)) ∧ (w'.ownsRow base 55 2 v n (flat (marks k0 n)) ∧ Below base w w') :=
  (markMoveS_far n k0 base l v w hln hown (by omega) hk0).mono fun _ _ ⟨a, b, c, _⟩ => ⟨a, b, c⟩

set_option maxRecDepth 100000 in
set_option maxHeartbeats 2000000 in
theorem heldMoveS_any (n k0 base : Nat) (v : Value) (w : World) (hown : w.ownsRow base 55 2 v n (flat (marks k0 n))) (hn : n ≤ 1000) (hk0 : k0 ≤ 1000) :
    Calls Tryd.prog 18 #[v, .int .i64 k0] w fun e w' => e = .returned (.int .i64 ((k0 : Int) + 2 * n)) ∧ w = w' := by
  obtain ⟨A, cap, rfl, hat⟩ : ∃ A cap, v = .slice A n cap ∧ MvAt w A (marks k0 n) := by
    have h := at_of_own (l := marks k0 n) (by rw [marks_len]; exact hown)
    rwa [marks_len] at h
  have HA := Lib.hid hat
  clear hat hown
  go_enter Tryd.func18, Tryd.ntmps18
  go_wp2
  go_loop [1, 5] (fun x i => ∃ (j : Nat) (K : Int), j ≤ n ∧ i = .int .i64 j ∧ x = .int .i64 K ∧ Hid (K = (k0 : Int) + 2 * j) ∧ 0 ≤ K ∧ K ≤ 100000) (fun _ i => n - (intOf i).toNat)
  case atStart => exact ⟨0, _, Nat.zero_le _, rfl, rfl, by show _ = _; simp, by omega, by omega⟩
  case round =>
    obtain ⟨j, K, hj, rfl, rfl, hK, _, _⟩ := hrel
    by_cases hlt : j < n
    · obtain ⟨g, rfl, z, c0, c1⟩ := HA.out j (by rw [marks_len]; exact hlt)
      rw [marks_at] at c0 c1
      have e0 : (((k0 + 2 * j : Nat) : Int)) = K := by rw [hK.out]; push_cast; rfl
      have e1 : (((k0 + 2 * j + 1 : Nat) : Int)) = K + 1 := by rw [hK.out]; push_cast; rfl
      simp only [e0, e1] at c0 c1
      clear e0 e1
      have i1 : (0 : Int) ≤ (j : Int) := by omega
      have i2 : (j : Int) < (n : Int) := by omega
      go_wp2
      go_round
      case rel => exact ⟨j + 1, K + 1 + 1, by omega, by go_num, rfl, by show _ = _; rw [hK.out]; push_cast; omega, by omega, by have := hK.out; omega⟩
      case measure => simp [intOf]; omega
    · obtain rfl : j = n := by omega
      go_wp2
      go_ret
      exact ⟨by show Ending.returned (.int .i64 K) = _; rw [hK.out], rfl⟩
end Go.Proofs.YtfiifjcjmnhbnaaDoor
namespace Go.Proofs.YtfiifjcjmnhbnaaDoor
open Go.RowKit

theorem own_base {w : World} {b b' : Nat} {e : TypeId} {size n : Nat} {v : Value} {xs : List Value} (h : w.ownsRow b e size v n xs) (hb : b' ≤ b) : w.ownsRow b' e size v n xs := by
  refine ⟨h.1, ?_⟩
  rcases h.2 with h0 | ⟨g, cap, cur, hv, hg, rest⟩
  · exact .inl h0
  · exact .inr ⟨g, cap, cur, hv, by omega, rest⟩
theorem own_iterAt {w : World} {base : Nat} {e : TypeId} {size n : Nat} {v : Value} {xs : List Value} (h : w.ownsRow base e size v n xs) {k : Nat} (hk : k < base) (s : ByteArray) (pos : Nat) : (w.iterAt k s pos).ownsRow base e size v n xs := by
  refine ⟨h.1, ?_⟩
  rcases h.2 with h0 | ⟨g, cap, cur, hv, hg, hh, rest⟩
  · exact .inl h0
  · exact .inr ⟨g, cap, cur, hv, hg, by rw [Lib.iterAt_other w k g s pos (by omega)]; exact hh, rest⟩
theorem iterPos_of {w : World} {k : Nat} {s : ByteArray} {p : Nat} (h : w.heap[k]? = some (.stringIter s p)) : w.iterPos k = p := by simp [World.iterPos, h]
theorem lt_of_block {w : World} {k : Nat} {o : Obj} (h : w.heap[k]? = some o) : k < w.heap.size := by
  by_cases hk : k < w.heap.size
  · exact hk
  · rw [Array.getElem?_eq_none (by omega)] at h; cases h

/-- The moves of a kind. -/
def kindM (tt ff : Bool) (s : ByteArray) (f t : Int) : Bool := canM s f t && !(decide (sgAt s f = 84) && !tt) && !(decide (sgAt s f = 70) && !ff)
/-- The moves from a cell to the j cells from two cells left of it on. -/
def innL (s : ByteArray) (k j : Nat) : List (Int × Int) := if canM s k (mvTo s k) && decide (mvTo s k < (k : Int) - 2 + j) then [((k : Int), mvTo s k)] else []
theorem canM_to {s : ByteArray} {f t : Int} (h : canM s f t = true) : t = mvTo s f := by
  unfold canM at h
  simp only [Bool.and_eq_true, decide_eq_true_eq] at h
  exact h.2
theorem innL_zero (s : ByteArray) (k : Nat) : innL s k 0 = [] := by
  unfold innL
  cases h : canM s k (mvTo s k)
  · rfl
  · have := canM_far h
    rw [if_neg]
    simp
    omega
theorem innL_last (s : ByteArray) (k : Nat) : innL s k 5 = if canM s k (mvTo s k) then [((k : Int), mvTo s k)] else [] := by
  unfold innL
  cases h : canM s k (mvTo s k)
  · rfl
  · have := canM_far h
    rw [if_pos rfl, if_pos]
    simp
    omega
theorem innL_next (s : ByteArray) (k j : Nat) : innL s k (j + 1) = innL s k j ++ if canM s k ((k : Int) - 2 + j) then [((k : Int), (k : Int) - 2 + j)] else [] := by
  unfold innL
  cases h : canM s k ((k : Int) - 2 + j)
  · cases h2 : canM s k (mvTo s k)
    · rfl
    · have hne : mvTo s k ≠ (k : Int) - 2 + j := fun e => by rw [← e, h2] at h; cases h
      have e : decide (mvTo s k < (k : Int) - 2 + ((j + 1 : Nat) : Int)) = decide (mvTo s k < (k : Int) - 2 + j) := by
        rw [decide_eq_decide]; omega
      rw [e]
      simp
  · have e := canM_to h
    have h2 : canM s k (mvTo s k) = true := by rw [← e]; exact h
    rw [h2]
    have e1 : decide (mvTo s k < (k : Int) - 2 + ((j + 1 : Nat) : Int)) = true := by rw [decide_eq_true_iff]; omega
    have e2 : decide (mvTo s k < (k : Int) - 2 + (j : Int)) = false := by rw [decide_eq_false_iff_not]; omega
    rw [e1, e2, ← e]
    rfl
theorem innL_le (s : ByteArray) (k j : Nat) : (innL s k j).length ≤ 1 := by
  unfold innL
  split <;> simp

/-- The answer of the model: a list of moves in memory of the call's own. -/
def SpPost (w : World) (l : List (Int × Int)) (e : Ending) (w' : World) : Prop :=
  ∃ v, e = .returned v ∧ w'.ownsRow w.heap.size 55 2 v l.length (flat l) ∧ Below w.heap.size w w'

set_option maxRecDepth 100000 in
set_option maxHeartbeats 4000000 in
theorem liMoves_all (s : ByteArray) (w : World) (hg : goodL s = true) :
    Calls Tryd.prog 23 #[.string s, .bool true, .bool true] w (SpPost w (mvsTo (kindM true true s) s s.size)) := by
  obtain ⟨i0, hi, hz0, hz1, hz2⟩ := info_parts Tryd.infoM
  have HI := Lib.hid hi
  have HZ0 := Lib.hid hz0
  have HZ1 := Lib.hid hz1
  have HZ2 := Lib.hid hz2
  clear hi hz0 hz1 hz2
  have h1 := good1000 hg
  have hsg := Lib.hid (good_sign hg)
  obtain ⟨_, _, _⟩ := (goodL_iff s).1 hg
  clear hg
  go_enter Tryd.func23, Tryd.ntmps23
  go_wp2
  go_loopw [7, 8, 9, 10] (fun v _ _ _ wr => ∃ k : Nat, k ≤ s.size ∧ wr.heap[w.heap.size]? = some (.stringIter s k) ∧ wr.ownsRow (w.heap.size + 1) 55 2 v (mvsTo (kindM true true s) s k).length (flat (mvsTo (kindM true true s) s k)) ∧ Below w.heap.size w wr) (fun _ _ _ _ wr => s.size - wr.iterPos w.heap.size)
  case atStart => exact ⟨0, Nat.zero_le _, World.iter_heap w s 0, World.ownsRow_nil _ _ _ _, (Below.refl _ _).alloc (Nat.le_refl _) _⟩
  case round =>
    obtain ⟨k, hk, hit, hown, hB⟩ := hrel
    have hpos0 := iterPos_of hit
    have hle := mvsTo_le (kindM true true s) s k
    by_cases hlt : k < s.size
    · have hS : Hid (mvsTo (kindM true true s) s (k + 1) = mvsTo (kindM true true s) s k ++ if kindM true true s k (mvTo s k) then [((k : Int), mvTo s k)] else []) := rfl
      generalize mvsTo (kindM true true s) s k = L at hown hS hle
      have hsk := Lib.hid (sgAt_in s k hlt)
      have hasc : s[k].toNat < 128 := by
        have := hsg.out k hlt
        rcases sign_cases s[k] with h | h | h | h
        · rw [h]; decide
        · rw [h]; decide
        · rw [h]; decide
        · rw [this] at h; cases h
      have hnx : ∀ ty, (Instr.next (.pointer (some ⟨w.heap.size, 0, none⟩)) true ty).run Tryd.prog wr = _ := fun ty => Lib.run_next_ascii_at wr w.heap.size s k ty hit hlt hasc
      have hit2 := Lib.iterAt_heap wr w.heap.size s k (k + 1) hit
      have hB2 := Lib.below_iterAt hB (k := w.heap.size) (Nat.le_refl _) s (k + 1)
      have hown2 := own_iterAt hown (k := w.heap.size) (by omega) s (k + 1)
      obtain ⟨W1, hW1⟩ : ∃ W1, W1 = wr.iterAt w.heap.size s (k + 1) := ⟨_, rfl⟩
      rw [← hW1] at hnx hit2 hB2 hown2
      clear hW1 hit hown hB
      rcases byte_split s[k] with ⟨hc, hv⟩ | ⟨hc, hv⟩ | ⟨hc, hv, hv2⟩
      · have hK : Hid ((if kindM true true s k (mvTo s k) then [((k : Int), mvTo s k)] else []) = (if canM s k (mvTo s k) then [((k : Int), mvTo s k)] else [])) := by show _ = _; simp [kindM, hsk.out, hc]
        clear hc
        obtain ⟨wo, hwo⟩ : ∃ wo : World, wo = W1 := ⟨_, rfl⟩
        subst hwo
        go_wp2
        go_loopw [7, 9, 10] (fun v t _ wr => ∃ j : Nat, j ≤ 5 ∧ t = .int .i64 ((k : Int) - 2 + j) ∧ wr.ownsRow (w.heap.size + 1) 55 2 v (L ++ innL s k j).length (flat (L ++ innL s k j)) ∧ Below w.heap.size w wr ∧ wr.heap[w.heap.size]? = some (.stringIter s (k + 1))) (fun _ t _ _ => ((k : Int) + 3 - intOf t).toNat)
        case atStart => exact ⟨0, by omega, by simp, by rw [innL_zero, List.append_nil]; exact hown2, hB2, hit2⟩
        case round =>
          obtain ⟨j, hj, rfl, hown, hB, hit⟩ := hrel
          clear hown2 hB2 hit2
          by_cases hj5 : j < 5
          · have hN := Lib.hid (innL_next s k j)
            have hl1 := innL_le s k j
            generalize innL s k j = M at hown hN hl1
            have hHit := Lib.hid hit
            clear hit
            go_wp2_with fail
            refine (liCan_any _ _ _ _ h1).mono ?_
            rintro e w2 ⟨rfl, hb2⟩
            have hown3 := own_below (hown.alloc (mvB k ((k : Int) - 2 + j))) hb2
            have hB3 := (hB.alloc hB.size (mvB k ((k : Int) - 2 + j))).trans (hb2.mono (by have := hB.size; simp; omega))
            obtain ⟨hcell, _⟩ := bcell hb2
            have hz := hb2.size
            have hz2 : wr.heap.size < w2.heap.size := by simp at hz; omega
            have hlt0 := lt_of_block hHit.out
            have hit3 : Hid (w2.heap[w.heap.size]? = some (.stringIter s (k + 1))) := by
              show _ = _
              rw [hb2.block w.heap.size (by simp; omega), Below.heap_alloc _ _ _ hlt0]; exact hHit.out
            have d0 : w2.cell? ⟨wr.heap.size, 0, none⟩ = some (.int .i64 k) := by rw [hcell _ _ (by simp), World.cell?_alloc_new]; rfl
            have d1 : w2.cell? ⟨wr.heap.size, 1, none⟩ = some (.int .i64 ((k : Int) - 2 + j)) := by rw [hcell _ _ (by simp), World.cell?_alloc_new]; rfl
            clear hown hB hb2 hcell hz
            cases hwd : canM s k ((k : Int) - 2 + j)
            · have HW := Lib.hid hwd
              clear hwd
              go_wp2
              go_roundw
              case rel => exact ⟨j + 1, by omega, congrArg (fun n => Value.int .i64 n) (by push_cast; omega), by rw [hN.out, HW.out]; simpa using hown3, hB3, hit3.out⟩
              case measure => simp [intOf]; omega
            · have HW := Lib.hid hwd
              clear hwd
              have H2 : ∀ x ∈ [Value.int .i64 (k : Int), Value.int .i64 ((k : Int) - 2 + j)], x.oneCell' = true := fun x hx => by simp at hx; rcases hx with rfl | rfl <;> rfl
              have H3 : (L ++ M).length + 1 ≤ maxLen := by rw [List.length_append]; unfold maxLen; omega
              have H4 : ((L ++ M).length + 1) * 16 ≤ 140737488355328 := by rw [List.length_append]; omega
              have H5 : w.heap.size + 1 ≤ (w2.alloc (mvB k ((k : Int) - 2 + j))).heap.size := by simp; omega
              go_wp2_with (first | (at_builtin; refine wpList_append_own _ rfl _ _ 36 rfl (w.heap.size + 1) 55 i0 (.agg #[.int .i64 0, .int .i64 0]) 2 16 Tryd.underlying36 HI.out HZ0.out HZ1.out HZ2.out rfl (by decide) _ _ _ rfl (hown3.alloc _) ⟨w2.heap.size, 0, none⟩ 1 1 [.int .i64 k, .int .i64 ((k : Int) - 2 + j)] rfl rfl (cell_two_new _ _ _ _) H2 H3 H4 H5 ?_; intro v' w3 hown' hgrow _))
              go_roundw
              case rel =>
                refine ⟨j + 1, by omega, congrArg (fun n => Value.int .i64 n) (by push_cast; omega), ?_, ((hB3.alloc hB3.size (mvB k ((k : Int) - 2 + j))).grown hgrow (by omega) fun i hi => by have := (hown3.lt _ hi).1; omega), ?_⟩
                · rw [hN.out, HW.out, if_pos rfl, ← List.append_assoc, flat_app, List.length_append]
                  exact hown'
                · rw [hgrow.block w.heap.size (by simp; omega) (fun h => by have := (hown3.lt _ h.symm).1; omega), Below.heap_alloc _ _ _ (by omega)]; exact hit3.out
              case measure => simp [intOf]; omega
          · obtain rfl : j = 5 := by omega
            go_wp2
            go_roundw
            case rel =>
              refine ⟨k + 1, by omega, hit, ?_, hB⟩
              rw [innL_last] at hown
              rw [hS.out, hK.out]
              exact hown
            case measure => rw [iterPos_of hit, hpos0]; omega
      · have hK : Hid ((if kindM true true s k (mvTo s k) then [((k : Int), mvTo s k)] else []) = (if canM s k (mvTo s k) then [((k : Int), mvTo s k)] else [])) := by show _ = _; simp [kindM, hsk.out, hc]
        clear hc
        obtain ⟨wo, hwo⟩ : ∃ wo : World, wo = W1 := ⟨_, rfl⟩
        subst hwo
        go_wp2
        go_loopw [7, 9, 10] (fun v t _ wr => ∃ j : Nat, j ≤ 5 ∧ t = .int .i64 ((k : Int) - 2 + j) ∧ wr.ownsRow (w.heap.size + 1) 55 2 v (L ++ innL s k j).length (flat (L ++ innL s k j)) ∧ Below w.heap.size w wr ∧ wr.heap[w.heap.size]? = some (.stringIter s (k + 1))) (fun _ t _ _ => ((k : Int) + 3 - intOf t).toNat)
        case atStart => exact ⟨0, by omega, by simp, by rw [innL_zero, List.append_nil]; exact hown2, hB2, hit2⟩
        case round =>
          obtain ⟨j, hj, rfl, hown, hB, hit⟩ := hrel
          clear hown2 hB2 hit2
          by_cases hj5 : j < 5
          · have hN := Lib.hid (innL_next s k j)
            have hl1 := innL_le s k j
            generalize innL s k j = M at hown hN hl1
            have hHit := Lib.hid hit
            clear hit
            go_wp2_with fail
            refine (liCan_any _ _ _ _ h1).mono ?_
            rintro e w2 ⟨rfl, hb2⟩
            have hown3 := own_below (hown.alloc (mvB k ((k : Int) - 2 + j))) hb2
            have hB3 := (hB.alloc hB.size (mvB k ((k : Int) - 2 + j))).trans (hb2.mono (by have := hB.size; simp; omega))
            obtain ⟨hcell, _⟩ := bcell hb2
            have hz := hb2.size
            have hz2 : wr.heap.size < w2.heap.size := by simp at hz; omega
            have hlt0 := lt_of_block hHit.out
            have hit3 : Hid (w2.heap[w.heap.size]? = some (.stringIter s (k + 1))) := by
              show _ = _
              rw [hb2.block w.heap.size (by simp; omega), Below.heap_alloc _ _ _ hlt0]; exact hHit.out
            have d0 : w2.cell? ⟨wr.heap.size, 0, none⟩ = some (.int .i64 k) := by rw [hcell _ _ (by simp), World.cell?_alloc_new]; rfl
            have d1 : w2.cell? ⟨wr.heap.size, 1, none⟩ = some (.int .i64 ((k : Int) - 2 + j)) := by rw [hcell _ _ (by simp), World.cell?_alloc_new]; rfl
            clear hown hB hb2 hcell hz
            cases hwd : canM s k ((k : Int) - 2 + j)
            · have HW := Lib.hid hwd
              clear hwd
              go_wp2
              go_roundw
              case rel => exact ⟨j + 1, by omega, congrArg (fun n => Value.int .i64 n) (by push_cast; omega), by rw [hN.out, HW.out]; simpa using hown3, hB3, hit3.out⟩
              case measure => simp [intOf]; omega
            · have HW := Lib.hid hwd
              clear hwd
              have H2 : ∀ x ∈ [Value.int .i64 (k : Int), Value.int .i64 ((k : Int) - 2 + j)], x.oneCell' = true := fun x hx => by simp at hx; rcases hx with rfl | rfl <;> rfl
              have H3 : (L ++ M).length + 1 ≤ maxLen := by rw [List.length_append]; unfold maxLen; omega
              have H4 : ((L ++ M).length + 1) * 16 ≤ 140737488355328 := by rw [List.length_append]; omega
              have H5 : w.heap.size + 1 ≤ (w2.alloc (mvB k ((k : Int) - 2 + j))).heap.size := by simp; omega
              go_wp2_with (first | (at_builtin; refine wpList_append_own _ rfl _ _ 36 rfl (w.heap.size + 1) 55 i0 (.agg #[.int .i64 0, .int .i64 0]) 2 16 Tryd.underlying36 HI.out HZ0.out HZ1.out HZ2.out rfl (by decide) _ _ _ rfl (hown3.alloc _) ⟨w2.heap.size, 0, none⟩ 1 1 [.int .i64 k, .int .i64 ((k : Int) - 2 + j)] rfl rfl (cell_two_new _ _ _ _) H2 H3 H4 H5 ?_; intro v' w3 hown' hgrow _))
              go_roundw
              case rel =>
                refine ⟨j + 1, by omega, congrArg (fun n => Value.int .i64 n) (by push_cast; omega), ?_, ((hB3.alloc hB3.size (mvB k ((k : Int) - 2 + j))).grown hgrow (by omega) fun i hi => by have := (hown3.lt _ hi).1; omega), ?_⟩
                · rw [hN.out, HW.out, if_pos rfl, ← List.append_assoc, flat_app, List.length_append]
                  exact hown'
                · rw [hgrow.block w.heap.size (by simp; omega) (fun h => by have := (hown3.lt _ h.symm).1; omega), Below.heap_alloc _ _ _ (by omega)]; exact hit3.out
              case measure => simp [intOf]; omega
          · obtain rfl : j = 5 := by omega
            go_wp2
            go_roundw
            case rel =>
              refine ⟨k + 1, by omega, hit, ?_, hB⟩
              rw [innL_last] at hown
              rw [hS.out, hK.out]
              exact hown
            case measure => rw [iterPos_of hit, hpos0]; omega
      · have hK : Hid ((if kindM true true s k (mvTo s k) then [((k : Int), mvTo s k)] else []) = (if canM s k (mvTo s k) then [((k : Int), mvTo s k)] else [])) := by show _ = _; simp [kindM, hsk.out, hc]
        clear hc
        obtain ⟨wo, hwo⟩ : ∃ wo : World, wo = W1 := ⟨_, rfl⟩
        subst hwo
        go_wp2
        go_loopw [7, 9, 10] (fun v t _ wr => ∃ j : Nat, j ≤ 5 ∧ t = .int .i64 ((k : Int) - 2 + j) ∧ wr.ownsRow (w.heap.size + 1) 55 2 v (L ++ innL s k j).length (flat (L ++ innL s k j)) ∧ Below w.heap.size w wr ∧ wr.heap[w.heap.size]? = some (.stringIter s (k + 1))) (fun _ t _ _ => ((k : Int) + 3 - intOf t).toNat)
        case atStart => exact ⟨0, by omega, by simp, by rw [innL_zero, List.append_nil]; exact hown2, hB2, hit2⟩
        case round =>
          obtain ⟨j, hj, rfl, hown, hB, hit⟩ := hrel
          clear hown2 hB2 hit2
          by_cases hj5 : j < 5
          · have hN := Lib.hid (innL_next s k j)
            have hl1 := innL_le s k j
            generalize innL s k j = M at hown hN hl1
            have hHit := Lib.hid hit
            clear hit
            go_wp2_with fail
            refine (liCan_any _ _ _ _ h1).mono ?_
            rintro e w2 ⟨rfl, hb2⟩
            have hown3 := own_below (hown.alloc (mvB k ((k : Int) - 2 + j))) hb2
            have hB3 := (hB.alloc hB.size (mvB k ((k : Int) - 2 + j))).trans (hb2.mono (by have := hB.size; simp; omega))
            obtain ⟨hcell, _⟩ := bcell hb2
            have hz := hb2.size
            have hz2 : wr.heap.size < w2.heap.size := by simp at hz; omega
            have hlt0 := lt_of_block hHit.out
            have hit3 : Hid (w2.heap[w.heap.size]? = some (.stringIter s (k + 1))) := by
              show _ = _
              rw [hb2.block w.heap.size (by simp; omega), Below.heap_alloc _ _ _ hlt0]; exact hHit.out
            have d0 : w2.cell? ⟨wr.heap.size, 0, none⟩ = some (.int .i64 k) := by rw [hcell _ _ (by simp), World.cell?_alloc_new]; rfl
            have d1 : w2.cell? ⟨wr.heap.size, 1, none⟩ = some (.int .i64 ((k : Int) - 2 + j)) := by rw [hcell _ _ (by simp), World.cell?_alloc_new]; rfl
            clear hown hB hb2 hcell hz
            cases hwd : canM s k ((k : Int) - 2 + j)
            · have HW := Lib.hid hwd
              clear hwd
              go_wp2
              go_roundw
              case rel => exact ⟨j + 1, by omega, congrArg (fun n => Value.int .i64 n) (by push_cast; omega), by rw [hN.out, HW.out]; simpa using hown3, hB3, hit3.out⟩
              case measure => simp [intOf]; omega
            · have HW := Lib.hid hwd
              clear hwd
              have H2 : ∀ x ∈ [Value.int .i64 (k : Int), Value.int .i64 ((k : Int) - 2 + j)], x.oneCell' = true := fun x hx => by simp at hx; rcases hx with rfl | rfl <;> rfl
              have H3 : (L ++ M).length + 1 ≤ maxLen := by rw [List.length_append]; unfold maxLen; omega
              have H4 : ((L ++ M).length + 1) * 16 ≤ 140737488355328 := by rw [List.length_append]; omega
              have H5 : w.heap.size + 1 ≤ (w2.alloc (mvB k ((k : Int) - 2 + j))).heap.size := by simp; omega
              go_wp2_with (first | (at_builtin; refine wpList_append_own _ rfl _ _ 36 rfl (w.heap.size + 1) 55 i0 (.agg #[.int .i64 0, .int .i64 0]) 2 16 Tryd.underlying36 HI.out HZ0.out HZ1.out HZ2.out rfl (by decide) _ _ _ rfl (hown3.alloc _) ⟨w2.heap.size, 0, none⟩ 1 1 [.int .i64 k, .int .i64 ((k : Int) - 2 + j)] rfl rfl (cell_two_new _ _ _ _) H2 H3 H4 H5 ?_; intro v' w3 hown' hgrow _))
              go_roundw
              case rel =>
                refine ⟨j + 1, by omega, congrArg (fun n => Value.int .i64 n) (by push_cast; omega), ?_, ((hB3.alloc hB3.size (mvB k ((k : Int) - 2 + j))).grown hgrow (by omega) fun i hi => by have := (hown3.lt _ hi).1; omega), ?_⟩
                · rw [hN.out, HW.out, if_pos rfl, ← List.append_assoc, flat_app, List.length_append]
                  exact hown'
                · rw [hgrow.block w.heap.size (by simp; omega) (fun h => by have := (hown3.lt _ h.symm).1; omega), Below.heap_alloc _ _ _ (by omega)]; exact hit3.out
              case measure => simp [intOf]; omega
          · obtain rfl : j = 5 := by omega
            go_wp2
            go_roundw
            case rel =>
              refine ⟨k + 1, by omega, hit, ?_, hB⟩
              rw [innL_last] at hown
              rw [hS.out, hK.out]
              exact hown
            case measure => rw [iterPos_of hit, hpos0]; omega
    · have hnx : ∀ ty, (Instr.next (.pointer (some ⟨w.heap.size, 0, none⟩)) true ty).run Tryd.prog wr = _ := fun ty => Lib.run_next_end_at wr w.heap.size s k ty hit hlt
      go_wp2
      go_ret
      obtain rfl : k = s.size := by omega
      exact ⟨_, rfl, own_base hown (by omega), hB⟩

set_option maxRecDepth 100000 in
set_option maxHeartbeats 4000000 in
theorem liMoves_toad (s : ByteArray) (w : World) (hg : goodL s = true) :
    Calls Tryd.prog 23 #[.string s, .bool true, .bool false] w (SpPost w (mvsTo (kindM true false s) s s.size)) := by
  obtain ⟨i0, hi, hz0, hz1, hz2⟩ := info_parts Tryd.infoM
  have HI := Lib.hid hi
  have HZ0 := Lib.hid hz0
  have HZ1 := Lib.hid hz1
  have HZ2 := Lib.hid hz2
  clear hi hz0 hz1 hz2
  have h1 := good1000 hg
  have hsg := Lib.hid (good_sign hg)
  obtain ⟨_, _, _⟩ := (goodL_iff s).1 hg
  clear hg
  go_enter Tryd.func23, Tryd.ntmps23
  go_wp2
  go_loopw [7, 8, 9, 10] (fun v _ _ _ wr => ∃ k : Nat, k ≤ s.size ∧ wr.heap[w.heap.size]? = some (.stringIter s k) ∧ wr.ownsRow (w.heap.size + 1) 55 2 v (mvsTo (kindM true false s) s k).length (flat (mvsTo (kindM true false s) s k)) ∧ Below w.heap.size w wr) (fun _ _ _ _ wr => s.size - wr.iterPos w.heap.size)
  case atStart => exact ⟨0, Nat.zero_le _, World.iter_heap w s 0, World.ownsRow_nil _ _ _ _, (Below.refl _ _).alloc (Nat.le_refl _) _⟩
  case round =>
    obtain ⟨k, hk, hit, hown, hB⟩ := hrel
    have hpos0 := iterPos_of hit
    have hle := mvsTo_le (kindM true false s) s k
    by_cases hlt : k < s.size
    · have hS : Hid (mvsTo (kindM true false s) s (k + 1) = mvsTo (kindM true false s) s k ++ if kindM true false s k (mvTo s k) then [((k : Int), mvTo s k)] else []) := rfl
      generalize mvsTo (kindM true false s) s k = L at hown hS hle
      have hsk := Lib.hid (sgAt_in s k hlt)
      have hasc : s[k].toNat < 128 := by
        have := hsg.out k hlt
        rcases sign_cases s[k] with h | h | h | h
        · rw [h]; decide
        · rw [h]; decide
        · rw [h]; decide
        · rw [this] at h; cases h
      have hnx : ∀ ty, (Instr.next (.pointer (some ⟨w.heap.size, 0, none⟩)) true ty).run Tryd.prog wr = _ := fun ty => Lib.run_next_ascii_at wr w.heap.size s k ty hit hlt hasc
      have hit2 := Lib.iterAt_heap wr w.heap.size s k (k + 1) hit
      have hB2 := Lib.below_iterAt hB (k := w.heap.size) (Nat.le_refl _) s (k + 1)
      have hown2 := own_iterAt hown (k := w.heap.size) (by omega) s (k + 1)
      obtain ⟨W1, hW1⟩ : ∃ W1, W1 = wr.iterAt w.heap.size s (k + 1) := ⟨_, rfl⟩
      rw [← hW1] at hnx hit2 hB2 hown2
      clear hW1 hit hown hB
      rcases byte_split s[k] with ⟨hc, hv⟩ | ⟨hc, hv⟩ | ⟨hc, hv, hv2⟩
      · have hK : Hid ((if kindM true false s k (mvTo s k) then [((k : Int), mvTo s k)] else []) = (if canM s k (mvTo s k) then [((k : Int), mvTo s k)] else [])) := by show _ = _; simp [kindM, hsk.out, hc]
        clear hc
        obtain ⟨wo, hwo⟩ : ∃ wo : World, wo = W1 := ⟨_, rfl⟩
        subst hwo
        go_wp2
        go_loopw [7, 9, 10] (fun v t _ wr => ∃ j : Nat, j ≤ 5 ∧ t = .int .i64 ((k : Int) - 2 + j) ∧ wr.ownsRow (w.heap.size + 1) 55 2 v (L ++ innL s k j).length (flat (L ++ innL s k j)) ∧ Below w.heap.size w wr ∧ wr.heap[w.heap.size]? = some (.stringIter s (k + 1))) (fun _ t _ _ => ((k : Int) + 3 - intOf t).toNat)
        case atStart => exact ⟨0, by omega, by simp, by rw [innL_zero, List.append_nil]; exact hown2, hB2, hit2⟩
        case round =>
          obtain ⟨j, hj, rfl, hown, hB, hit⟩ := hrel
          clear hown2 hB2 hit2
          by_cases hj5 : j < 5
          · have hN := Lib.hid (innL_next s k j)
            have hl1 := innL_le s k j
            generalize innL s k j = M at hown hN hl1
            have hHit := Lib.hid hit
            clear hit
            go_wp2_with fail
            refine (liCan_any _ _ _ _ h1).mono ?_
            rintro e w2 ⟨rfl, hb2⟩
            have hown3 := own_below (hown.alloc (mvB k ((k : Int) - 2 + j))) hb2
            have hB3 := (hB.alloc hB.size (mvB k ((k : Int) - 2 + j))).trans (hb2.mono (by have := hB.size; simp; omega))
            obtain ⟨hcell, _⟩ := bcell hb2
            have hz := hb2.size
            have hz2 : wr.heap.size < w2.heap.size := by simp at hz; omega
            have hlt0 := lt_of_block hHit.out
            have hit3 : Hid (w2.heap[w.heap.size]? = some (.stringIter s (k + 1))) := by
              show _ = _
              rw [hb2.block w.heap.size (by simp; omega), Below.heap_alloc _ _ _ hlt0]; exact hHit.out
            have d0 : w2.cell? ⟨wr.heap.size, 0, none⟩ = some (.int .i64 k) := by rw [hcell _ _ (by simp), World.cell?_alloc_new]; rfl
            have d1 : w2.cell? ⟨wr.heap.size, 1, none⟩ = some (.int .i64 ((k : Int) - 2 + j)) := by rw [hcell _ _ (by simp), World.cell?_alloc_new]; rfl
            clear hown hB hb2 hcell hz
            cases hwd : canM s k ((k : Int) - 2 + j)
            · have HW := Lib.hid hwd
              clear hwd
              go_wp2
              go_roundw
              case rel => exact ⟨j + 1, by omega, congrArg (fun n => Value.int .i64 n) (by push_cast; omega), by rw [hN.out, HW.out]; simpa using hown3, hB3, hit3.out⟩
              case measure => simp [intOf]; omega
            · have HW := Lib.hid hwd
              clear hwd
              have H2 : ∀ x ∈ [Value.int .i64 (k : Int), Value.int .i64 ((k : Int) - 2 + j)], x.oneCell' = true := fun x hx => by simp at hx; rcases hx with rfl | rfl <;> rfl
              have H3 : (L ++ M).length + 1 ≤ maxLen := by rw [List.length_append]; unfold maxLen; omega
              have H4 : ((L ++ M).length + 1) * 16 ≤ 140737488355328 := by rw [List.length_append]; omega
              have H5 : w.heap.size + 1 ≤ (w2.alloc (mvB k ((k : Int) - 2 + j))).heap.size := by simp; omega
              go_wp2_with (first | (at_builtin; refine wpList_append_own _ rfl _ _ 36 rfl (w.heap.size + 1) 55 i0 (.agg #[.int .i64 0, .int .i64 0]) 2 16 Tryd.underlying36 HI.out HZ0.out HZ1.out HZ2.out rfl (by decide) _ _ _ rfl (hown3.alloc _) ⟨w2.heap.size, 0, none⟩ 1 1 [.int .i64 k, .int .i64 ((k : Int) - 2 + j)] rfl rfl (cell_two_new _ _ _ _) H2 H3 H4 H5 ?_; intro v' w3 hown' hgrow _))
              go_roundw
              case rel =>
                refine ⟨j + 1, by omega, congrArg (fun n => Value.int .i64 n) (by push_cast; omega), ?_, ((hB3.alloc hB3.size (mvB k ((k : Int) - 2 + j))).grown hgrow (by omega) fun i hi => by have := (hown3.lt _ hi).1; omega), ?_⟩
                · rw [hN.out, HW.out, if_pos rfl, ← List.append_assoc, flat_app, List.length_append]
                  exact hown'
                · rw [hgrow.block w.heap.size (by simp; omega) (fun h => by have := (hown3.lt _ h.symm).1; omega), Below.heap_alloc _ _ _ (by omega)]; exact hit3.out
              case measure => simp [intOf]; omega
          · obtain rfl : j = 5 := by omega
            go_wp2
            go_roundw
            case rel =>
              refine ⟨k + 1, by omega, hit, ?_, hB⟩
              rw [innL_last] at hown
              rw [hS.out, hK.out]
              exact hown
            case measure => rw [iterPos_of hit, hpos0]; omega
      · have hK : Hid ((if kindM true false s k (mvTo s k) then [((k : Int), mvTo s k)] else []) = []) := by show _ = _; simp [kindM, hsk.out, hc]
        clear hc
        go_wp2
        go_roundw
        case rel =>
          refine ⟨k + 1, by omega, hit2, ?_, hB2⟩
          rw [hS.out, hK.out]
          simpa using hown2
        case measure => rw [iterPos_of hit2, hpos0]; omega
      · have hK : Hid ((if kindM true false s k (mvTo s k) then [((k : Int), mvTo s k)] else []) = (if canM s k (mvTo s k) then [((k : Int), mvTo s k)] else [])) := by show _ = _; simp [kindM, hsk.out, hc]
        clear hc
        obtain ⟨wo, hwo⟩ : ∃ wo : World, wo = W1 := ⟨_, rfl⟩
        subst hwo
        go_wp2
        go_loopw [7, 9, 10] (fun v t _ wr => ∃ j : Nat, j ≤ 5 ∧ t = .int .i64 ((k : Int) - 2 + j) ∧ wr.ownsRow (w.heap.size + 1) 55 2 v (L ++ innL s k j).length (flat (L ++ innL s k j)) ∧ Below w.heap.size w wr ∧ wr.heap[w.heap.size]? = some (.stringIter s (k + 1))) (fun _ t _ _ => ((k : Int) + 3 - intOf t).toNat)
        case atStart => exact ⟨0, by omega, by simp, by rw [innL_zero, List.append_nil]; exact hown2, hB2, hit2⟩
        case round =>
          obtain ⟨j, hj, rfl, hown, hB, hit⟩ := hrel
          clear hown2 hB2 hit2
          by_cases hj5 : j < 5
          · have hN := Lib.hid (innL_next s k j)
            have hl1 := innL_le s k j
            generalize innL s k j = M at hown hN hl1
            have hHit := Lib.hid hit
            clear hit
            go_wp2_with fail
            refine (liCan_any _ _ _ _ h1).mono ?_
            rintro e w2 ⟨rfl, hb2⟩
            have hown3 := own_below (hown.alloc (mvB k ((k : Int) - 2 + j))) hb2
            have hB3 := (hB.alloc hB.size (mvB k ((k : Int) - 2 + j))).trans (hb2.mono (by have := hB.size; simp; omega))
            obtain ⟨hcell, _⟩ := bcell hb2
            have hz := hb2.size
            have hz2 : wr.heap.size < w2.heap.size := by simp at hz; omega
            have hlt0 := lt_of_block hHit.out
            have hit3 : Hid (w2.heap[w.heap.size]? = some (.stringIter s (k + 1))) := by
              show _ = _
              rw [hb2.block w.heap.size (by simp; omega), Below.heap_alloc _ _ _ hlt0]; exact hHit.out
            have d0 : w2.cell? ⟨wr.heap.size, 0, none⟩ = some (.int .i64 k) := by rw [hcell _ _ (by simp), World.cell?_alloc_new]; rfl
            have d1 : w2.cell? ⟨wr.heap.size, 1, none⟩ = some (.int .i64 ((k : Int) - 2 + j)) := by rw [hcell _ _ (by simp), World.cell?_alloc_new]; rfl
            clear hown hB hb2 hcell hz
            cases hwd : canM s k ((k : Int) - 2 + j)
            · have HW := Lib.hid hwd
              clear hwd
              go_wp2
              go_roundw
              case rel => exact ⟨j + 1, by omega, congrArg (fun n => Value.int .i64 n) (by push_cast; omega), by rw [hN.out, HW.out]; simpa using hown3, hB3, hit3.out⟩
              case measure => simp [intOf]; omega
            · have HW := Lib.hid hwd
              clear hwd
              have H2 : ∀ x ∈ [Value.int .i64 (k : Int), Value.int .i64 ((k : Int) - 2 + j)], x.oneCell' = true := fun x hx => by simp at hx; rcases hx with rfl | rfl <;> rfl
              have H3 : (L ++ M).length + 1 ≤ maxLen := by rw [List.length_append]; unfold maxLen; omega
              have H4 : ((L ++ M).length + 1) * 16 ≤ 140737488355328 := by rw [List.length_append]; omega
              have H5 : w.heap.size + 1 ≤ (w2.alloc (mvB k ((k : Int) - 2 + j))).heap.size := by simp; omega
              go_wp2_with (first | (at_builtin; refine wpList_append_own _ rfl _ _ 36 rfl (w.heap.size + 1) 55 i0 (.agg #[.int .i64 0, .int .i64 0]) 2 16 Tryd.underlying36 HI.out HZ0.out HZ1.out HZ2.out rfl (by decide) _ _ _ rfl (hown3.alloc _) ⟨w2.heap.size, 0, none⟩ 1 1 [.int .i64 k, .int .i64 ((k : Int) - 2 + j)] rfl rfl (cell_two_new _ _ _ _) H2 H3 H4 H5 ?_; intro v' w3 hown' hgrow _))
              go_roundw
              case rel =>
                refine ⟨j + 1, by omega, congrArg (fun n => Value.int .i64 n) (by push_cast; omega), ?_, ((hB3.alloc hB3.size (mvB k ((k : Int) - 2 + j))).grown hgrow (by omega) fun i hi => by have := (hown3.lt _ hi).1; omega), ?_⟩
                · rw [hN.out, HW.out, if_pos rfl, ← List.append_assoc, flat_app, List.length_append]
                  exact hown'
                · rw [hgrow.block w.heap.size (by simp; omega) (fun h => by have := (hown3.lt _ h.symm).1; omega), Below.heap_alloc _ _ _ (by omega)]; exact hit3.out
              case measure => simp [intOf]; omega
          · obtain rfl : j = 5 := by omega
            go_wp2
            go_roundw
            case rel =>
              refine ⟨k + 1, by omega, hit, ?_, hB⟩
              rw [innL_last] at hown
              rw [hS.out, hK.out]
              exact hown
            case measure => rw [iterPos_of hit, hpos0]; omega
    · have hnx : ∀ ty, (Instr.next (.pointer (some ⟨w.heap.size, 0, none⟩)) true ty).run Tryd.prog wr = _ := fun ty => Lib.run_next_end_at wr w.heap.size s k ty hit hlt
      go_wp2
      go_ret
      obtain rfl : k = s.size := by omega
      exact ⟨_, rfl, own_base hown (by omega), hB⟩

set_option maxRecDepth 100000 in
set_option maxHeartbeats 4000000 in
theorem liMoves_frog (s : ByteArray) (w : World) (hg : goodL s = true) :
    Calls Tryd.prog 23 #[.string s, .bool false, .bool true] w (SpPost w (mvsTo (kindM false true s) s s.size)) := by
  obtain ⟨i0, hi, hz0, hz1, hz2⟩ := info_parts Tryd.infoM
  have HI := Lib.hid hi
  have HZ0 := Lib.hid hz0
  have HZ1 := Lib.hid hz1
  have HZ2 := Lib.hid hz2
  clear hi hz0 hz1 hz2
  have h1 := good1000 hg
  have hsg := Lib.hid (good_sign hg)
  obtain ⟨_, _, _⟩ := (goodL_iff s).1 hg
  clear hg
  go_enter Tryd.func23, Tryd.ntmps23
  go_wp2
  go_loopw [7, 8, 9, 10] (fun v _ _ _ wr => ∃ k : Nat, k ≤ s.size ∧ wr.heap[w.heap.size]? = some (.stringIter s k) ∧ wr.ownsRow (w.heap.size + 1) 55 2 v (mvsTo (kindM false true s) s k).length (flat (mvsTo (kindM false true s) s k)) ∧ Below w.heap.size w wr) (fun _ _ _ _ wr => s.size - wr.iterPos w.heap.size)
  case atStart => exact ⟨0, Nat.zero_le _, World.iter_heap w s 0, World.ownsRow_nil _ _ _ _, (Below.refl _ _).alloc (Nat.le_refl _) _⟩
  case round =>
    obtain ⟨k, hk, hit, hown, hB⟩ := hrel
    have hpos0 := iterPos_of hit
    have hle := mvsTo_le (kindM false true s) s k
    by_cases hlt : k < s.size
    · have hS : Hid (mvsTo (kindM false true s) s (k + 1) = mvsTo (kindM false true s) s k ++ if kindM false true s k (mvTo s k) then [((k : Int), mvTo s k)] else []) := rfl
      generalize mvsTo (kindM false true s) s k = L at hown hS hle
      have hsk := Lib.hid (sgAt_in s k hlt)
      have hasc : s[k].toNat < 128 := by
        have := hsg.out k hlt
        rcases sign_cases s[k] with h | h | h | h
        · rw [h]; decide
        · rw [h]; decide
        · rw [h]; decide
        · rw [this] at h; cases h
      have hnx : ∀ ty, (Instr.next (.pointer (some ⟨w.heap.size, 0, none⟩)) true ty).run Tryd.prog wr = _ := fun ty => Lib.run_next_ascii_at wr w.heap.size s k ty hit hlt hasc
      have hit2 := Lib.iterAt_heap wr w.heap.size s k (k + 1) hit
      have hB2 := Lib.below_iterAt hB (k := w.heap.size) (Nat.le_refl _) s (k + 1)
      have hown2 := own_iterAt hown (k := w.heap.size) (by omega) s (k + 1)
      obtain ⟨W1, hW1⟩ : ∃ W1, W1 = wr.iterAt w.heap.size s (k + 1) := ⟨_, rfl⟩
      rw [← hW1] at hnx hit2 hB2 hown2
      clear hW1 hit hown hB
      rcases byte_split s[k] with ⟨hc, hv⟩ | ⟨hc, hv⟩ | ⟨hc, hv, hv2⟩
      · have hK : Hid ((if kindM false true s k (mvTo s k) then [((k : Int), mvTo s k)] else []) = []) := by show _ = _; simp [kindM, hsk.out, hc]
        clear hc
        go_wp2
        go_roundw
        case rel =>
          refine ⟨k + 1, by omega, hit2, ?_, hB2⟩
          rw [hS.out, hK.out]
          simpa using hown2
        case measure => rw [iterPos_of hit2, hpos0]; omega
      · have hK : Hid ((if kindM false true s k (mvTo s k) then [((k : Int), mvTo s k)] else []) = (if canM s k (mvTo s k) then [((k : Int), mvTo s k)] else [])) := by show _ = _; simp [kindM, hsk.out, hc]
        clear hc
        obtain ⟨wo, hwo⟩ : ∃ wo : World, wo = W1 := ⟨_, rfl⟩
        subst hwo
        go_wp2
        go_loopw [7, 9, 10] (fun v t _ wr => ∃ j : Nat, j ≤ 5 ∧ t = .int .i64 ((k : Int) - 2 + j) ∧ wr.ownsRow (w.heap.size + 1) 55 2 v (L ++ innL s k j).length (flat (L ++ innL s k j)) ∧ Below w.heap.size w wr ∧ wr.heap[w.heap.size]? = some (.stringIter s (k + 1))) (fun _ t _ _ => ((k : Int) + 3 - intOf t).toNat)
        case atStart => exact ⟨0, by omega, by simp, by rw [innL_zero, List.append_nil]; exact hown2, hB2, hit2⟩
        case round =>
          obtain ⟨j, hj, rfl, hown, hB, hit⟩ := hrel
          clear hown2 hB2 hit2
          by_cases hj5 : j < 5
          · have hN := Lib.hid (innL_next s k j)
            have hl1 := innL_le s k j
            generalize innL s k j = M at hown hN hl1
            have hHit := Lib.hid hit
            clear hit
            go_wp2_with fail
            refine (liCan_any _ _ _ _ h1).mono ?_
            rintro e w2 ⟨rfl, hb2⟩
            have hown3 := own_below (hown.alloc (mvB k ((k : Int) - 2 + j))) hb2
            have hB3 := (hB.alloc hB.size (mvB k ((k : Int) - 2 + j))).trans (hb2.mono (by have := hB.size; simp; omega))
            obtain ⟨hcell, _⟩ := bcell hb2
            have hz := hb2.size
            have hz2 : wr.heap.size < w2.heap.size := by simp at hz; omega
            have hlt0 := lt_of_block hHit.out
            have hit3 : Hid (w2.heap[w.heap.size]? = some (.stringIter s (k + 1))) := by
              show _ = _
              rw [hb2.block w.heap.size (by simp; omega), Below.heap_alloc _ _ _ hlt0]; exact hHit.out
            have d0 : w2.cell? ⟨wr.heap.size, 0, none⟩ = some (.int .i64 k) := by rw [hcell _ _ (by simp), World.cell?_alloc_new]; rfl
            have d1 : w2.cell? ⟨wr.heap.size, 1, none⟩ = some (.int .i64 ((k : Int) - 2 + j)) := by rw [hcell _ _ (by simp), World.cell?_alloc_new]; rfl
            clear hown hB hb2 hcell hz
            cases hwd : canM s k ((k : Int) - 2 + j)
            · have HW := Lib.hid hwd
              clear hwd
              go_wp2
              go_roundw
              case rel => exact ⟨j + 1, by omega, congrArg (fun n => Value.int .i64 n) (by push_cast; omega), by rw [hN.out, HW.out]; simpa using hown3, hB3, hit3.out⟩
              case measure => simp [intOf]; omega
            · have HW := Lib.hid hwd
              clear hwd
              have H2 : ∀ x ∈ [Value.int .i64 (k : Int), Value.int .i64 ((k : Int) - 2 + j)], x.oneCell' = true := fun x hx => by simp at hx; rcases hx with rfl | rfl <;> rfl
              have H3 : (L ++ M).length + 1 ≤ maxLen := by rw [List.length_append]; unfold maxLen; omega
              have H4 : ((L ++ M).length + 1) * 16 ≤ 140737488355328 := by rw [List.length_append]; omega
              have H5 : w.heap.size + 1 ≤ (w2.alloc (mvB k ((k : Int) - 2 + j))).heap.size := by simp; omega
              go_wp2_with (first | (at_builtin; refine wpList_append_own _ rfl _ _ 36 rfl (w.heap.size + 1) 55 i0 (.agg #[.int .i64 0, .int .i64 0]) 2 16 Tryd.underlying36 HI.out HZ0.out HZ1.out HZ2.out rfl (by decide) _ _ _ rfl (hown3.alloc _) ⟨w2.heap.size, 0, none⟩ 1 1 [.int .i64 k, .int .i64 ((k : Int) - 2 + j)] rfl rfl (cell_two_new _ _ _ _) H2 H3 H4 H5 ?_; intro v' w3 hown' hgrow _))
              go_roundw
              case rel =>
                refine ⟨j + 1, by omega, congrArg (fun n => Value.int .i64 n) (by push_cast; omega), ?_, ((hB3.alloc hB3.size (mvB k ((k : Int) - 2 + j))).grown hgrow (by omega) fun i hi => by have := (hown3.lt _ hi).1; omega), ?_⟩
                · rw [hN.out, HW.out, if_pos rfl, ← List.append_assoc, flat_app, List.length_append]
                  exact hown'
                · rw [hgrow.block w.heap.size (by simp; omega) (fun h => by have := (hown3.lt _ h.symm).1; omega), Below.heap_alloc _ _ _ (by omega)]; exact hit3.out
              case measure => simp [intOf]; omega
          · obtain rfl : j = 5 := by omega
            go_wp2
            go_roundw
            case rel =>
              refine ⟨k + 1, by omega, hit, ?_, hB⟩
              rw [innL_last] at hown
              rw [hS.out, hK.out]
              exact hown
            case measure => rw [iterPos_of hit, hpos0]; omega
      · have hK : Hid ((if kindM false true s k (mvTo s k) then [((k : Int), mvTo s k)] else []) = (if canM s k (mvTo s k) then [((k : Int), mvTo s k)] else [])) := by show _ = _; simp [kindM, hsk.out, hc]
        clear hc
        obtain ⟨wo, hwo⟩ : ∃ wo : World, wo = W1 := ⟨_, rfl⟩
        subst hwo
        go_wp2
        go_loopw [7, 9, 10] (fun v t _ wr => ∃ j : Nat, j ≤ 5 ∧ t = .int .i64 ((k : Int) - 2 + j) ∧ wr.ownsRow (w.heap.size + 1) 55 2 v (L ++ innL s k j).length (flat (L ++ innL s k j)) ∧ Below w.heap.size w wr ∧ wr.heap[w.heap.size]? = some (.stringIter s (k + 1))) (fun _ t _ _ => ((k : Int) + 3 - intOf t).toNat)
        case atStart => exact ⟨0, by omega, by simp, by rw [innL_zero, List.append_nil]; exact hown2, hB2, hit2⟩
        case round =>
          obtain ⟨j, hj, rfl, hown, hB, hit⟩ := hrel
          clear hown2 hB2 hit2
          by_cases hj5 : j < 5
          · have hN := Lib.hid (innL_next s k j)
            have hl1 := innL_le s k j
            generalize innL s k j = M at hown hN hl1
            have hHit := Lib.hid hit
            clear hit
            go_wp2_with fail
            refine (liCan_any _ _ _ _ h1).mono ?_
            rintro e w2 ⟨rfl, hb2⟩
            have hown3 := own_below (hown.alloc (mvB k ((k : Int) - 2 + j))) hb2
            have hB3 := (hB.alloc hB.size (mvB k ((k : Int) - 2 + j))).trans (hb2.mono (by have := hB.size; simp; omega))
            obtain ⟨hcell, _⟩ := bcell hb2
            have hz := hb2.size
            have hz2 : wr.heap.size < w2.heap.size := by simp at hz; omega
            have hlt0 := lt_of_block hHit.out
            have hit3 : Hid (w2.heap[w.heap.size]? = some (.stringIter s (k + 1))) := by
              show _ = _
              rw [hb2.block w.heap.size (by simp; omega), Below.heap_alloc _ _ _ hlt0]; exact hHit.out
            have d0 : w2.cell? ⟨wr.heap.size, 0, none⟩ = some (.int .i64 k) := by rw [hcell _ _ (by simp), World.cell?_alloc_new]; rfl
            have d1 : w2.cell? ⟨wr.heap.size, 1, none⟩ = some (.int .i64 ((k : Int) - 2 + j)) := by rw [hcell _ _ (by simp), World.cell?_alloc_new]; rfl
            clear hown hB hb2 hcell hz
            cases hwd : canM s k ((k : Int) - 2 + j)
            · have HW := Lib.hid hwd
              clear hwd
              go_wp2
              go_roundw
              case rel => exact ⟨j + 1, by omega, congrArg (fun n => Value.int .i64 n) (by push_cast; omega), by rw [hN.out, HW.out]; simpa using hown3, hB3, hit3.out⟩
              case measure => simp [intOf]; omega
            · have HW := Lib.hid hwd
              clear hwd
              have H2 : ∀ x ∈ [Value.int .i64 (k : Int), Value.int .i64 ((k : Int) - 2 + j)], x.oneCell' = true := fun x hx => by simp at hx; rcases hx with rfl | rfl <;> rfl
              have H3 : (L ++ M).length + 1 ≤ maxLen := by rw [List.length_append]; unfold maxLen; omega
              have H4 : ((L ++ M).length + 1) * 16 ≤ 140737488355328 := by rw [List.length_append]; omega
              have H5 : w.heap.size + 1 ≤ (w2.alloc (mvB k ((k : Int) - 2 + j))).heap.size := by simp; omega
              go_wp2_with (first | (at_builtin; refine wpList_append_own _ rfl _ _ 36 rfl (w.heap.size + 1) 55 i0 (.agg #[.int .i64 0, .int .i64 0]) 2 16 Tryd.underlying36 HI.out HZ0.out HZ1.out HZ2.out rfl (by decide) _ _ _ rfl (hown3.alloc _) ⟨w2.heap.size, 0, none⟩ 1 1 [.int .i64 k, .int .i64 ((k : Int) - 2 + j)] rfl rfl (cell_two_new _ _ _ _) H2 H3 H4 H5 ?_; intro v' w3 hown' hgrow _))
              go_roundw
              case rel =>
                refine ⟨j + 1, by omega, congrArg (fun n => Value.int .i64 n) (by push_cast; omega), ?_, ((hB3.alloc hB3.size (mvB k ((k : Int) - 2 + j))).grown hgrow (by omega) fun i hi => by have := (hown3.lt _ hi).1; omega), ?_⟩
                · rw [hN.out, HW.out, if_pos rfl, ← List.append_assoc, flat_app, List.length_append]
                  exact hown'
                · rw [hgrow.block w.heap.size (by simp; omega) (fun h => by have := (hown3.lt _ h.symm).1; omega), Below.heap_alloc _ _ _ (by omega)]; exact hit3.out
              case measure => simp [intOf]; omega
          · obtain rfl : j = 5 := by omega
            go_wp2
            go_roundw
            case rel =>
              refine ⟨k + 1, by omega, hit, ?_, hB⟩
              rw [innL_last] at hown
              rw [hS.out, hK.out]
              exact hown
            case measure => rw [iterPos_of hit, hpos0]; omega
    · have hnx : ∀ ty, (Instr.next (.pointer (some ⟨w.heap.size, 0, none⟩)) true ty).run Tryd.prog wr = _ := fun ty => Lib.run_next_end_at wr w.heap.size s k ty hit hlt
      go_wp2
      go_ret
      obtain rfl : k = s.size := by omega
      exact ⟨_, rfl, own_base hown (by omega), hB⟩

end Go.Proofs.YtfiifjcjmnhbnaaDoor
