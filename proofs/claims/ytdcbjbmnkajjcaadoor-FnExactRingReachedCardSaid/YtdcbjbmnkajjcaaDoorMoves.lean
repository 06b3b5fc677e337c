/- Contracts: all moves on a line, the program's. -/
import Derived.Test.YtdcbjbmnkajjcaaDoorMove
import Derived.Lib.OthersKept
namespace Go.Proofs.YtdcbjbmnkajjcaaDoor
open Go.RowKit

theorem Tryd.infoM : (Tryd.prog.info? 58).map (fun i => (i.zero, i.size, i.bytes)) = some (some (.agg #[.int .i64 0, .int .i64 0]), 2, 16) := by kernel_rfl

/-- Pairs of numbers, cell by cell. -/
def flat (l : List (Int × Int)) : List Value := l.flatMap fun p => [.int .i64 p.1, .int .i64 p.2]
theorem flat_len (l : List (Int × Int)) : (flat l).length = l.length * 2 := by
  induction l with
  | nil => rfl
  | cons p l ih => simp only [flat, List.flatMap_cons, List.length_append, List.length_cons, List.length_nil] at ih ⊢; omega
theorem flat_app (a b : List (Int × Int)) : flat (a ++ b) = flat a ++ flat b := by simp [flat]

/-- The moves that are wanted, of the first k cells. -/
def mvsTo (wd : Int → Int → Bool) (s : ByteArray) : Nat → List (Int × Int)
  | 0 => []
  | k + 1 => mvsTo wd s k ++ if wd k (mvTo s k) then [((k : Int), mvTo s k)] else []
theorem mvsTo_le (wd : Int → Int → Bool) (s : ByteArray) (k : Nat) : (mvsTo wd s k).length ≤ k := by
  induction k with
  | zero => simp [mvsTo]
  | succ k ih => simp only [mvsTo, List.length_append]; split <;> simp <;> omega

theorem grown_of_below {w w' : World} (h : Below w.heap.size w w') : w.grownBy w' none := ⟨h.os, h.tape, h.output, h.size, fun k hk _ => h.block k hk⟩
theorem own_below {w w' : World} {base : Nat} {e : TypeId} {size n : Nat} {v : Value} {xs : List Value} (h : w.ownsRow base e size v n xs) (hb : Below w.heap.size w w') : w'.ownsRow base e size v n xs :=
  h.kept (grown_of_below hb) (by cases v.ownBlock <;> simp)
theorem cell_two_new (w : World) (a b : Value) (t : TypeId) : ∀ j u, [a, b][j]? = some u → (w.alloc (.cells #[a, b] t)).cell? ((⟨w.heap.size, 0, none⟩ : Addr).add j) = some u := by
  intro j u h
  rw [addr_add, World.cell?_alloc_new]
  simpa using h

/-- The answer: a list of moves in memory of the call's own. -/
def MvPost (w : World) (l : List (Int × Int)) (e : Ending) (w' : World) : Prop :=
  ∃ v, e = .returned (.tuple #[v, .bool true]) ∧ w'.ownsRow w.heap.size 58 2 v l.length (flat l) ∧ Below w.heap.size w w'

end Go.Proofs.YtdcbjbmnkajjcaaDoor
namespace Go.Proofs.YtdcbjbmnkajjcaaDoor
open Go.RowKit

/-- The cells of a slice's address hold a list of moves. -/
def MvAt (w : World) (A : Option Addr) (l : List (Int × Int)) : Prop :=
  ∀ k (h : k < l.length), ∃ g, A = some ⟨g, 0, none⟩ ∧ g < w.heap.size ∧ w.cell? ⟨g, k * 2, none⟩ = some (.int .i64 l[k].1) ∧ w.cell? ⟨g, k * 2 + 1, none⟩ = some (.int .i64 l[k].2)

theorem flat_at : ∀ (l : List (Int × Int)) (k : Nat) (h : k < l.length), (flat l)[k * 2]? = some (.int .i64 l[k].1) ∧ (flat l)[k * 2 + 1]? = some (.int .i64 l[k].2)
  | p :: l, 0, _ => by simp [flat]
  | p :: l, k + 1, h => by
    have ih := flat_at l k (by simpa using h)
    have e : flat (p :: l) = .int .i64 p.1 :: .int .i64 p.2 :: flat l := by simp [flat]
    rw [e]
    have e1 : (k + 1) * 2 = k * 2 + 1 + 1 := by omega
    rw [e1]
    simpa using ih

theorem at_of_own {w : World} {base : Nat} {v : Value} {l : List (Int × Int)} (h : w.ownsRow base 58 2 v l.length (flat l)) : ∃ A cap, v = .slice A l.length cap ∧ MvAt w A l := by
  rcases h.2 with ⟨hv, h0⟩ | ⟨g, cap, cur, rfl, hg, hh, hn, _⟩
  · have h2 : l.length = 0 := by have h3 := flat_len l; have h4 := h.1; omega
    exact ⟨none, 0, by rw [hv, h2], fun k hk => by omega⟩
  · refine ⟨_, cap, rfl, fun k hk => ⟨g, rfl, ?_, ?_⟩⟩
    · by_cases hlt : g < w.heap.size
      · exact hlt
      · rw [Array.getElem?_eq_none (by omega)] at hh; cases hh
    · have f := flat_at l k hk
      exact ⟨(h.cellAt (k * 2) (by omega)).trans f.1, (h.cellAt (k * 2 + 1) (by omega)).trans f.2⟩

theorem MvAt.below {w w' : World} {A : Option Addr} {l : List (Int × Int)} (h : MvAt w A l) (hb : Below w.heap.size w w') : MvAt w' A l := by
  intro k hk
  obtain ⟨g, a, b, c, d⟩ := h k hk
  exact ⟨g, a, Nat.lt_of_lt_of_le b hb.size, (hb.cell (p := ⟨g, k * 2, none⟩) b).trans c, (hb.cell (p := ⟨g, k * 2 + 1, none⟩) b).trans d⟩

set_option maxHeartbeats 400000 in
theorem eqMove_same (a b : Int) (w : World) :
    Calls Tryd.prog 36 #[.agg #[.int .i64 a, .int .i64 b], .agg #[.int .i64 a, .int .i64 b]] w fun e w' => e = .returned (.bool true) ∧ Below w.heap.size w w' := by
  go_enter Tryd.func36, Tryd.ntmps36
  go_wp2
  go_ret
  exact ⟨rfl, ((Below.refl _ _).alloc (Nat.le_refl _) _).alloc (by simp) _⟩

set_option maxRecDepth 100000 in
set_option maxHeartbeats 2000000 in
theorem eqMoveS_same (l : List (Int × Int)) (A1 A2 : Option Addr) (c1 c2 : Nat) (w : World) (h1 : MvAt w A1 l) (h2 : MvAt w A2 l) (hl : l.length ≤ 2000000) :
    Calls Tryd.prog 19 #[.slice A1 l.length c1, .slice A2 l.length c2] w fun e w' => e = .returned (.bool true) ∧ Below w.heap.size w w' := by
  have H1 := Lib.hid h1
  have H2 := Lib.hid h2
  clear h1 h2
  go_enter Tryd.func19, Tryd.ntmps19
  go_wp2
  go_loopw [5] (fun i wr => ∃ k : Nat, k ≤ l.length ∧ i = .int .i64 k ∧ Below w.heap.size w wr) (fun i _ => l.length - (intOf i).toNat)
  case atStart => exact ⟨0, Nat.zero_le _, rfl, Below.refl _ _⟩
  case round =>
    obtain ⟨k, hk, rfl, hB⟩ := hrel
    by_cases hlt : k < l.length
    · obtain ⟨g, rfl, z1, p1, q1⟩ := (H1.out.below hB) k hlt
      obtain ⟨g', rfl, z2, p2, q2⟩ := (H2.out.below hB) k hlt
      generalize l[k].1 = a at p1 p2
      generalize l[k].2 = b at q1 q2
      have i1 : (0 : Int) ≤ (k : Int) := by omega
      have i2 : (k : Int) < (l.length : Int) := by omega
      go_wp2
      go_region_held3 (fun w' => w'.cell? ⟨g, k * 2, none⟩ = some (.int .i64 a) ∧ w'.cell? ⟨g, k * 2 + 1, none⟩ = some (.int .i64 b) ∧ w'.cell? ⟨g', k * 2, none⟩ = some (.int .i64 a) ∧ w'.cell? ⟨g', k * 2 + 1, none⟩ = some (.int .i64 b)) (first | exact ⟨p1, q1, p2, q2⟩ | exact ⟨(hb.cell z1).trans p1, (hb.cell z1).trans q1, (hb.cell z2).trans p2, (hb.cell z2).trans q2⟩) (first | (go_at_call 36; refine (eqMove_same _ _ _).mono ?_; rintro e w' ⟨rfl, hb⟩))
      go_wp2
      go_roundw
      case rel => exact ⟨k + 1, by omega, by go_num, (Below.drew hB).trans (hb.mono hB.size)⟩
      case measure => simp [intOf]; omega
    · go_wp2
      go_ret
      exact ⟨rfl, hB⟩

/-- The marks k, k + 1, ..: two for each of n moves. -/
def marks (k : Nat) (n : Nat) : List (Int × Int) := (List.range n).map fun (j : Nat) => (((k + 2 * j : Nat) : Int), ((k + 2 * j + 1 : Nat) : Int))
theorem marks_len (k n : Nat) : (marks k n).length = n := by simp [marks]
theorem marks_next (k n : Nat) : marks k (n + 1) = marks k n ++ [(((k + 2 * n : Nat) : Int), ((k + 2 * n + 1 : Nat) : Int))] := by
  simp [marks, List.range_succ]
theorem marks_at (k n j : Nat) (h : j < (marks k n).length) : (marks k n)[j] = (((k + 2 * j : Nat) : Int), ((k + 2 * j + 1 : Nat) : Int)) := by simp [marks]

theorem flat_set (l : List (Int × Int)) (j : Nat) (h : j < l.length) (a b : Int) :
    ((flat l).set (j * 2) (.int .i64 a)).set (j * 2 + 1) (.int .i64 b) = flat (l.set j (a, b)) := by
  induction l generalizing j with
  | nil => simp at h
  | cons q l ih =>
    have e : ∀ q : Int × Int, ∀ r, flat (q :: r) = .int .i64 q.1 :: .int .i64 q.2 :: flat r := by intro q r; simp [flat]
    rw [e]
    cases j with
    | zero => simp [e]
    | succ j =>
      have e1 : (j + 1) * 2 = j * 2 + 1 + 1 := by omega
      have ih := ih j (by simpa using h)
      rw [e1]
      simp only [List.set_cons_succ, e, ih]
theorem set_mid (A B : List (Int × Int)) (q p : Int × Int) (j : Nat) (h : A.length = j) : (A ++ q :: B).set j p = (A ++ [p]) ++ B := by
  subst h
  simp

/-- All blocks but one lie as they lay. -/
def FarB (row : Option Nat) (w w' : World) : Prop := w.heap.size ≤ w'.heap.size ∧ ∀ k, some k ≠ row → k < w.heap.size → w'.heap[k]? = w.heap[k]?
theorem FarB.refl (row : Option Nat) (w : World) : FarB row w w := ⟨Nat.le_refl _, fun _ _ _ => rfl⟩
theorem FarB.set {g : Nat} {w w' : World} (h : FarB (some g) w w') (o : Nat) (u : Value) : FarB (some g) w (w'.setCell ⟨g, o, none⟩ u) :=
  ⟨by have := h.1; simpa using this, fun k hk hlt => (Below.heap_setCell _ _ _ k (fun e => hk (by rw [e]))).trans (h.2 k hk hlt)⟩
theorem own_farB {w w' : World} {row : Option Nat} {base : Nat} {e : TypeId} {size n : Nat} {v : Value} {xs : List Value} (h : w.ownsRow base e size v n xs) (hf : FarB row w w') (hne : ∀ g, v.ownBlock = some g → some g ≠ row) : w'.ownsRow base e size v n xs := by
  refine ⟨h.1, ?_⟩
  rcases h.2 with h2 | ⟨g, cap, cur, rfl, hb, hg, r⟩
  · exact .inl h2
  · exact .inr ⟨g, cap, cur, rfl, hb, (hf.2 g (hne g rfl) (Array.getElem?_eq_some_iff.1 hg).1).trans hg, r⟩

set_option maxRecDepth 100000 in
set_option maxHeartbeats 2000000 in
theorem markMoveS_far (n k0 base : Nat) (l : List (Int × Int)) (v : Value) (w : World) (hln : l.length = n) (hown : w.ownsRow base 58 2 v n (flat l)) (hn : n ≤ 2000000) (hk0 : k0 ≤ 1000) :
    Calls Tryd.prog 20 #[v, .int .i64 k0] w fun e w' => e = .returned (.int .i64 ((k0 : Int) + 2 * n)) ∧ (w'.ownsRow base 58 2 v n (flat (marks k0 n)) ∧ Below base w w' ∧ FarB v.ownBlock w w') := by
  rcases hown.2 with ⟨rfl, h0⟩ | ⟨g, cap, cur, rfl, hg, _, hcap, _⟩
  · have hz : n = 0 := by have h3 := flat_len l; have h4 := hown.1; omega
    subst hz
    have HO : Hid (w.ownsRow base 58 2 (.slice none 0 0) 0 (flat (marks k0 0))) := by
      have e : flat l = flat (marks k0 0) := by rw [List.eq_nil_of_length_eq_zero hln]; rfl
      rw [← e]; exact hown
    clear hown h0
    go_enter Tryd.func20, Tryd.ntmps20
    go_wp2
    go_loop [1, 5] (fun x i => i = .int .i64 0 ∧ x = .int .i64 k0) (fun _ _ => 0)
    case atStart => exact ⟨rfl, rfl⟩
    case round =>
      obtain ⟨rfl, rfl⟩ := hrel
      go_wp2
      go_ret
      exact ⟨by simp, HO.out, Below.refl _ _, FarB.refl _ _⟩
  · have HO := Lib.hid hown
    clear hown
    go_enter Tryd.func20, Tryd.ntmps20
    go_wp2
    go_loopw [1, 5] (fun x i wr => ∃ j : Nat, j ≤ n ∧ i = .int .i64 j ∧ x = .int .i64 ((k0 : Int) + 2 * j) ∧ wr.ownsRow base 58 2 (.slice (some ⟨g, 0, none⟩) n cap) n (flat (marks k0 j ++ l.drop j)) ∧ Below base w wr ∧ Hid (FarB (some g) w wr)) (fun _ i _ => n - (intOf i).toNat)
    case atStart => exact ⟨0, Nat.zero_le _, rfl, by simp, by simpa [marks] using HO.out, Below.refl _ _, Lib.hid (FarB.refl _ _)⟩
    case round =>
      obtain ⟨j, hj, rfl, rfl, hown, hB, hG⟩ := hrel
      by_cases hlt : j < n
      · obtain ⟨q, r, hd⟩ : ∃ q r, l.drop j = q :: r := by
          cases h : l.drop j with
          | nil => have := congrArg List.length h; simp at this; omega
          | cons q r => exact ⟨q, r, rfl⟩
        have hlen : (marks k0 j ++ l.drop j).length = n := by simp [marks_len]; omega
        have f0 := hown.frozenAt (j * 2)
        have f1 := hown.frozenAt (j * 2 + 1)
        have e0 := (hown.cellAt (j * 2) (by omega)).trans (flat_at (marks k0 j ++ l.drop j) j (by omega)).1
        have e1 := (hown.cellAt (j * 2 + 1) (by omega)).trans (flat_at (marks k0 j ++ l.drop j) j (by omega)).2
        generalize (marks k0 j ++ l.drop j)[j].1 = a0 at e0
        generalize (marks k0 j ++ l.drop j)[j].2 = a1 at e1
        have hs1 := (hown.stored (j * 2) (.int .i64 ((k0 : Int) + 2 * j))).1
        have hs2 := (hs1.stored (j * 2 + 1) (.int .i64 ((k0 : Int) + 2 * j + 1))).1
        rw [flat_set _ j (by omega), hd, set_mid _ _ _ _ j (marks_len k0 j)] at hs2
        have hr : l.drop (j + 1) = r := by
          have := congrArg List.tail hd
          simpa using this
        have hm : marks k0 (j + 1) ++ l.drop (j + 1) = marks k0 j ++ [((k0 : Int) + 2 * j, (k0 : Int) + 2 * j + 1)] ++ r := by
          rw [marks_next, hr]; push_cast; rfl
        rw [← hm] at hs2
        have HS := Lib.hid hs2
        have i1 : (0 : Int) ≤ (j : Int) := by omega
        have i2 : (j : Int) < (n : Int) := by omega
        clear hown hs1 hs2 hm hr hd hlen
        go_wp2
        go_roundw
        case rel =>
          refine ⟨j + 1, by omega, by go_num, congrArg (fun n => Value.int .i64 n) (by push_cast; omega), HS.out, (hB.setCell hg _).setCell hg _, Lib.hid ((hG.out.set _ _).set _ _)⟩
        case measure => simp [intOf]; omega
      · obtain rfl : j = n := by omega
        have hz : marks k0 j ++ l.drop j = marks k0 j := by rw [List.drop_of_length_le (by omega), List.append_nil]
        rw [hz] at hown
        have HS := Lib.hid hown
        clear hown hz
        go_wp2
        go_ret
        exact ⟨rfl, HS.out, hB, hG.out⟩

theorem markMoveS_any (n k0 base : Nat) (l : List (Int × Int)) (v : Value) (w : World) (hln : l.length = n) (hown : w.ownsRow base 58 2 v n (flat l)) (hn : n ≤ 1000) (hk0 : k0 ≤ 1000) :
    Calls Tryd.prog 20 #[v, .int .i64 k0] w fun e w' => e = .returned (.int .i64 ((k0 : Int) + 2 * n)) ∧ (w'.ownsRow base 58 2 v n (flat (marks k0 n)) ∧ Below base w w') :=
  (markMoveS_far n k0 base l v w hln hown (by omega) hk0).mono fun _ _ ⟨a, b, c, _⟩ => ⟨a, b, c⟩

set_option maxRecDepth 100000 in
set_option maxHeartbeats 2000000 in
theorem heldMoveS_any (n k0 base : Nat) (v : Value) (w : World) (hown : w.ownsRow base 58 2 v n (flat (marks k0 n))) (hn : n ≤ 1000) (hk0 : k0 ≤ 1000) :
    Calls Tryd.prog 21 #[v, .int .i64 k0] w fun e w' => e = .returned (.int .i64 ((k0 : Int) + 2 * n)) ∧ w = w' := by
  obtain ⟨A, cap, rfl, hat⟩ : ∃ A cap, v = .slice A n cap ∧ MvAt w A (marks k0 n) := by
    have h := at_of_own (l := marks k0 n) (by rw [marks_len]; exact hown)
    rwa [marks_len] at h
  have HA := Lib.hid hat
  clear hat hown
  go_enter Tryd.func21, Tryd.ntmps21
  go_wp2
  go_loop [1, 5] (fun x i => ∃ (j : Nat) (K : Int), j ≤ n ∧ i = .int .i64 j ∧ x = .int .i64 K ∧ Hid (K = (k0 : Int) + 2 * j) ∧ 0 ≤ K ∧ K ≤ 100000) (fun _ i => n - (intOf i).toNat)
  case atStart => exact ⟨0, _, Nat.zero_le _, rfl, rfl, by show _ = _; simp, by omega, by omega⟩
  case round =>
    obtain ⟨j, K, hj, rfl, rfl, hK, _, _⟩ := hrel
    by_cases hlt : j < n
    · obtain ⟨g, rfl, z, c0, c1⟩ := HA.out j (by rw [marks_len]; exact hlt)
      rw [marks_at] at c0 c1
      have e0 : (((k0 + 2 * j : Nat) : Int)) = K := by rw [hK.out]; push_cast; rfl
      have e1 : (((k0 + 2 * j + 1 : Nat) : Int)) = K + 1 := by rw [hK.out]; push_cast; rfl
      simp only [e0, e1] at c0 c1
      clear e0 e1
      have i1 : (0 : Int) ≤ (j : Int) := by omega
      have i2 : (j : Int) < (n : Int) := by omega
      go_wp2
      go_round
      case rel => exact ⟨j + 1, K + 1 + 1, by omega, by go_num, rfl, by show _ = _; rw [hK.out]; push_cast; omega, by omega, by have := hK.out; omega⟩
      case measure => simp [intOf]; omega
    · obtain rfl : j = n := by omega
      go_wp2
      go_ret
      exact ⟨by show Ending.returned (.int .i64 K) = _; rw [hK.out], rfl⟩
end Go.Proofs.YtdcbjbmnkajjcaaDoor
namespace Go.Proofs.YtdcbjbmnkajjcaaDoor
open Go.RowKit

theorem own_base {w : World} {b b' : Nat} {e : TypeId} {size n : Nat} {v : Value} {xs : List Value} (h : w.ownsRow b e size v n xs) (hb : b' ≤ b) : w.ownsRow b' e size v n xs := by
  refine ⟨h.1, ?_⟩
  rcases h.2 with h0 | ⟨g, cap, cur, hv, hg, rest⟩
  · exact .inl h0
  · exact .inr ⟨g, cap, cur, hv, by omega, rest⟩
theorem own_iterAt {w : World} {base : Nat} {e : TypeId} {size n : Nat} {v : Value} {xs : List Value} (h : w.ownsRow base e size v n xs) {k : Nat} (hk : k < base) (s : ByteArray) (pos : Nat) : (w.iterAt k s pos).ownsRow base e size v n xs := by
  refine ⟨h.1, ?_⟩
  rcases h.2 with h0 | ⟨g, cap, cur, hv, hg, hh, rest⟩
  · exact .inl h0
  · exact .inr ⟨g, cap, cur, hv, hg, by rw [Lib.iterAt_other w k g s pos (by omega)]; exact hh, rest⟩
theorem iterPos_of {w : World} {k : Nat} {s : ByteArray} {p : Nat} (h : w.heap[k]? = some (.stringIter s p)) : w.iterPos k = p := by simp [World.iterPos, h]
theorem lt_of_block {w : World} {k : Nat} {o : Obj} (h : w.heap[k]? = some o) : k < w.heap.size := by
  by_cases hk : k < w.heap.size
  · exact hk
  · rw [Array.getElem?_eq_none (by omega)] at h; cases h

/-- The moves of a kind. -/
def kindM (tt ff : Bool) (s : ByteArray) (f t : Int) : Bool := canM s f t && !(decide (sgAt s f = 84) && !tt) && !(decide (sgAt s f = 70) && !ff)
/-- The moves from a cell to the j cells from two cells left of it on. -/
def innL (s : ByteArray) (k j : Nat) : List (Int × Int) := if canM s k (mvTo s k) && decide (mvTo s k < (k : Int) - 2 + j) then [((k : Int), mvTo s k)] else []
theorem canM_to {s : ByteArray} {f t : Int} (h : canM s f t = true) : t = mvTo s f := by
  unfold canM at h
  simp only [Bool.and_eq_true, decide_eq_true_eq] at h
  exact h.2
theorem innL_zero (s : ByteArray) (k : Nat) : innL s k 0 = [] := by
  unfold innL
  cases h : canM s k (mvTo s k)
  · rfl
  · have := canM_far h
    rw [if_neg]
    simp
    omega
theorem innL_last (s : ByteArray) (k : Nat) : innL s k 5 = if canM s k (mvTo s k) then [((k : Int), mvTo s k)] else [] := by
  unfold innL
  cases h : canM s k (mvTo s k)
  · rfl
  · have := canM_far h
    rw [if_pos rfl, if_pos]
    simp
    omega
theorem innL_next (s : ByteArray) (k j : Nat) : innL s k (j + 1) = innL s k j ++ if canM s k ((k : Int) - 2 + j) then [((k : Int), (k : Int) - 2 + j)] else [] := by
  unfold innL
  cases h : canM s k ((k : Int) - 2 + j)
  · cases h2 : canM s k (mvTo s k)
    · rfl
    · have hne : mvTo s k ≠ (k : Int) - 2 + j := fun e => by rw [← e, h2] at h; cases h
      have e : decide (mvTo s k < (k : Int) - 2 + ((j + 1 : Nat) : Int)) = decide (mvTo s k < (k : Int) - 2 + j) := by
        rw [decide_eq_decide]; omega
      rw [e]
      simp
  · have e := canM_to h
    have h2 : canM s k (mvTo s k) = true := by rw [← e]; exact h
    rw [h2]
    have e1 : decide (mvTo s k < (k : Int) - 2 + ((j + 1 : Nat) : Int)) = true := by rw [decide_eq_true_iff]; omega
    have e2 : decide (mvTo s k < (k : Int) - 2 + (j : Int)) = false := by rw [decide_eq_false_iff_not]; omega
    rw [e1, e2, ← e]
    rfl
theorem innL_le (s : ByteArray) (k j : Nat) : (innL s k j).length ≤ 1 := by
  unfold innL
  split <;> simp

/-- The answer of the model: a list of moves in memory of the call's own. -/
def SpPost (w : World) (l : List (Int × Int)) (e : Ending) (w' : World) : Prop :=
  ∃ v, e = .returned v ∧ w'.ownsRow w.heap.size 58 2 v l.length (flat l) ∧ Below w.heap.size w w'

end Go.Proofs.YtdcbjbmnkajjcaaDoor
